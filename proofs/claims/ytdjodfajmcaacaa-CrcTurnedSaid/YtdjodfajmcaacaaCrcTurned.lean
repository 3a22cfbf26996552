/- For any bytes, cut to the first five thousand, any place and any bits: sealed bytes in which these bits are turned, all of them within thirty-two next to one another, are opened just if none was turned. No condition. -/
import Derived.Test.YtdjodfajmcaacaaCrcLaw
import Derived.Test.YtdjodfajmcaacaaLawKit
import Derived.Test.YtdjodfajmcaacaaBytes
import Derived.Test.YtdjodfajmcaacaaCrcTurn
import Derived.RegionTactic
import Derived.ChangeAlike
namespace Go.Proofs.Ytdjodfajmcaacaa
open Go.ChangeShapes Go.WideShapes Go.ChangeAt Go.RowKit Go.Lib CM MM MB CS CE CL CT LK
namespace CrcTurned
/-- The law answers true, and leaves what was there. -/
def Done (w : World) (e : Ending) (w' : World) : Prop := e = .returned (.bool true) ∧ Below w.heap.size w w'

/-- The loop's relation: so many bits have been looked at. -/
def Rel (w : World) (g : Nat) (l : List UInt8) (a n : Nat) (x i : Value) (wr : World) : Prop :=
  ∃ (k : Nat) (t : List UInt8), k ≤ 32 ∧ a + k ≤ 8 * l.length ∧ i = .int .i64 k ∧ x = .bool (trn n k) ∧ Byt wr g t ∧ Flipped l t a n k ∧ Below w.heap.size w wr

theorem bit_test (n k : Nat) (hn : n < 4294967296) : bits .and .u32 ((n : Int) / 2 ^ k) 1 = ((n.testBit k).toNat : Int) := by
  have hle : n / 2 ^ k ≤ n := Nat.div_le_self _ _
  have := u32_and_nat (n / 2 ^ k) 1 (by omega) (by omega)
  rw [nat_mask1, ← testBit_toNat] at this
  refine Eq.trans ?_ this
  simp
theorem byte_turn (c : UInt8) (r : Nat) (hr : r < 8) : bits .xor .u8 (c.toNat : Int) (2 ^ r % 256) = ((UInt8.ofNat (c.toNat ^^^ 2 ^ r)).toNat : Int) := by
  have h2 : 2 ^ r < 2 ^ 8 := Nat.pow_lt_pow_right (by omega) hr
  have hx := byte_xor c r hr
  have := u8_xor_nat c.toNat (2 ^ r) c.toNat_lt h2
  have e : ((2 : Int) ^ r % 256) = ((2 ^ r : Nat) : Int) := by
    have e1 : (2 : Int) ^ r = ((2 ^ r : Nat) : Int) := by simp
    rw [e1]
    generalize (2 : Nat) ^ r = x at *
    omega
  rw [e, this, UInt8.toNat_ofNat', Nat.mod_eq_of_lt (by simpa using hx)]

set_option maxRecDepth 100000 in
set_option maxHeartbeats 1000000 in
theorem walk (l : List UInt8) (hl : l.length ≤ 9223372036854775807) (at' n : Nat) (ha : at' ≤ 65535) (hn : n < 4294967296) (w : World) :
    Calls Try.prog 6 #[.string ⟨l.toArray⟩, .int .u16 at', .int .u32 n] w (Done w) := by
  rcases Nat.lt_or_ge 5000 l.length with hcase | hcase
  · have ht : (l.take 5000).length ≤ 5000 := by rw [List.length_take]; omega
    go_enter Try.func6, Try.ntmps6
    go_wp2_with fail
    refine (works_walk _).mono ?_
    rintro e w1 ⟨rfl, b1⟩
    go_wp2_with fail
    rw [take_str]
    generalize l.take 5000 = t at *
    refine (seal_walk t (by omega) _).mono ?_
    rintro e w2 ⟨rfl, b2⟩
    have B2 := b1.trans (b2.mono b1.size)
    clear b1 b2
    have hs := seal_is t
    have hlen : (sealB t).length ≤ 5004 := by rw [seal_length]; omega
    have hlen4 : 4 ≤ (sealB t).length := by rw [seal_length]; omega
    generalize sealB t = u at *
    have HS := Lib.hid hs
    clear hs
    obtain ⟨cap, w3, hrun, hbyt, b3, hcap, hcm⟩ := run_bytes w2 u (by unfold maxLen; omega)
    go_wp2_with fail
    have hm : (at' : Int) % (8 * (u.length : Int)) = ((at' % (8 * u.length) : Nat) : Int) := by simp
    have hma : at' % (8 * u.length) < 8 * u.length := Nat.mod_lt _ (by omega)
    have B3 := B2.trans (b3.mono B2.size)
    have hg := B2.size
    clear hrun b3 B2
    rw [hm]
    clear hm
    generalize at' % (8 * u.length) = a at *
    have hbyt' := hbyt
    go_loopw [9, 10] (fun x i wr => Rel w w2.heap.size u a n x i wr) (fun _ i _ => 32 - (intOf i).toNat)
    case atStart => exact ⟨0, u, by omega, by omega, rfl, rfl, hbyt, Flipped.start _ _ _, B3⟩
    case round =>
      obtain ⟨k, v, hk, hak, rfl, rfl, hb, hf, hB⟩ := hrel
      by_cases hgo : k < 32 ∧ a + k < 8 * u.length
      · obtain ⟨hk32, hin⟩ := hgo
        have hbt := bit_test n k hn
        have hlv := hf.len
        cases htb : n.testBit k with
        | false =>
          rw [htb] at hbt
          have hnx : trn n (k + 1) = trn n k := by rw [trn, htb, Bool.or_false]
          have hfs := hf.same htb
          have HF := Lib.hid hfs
          have HX := Lib.hid hnx
          have HL := Lib.hid hlv
          clear hfs hnx htb hf hlv
          go_wp2
          go_roundw
          case rel => exact ⟨k + 1, v, by omega, by omega, by go_num, by rw [HX.out], hb, HF.out, hB⟩
          case measure => simp [intOf]; omega
        | true =>
          rw [htb] at hbt
          obtain ⟨q, hq⟩ : ∃ q : Nat, q = (a + k) / 8 := ⟨_, rfl⟩
          obtain ⟨r, hr⟩ : ∃ r : Nat, r = (a + k) % 8 := ⟨_, rfl⟩
          have hr8 : r < 8 := by omega
          have hqv : q < v.length := by omega
          have hqu : q < u.length := by omega
          have hc := hb.cell q hqv
          have hfz := hb.free q hqv
          have hfs := hf.more htb hqv hr8 (by omega)
          have hput := hb.put q hqv (UInt8.ofNat (v[q].toNat ^^^ 2 ^ r))
          have hq1 : ((a : Int) + k) / 8 = (q : Int) := by omega
          have hr1 : ((a : Int) + k) % 8 = (r : Int) := by omega
          have hq2 : 0 ≤ (q : Int) := by omega
          have hq3 : (q : Int) < u.length := by omega
          have HF := Lib.hid hfs
          have HP := Lib.hid hput
          have HL := Lib.hid hlv
          clear hfs hput hf hlv hq hr
          go_wp2_with fail
          go_region
          go_wp2
          go_roundw
          case rel => exact ⟨k + 1, _, by omega, by omega, by go_num, by rw [trn, htb, Bool.or_true], (by rw [byte_turn _ _ hr8]; exact HP.out : Byt (wr.setCell ⟨w2.heap.size, q, none⟩ (.int .u8 (bits .xor .u8 (v[q].toNat : Int) (2 ^ r % 256)))) w2.heap.size _), HF.out, (hB.setCell hg _).trans ⟨rfl, rfl, rfl, Nat.le_refl _, fun _ _ => rfl⟩⟩
          case measure => simp [intOf]; omega
      · have hs := string_of_byt hb cap
        rw [hf.len] at hs
        have hop := open_at v _ _ ⟨rfl, sealed_turned HS.out hf hk hak⟩ (by rw [hf.len]; omega)
        have HOP := Lib.hid hop
        have hst := hf.len
        clear hop hf hst
        generalize opened v = o at *
        by_cases hk32 : k < 32
        · have hno : decide ((a : Int) + k < 8 * u.length) = false := by simp; omega
          clear hgo
          go_wp2_with fail
          refine (HOP.out _).mono ?_
          rintro e w4 ⟨rfl, b4⟩
          have B4 := hB.trans (b4.mono hB.size)
          generalize trn n k = z at *
          cases z
          · go_wp2
            go_ret
            exact ⟨rfl, B4⟩
          · go_wp2
            go_ret
            exact ⟨rfl, B4⟩
        · clear hgo
          go_wp2_with fail
          refine (HOP.out _).mono ?_
          rintro e w4 ⟨rfl, b4⟩
          have B4 := hB.trans (b4.mono hB.size)
          generalize trn n k = z at *
          cases z
          · go_wp2
            go_ret
            exact ⟨rfl, B4⟩
          · go_wp2
            go_ret
            exact ⟨rfl, B4⟩
  · have ht : l.length ≤ 5000 := hcase
    go_enter Try.func6, Try.ntmps6
    go_wp2_with fail
    refine (works_walk _).mono ?_
    rintro e w1 ⟨rfl, b1⟩
    go_wp2_with fail
    rw [take_str, List.take_length]
    generalize l = t at *
    refine (seal_walk t (by omega) _).mono ?_
    rintro e w2 ⟨rfl, b2⟩
    have B2 := b1.trans (b2.mono b1.size)
    clear b1 b2
    have hs := seal_is t
    have hlen : (sealB t).length ≤ 5004 := by rw [seal_length]; omega
    have hlen4 : 4 ≤ (sealB t).length := by rw [seal_length]; omega
    generalize sealB t = u at *
    have HS := Lib.hid hs
    clear hs
    obtain ⟨cap, w3, hrun, hbyt, b3, hcap, hcm⟩ := run_bytes w2 u (by unfold maxLen; omega)
    go_wp2_with fail
    have hm : (at' : Int) % (8 * (u.length : Int)) = ((at' % (8 * u.length) : Nat) : Int) := by simp
    have hma : at' % (8 * u.length) < 8 * u.length := Nat.mod_lt _ (by omega)
    have B3 := B2.trans (b3.mono B2.size)
    have hg := B2.size
    clear hrun b3 B2
    rw [hm]
    clear hm
    generalize at' % (8 * u.length) = a at *
    have hbyt' := hbyt
    go_loopw [9, 10] (fun x i wr => Rel w w2.heap.size u a n x i wr) (fun _ i _ => 32 - (intOf i).toNat)
    case atStart => exact ⟨0, u, by omega, by omega, rfl, rfl, hbyt, Flipped.start _ _ _, B3⟩
    case round =>
      obtain ⟨k, v, hk, hak, rfl, rfl, hb, hf, hB⟩ := hrel
      by_cases hgo : k < 32 ∧ a + k < 8 * u.length
      · obtain ⟨hk32, hin⟩ := hgo
        have hbt := bit_test n k hn
        have hlv := hf.len
        cases htb : n.testBit k with
        | false =>
          rw [htb] at hbt
          have hnx : trn n (k + 1) = trn n k := by rw [trn, htb, Bool.or_false]
          have hfs := hf.same htb
          have HF := Lib.hid hfs
          have HX := Lib.hid hnx
          have HL := Lib.hid hlv
          clear hfs hnx htb hf hlv
          go_wp2
          go_roundw
          case rel => exact ⟨k + 1, v, by omega, by omega, by go_num, by rw [HX.out], hb, HF.out, hB⟩
          case measure => simp [intOf]; omega
        | true =>
          rw [htb] at hbt
          obtain ⟨q, hq⟩ : ∃ q : Nat, q = (a + k) / 8 := ⟨_, rfl⟩
          obtain ⟨r, hr⟩ : ∃ r : Nat, r = (a + k) % 8 := ⟨_, rfl⟩
          have hr8 : r < 8 := by omega
          have hqv : q < v.length := by omega
          have hqu : q < u.length := by omega
          have hc := hb.cell q hqv
          have hfz := hb.free q hqv
          have hfs := hf.more htb hqv hr8 (by omega)
          have hput := hb.put q hqv (UInt8.ofNat (v[q].toNat ^^^ 2 ^ r))
          have hq1 : ((a : Int) + k) / 8 = (q : Int) := by omega
          have hr1 : ((a : Int) + k) % 8 = (r : Int) := by omega
          have hq2 : 0 ≤ (q : Int) := by omega
          have hq3 : (q : Int) < u.length := by omega
          have HF := Lib.hid hfs
          have HP := Lib.hid hput
          have HL := Lib.hid hlv
          clear hfs hput hf hlv hq hr
          go_wp2_with fail
          go_region
          go_wp2
          go_roundw
          case rel => exact ⟨k + 1, _, by omega, by omega, by go_num, by rw [trn, htb, Bool.or_true], (by rw [byte_turn _ _ hr8]; exact HP.out : Byt (wr.setCell ⟨w2.heap.size, q, none⟩ (.int .u8 (bits .xor .u8 (v[q].toNat : Int) (2 ^ r % 256)))) w2.heap.size _), HF.out, (hB.setCell hg _).trans ⟨rfl, rfl, rfl, Nat.le_refl _, fun _ _ => rfl⟩⟩
          case measure => simp [intOf]; omega
      · have hs := string_of_byt hb cap
        rw [hf.len] at hs
        have hop := open_at v _ _ ⟨rfl, sealed_turned HS.out hf hk hak⟩ (by rw [hf.len]; omega)
        have HOP := Lib.hid hop
        have hst := hf.len
        clear hop hf hst
        generalize opened v = o at *
        by_cases hk32 : k < 32
        · have hno : decide ((a : Int) + k < 8 * u.length) = false := by simp; omega
          clear hgo
          go_wp2_with fail
          refine (HOP.out _).mono ?_
          rintro e w4 ⟨rfl, b4⟩
          have B4 := hB.trans (b4.mono hB.size)
          generalize trn n k = z at *
          cases z
          · go_wp2
            go_ret
            exact ⟨rfl, B4⟩
          · go_wp2
            go_ret
            exact ⟨rfl, B4⟩
        · clear hgo
          go_wp2_with fail
          refine (HOP.out _).mono ?_
          rintro e w4 ⟨rfl, b4⟩
          have B4 := hB.trans (b4.mono hB.size)
          generalize trn n k = z at *
          cases z
          · go_wp2
            go_ret
            exact ⟨rfl, B4⟩
          · go_wp2
            go_ret
            exact ⟨rfl, B4⟩

set_option maxRecDepth 100000 in
theorem lifted (os : Os) (started : os.Started) (H : Type) (enc : TypeId × Value → H) :
    ReturnsInHanded {} Try.checked os 6 .any (Rows.crcTurnedSpec.pre6 enc Try.prog Try.f6 Rows.crcTurnedRow.domain false) (Rows.crcTurnedSpec.post enc Try.prog Try.f6 false true false false) := by
  refine returnsInHanded_of_change (C := Try.checked) own started (by kernel_rfl) Try.func6
    (ChangeSpec.witness6 (enc := enc) (C := Try.checked) false ⟨#[], #[.string ⟨#[]⟩, .int .u16 0, .int .u32 0], []⟩ 8 (by kernel_rfl) (by kernel_rfl) (by kernel_rfl) (by kernel_rfl)) ?_
  intro W base args ds gs before hval0 hW hcnd _
  have hval : ∀ (j : Nat) t v, Try.f6.params[j]? = some t → args[j]? = some v → Value.okWide Try.prog W .any base t v := hval0
  have hW' := hW
  obtain ⟨p, q, hA0, hV, rfl, hfz, hnd⟩ := hW
  have hA : DataW.TrodAll enc Try.prog W 0 (fun _ => true) true Try.f6.params.toList args.toList ds p := hA0
  rw [Try.params6] at hA hval
  obtain ⟨v0, vs0, d0, ds0, p0, q0, hargs, rfl, rfl, h0, r0⟩ := trodAll_cons hA
  obtain ⟨v1, vs1, d1, ds1, p1, q1, rfl, rfl, rfl, h1, r1⟩ := trodAll_cons r0
  obtain ⟨v2, vs2, d2, ds2, p2, q2, rfl, rfl, rfl, h2, r2⟩ := trodAll_cons r1
  obtain ⟨rfl, rfl, rfl⟩ := trodAll_nil r2
  obtain rfl : args = #[v0, v1, v2] := by cases args; simp_all
  obtain ⟨rfl, rfl⟩ := trodVars_none hV
  obtain ⟨s0, rfl, rfl, rfl, ws0⟩ := Go.ChangeMaps.open_string Try.underlying9 (hval 0 9 v0 rfl rfl) h0
  have hsz0 : s0.data.toList.length ≤ 9223372036854775807 := by rw [Array.length_toList]; exact ws0
  obtain ⟨a1, rfl, rfl, rfl, w1⟩ := open_int Try.underlying29 (hval 1 29 v1 rfl rfl) h1
  have hw1 : 0 ≤ a1 ∧ a1 ≤ 65535 := by simpa [Lit.wf, IntKind.min, IntKind.max, IntKind.signed, IntKind.bits] using w1
  obtain ⟨n1, rfl⟩ := Int.eq_ofNat_of_zero_le hw1.1
  obtain ⟨a2, rfl, rfl, rfl, w2⟩ := open_int Try.underlying22 (hval 2 22 v2 rfl rfl) h2
  have hw2 : 0 ≤ a2 ∧ a2 ≤ 4294967295 := by simpa [Lit.wf, IntKind.min, IntKind.max, IntKind.signed, IntKind.bits] using w2
  obtain ⟨n2, rfl⟩ := Int.eq_ofNat_of_zero_le hw2.1
  clear hA0 hval0
  have hc := walk s0.data.toList hsz0 n1 n2 (by omega) (by omega) W
  try rw [Array.toArray_toList] at hc
  refine hc.mono fun e W' ⟨he, hg⟩ => ?_
  subst he
  exact ⟨_, rfl, law_post rfl (by decide +kernel) (by kernel_rfl) rfl hW' hg⟩

theorem over : Rows.crcTurnedRow.holds Try.pinned (OpenSpec.ofChange Rows.crcTurnedSpec) :=
  OpenClaim.holds_of_wide 6 Try.f6 rfl rfl rfl rfl rfl rfl rfl ⟨rfl, rfl, rfl, rfl, rfl⟩ rfl rfl rfl rfl rfl (by kernel_rfl) Try.func6 (by kernel_rfl)
    (of_decide_eq_true (by kernel_rfl)) (by unfold Func.isWrapper; first | (rw [if_pos (by decide +kernel)]; kernel_rfl) | (rw [if_neg (by decide +kernel)]; exact ⟨rfl, rfl⟩))
    (fun os started H enc _ => lifted os started H enc)

theorem proved : Rows.CrcTurnedSaid :=
  over
#print axioms proved
end CrcTurned
end Go.Proofs.Ytdjodfajmcaacaa
