/- An entry of whose bytes one, behind the number of how many follow, is another one is none: of all entries (the first ten of their operations), places and changes. No condition. -/
import Derived.Test.YtkhdidhpcdlmcabLrecArgs
import Derived.Test.YtkhdidhpcdlmcabBytes
import Derived.Laws.BitsAllLaws
namespace Go.Proofs.Ytkhdidhpcdlmcab
set_option maxRecDepth 100000
open Go.ChangeShapes Go.WideShapes Go.ChangeAt Go.RowKit Go.Lib MM MB MS MF DE WM WP WR CM CE LM LQ LC LA LL RS LR LTk LD LW LAr LK
namespace LrecSpoilt
theorem bit_set {l : List UInt8} {k i : Nat} (c : UInt8) (h : i / 8 ≠ k) : bitAt (l.set k c) i = bitAt l i := by
  unfold bitAt
  rw [List.getD_eq_getElem?_getD, List.getElem?_set_ne (fun e => h e.symm), ← List.getD_eq_getElem?_getD]
/-- Sealed bytes of which one is another one are not sealed. -/
theorem set_not_sealed (l : List UInt8) (k : Nat) (c : UInt8) (hk : k < (sealB l).length) (hc : (sealB l)[k] ≠ c) : isSealed ((sealB l).set k c) = false := by
  cases h : isSealed ((sealB l).set k c) with
  | false => rfl
  | true =>
    exfalso
    have hlen : (sealB l).length = ((sealB l).set k c).length := by rw [List.length_set]
    have hb := sealed_apart (seal_is l) h hlen (8 * k) (fun i hi => (bit_set c (by omega)).symm) (fun i hi => (bit_set c (by omega)).symm)
    have he := bytes_ext hlen hb
    have := congrArg (fun x : List UInt8 => x.getD k 0) he
    simp only [List.getD_eq_getElem?_getD, List.getElem?_set_self hk, List.getElem?_eq_getElem hk] at this
    exact hc (by simpa using this)
theorem spoilt (e : En) (p : Nat) (c : UInt8) (h1 : (numB (sealB (layB e)).length).length ≤ p) (h2 : p < (encB e).length) (h3 : (encB e)[p] ≠ c) (hl : (sealB (layB e)).length < 2 ^ 64) : decS ((encB e).set p c) = none := by
  obtain ⟨f, hf⟩ : ∃ f, f = (numB (sealB (layB e)).length).length := ⟨_, rfl⟩
  have e1 : (encB e).set p c = textB ((sealB (layB e)).set (p - f) c) := by
    unfold encB textB
    rw [List.set_append_right _ _ (by rw [← hf] at h1 ⊢; exact h1), List.length_set, hf]
  have hk : p - f < (sealB (layB e)).length := by
    have := h2
    unfold encB textB at this
    rw [List.length_append] at this
    omega
  have hne : (sealB (layB e))[p - f] ≠ c := by
    have e2 : encB e = numB (sealB (layB e)).length ++ sealB (layB e) := rfl
    have e3 : (encB e)[p] = (sealB (layB e))[p - f] := by
      rw [List.getElem_of_eq e2 h2, List.getElem_append_right (by omega)]
      congr 1
      omega
    rw [← e3]
    exact h3
  have hns := set_not_sealed (layB e) (p - f) c hk hne
  have ht := textS_put ((sealB (layB e)).set (p - f) c) [] (by rw [List.length_set]; exact hl)
  rw [List.append_nil] at ht
  rw [e1]
  unfold decS
  simp only [ht, hns]
  rfl
theorem numB_two (n : Nat) (hn : n < 16384) : (numB n).length = if 128 ≤ n then 2 else 1 := by
  unfold numB numF
  by_cases h : n < 128
  · rw [if_pos h, if_neg (by omega)]
    rfl
  · rw [if_neg h, if_pos (by omega)]
    unfold numF
    rw [if_pos (by omega)]
    rfl
theorem first_len (e : En) (h : checkE e = 0) : (numB (sealB (layB e)).length).length = if 128 < (encB e).length then 2 else 1 := by
  have h1 := layB_le h
  have h2 := seal_length (layB e)
  have h3 := numB_two (sealB (layB e)).length (by omega)
  have h4 : (encB e).length = (numB (sealB (layB e)).length).length + (sealB (layB e)).length := by unfold encB textB; rw [List.length_append]
  rw [h4, h3]
  by_cases hq : 128 ≤ (sealB (layB e)).length
  · rw [if_pos hq, if_pos (by omega)]
  · rw [if_neg hq, if_neg (by omega)]
theorem turn (c : UInt8) (b : Nat) (hb : b < 256) : bits .xor .u8 (c.toNat : Int) (b : Int) = ((UInt8.ofNat (c.toNat ^^^ b)).toNat : Int) := by
  have h := u8_xor_nat c.toNat b c.toNat_lt hb
  rw [h, UInt8.toNat_ofNat', Nat.mod_eq_of_lt (Nat.xor_lt_two_pow (n := 8) c.toNat_lt hb)]
theorem turned_other (c : UInt8) (b : Nat) (hb : b < 256) (h0 : b ≠ 0) : c ≠ UInt8.ofNat (c.toNat ^^^ b) := by
  intro h
  have h1 := congrArg UInt8.toNat h
  rw [UInt8.toNat_ofNat', Nat.mod_eq_of_lt (Nat.xor_lt_two_pow (n := 8) c.toNat_lt hb)] at h1
  have h2 : c.toNat ^^^ (c.toNat ^^^ b) = c.toNat ^^^ c.toNat := by rw [← h1]
  rw [← Nat.xor_assoc, Nat.xor_self, Nat.zero_xor] at h2
  exact h0 h2
set_option maxHeartbeats 8000000 in
theorem walk (W : World) (e : En) (v : Value) (hE : Ew W e v) (a : Nat) (ha : a ≤ 65535) (bw : Nat) (hby : bw ≤ 255) : Calls Try.prog 5 #[.agg (ecells e v).toArray, .int .u16 a, .int .u8 bw] W fun r w' => r = .returned (.bool true) ∧ Below W.heap.size W w' := by
  obtain ⟨A, cap, rfl, hol⟩ := hE.1.form
  obtain ⟨bx, ebx⟩ : ∃ bx, bx = W.heap.size := ⟨_, rfl⟩
  obtain ⟨w0, hw0⟩ : ∃ w0, w0 = W.alloc (.cells (ecells e (.slice A e.ops.length cap)).toArray 25) := ⟨_, rfl⟩
  have b0 : Below W.heap.size W w0 := by rw [hw0]; exact (Below.refl _ _).alloc (Nat.le_refl _) _
  have x0 : Has w0 bx 25 (ecells e (.slice A e.ops.length cap)) := by rw [hw0, ebx]; exact heap_alloc_new _ _
  have hcap : e.ops.length ≤ cap := by
    obtain ⟨A', cap', e1, h1, _⟩ := hE.1
    injection e1 with e1 e2 e3
    omega
  have HB0 := Lib.hid b0
  have HX0 := Lib.hid x0
  have HE := Lib.hid hE
  have HWK := Lib.hid (works_walk w0)
  have HBX : Hid (bx = W.heap.size) := Lib.hid ebx
  have hm : min (e.ops.length : Int) 10 = ((min e.ops.length 10 : Nat) : Int) := by omega
  obtain ⟨m, hmm⟩ : ∃ m, m = min e.ops.length 10 := ⟨_, rfl⟩
  rw [← hmm] at hm
  have hm1 : m ≤ e.ops.length := by rw [hmm]; exact Nat.min_le_left _ _
  have HMM := Lib.hid hmm
  unfold ecells at hw0 HX0 ⊢
  clear b0 x0 hE hmm
  go_enter Try.func5, Try.ntmps5
  go_wp2_with fail
  rw [← hw0]
  rw [← ebx]
  clear hw0 ebx
  refine HWK.out.mono ?_
  rintro r w1 ⟨rfl, b1⟩
  have HX1 := Lib.hid (HX0.out.under b1 HX0.out.lt)
  have HB1 := Lib.hid (HB0.out.trans (b1.mono HB0.out.size))
  have c0 : w1.cell? ⟨bx, 0, none⟩ = some (.int .u64 e.ts) := HX1.out.cell 0
  have c1 : w1.cell? ⟨bx, 1, none⟩ = some (.int .u64 e.fst) := HX1.out.cell 1
  have c2 : w1.cell? ⟨bx, 2, none⟩ = some (.slice A e.ops.length cap) := HX1.out.cell 2
  have f2 := HX1.out.free 2
  clear b1 HX0 HB0 HWK
  have i1 : (0 : Int) ≤ (m : Int) := by omega
  have i2 : (m : Int) ≤ (cap : Int) := by omega
  go_wp2_with fail
  have hbw : W.heap.size ≤ bx := by rw [HBX.out]; exact Nat.le_refl _
  obtain ⟨w2, hw2⟩ : ∃ w2, w2 = w1.setCell ⟨bx, 2, none⟩ (.slice A m cap) := ⟨_, rfl⟩
  have HB2 : Hid (Below W.heap.size W w2) := Lib.hid (by rw [hw2]; exact HB1.out.setCell hbw _)
  have HE2 : Hid (Ew w2 (ten e) (.slice A m cap)) := Lib.hid (by rw [HMM.out]; exact ew_ten (HE.out.under HB2.out))
  rw [← hw2]
  clear hw2 c0 c1 c2 f2 HX1 HB1 i1 i2 hm hm1 hbw hcap hol
  have HEN := Lib.hid (encode_walk w2 (ten e) _ HE2.out)
  unfold ecells at HEN
  have hn2 := enc_len (ten e)
  by_cases hc : checkE (ten e) = 0
  · have hL : encL (ten e) = encB (ten e) := if_pos hc
    have hn1 := enc_pos (ten e)
    have hfl := first_len (ten e) hc
    have hsl : (sealB (layB (ten e))).length < 2 ^ 64 := by
      have h1 := layB_le hc
      have h2 := seal_length (layB (ten e))
      omega
    rw [hc] at HEN
    rw [hL] at HEN hn2
    obtain ⟨L, hLL⟩ : ∃ L, L = encB (ten e) := ⟨_, rfl⟩
    rw [← hLL] at HEN hn2 hn1 hfl
    obtain ⟨n, hn⟩ : ∃ n, n = L.length := ⟨_, rfl⟩
    have hsz : (⟨L.toArray⟩ : ByteArray).size = n := hn.symm
    rw [← hn] at hn1 hn2 hfl
    by_cases h0 : bw = 0
    · subst h0
      clear hc hL hLL hn hn1 hn2 hfl hsl
      refine HEN.out.mono ?_
      rintro r w3 ⟨rfl, b3⟩
      have HB3 := Lib.hid (HB2.out.trans (b3.mono HB2.out.size))
      clear b3 HB2 HE2 HEN
      go_wp2
      go_ret
      exact ⟨rfl, HB3.out⟩
    rcases Nat.lt_or_ge 128 n with h128 | h128
    · have hf : (numB (sealB (layB (ten e))).length).length = 2 := by rw [hfl, if_pos (by omega)]
      have dl : decide ((128 : Int) < (n : Int)) = true := decide_eq_true (by omega)
      have hk : a % (n - 2) < n - 2 := Nat.mod_lt _ (by omega)
      have htm : (a : Int).tmod ((n : Int) - 2) = ((a % (n - 2) : Nat) : Int) := by
        rw [show ((n : Int) - 2) = ((n - 2 : Nat) : Int) by omega, Int.tmod_eq_emod_of_nonneg (by omega)]
        omega
      obtain ⟨p, hp⟩ : ∃ p, p = 2 + a % (n - 2) := ⟨_, rfl⟩
      obtain ⟨k, hkk⟩ : ∃ k, k = a % (n - 2) := ⟨_, rfl⟩
      rw [← hkk] at hp hk htm
      have hpn : p < L.length := by rw [← hn]; omega
      have hdd : decS (L.set p (UInt8.ofNat (L[p].toNat ^^^ bw))) = none := by
        have := spoilt (ten e) p (UInt8.ofNat (L[p].toNat ^^^ bw)) (by rw [hf]; omega) (by rw [← hLL]; exact hpn) (by
          have h := turned_other L[p] bw (by omega) h0
          simp only [← hLL]
          exact h) hsl
        rw [← hLL] at this
        exact this
      have HD := Lib.hid (fun (w3 : World) => decode_walk w3 (L.set p (UInt8.ofNat (L[p].toNat ^^^ bw))) (by rw [List.length_set]; omega))
      rw [hdd] at HD
      have htn := turn L[p] bw (by omega)
      have hnz : ¬ (n : Int) - 2 = 0 := by omega
      have i1 : (0 : Int) ≤ (p : Int) := by omega
      have i2 : (p : Int) < (n : Int) := by omega
      have es : wrap64 ((n : Int) - 2) = (n : Int) - 2 := by unfold wrap64; omega
      have ea : IntKind.i64.wrap (a : Int) = (a : Int) := by unfold IntKind.wrap; simp [IntKind.bits, IntKind.signed]; omega
      have ek : IntKind.i64.wrap (k : Int) = (k : Int) := by unfold IntKind.wrap; simp [IntKind.bits, IntKind.signed]; omega
      have ep : wrap64 (p : Int) = (p : Int) := by unfold wrap64; omega
      have ep2 : (2 + (k : Int)) = (p : Int) := by omega
      have hb0 : ((bw : Int) == 0) = false := beq_eq_false_iff_ne.2 (by omega)
      have hb1 : (bw == 0) = false := beq_eq_false_iff_ne.2 h0
      have hln : L.length ≤ maxLen := by unfold maxLen; omega
      clear hfl hf hk hp hkk hdd hsl hn1 hn2 hc hL hLL
      refine HEN.out.mono ?_
      rintro r w3 ⟨rfl, b3⟩
      have HB3 := Lib.hid (HB2.out.trans (b3.mono HB2.out.size))
      clear b3 HB2 HE2 HEN
      obtain ⟨capb, w4, hrun, hbyt, b4, hcap4, hcm4⟩ := run_bytes w3 L hln
      rw [← hn] at hrun hcap4
      have HB4 := Lib.hid (HB3.out.trans (b4.mono HB3.out.size))
      have cp : w4.cell? ⟨w3.heap.size, p, none⟩ = some (.int .u8 L[p].toNat) := hbyt.cell p hpn
      have fp : w4.frozen? ⟨w3.heap.size, p, none⟩ = false := hbyt.free p hpn
      have HBY := Lib.hid (hbyt.put p hpn (UInt8.ofNat (L[p].toNat ^^^ bw)))
      have HW3 : Hid (W.heap.size ≤ w3.heap.size) := Lib.hid HB3.out.size
      have hcv := string_of_byt HBY.out capb
      rw [List.length_set, ← hn] at hcv
      obtain ⟨L', hL'⟩ : ∃ L', L' = L.set p (UInt8.ofNat (L[p].toNat ^^^ bw)) := ⟨_, rfl⟩
      rw [← hL'] at hcv HD
      obtain ⟨cb, hcb'⟩ : ∃ cb : Nat, cb = (UInt8.ofNat (L[p].toNat ^^^ bw)).toNat := ⟨_, rfl⟩
      rw [← hcb'] at hcv htn
      obtain ⟨cp0, hcp0⟩ : ∃ cp0 : Nat, cp0 = L[p].toNat := ⟨_, rfl⟩
      rw [← hcp0] at htn cp
      clear hbyt b4 HBY hL' hcb' hcp0 hpn HB3 hln hn
      go_wp2_with fail
      have HB5 := Lib.hid (HB4.out.setCell (p := ⟨w3.heap.size, p, none⟩) HW3.out (.int .u8 cb))
      refine (HD.out _).mono ?_
      rintro r w6 ⟨b6, rfl⟩
      have HB6 := Lib.hid (HB5.out.trans (b6.mono HB5.out.size))
      clear b6 HB5 HB4 HD
      unfold zE
      go_wp2
      go_ret
      exact ⟨rfl, HB6.out.alloc HB6.out.size _⟩
    · have hf : (numB (sealB (layB (ten e))).length).length = 1 := by rw [hfl, if_neg (by omega)]
      have dl : decide ((128 : Int) < (n : Int)) = false := decide_eq_false (by omega)
      have hk : a % (n - 1) < n - 1 := Nat.mod_lt _ (by omega)
      have htm : (a : Int).tmod ((n : Int) - 1) = ((a % (n - 1) : Nat) : Int) := by
        rw [show ((n : Int) - 1) = ((n - 1 : Nat) : Int) by omega, Int.tmod_eq_emod_of_nonneg (by omega)]
        omega
      obtain ⟨p, hp⟩ : ∃ p, p = 1 + a % (n - 1) := ⟨_, rfl⟩
      obtain ⟨k, hkk⟩ : ∃ k, k = a % (n - 1) := ⟨_, rfl⟩
      rw [← hkk] at hp hk htm
      have hpn : p < L.length := by rw [← hn]; omega
      have hdd : decS (L.set p (UInt8.ofNat (L[p].toNat ^^^ bw))) = none := by
        have := spoilt (ten e) p (UInt8.ofNat (L[p].toNat ^^^ bw)) (by rw [hf]; omega) (by rw [← hLL]; exact hpn) (by
          have h := turned_other L[p] bw (by omega) h0
          simp only [← hLL]
          exact h) hsl
        rw [← hLL] at this
        exact this
      have HD := Lib.hid (fun (w3 : World) => decode_walk w3 (L.set p (UInt8.ofNat (L[p].toNat ^^^ bw))) (by rw [List.length_set]; omega))
      rw [hdd] at HD
      have htn := turn L[p] bw (by omega)
      have hnz : ¬ (n : Int) - 1 = 0 := by omega
      have i1 : (0 : Int) ≤ (p : Int) := by omega
      have i2 : (p : Int) < (n : Int) := by omega
      have es : wrap64 ((n : Int) - 1) = (n : Int) - 1 := by unfold wrap64; omega
      have ea : IntKind.i64.wrap (a : Int) = (a : Int) := by unfold IntKind.wrap; simp [IntKind.bits, IntKind.signed]; omega
      have ek : IntKind.i64.wrap (k : Int) = (k : Int) := by unfold IntKind.wrap; simp [IntKind.bits, IntKind.signed]; omega
      have ep : wrap64 (p : Int) = (p : Int) := by unfold wrap64; omega
      have ep2 : (1 + (k : Int)) = (p : Int) := by omega
      have hb0 : ((bw : Int) == 0) = false := beq_eq_false_iff_ne.2 (by omega)
      have hb1 : (bw == 0) = false := beq_eq_false_iff_ne.2 h0
      have hln : L.length ≤ maxLen := by unfold maxLen; omega
      clear hfl hf hk hp hkk hdd hsl hn1 hn2 hc hL hLL
      refine HEN.out.mono ?_
      rintro r w3 ⟨rfl, b3⟩
      have HB3 := Lib.hid (HB2.out.trans (b3.mono HB2.out.size))
      clear b3 HB2 HE2 HEN
      obtain ⟨capb, w4, hrun, hbyt, b4, hcap4, hcm4⟩ := run_bytes w3 L hln
      rw [← hn] at hrun hcap4
      have HB4 := Lib.hid (HB3.out.trans (b4.mono HB3.out.size))
      have cp : w4.cell? ⟨w3.heap.size, p, none⟩ = some (.int .u8 L[p].toNat) := hbyt.cell p hpn
      have fp : w4.frozen? ⟨w3.heap.size, p, none⟩ = false := hbyt.free p hpn
      have HBY := Lib.hid (hbyt.put p hpn (UInt8.ofNat (L[p].toNat ^^^ bw)))
      have HW3 : Hid (W.heap.size ≤ w3.heap.size) := Lib.hid HB3.out.size
      have hcv := string_of_byt HBY.out capb
      rw [List.length_set, ← hn] at hcv
      obtain ⟨L', hL'⟩ : ∃ L', L' = L.set p (UInt8.ofNat (L[p].toNat ^^^ bw)) := ⟨_, rfl⟩
      rw [← hL'] at hcv HD
      obtain ⟨cb, hcb'⟩ : ∃ cb : Nat, cb = (UInt8.ofNat (L[p].toNat ^^^ bw)).toNat := ⟨_, rfl⟩
      rw [← hcb'] at hcv htn
      obtain ⟨cp0, hcp0⟩ : ∃ cp0 : Nat, cp0 = L[p].toNat := ⟨_, rfl⟩
      rw [← hcp0] at htn cp
      clear hbyt b4 HBY hL' hcb' hcp0 hpn HB3 hln hn
      go_wp2_with fail
      have HB5 := Lib.hid (HB4.out.setCell (p := ⟨w3.heap.size, p, none⟩) HW3.out (.int .u8 cb))
      refine (HD.out _).mono ?_
      rintro r w6 ⟨b6, rfl⟩
      have HB6 := Lib.hid (HB5.out.trans (b6.mono HB5.out.size))
      clear b6 HB5 HB4 HD
      unfold zE
      go_wp2
      go_ret
      exact ⟨rfl, HB6.out.alloc HB6.out.size _⟩
  · obtain ⟨c, hcc⟩ : ∃ c, c = checkE (ten e) := ⟨_, rfl⟩
    rw [← hcc] at HEN hc
    have hcb : (c == 0) = false := beq_eq_false_iff_ne.2 hc
    clear hcc hc hn2
    refine HEN.out.mono ?_
    rintro r w3 ⟨rfl, b3⟩
    have HB3 := Lib.hid (HB2.out.trans (b3.mono HB2.out.size))
    clear b3 HB2 HE2 HEN
    go_wp2
    go_ret
    exact ⟨rfl, HB3.out⟩

set_option maxRecDepth 100000 in
theorem lifted (os : Os) (started : os.Started) (H : Type) (enc : TypeId × Value → H) :
    ReturnsInHanded {} Try.checked os 5 .any (Rows.lrecSpoiltSpec.pre6 enc Try.prog Try.f5 Rows.lrecSpoiltRow.domain false) (Rows.lrecSpoiltSpec.post enc Try.prog Try.f5 false true false false) := by
  refine returnsInHanded_of_change (C := Try.checked) own started (by kernel_rfl) Try.func5
    (ChangeSpec.witness6 (enc := enc) (C := Try.checked) false ⟨#[], #[.agg #[.int .u64 0, .int .u64 0, .slice none 0 0], .int .u16 0, .int .u8 0], []⟩ 8 (by kernel_rfl) (by kernel_rfl) (by kernel_rfl) (by kernel_rfl)) ?_
  intro W base args ds gs before hval0 hW hcnd _
  have hval : ∀ (j : Nat) t v, Try.f5.params[j]? = some t → args[j]? = some v → Value.okWide Try.prog W .any base t v := hval0
  have hW' := hW
  obtain ⟨p, q, hA0, hV, rfl, hfz, hnd⟩ := hW
  have hA : DataW.TrodAll enc Try.prog W 0 (fun _ => true) true Try.f5.params.toList args.toList ds p := hA0
  rw [Try.params5] at hA hval
  obtain ⟨v0, vs0, d0, ds0, p0, q0, hargs, rfl, rfl, h0, r0⟩ := trodAll_cons hA
  obtain ⟨v1, vs1, d1, ds1, p1, q1, rfl, rfl, rfl, h1, r1⟩ := trodAll_cons r0
  obtain ⟨v2, vs2, d2, ds2, p2, q2, rfl, rfl, rfl, h2, r2⟩ := trodAll_cons r1
  obtain ⟨rfl, rfl, rfl⟩ := trodAll_nil r2
  obtain rfl : args = #[v0, v1, v2] := by cases args; simp_all
  obtain ⟨rfl, rfl⟩ := trodVars_none hV
  obtain ⟨a1, rfl, rfl, rfl, w1⟩ := open_int Try.underlying36 (hval 1 36 v1 rfl rfl) h1
  have hw1 : 0 ≤ a1 ∧ a1 ≤ 65535 := by simpa [Lit.wf, IntKind.min, IntKind.max, IntKind.signed, IntKind.bits] using w1
  obtain ⟨n1, rfl⟩ := Int.eq_ofNat_of_zero_le hw1.1
  obtain ⟨a2, rfl, rfl, rfl, w2⟩ := open_int Try.underlying5 (hval 2 5 v2 rfl rfl) h2
  have hw2 : 0 ≤ a2 ∧ a2 ≤ 255 := by simpa [Lit.wf, IntKind.min, IntKind.max, IntKind.signed, IntKind.bits] using w2
  obtain ⟨n2, rfl⟩ := Int.eq_ofNat_of_zero_le hw2.1
  obtain ⟨e0, vo0, rfl, hE0⟩ := open_entry (hval 0 25 v0 rfl rfl) h0
  clear hA0 hval0
  have hc := walk W e0 vo0 hE0 n1 (by omega) n2 (by omega)
  try simp only [Array.toArray_toList] at hc
  refine hc.mono fun e W' ⟨he, hg⟩ => ?_
  subst he
  exact ⟨_, rfl, law_post rfl (by decide +kernel) (by kernel_rfl) rfl hW' hg⟩

theorem over : Rows.lrecSpoiltRow.holds Try.pinned (OpenSpec.ofChange Rows.lrecSpoiltSpec) :=
  OpenClaim.holds_of_wide 5 Try.f5 rfl rfl rfl rfl rfl rfl rfl ⟨rfl, rfl, rfl, rfl, rfl⟩ rfl rfl rfl rfl rfl (by kernel_rfl) Try.func5 (by kernel_rfl)
    (of_decide_eq_true (by kernel_rfl)) (by unfold Func.isWrapper; first | (rw [if_pos (by decide +kernel)]; kernel_rfl) | (rw [if_neg (by decide +kernel)]; exact ⟨rfl, rfl⟩))
    (fun os started H enc _ => lifted os started H enc)

theorem proved : Rows.LrecSpoiltSaid :=
  over
#print axioms proved
end LrecSpoilt
end Go.Proofs.Ytkhdidhpcdlmcab
