/- Of any bytes (their first 600) a reader answers call by call as the document's reader does, whether a number or a text is asked for, behind a failure too. No condition. -/
import Derived.Test.YtdpkgmcjofddnaaWireLaw
import Derived.Test.YtdpkgmcjofddnaaWireRef
import Derived.Test.YtdpkgmcjofddnaaLawKit
import Derived.ShutString
import Derived.ChangeMaps5
namespace Go.Proofs.Ytdpkgmcjofddnaa
open Go.ChangeShapes Go.WideShapes Go.ChangeAt Go.RowKit Go.Lib WM WW WP WR WL LK
namespace WireTakes
def Done (w : World) (e : Ending) (w' : World) : Prop := e = .returned (.bool true) ∧ Below w.heap.size w w'

/-- Both readers have the same left; what was there ahead of the call is as it was. -/
def Both (w wr : World) (g g' : Nat) (t : List UInt8) (bad : Bool) : Prop :=
  Rd wr g t bad ∧ RF.Rf wr g' t bad ∧ (bad = true → t = []) ∧ t.length ≤ 600 ∧ Below w.heap.size w wr ∧ w.heap.size ≤ g ∧ w.heap.size ≤ g' ∧ g ≠ g'

set_option maxRecDepth 100000 in
set_option maxHeartbeats 2000000 in
theorem walk (s : List UInt8) (_hs : s.length ≤ 9223372036854775807) (m c : Nat) (_hm : m ≤ 65535) (hc : c ≤ 255) (w : World) :
    Calls Try.prog 4 #[.string ⟨s.toArray⟩, .int .u16 m, .int .u8 c] w (Done w) := by
  rcases Nat.lt_or_ge 600 s.length with hcase | hcase
  · go_enter Try.func4, Try.ntmps4
    go_wp2_with fail
    rw [take_str]
    have ht : (s.take 600).length ≤ 600 := by rw [List.length_take]; omega
    generalize s.take 600 = t at *
    refine (newReader_walk t _).mono ?_
    rintro e w1 ⟨rfl, h1, b1⟩
    go_wp2
    go_loopw [9] (fun i wr => ∃ (k : Nat) (t' : List UInt8) (bad : Bool), k ≤ c % 17 ∧ i = .int .i64 k ∧ Both w wr w.heap.size w1.heap.size t' bad) (fun i _ => c % 17 - (intOf i).toNat)
    case atStart =>
      refine ⟨0, t, false, by omega, rfl, h1.grow _, heap_alloc_new _ _, by simp, ht, b1.alloc b1.size _, Nat.le_refl _, b1.size, ?_⟩
      have := h1.lt
      omega
    case round =>
      obtain ⟨k, t', bad, hk, rfl, hr, hf, hb, hl, hbel, hg, hg', hne⟩ := hrel
      clear ht h1
      by_cases hlt : k < c % 17
      · go_wp2_with fail
        · -- a text
          refine (WR.text_walk t' bad (by omega) _ _ hr).mono ?_
          rintro e w2 ⟨rfl, hr2, g2⟩
          go_wp2_with fail
          refine (RF.text_walk t' bad hb (by omega) _ _ (hf.but g2 (by intro h; injection h with h; exact hne h.symm))).mono ?_
          rintro e w3 ⟨rfl, hf3, g3⟩
          have hr3 := Has.but hr2 g3 (by intro h; injection h with h; exact hne h)
          have hleft := RF.textS_left hb
          have HV : Hid ((((textS t' bad).2.2 = true → (textS t' bad).2.1 = [])) ∧ (textS t' bad).2.1.length ≤ 600) := ⟨fun h => (hleft.1 h).1, by omega⟩
          have B3 := under_of_only (under_of_only hbel g2 hbel.size hg) g3 (Nat.le_trans hbel.size g2.size) hg'
          clear hleft hr hf hbel g2 g3 hr2
          generalize textS t' bad = x at *
          obtain ⟨v, t2, bad2⟩ := x
          simp only at HV hr3 hf3
          go_wp2_with fail
          refine (WR.ok_walk t2 bad2 _ _ hr3).mono ?_
          rintro e w4 ⟨rfl, rfl⟩
          go_wp2_with fail
          refine (RF.ok_walk t2 bad2 _ _ hf3).mono ?_
          rintro e w4 ⟨rfl, rfl⟩
          go_wp2_with fail
          refine (WR.end_walk t2 bad2 _ _ hr3).mono ?_
          rintro e w4 ⟨rfl, rfl⟩
          go_wp2_with fail
          refine (RF.end_walk t2 bad2 _ _ hf3).mono ?_
          rintro e w4 ⟨rfl, rfl⟩
          go_wp2
          go_roundw
          case rel => exact ⟨k + 1, t2, bad2, by omega, by go_num, hr3, hf3, HV.out.1, HV.out.2, B3, hg, hg', hne⟩
          case measure => simp [intOf]; omega
        · -- a number
          refine (WR.num_walk t' bad (by omega) _ _ hr).mono ?_
          rintro e w2 ⟨rfl, hr2, g2⟩
          go_wp2_with fail
          refine (RF.num_walk t' bad hb _ _ (hf.but g2 (by intro h; injection h with h; exact hne h.symm))).mono ?_
          rintro e w3 ⟨rfl, hf3, g3⟩
          have hr3 := Has.but hr2 g3 (by intro h; injection h with h; exact hne h)
          have hleft := RF.numS_left hb
          have HV : Hid ((((numS t' bad).2.2 = true → (numS t' bad).2.1 = [])) ∧ (numS t' bad).2.1.length ≤ 600) := ⟨fun h => (hleft.1 h).1, by omega⟩
          have B3 := under_of_only (under_of_only hbel g2 hbel.size hg) g3 (Nat.le_trans hbel.size g2.size) hg'
          clear hleft hr hf hbel g2 g3 hr2
          generalize numS t' bad = x at *
          obtain ⟨v, t2, bad2⟩ := x
          simp only at HV hr3 hf3
          go_wp2_with fail
          refine (WR.ok_walk t2 bad2 _ _ hr3).mono ?_
          rintro e w4 ⟨rfl, rfl⟩
          go_wp2_with fail
          refine (RF.ok_walk t2 bad2 _ _ hf3).mono ?_
          rintro e w4 ⟨rfl, rfl⟩
          go_wp2_with fail
          refine (WR.end_walk t2 bad2 _ _ hr3).mono ?_
          rintro e w4 ⟨rfl, rfl⟩
          go_wp2_with fail
          refine (RF.end_walk t2 bad2 _ _ hf3).mono ?_
          rintro e w4 ⟨rfl, rfl⟩
          go_wp2
          go_roundw
          case rel => exact ⟨k + 1, t2, bad2, by omega, by go_num, hr3, hf3, HV.out.1, HV.out.2, B3, hg, hg', hne⟩
          case measure => simp [intOf]; omega
      · go_wp2_with fail
        refine (works_walk _).mono ?_
        rintro e w2 ⟨rfl, b2⟩
        go_wp2
        go_ret
        exact ⟨rfl, hbel.trans (b2.mono hbel.size)⟩
  · go_enter Try.func4, Try.ntmps4
    go_wp2_with fail
    rw [take_str]
    rw [List.take_length]
    have ht := hcase
    generalize s = t at *
    refine (newReader_walk t _).mono ?_
    rintro e w1 ⟨rfl, h1, b1⟩
    go_wp2
    go_loopw [9] (fun i wr => ∃ (k : Nat) (t' : List UInt8) (bad : Bool), k ≤ c % 17 ∧ i = .int .i64 k ∧ Both w wr w.heap.size w1.heap.size t' bad) (fun i _ => c % 17 - (intOf i).toNat)
    case atStart =>
      refine ⟨0, t, false, by omega, rfl, h1.grow _, heap_alloc_new _ _, by simp, ht, b1.alloc b1.size _, Nat.le_refl _, b1.size, ?_⟩
      have := h1.lt
      omega
    case round =>
      obtain ⟨k, t', bad, hk, rfl, hr, hf, hb, hl, hbel, hg, hg', hne⟩ := hrel
      clear ht h1
      by_cases hlt : k < c % 17
      · go_wp2_with fail
        · -- a text
          refine (WR.text_walk t' bad (by omega) _ _ hr).mono ?_
          rintro e w2 ⟨rfl, hr2, g2⟩
          go_wp2_with fail
          refine (RF.text_walk t' bad hb (by omega) _ _ (hf.but g2 (by intro h; injection h with h; exact hne h.symm))).mono ?_
          rintro e w3 ⟨rfl, hf3, g3⟩
          have hr3 := Has.but hr2 g3 (by intro h; injection h with h; exact hne h)
          have hleft := RF.textS_left hb
          have HV : Hid ((((textS t' bad).2.2 = true → (textS t' bad).2.1 = [])) ∧ (textS t' bad).2.1.length ≤ 600) := ⟨fun h => (hleft.1 h).1, by omega⟩
          have B3 := under_of_only (under_of_only hbel g2 hbel.size hg) g3 (Nat.le_trans hbel.size g2.size) hg'
          clear hleft hr hf hbel g2 g3 hr2
          generalize textS t' bad = x at *
          obtain ⟨v, t2, bad2⟩ := x
          simp only at HV hr3 hf3
          go_wp2_with fail
          refine (WR.ok_walk t2 bad2 _ _ hr3).mono ?_
          rintro e w4 ⟨rfl, rfl⟩
          go_wp2_with fail
          refine (RF.ok_walk t2 bad2 _ _ hf3).mono ?_
          rintro e w4 ⟨rfl, rfl⟩
          go_wp2_with fail
          refine (WR.end_walk t2 bad2 _ _ hr3).mono ?_
          rintro e w4 ⟨rfl, rfl⟩
          go_wp2_with fail
          refine (RF.end_walk t2 bad2 _ _ hf3).mono ?_
          rintro e w4 ⟨rfl, rfl⟩
          go_wp2
          go_roundw
          case rel => exact ⟨k + 1, t2, bad2, by omega, by go_num, hr3, hf3, HV.out.1, HV.out.2, B3, hg, hg', hne⟩
          case measure => simp [intOf]; omega
        · -- a number
          refine (WR.num_walk t' bad (by omega) _ _ hr).mono ?_
          rintro e w2 ⟨rfl, hr2, g2⟩
          go_wp2_with fail
          refine (RF.num_walk t' bad hb _ _ (hf.but g2 (by intro h; injection h with h; exact hne h.symm))).mono ?_
          rintro e w3 ⟨rfl, hf3, g3⟩
          have hr3 := Has.but hr2 g3 (by intro h; injection h with h; exact hne h)
          have hleft := RF.numS_left hb
          have HV : Hid ((((numS t' bad).2.2 = true → (numS t' bad).2.1 = [])) ∧ (numS t' bad).2.1.length ≤ 600) := ⟨fun h => (hleft.1 h).1, by omega⟩
          have B3 := under_of_only (under_of_only hbel g2 hbel.size hg) g3 (Nat.le_trans hbel.size g2.size) hg'
          clear hleft hr hf hbel g2 g3 hr2
          generalize numS t' bad = x at *
          obtain ⟨v, t2, bad2⟩ := x
          simp only at HV hr3 hf3
          go_wp2_with fail
          refine (WR.ok_walk t2 bad2 _ _ hr3).mono ?_
          rintro e w4 ⟨rfl, rfl⟩
          go_wp2_with fail
          refine (RF.ok_walk t2 bad2 _ _ hf3).mono ?_
          rintro e w4 ⟨rfl, rfl⟩
          go_wp2_with fail
          refine (WR.end_walk t2 bad2 _ _ hr3).mono ?_
          rintro e w4 ⟨rfl, rfl⟩
          go_wp2_with fail
          refine (RF.end_walk t2 bad2 _ _ hf3).mono ?_
          rintro e w4 ⟨rfl, rfl⟩
          go_wp2
          go_roundw
          case rel => exact ⟨k + 1, t2, bad2, by omega, by go_num, hr3, hf3, HV.out.1, HV.out.2, B3, hg, hg', hne⟩
          case measure => simp [intOf]; omega
      · go_wp2_with fail
        refine (works_walk _).mono ?_
        rintro e w2 ⟨rfl, b2⟩
        go_wp2
        go_ret
        exact ⟨rfl, hbel.trans (b2.mono hbel.size)⟩

set_option maxRecDepth 100000 in
theorem lifted (os : Os) (started : os.Started) (H : Type) (enc : TypeId × Value → H) :
    ReturnsInHanded {} Try.checked os 4 .any (Rows.wireTakesSpec.pre6 enc Try.prog Try.f4 Rows.wireTakesRow.domain false) (Rows.wireTakesSpec.post enc Try.prog Try.f4 false true false false) := by
  refine returnsInHanded_of_change (C := Try.checked) own started (by kernel_rfl) Try.func4
    (ChangeSpec.witness6 (enc := enc) (C := Try.checked) false ⟨#[], #[.string ⟨#[]⟩, .int .u16 0, .int .u8 0], []⟩ 8 (by kernel_rfl) (by kernel_rfl) (by kernel_rfl) (by kernel_rfl)) ?_
  intro W base args ds gs before hval0 hW hcnd _
  have hval : ∀ (j : Nat) t v, Try.f4.params[j]? = some t → args[j]? = some v → Value.okWide Try.prog W .any base t v := hval0
  have hW' := hW
  obtain ⟨p, q, hA0, hV, rfl, hfz, hnd⟩ := hW
  have hA : DataW.TrodAll enc Try.prog W 0 (fun _ => true) true Try.f4.params.toList args.toList ds p := hA0
  rw [Try.params4] at hA hval
  obtain ⟨v0, vs0, d0, ds0, p0, q0, hargs, rfl, rfl, h0, r0⟩ := trodAll_cons hA
  obtain ⟨v1, vs1, d1, ds1, p1, q1, rfl, rfl, rfl, h1, r1⟩ := trodAll_cons r0
  obtain ⟨v2, vs2, d2, ds2, p2, q2, rfl, rfl, rfl, h2, r2⟩ := trodAll_cons r1
  obtain ⟨rfl, rfl, rfl⟩ := trodAll_nil r2
  obtain rfl : args = #[v0, v1, v2] := by cases args; simp_all
  obtain ⟨rfl, rfl⟩ := trodVars_none hV
  obtain ⟨s, rfl, rfl, rfl, ws⟩ := Go.ChangeMaps.open_string Try.underlying9 (hval 0 9 v0 rfl rfl) h0
  obtain ⟨a1, rfl, rfl, rfl, w1⟩ := open_int Try.underlying32 (hval 1 32 v1 rfl rfl) h1
  obtain ⟨a2, rfl, rfl, rfl, w2⟩ := open_int Try.underlying5 (hval 2 5 v2 rfl rfl) h2
  clear hA0 hval0
  have hw1 : 0 ≤ a1 ∧ a1 ≤ 65535 := by simpa [Lit.wf, IntKind.min, IntKind.max, IntKind.signed, IntKind.bits] using w1
  have hw2 : 0 ≤ a2 ∧ a2 ≤ 255 := by simpa [Lit.wf, IntKind.min, IntKind.max, IntKind.signed, IntKind.bits] using w2
  obtain ⟨m, rfl⟩ := Int.eq_ofNat_of_zero_le hw1.1
  obtain ⟨c, rfl⟩ := Int.eq_ofNat_of_zero_le hw2.1
  have hsz : s.data.toList.length ≤ 9223372036854775807 := by rw [Array.length_toList]; exact ws
  have hc := walk s.data.toList hsz m c (by omega) (by omega) W
  rw [Array.toArray_toList] at hc
  refine hc.mono fun e W' ⟨he, hg⟩ => ?_
  subst he
  exact ⟨_, rfl, law_post rfl (by decide +kernel) (by kernel_rfl) rfl hW' hg⟩

theorem over : Rows.wireTakesRow.holds Try.pinned (OpenSpec.ofChange Rows.wireTakesSpec) :=
  OpenClaim.holds_of_wide 4 Try.f4 rfl rfl rfl rfl rfl rfl rfl ⟨rfl, rfl, rfl, rfl, rfl⟩ rfl rfl rfl rfl rfl (by kernel_rfl) Try.func4 (by kernel_rfl)
    (of_decide_eq_true (by kernel_rfl)) (by unfold Func.isWrapper; first | (rw [if_pos (by decide +kernel)]; kernel_rfl) | (rw [if_neg (by decide +kernel)]; exact ⟨rfl, rfl⟩))
    (fun os started H enc _ => lifted os started H enc)

theorem proved : Rows.WireTakesSaid :=
  over
#print axioms proved
end WireTakes
end Go.Proofs.Ytdpkgmcjofddnaa
