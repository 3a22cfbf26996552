/- For any bytes, cut to the first twenty thousand: what was sealed is four bytes longer, and is opened. No condition. -/
import Derived.Test.YtdjodfajmcaacaaCrcLaw
import Derived.Test.YtdjodfajmcaacaaLawKit
namespace Go.Proofs.Ytdjodfajmcaacaa
open Go.ChangeShapes Go.WideShapes Go.ChangeAt Go.RowKit Go.Lib CM MM CS CE CL LK
namespace CrcBack
/-- The law answers true, and leaves what was there. -/
def Done (w : World) (e : Ending) (w' : World) : Prop := e = .returned (.bool true) ∧ Below w.heap.size w w'
theorem opened_seal (t : List UInt8) : opened (sealB t) = t ∧ isSealed (sealB t) = true := by
  have h := seal_is t
  unfold opened
  rw [h, if_pos rfl, seal_take]
  exact ⟨rfl, rfl⟩

set_option maxRecDepth 100000 in
set_option maxHeartbeats 1000000 in
theorem walk (l : List UInt8) (hl : l.length ≤ 9223372036854775807) (w : World) : Calls Try.prog 5 #[.string ⟨l.toArray⟩] w (Done w) := by
  rcases Nat.lt_or_ge 20000 l.length with hcase | hcase
  · have ht : (l.take 20000).length ≤ 20000 := by rw [List.length_take]; omega
    go_enter Try.func5, Try.ntmps5
    go_wp2_with fail
    rw [take_str]
    generalize l.take 20000 = t at *
    refine (seal_walk t (by omega) _).mono ?_
    rintro e w1 ⟨rfl, b1⟩
    have hopen := open_at (sealB t) t true (opened_seal t) (by rw [seal_length]; omega)
    have hlen := seal_length t
    have HO := Lib.hid hopen
    have heq : (((sealB t).length : Int) == (t.length : Int) + 4) = true := by rw [hlen]; simp
    clear hopen hlen
    generalize sealB t = u at *
    go_wp2_with fail
    refine (HO.out _).mono ?_
    rintro e w2 ⟨rfl, b2⟩
    have B2 := b1.trans (b2.mono b1.size)
    go_wp2_with fail
    refine (works_walk _).mono ?_
    rintro e w3 ⟨rfl, b3⟩
    have B3 := B2.trans (b3.mono B2.size)
    go_wp2
    go_ret
    exact ⟨rfl, B3⟩
  · have ht : l.length ≤ 20000 := hcase
    go_enter Try.func5, Try.ntmps5
    go_wp2_with fail
    rw [take_str, List.take_length]
    generalize l = t at *
    refine (seal_walk t (by omega) _).mono ?_
    rintro e w1 ⟨rfl, b1⟩
    have hopen := open_at (sealB t) t true (opened_seal t) (by rw [seal_length]; omega)
    have hlen := seal_length t
    have HO := Lib.hid hopen
    have heq : (((sealB t).length : Int) == (t.length : Int) + 4) = true := by rw [hlen]; simp
    clear hopen hlen
    generalize sealB t = u at *
    go_wp2_with fail
    refine (HO.out _).mono ?_
    rintro e w2 ⟨rfl, b2⟩
    have B2 := b1.trans (b2.mono b1.size)
    go_wp2_with fail
    refine (works_walk _).mono ?_
    rintro e w3 ⟨rfl, b3⟩
    have B3 := B2.trans (b3.mono B2.size)
    go_wp2
    go_ret
    exact ⟨rfl, B3⟩

set_option maxRecDepth 100000 in
theorem lifted (os : Os) (started : os.Started) (H : Type) (enc : TypeId × Value → H) :
    ReturnsInHanded {} Try.checked os 5 .any (Rows.crcBackSpec.pre6 enc Try.prog Try.f5 Rows.crcBackRow.domain false) (Rows.crcBackSpec.post enc Try.prog Try.f5 false true false false) := by
  refine returnsInHanded_of_change (C := Try.checked) own started (by kernel_rfl) Try.func5
    (ChangeSpec.witness6 (enc := enc) (C := Try.checked) false ⟨#[], #[.string ⟨#[]⟩], []⟩ 8 (by kernel_rfl) (by kernel_rfl) (by kernel_rfl) (by kernel_rfl)) ?_
  intro W base args ds gs before hval0 hW hcnd _
  have hval : ∀ (j : Nat) t v, Try.f5.params[j]? = some t → args[j]? = some v → Value.okWide Try.prog W .any base t v := hval0
  have hW' := hW
  obtain ⟨p, q, hA0, hV, rfl, hfz, hnd⟩ := hW
  have hA : DataW.TrodAll enc Try.prog W 0 (fun _ => true) true Try.f5.params.toList args.toList ds p := hA0
  rw [Try.params5] at hA hval
  obtain ⟨v0, vs0, d0, ds0, p0, q0, hargs, rfl, rfl, h0, r0⟩ := trodAll_cons hA
  obtain ⟨rfl, rfl, rfl⟩ := trodAll_nil r0
  obtain rfl : args = #[v0] := by cases args; simp_all
  obtain ⟨rfl, rfl⟩ := trodVars_none hV
  obtain ⟨s0, rfl, rfl, rfl, ws0⟩ := Go.ChangeMaps.open_string Try.underlying9 (hval 0 9 v0 rfl rfl) h0
  have hsz0 : s0.data.toList.length ≤ 9223372036854775807 := by rw [Array.length_toList]; exact ws0
  clear hA0 hval0
  have hc := walk s0.data.toList hsz0 W
  try rw [Array.toArray_toList] at hc
  refine hc.mono fun e W' ⟨he, hg⟩ => ?_
  subst he
  exact ⟨_, rfl, law_post rfl (by decide +kernel) (by kernel_rfl) rfl hW' hg⟩

theorem over : Rows.crcBackRow.holds Try.pinned (OpenSpec.ofChange Rows.crcBackSpec) :=
  OpenClaim.holds_of_wide 5 Try.f5 rfl rfl rfl rfl rfl rfl rfl ⟨rfl, rfl, rfl, rfl, rfl⟩ rfl rfl rfl rfl rfl (by kernel_rfl) Try.func5 (by kernel_rfl)
    (of_decide_eq_true (by kernel_rfl)) (by unfold Func.isWrapper; first | (rw [if_pos (by decide +kernel)]; kernel_rfl) | (rw [if_neg (by decide +kernel)]; exact ⟨rfl, rfl⟩))
    (fun os started H enc _ => lifted os started H enc)

theorem proved : Rows.CrcBackSaid :=
  over
#print axioms proved
end CrcBack
end Go.Proofs.Ytdjodfajmcaacaa
