/- Items, one behind the other, are laid as the document says, whatever stands ahead of them (forty items at most, fifty bytes ahead at most). No condition. -/
import Derived.Test.YtdpkgmcjofddnaaWireItems
import Derived.Test.YtdpkgmcjofddnaaLawKit
import Derived.ShutString
import Derived.ChangeMaps5
namespace Go.Proofs.Ytdpkgmcjofddnaa
open Go.ChangeShapes Go.WideShapes Go.ChangeAt Go.RowKit Go.Lib WM WW WP WR WL LK WI
namespace WireLays
def Done (w : World) (e : Ending) (w' : World) : Prop := e = .returned (.bool true) ∧ Below w.heap.size w w'

set_option maxRecDepth 100000 in
set_option maxHeartbeats 2000000 in
theorem walk (s : List UInt8) (A : Option Addr) (cap : Nat) (l : List Itm) (hl : l.length ≤ 9223372036854775807) (w : World) (hr : Reads w w.heap.size A l) :
    Calls Try.prog 3 #[.string ⟨s.toArray⟩, .slice A l.length cap] w (Done w) := by
  obtain ⟨hok, hat⟩ := hr
  have HOK := Lib.hid hok
  have HAT := Lib.hid hat
  clear hok hat
  rcases Nat.lt_or_ge 50 s.length with hcase | hcase
  · go_enter Try.func3, Try.ntmps3
    go_wp2
    rw [take_str]
    have ht : (s.take 50).length ≤ 50 := by rw [List.length_take]; omega
    generalize s.take 50 = t at *
    go_loopw [5, 6, 7] (fun x y i wr => ∃ (k : Nat) (u : List UInt8), k ≤ l.length ∧ k ≤ 40 ∧ i = .int .i64 k ∧ x = .string ⟨u.toArray⟩ ∧ y = .string ⟨u.toArray⟩ ∧ u.length ≤ 50 + 210 * k ∧ Below w.heap.size w wr) (fun _ _ i _ => 40 - (intOf i).toNat)
    case atStart => exact ⟨0, t, by omega, by omega, rfl, rfl, rfl, by omega, Below.refl _ _⟩
    case round =>
      obtain ⟨k, u, hk, hk40, rfl, rfl, rfl, hu, hbel⟩ := hrel
      by_cases hlt : k < l.length ∧ k < 40
      · obtain ⟨hlt, hlt40⟩ := hlt
        obtain ⟨b, off, rfl, hb, hcells⟩ := HAT.out (by omega)
        obtain ⟨g0, g1, g2⟩ := hcells k l[k] (List.getElem?_eq_getElem hlt)
        have hx := HOK.out l[k] (List.getElem_mem hlt)
        have hB1 := l[k].bytes_le
        generalize hxe : l[k] = x at *
        clear hxe
        obtain ⟨bt, xs, xn⟩ := x
        have hput := put_walk ⟨bt, xs, xn⟩ hx u (by omega)
        have htext := text_walk ⟨bt, xs, xn⟩ hx.2
        have hn : U64 xn := hx.1
        have htl := Itm.text_le ⟨bt, xs, xn⟩
        rw [← hbel.cell (p := ⟨b, off + k * 3, none⟩) hb] at g0
        rw [← hbel.cell (p := ⟨b, off + k * 3 + 1, none⟩) hb] at g1
        rw [← hbel.cell (p := ⟨b, off + k * 3 + 2, none⟩) hb] at g2
        clear hcells hx
        dsimp only at hput htext g0 g1 g2
        have HTX := Lib.hid htext
        have HPUT := Lib.hid hput
        clear htext hput
        cases bt with
        | true =>
          have HB : Hid ((Itm.mk true xs xn).bytes = textB (Itm.mk true xs xn).text) := by show _ = _; simp [Itm.bytes]
          generalize (Itm.mk true xs xn).bytes = bs at *
          generalize (Itm.mk true xs xn).text = tx at *
          go_wp2_with fail
          refine (HPUT.out _).mono ?_
          rintro e w1 ⟨rfl, b1⟩
          have B1 := hbel.trans (b1.mono hbel.size)
          rw [← b1.cell (p := ⟨b, off + k * 3, none⟩) (Nat.lt_of_lt_of_le hb hbel.size)] at g0
          rw [← b1.cell (p := ⟨b, off + k * 3 + 1, none⟩) (Nat.lt_of_lt_of_le hb hbel.size)] at g1
          rw [← b1.cell (p := ⟨b, off + k * 3 + 2, none⟩) (Nat.lt_of_lt_of_le hb hbel.size)] at g2
          clear b1 hbel
          go_wp2_with fail
          refine (HTX.out _).mono ?_
          rintro e w2 ⟨rfl, b2⟩
          go_wp2_with fail
          refine (refText_walk u tx (by omega) (by omega) _).mono ?_
          rw [← HB.out]
          rintro e w3 ⟨rfl, b3⟩
          have B2 := B1.trans (b2.mono B1.size)
          have B3 := B2.trans (b3.mono B2.size)
          go_wp2
          go_roundw
          case rel => exact ⟨k + 1, u ++ bs, by omega, by omega, by go_num, rfl, rfl, by rw [List.length_append]; omega, B3⟩
          case measure => simp [intOf]; omega
        | false =>
          have HB : Hid ((Itm.mk false xs xn).bytes = numB xn) := by show _ = _; simp [Itm.bytes]
          generalize (Itm.mk false xs xn).bytes = bs at *
          clear htl HTX
          go_wp2_with fail
          refine (HPUT.out _).mono ?_
          rintro e w1 ⟨rfl, b1⟩
          have B1 := hbel.trans (b1.mono hbel.size)
          rw [← b1.cell (p := ⟨b, off + k * 3, none⟩) (Nat.lt_of_lt_of_le hb hbel.size)] at g0
          rw [← b1.cell (p := ⟨b, off + k * 3 + 1, none⟩) (Nat.lt_of_lt_of_le hb hbel.size)] at g1
          rw [← b1.cell (p := ⟨b, off + k * 3 + 2, none⟩) (Nat.lt_of_lt_of_le hb hbel.size)] at g2
          clear b1 hbel
          go_wp2_with fail
          refine (refNum_walk u xn hn (by omega) _).mono ?_
          rw [← HB.out]
          rintro e w3 ⟨rfl, b3⟩
          have B3 := B1.trans (b3.mono B1.size)
          go_wp2
          go_roundw
          case rel => exact ⟨k + 1, u ++ bs, by omega, by omega, by go_num, rfl, rfl, by rw [List.length_append]; omega, B3⟩
          case measure => simp [intOf]; omega
      · by_cases hkl : k < l.length
        · have h40 : k = 40 := by omega
          subst h40
          go_wp2_with fail
          refine (works_walk _).mono ?_
          rintro e w2 ⟨rfl, b2⟩
          go_wp2
          go_ret
          exact ⟨rfl, hbel.trans (b2.mono hbel.size)⟩
        · go_wp2_with fail
          refine (works_walk _).mono ?_
          rintro e w2 ⟨rfl, b2⟩
          go_wp2
          go_ret
          exact ⟨rfl, hbel.trans (b2.mono hbel.size)⟩
  · go_enter Try.func3, Try.ntmps3
    go_wp2
    rw [take_str, List.take_length]
    have ht := hcase
    generalize s = t at *
    go_loopw [5, 6, 7] (fun x y i wr => ∃ (k : Nat) (u : List UInt8), k ≤ l.length ∧ k ≤ 40 ∧ i = .int .i64 k ∧ x = .string ⟨u.toArray⟩ ∧ y = .string ⟨u.toArray⟩ ∧ u.length ≤ 50 + 210 * k ∧ Below w.heap.size w wr) (fun _ _ i _ => 40 - (intOf i).toNat)
    case atStart => exact ⟨0, t, by omega, by omega, rfl, rfl, rfl, by omega, Below.refl _ _⟩
    case round =>
      obtain ⟨k, u, hk, hk40, rfl, rfl, rfl, hu, hbel⟩ := hrel
      by_cases hlt : k < l.length ∧ k < 40
      · obtain ⟨hlt, hlt40⟩ := hlt
        obtain ⟨b, off, rfl, hb, hcells⟩ := HAT.out (by omega)
        obtain ⟨g0, g1, g2⟩ := hcells k l[k] (List.getElem?_eq_getElem hlt)
        have hx := HOK.out l[k] (List.getElem_mem hlt)
        have hB1 := l[k].bytes_le
        generalize hxe : l[k] = x at *
        clear hxe
        obtain ⟨bt, xs, xn⟩ := x
        have hput := put_walk ⟨bt, xs, xn⟩ hx u (by omega)
        have htext := text_walk ⟨bt, xs, xn⟩ hx.2
        have hn : U64 xn := hx.1
        have htl := Itm.text_le ⟨bt, xs, xn⟩
        rw [← hbel.cell (p := ⟨b, off + k * 3, none⟩) hb] at g0
        rw [← hbel.cell (p := ⟨b, off + k * 3 + 1, none⟩) hb] at g1
        rw [← hbel.cell (p := ⟨b, off + k * 3 + 2, none⟩) hb] at g2
        clear hcells hx
        dsimp only at hput htext g0 g1 g2
        have HTX := Lib.hid htext
        have HPUT := Lib.hid hput
        clear htext hput
        cases bt with
        | true =>
          have HB : Hid ((Itm.mk true xs xn).bytes = textB (Itm.mk true xs xn).text) := by show _ = _; simp [Itm.bytes]
          generalize (Itm.mk true xs xn).bytes = bs at *
          generalize (Itm.mk true xs xn).text = tx at *
          go_wp2_with fail
          refine (HPUT.out _).mono ?_
          rintro e w1 ⟨rfl, b1⟩
          have B1 := hbel.trans (b1.mono hbel.size)
          rw [← b1.cell (p := ⟨b, off + k * 3, none⟩) (Nat.lt_of_lt_of_le hb hbel.size)] at g0
          rw [← b1.cell (p := ⟨b, off + k * 3 + 1, none⟩) (Nat.lt_of_lt_of_le hb hbel.size)] at g1
          rw [← b1.cell (p := ⟨b, off + k * 3 + 2, none⟩) (Nat.lt_of_lt_of_le hb hbel.size)] at g2
          clear b1 hbel
          go_wp2_with fail
          refine (HTX.out _).mono ?_
          rintro e w2 ⟨rfl, b2⟩
          go_wp2_with fail
          refine (refText_walk u tx (by omega) (by omega) _).mono ?_
          rw [← HB.out]
          rintro e w3 ⟨rfl, b3⟩
          have B2 := B1.trans (b2.mono B1.size)
          have B3 := B2.trans (b3.mono B2.size)
          go_wp2
          go_roundw
          case rel => exact ⟨k + 1, u ++ bs, by omega, by omega, by go_num, rfl, rfl, by rw [List.length_append]; omega, B3⟩
          case measure => simp [intOf]; omega
        | false =>
          have HB : Hid ((Itm.mk false xs xn).bytes = numB xn) := by show _ = _; simp [Itm.bytes]
          generalize (Itm.mk false xs xn).bytes = bs at *
          clear htl HTX
          go_wp2_with fail
          refine (HPUT.out _).mono ?_
          rintro e w1 ⟨rfl, b1⟩
          have B1 := hbel.trans (b1.mono hbel.size)
          rw [← b1.cell (p := ⟨b, off + k * 3, none⟩) (Nat.lt_of_lt_of_le hb hbel.size)] at g0
          rw [← b1.cell (p := ⟨b, off + k * 3 + 1, none⟩) (Nat.lt_of_lt_of_le hb hbel.size)] at g1
          rw [← b1.cell (p := ⟨b, off + k * 3 + 2, none⟩) (Nat.lt_of_lt_of_le hb hbel.size)] at g2
          clear b1 hbel
          go_wp2_with fail
          refine (refNum_walk u xn hn (by omega) _).mono ?_
          rw [← HB.out]
          rintro e w3 ⟨rfl, b3⟩
          have B3 := B1.trans (b3.mono B1.size)
          go_wp2
          go_roundw
          case rel => exact ⟨k + 1, u ++ bs, by omega, by omega, by go_num, rfl, rfl, by rw [List.length_append]; omega, B3⟩
          case measure => simp [intOf]; omega
      · by_cases hkl : k < l.length
        · have h40 : k = 40 := by omega
          subst h40
          go_wp2_with fail
          refine (works_walk _).mono ?_
          rintro e w2 ⟨rfl, b2⟩
          go_wp2
          go_ret
          exact ⟨rfl, hbel.trans (b2.mono hbel.size)⟩
        · go_wp2_with fail
          refine (works_walk _).mono ?_
          rintro e w2 ⟨rfl, b2⟩
          go_wp2
          go_ret
          exact ⟨rfl, hbel.trans (b2.mono hbel.size)⟩

set_option maxRecDepth 100000 in
theorem lifted (os : Os) (started : os.Started) (H : Type) (enc : TypeId × Value → H) :
    ReturnsInHanded {} Try.checked os 3 .any (Rows.wireLaysSpec.pre6 enc Try.prog Try.f3 Rows.wireLaysRow.domain false) (Rows.wireLaysSpec.post enc Try.prog Try.f3 false true false false) := by
  refine returnsInHanded_of_change (C := Try.checked) own started (by kernel_rfl) Try.func3
    (ChangeSpec.witness6 (enc := enc) (C := Try.checked) false ⟨#[], #[.string ⟨#[]⟩, .slice none 0 0], []⟩ 8 (by kernel_rfl) (by kernel_rfl) (by kernel_rfl) (by kernel_rfl)) ?_
  intro W base args ds gs before hval0 hW hcnd _
  have hval : ∀ (j : Nat) t v, Try.f3.params[j]? = some t → args[j]? = some v → Value.okWide Try.prog W .any base t v := hval0
  have hW' := hW
  obtain ⟨p, q, hA0, hV, rfl, hfz, hnd⟩ := hW
  have hA : DataW.TrodAll enc Try.prog W 0 (fun _ => true) true Try.f3.params.toList args.toList ds p := hA0
  rw [Try.params3] at hA hval
  obtain ⟨v0, vs0, d0, ds0, p0, q0, hargs, rfl, rfl, h0, r0⟩ := trodAll_cons hA
  obtain ⟨v1, vs1, d1, ds1, p1, q1, rfl, rfl, rfl, h1, r1⟩ := trodAll_cons r0
  obtain ⟨rfl, rfl, rfl⟩ := trodAll_nil r1
  obtain rfl : args = #[v0, v1] := by cases args; simp_all
  obtain ⟨rfl, rfl⟩ := trodVars_none hV
  obtain ⟨s0, rfl, rfl, rfl, ws0⟩ := Go.ChangeMaps.open_string Try.underlying9 (hval 0 9 v0 rfl rfl) h0
  have hsz0 : s0.data.toList.length ≤ 9223372036854775807 := by rw [Array.length_toList]; exact ws0
  obtain ⟨A1, cap1, l1, rfl, hr1, hc1, hm1⟩ := open_items (hval 1 22 v1 rfl rfl) h1
  clear hA0 hval0
  have hc := walk s0.data.toList A1 cap1 l1 (by omega) W hr1
  try rw [Array.toArray_toList] at hc
  refine hc.mono fun e W' ⟨he, hg⟩ => ?_
  subst he
  exact ⟨_, rfl, law_post rfl (by decide +kernel) (by kernel_rfl) rfl hW' hg⟩

theorem over : Rows.wireLaysRow.holds Try.pinned (OpenSpec.ofChange Rows.wireLaysSpec) :=
  OpenClaim.holds_of_wide 3 Try.f3 rfl rfl rfl rfl rfl rfl rfl ⟨rfl, rfl, rfl, rfl, rfl⟩ rfl rfl rfl rfl rfl (by kernel_rfl) Try.func3 (by kernel_rfl)
    (of_decide_eq_true (by kernel_rfl)) (by unfold Func.isWrapper; first | (rw [if_pos (by decide +kernel)]; kernel_rfl) | (rw [if_neg (by decide +kernel)]; exact ⟨rfl, rfl⟩))
    (fun os started H enc _ => lifted os started H enc)

theorem proved : Rows.WireLaysSaid :=
  over
#print axioms proved
end WireLays
end Go.Proofs.Ytdpkgmcjofddnaa
