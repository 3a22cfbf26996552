/- THE STAGE'S THEOREM: a row of items (thirty at most) is read back, item by item, and is at its end then, not ahead of it; where it is cut, what stands wholly ahead of the cut is read, and the next one fails, and whatever is asked behind it. No condition. -/
import Derived.Test.YtdpkgmcjofddnaaWireAsk
import Derived.Test.YtdpkgmcjofddnaaLawKit
import Derived.ShutString
import Derived.Deep.RegionHeld3
import Derived.Deep.AppendLies
import Derived.ChangeMaps5
namespace Go.Proofs.Ytdpkgmcjofddnaa
open Go.ChangeShapes Go.WideShapes Go.ChangeAt Go.RowKit Go.Lib WM WW WP WR WL LK WI
namespace WireRow
def Done (w : World) (e : Ending) (w' : World) : Prop := e = .returned (.bool true) ∧ Below w.heap.size w w'

/-- The items' bytes, one behind the other; where the item k begins. -/
def row (l : List Itm) : List UInt8 := l.flatMap Itm.bytes
def start (l : List Itm) (k : Nat) : Nat := (row (l.take k)).length
theorem row_split (l : List Itm) (k : Nat) : row l = row (l.take k) ++ row (l.drop k) := by
  unfold row; rw [← List.flatMap_append, List.take_append_drop]
theorem row_drop {l : List Itm} {k : Nat} (h : k < l.length) : row (l.drop k) = l[k].bytes ++ row (l.drop (k + 1)) := by
  unfold row; rw [List.drop_eq_getElem_cons h, List.flatMap_cons]
theorem row_take {l : List Itm} {k : Nat} (h : k < l.length) : row (l.take (k + 1)) = row (l.take k) ++ l[k].bytes := by
  unfold row; rw [List.take_succ_eq_append_getElem h, List.flatMap_append, List.flatMap_cons, List.flatMap_nil, List.append_nil]
theorem row_le : ∀ l : List Itm, (row l).length ≤ 210 * l.length
  | [] => by simp [row]
  | x :: l => by
    have := row_le l
    have h := x.bytes_le
    unfold row at *
    rw [List.flatMap_cons, List.length_append, List.length_cons]
    omega
theorem start_succ {l : List Itm} {k : Nat} (h : k < l.length) : start l (k + 1) = start l k + l[k].bytes.length := by
  unfold start; rw [row_take h, List.length_append]
theorem start_zero (l : List Itm) : start l 0 = 0 := by simp [start, row]
theorem start_le (l : List Itm) (k : Nat) : start l k ≤ (row l).length := by
  have := congrArg List.length (row_split l k)
  rw [List.length_append] at this
  unfold start; omega
theorem start_end (l : List Itm) : start l l.length = (row l).length := by unfold start; rw [List.take_length]
theorem start_bound (l : List Itm) (k : Nat) (h : l.length ≤ 30) : start l k ≤ 6300 := by
  have h1 := start_le l k
  have h2 := row_le l
  omega

/-- What a reader of the row, cut at m, has left at the item k. -/
def left (l : List Itm) (m k : Nat) : List UInt8 := (row (l.drop k)).take (m - start l k)
theorem left_zero (l : List Itm) (m : Nat) : left l m 0 = (row l).take m := by simp [left, start_zero]
theorem left_more {l : List Itm} {m k : Nat} (h : k < l.length) (hm : start l (k + 1) ≤ m) : left l m k = l[k].bytes ++ left l m (k + 1) := by
  have hs := start_succ h
  unfold left
  rw [row_drop h, List.take_append, List.take_of_length_le (by omega)]
  congr 2
  omega
theorem left_cut {l : List Itm} {m k : Nat} (h : k < l.length) (hm : m < start l (k + 1)) : left l m k = l[k].bytes.take (m - start l k) ∧ m - start l k < l[k].bytes.length := by
  have hs := start_succ h
  have hb := l[k].bytes_le
  unfold left
  rw [row_drop h, List.take_append_of_le_length (by omega)]
  exact ⟨rfl, by omega⟩
theorem left_isEmpty {l : List Itm} {m k : Nat} (hm : start l k ≤ m) (hl : m ≤ (row l).length) : (left l m k).isEmpty = decide (start l k = m) := by
  have hs := congrArg List.length (row_split l k)
  rw [List.length_append] at hs
  have hlen : (left l m k).length = m - start l k := by
    unfold left
    rw [List.length_take]
    unfold start at *
    omega
  rw [Bool.eq_iff_iff, List.isEmpty_iff_length_eq_zero, hlen]
  simp; omega
theorem left_le (l : List Itm) (m k : Nat) (h : l.length ≤ 30) : (left l m k).length ≤ 6300 := by
  have := row_le (l.drop k)
  rw [List.length_drop] at this
  unfold left
  rw [List.length_take]; omega
theorem row_drop_ne {l : List Itm} {k : Nat} (h : k < l.length) : (row (l.drop k)).isEmpty = false := by
  have hb := l[k].bytes_le
  rw [row_drop h]
  cases hx : l[k].bytes with
  | nil => rw [hx] at hb; simp at hb
  | cons a r => rfl

/-- No item is read from a beginning of its bytes. -/
theorem cut_num {n m : Nat} (hn : U64 n) (hm : m < (numB n).length) : numS ((numB n).take m) false = (0, [], true) := numS_none (first_cut hn.lt hm)
theorem cut_text {t : List UInt8} {m : Nat} (ht : t.length ≤ 200) (hm : m < (textB t).length) : textS ((textB t).take m) false = ([], [], true) := by
  have hU : t.length < 2 ^ 64 := by omega
  rw [textB, List.length_append] at hm
  rcases Nat.lt_or_ge m (numB t.length).length with h | h
  · rw [textB, List.take_append_of_le_length (by omega)]
    exact textS_none (first_cut hU h)
  · have e : (textB t).take m = numB t.length ++ t.take (m - (numB t.length).length) := by
      rw [textB, List.take_append, List.take_of_length_le h]
    rw [e]
    have hf := first_numB t.length (t.take (m - (numB t.length).length)) hU
    refine textS_long hf ?_
    rw [List.drop_left, List.length_take]
    omega
/-- What is asked of a reader that has failed. -/
theorem bad_num : numS [] true = (0, [], true) := rfl
theorem bad_text : textS [] true = ([], [], true) := rfl

theorem reads_take {w : World} {B : Nat} {A : Option Addr} {l : List Itm} (h : Reads w B A l) (k : Nat) : Reads w B A (l.take k) := by
  refine ⟨fun x hx => h.1 x (List.mem_of_mem_take hx), fun h0 => ?_⟩
  rw [List.length_take] at h0
  obtain ⟨b, off, e, hb, hc⟩ := h.2 (by omega)
  refine ⟨b, off, e, hb, fun i x hx => hc i x ?_⟩
  rw [List.getElem?_take] at hx
  split at hx
  · exact hx
  · simp at hx

theorem intInfo : (Try.prog.info? 3).map (fun i => (i.zero, i.size, i.bytes)) = some (some (.int .i64 0), 1, 8) := by kernel_rfl
/-- Where the first k items end. -/
def ends (l : List Itm) (k : Nat) : List Value := (List.range k).map fun j => .int .i64 (start l (j + 1) : Nat)
theorem ends_succ (l : List Itm) (k : Nat) : ends l (k + 1) = ends l k ++ [.int .i64 (start l (k + 1) : Nat)] := by
  unfold ends; rw [List.range_succ, List.map_append]; rfl
theorem ends_get {l : List Itm} {k n : Nat} (h : k < n) : (ends l n)[k]? = some (.int .i64 (start l (k + 1) : Nat)) := by
  unfold ends; rw [List.getElem?_map, List.getElem?_range h]; rfl
theorem only_under {B : Nat} {a b c : World} {v : Value} (h : Below B a b) (g : b.grownBy c v.ownBlock) (hB : B ≤ b.heap.size) (hv : ∀ k, v.ownBlock = some k → B ≤ k) : Below B a c := h.grown g hB hv
theorem own_from {w : World} {base : Nat} {e : TypeId} {size n : Nat} {v : Value} {xs : List Value} (h : w.ownsRow base e size v n xs) : ∀ k, v.ownBlock = some k → base ≤ k := by
  intro k hk
  rcases h.2 with ⟨rfl, _⟩ | ⟨g, cap, cur, rfl, hg, _⟩
  · simp [Value.ownBlock] at hk
  · simp [Value.ownBlock] at hk; omega

theorem one_new (W : World) (v : Value) (e : TypeId) : ∀ (j : Nat) (u : Value), [v][j]? = some u → (W.alloc (.cells #[v] e)).cell? ((⟨W.heap.size, 0, none⟩ : Addr).add j) = some u := by
  intro j u hj
  have hj0 : j = 0 := by
    have := (List.getElem?_eq_some_iff.1 hj).1
    simp at this
    omega
  subst hj0
  simp only [List.getElem?_cons_zero, Option.some.injEq] at hj
  subst hj
  simp [Addr.add]
/-- The slice of the ends, as it can be read. -/
def EndsAt (w : World) (v : Value) (l : List Itm) (n : Nat) : Prop :=
  0 < n → ∃ g cap, v = .slice (some ⟨g, 0, none⟩) n cap ∧ g < w.heap.size ∧ ∀ j, j < n → w.cell? ⟨g, j, none⟩ = some (.int .i64 (start l (j + 1) : Nat))
theorem ends_at {w : World} {base n : Nat} {v : Value} {l : List Itm} (h : w.ownsRow base 3 1 v n (ends l n)) : EndsAt w v l n := by
  intro h0
  obtain ⟨g, cap, hv, _, hlt⟩ := h.form h0
  refine ⟨g, cap, hv, hlt, fun j hj => ?_⟩
  have := h.cells (g := g) (by rw [hv]; rfl) j _ (ends_get hj)
  rwa [WI.add_plain, Nat.zero_add] at this
/-- 'ask', whatever the item. -/
theorem ask_walk (x : Itm) (hx : x.ok) (rest : List UInt8) (hrest : rest.length ≤ 1073741824) (g : Nat) (w : World) (h : Rd w g (x.bytes ++ rest) false) :
    Calls Try.prog 24 #[.pointer (some ⟨g, 0, none⟩), .agg #[.bool x.isText, .string ⟨x.s.toArray⟩, .int .u64 x.n]] w (WA.Asked w g rest) := by
  obtain ⟨b, s, n⟩ := x
  cases b with
  | true => exact WA.ask_text s n hx.2 rest hrest g w h
  | false => exact WA.ask_num s n hx.1 rest hrest g w h
/-- Cells of other blocks stay while one block is written. -/
theorem held {a c : World} {q b g o0 o1 o2 og : Nat} {v0 v1 v2 vg : Value} (h : a.grownBy c (some q)) (hb : b ≠ q) (hg : g ≠ q) (h0 : a.cell? ⟨b, o0, none⟩ = some v0) (h1 : a.cell? ⟨b, o1, none⟩ = some v1) (h2 : a.cell? ⟨b, o2, none⟩ = some v2) (h3 : a.cell? ⟨g, og, none⟩ = some vg) :
    c.cell? ⟨b, o0, none⟩ = some v0 ∧ c.cell? ⟨b, o1, none⟩ = some v1 ∧ c.cell? ⟨b, o2, none⟩ = some v2 ∧ c.cell? ⟨g, og, none⟩ = some vg :=
  ⟨h.cell h0 (by intro e; injection e with e; exact hb e), h.cell h1 (by intro e; injection e with e; exact hb e), h.cell h2 (by intro e; injection e with e; exact hb e), h.cell h3 (by intro e; injection e with e; exact hg e)⟩
theorem row_nil {l : List Itm} {k : Nat} (h : l.length ≤ k) : (row (l.drop k)).isEmpty = true := by
  rw [List.drop_eq_nil_of_le h]; rfl
theorem cut_at (c n : Nat) : ∃ m : Nat, ((c : Int) % ((n : Int) + 1)) = (m : Int) ∧ m ≤ n :=
  ⟨c % (n + 1), by rw [Int.natCast_emod]; rfl, by have := Nat.mod_lt c (show 0 < n + 1 by omega); omega⟩

set_option maxRecDepth 100000 in
set_option maxHeartbeats 4000000 in
theorem walk (A : Option Addr) (cap : Nat) (l : List Itm) (hl : l.length ≤ cap) (hcap : cap ≤ 9223372036854775807) (c : Nat) (hc : c ≤ 65535) (w : World) (hr : Reads w w.heap.size A l) :
    Calls Try.prog 6 #[.slice A l.length cap, .int .u16 c] w (Done w) := by
  obtain ⟨i0, hi, hz0, hz1, hz2⟩ := info_parts intInfo
  rcases Nat.lt_or_ge 30 l.length with hcase | hcase
  · go_enter Try.func6, Try.ntmps6
    go_wp2
    obtain ⟨L, hL, hrL⟩ : ∃ L : List Itm, L.length = 30 ∧ Reads w w.heap.size A L := ⟨l.take 30, by rw [List.length_take]; omega, reads_take hr 30⟩
    clear hr hcase hl
    obtain ⟨hok, hat⟩ := hrL
    have HL := Lib.hid hL
    have HOK := Lib.hid hok
    have HAT := Lib.hid hat
    clear hok hat hL
    go_loopw [5, 6, 7] (fun x v i wr => ∃ k : Nat, k ≤ 30 ∧ i = .int .i64 k ∧ x = .string ⟨(row (L.take k)).toArray⟩ ∧ wr.ownsRow w.heap.size 3 1 v k (ends L k) ∧ Below w.heap.size w wr) (fun _ _ i _ => 30 - (intOf i).toNat)
    case atStart => exact ⟨0, by omega, rfl, by simp [row], ⟨rfl, Or.inl ⟨rfl, rfl⟩⟩, Below.refl _ _⟩
    case round =>
      obtain ⟨k, hk, rfl, rfl, hown, hbel⟩ := hrel
      by_cases hlt : k < 30
      · have hltL : k < L.length := by rw [HL.out]; exact hlt
        obtain ⟨b, off, rfl, hb, hcells⟩ := HAT.out (by omega)
        obtain ⟨g0, g1, g2⟩ := hcells k L[k] (List.getElem?_eq_getElem hltL)
        have hx := HOK.out L[k] (List.getElem_mem hltL)
        have hsl := start_bound L k (by rw [HL.out]; omega)
        have hs2 := start_bound L (k + 1) (by rw [HL.out]; omega)
        have hput := put_walk L[k] hx (row (L.take k)) (by unfold start at hsl; omega)
        rw [← row_take hltL] at hput
        generalize L[k] = x at *
        rw [← hbel.cell (p := ⟨b, off + k * 3, none⟩) hb] at g0
        rw [← hbel.cell (p := ⟨b, off + k * 3 + 1, none⟩) hb] at g1
        rw [← hbel.cell (p := ⟨b, off + k * 3 + 2, none⟩) hb] at g2
        have HPUT := Lib.hid hput
        clear hput hcells hx hltL hsl
        go_wp2_with fail
        refine (HPUT.out _).mono ?_
        rintro e w1 ⟨rfl, b1⟩
        have B1 := hbel.trans (b1.mono hbel.size)
        have hown1 : w1.ownsRow w.heap.size 3 1 u6 k (ends L k) := hown.kept (only_of_under b1 none) (by cases hv : u6.ownBlock <;> simp)
        have hob := own_from hown1
        have HOB := Lib.hid hob
        clear hown hob b1 hbel g0 g1 g2 HPUT
        go_wp2_with (at_builtin; refine wpList_append_own _ rfl _ _ 42 rfl w.heap.size 3 i0 (.int .i64 0) 1 8 Try.underlying42 hi hz0 hz1 hz2 rfl (by decide) _ _ _ rfl (hown1.alloc _) ⟨w1.heap.size, 0, none⟩ 1 1 [.int .i64 ((row (L.take (k + 1))).length : Nat)] rfl rfl ?c1 ?c2 ?c3 ?c4 ?c5 ?_)
        case c1 => exact one_new _ _ _
        case c2 => intro u hu; simp only [List.mem_singleton] at hu; subst hu; rfl
        case c3 => unfold maxLen; omega
        case c4 => omega
        case c5 => simp; have := B1.size; omega
        intro v' w2 hown2 hgrow _
        have B2 := (B1.alloc B1.size _).grown hgrow (by simp; have := B1.size; omega) (fun q hq => HOB.out q hq)
        clear hgrow hown1 HOB
        go_wp2
        go_roundw
        case rel =>
          refine ⟨k + 1, by omega, by go_num, rfl, ?_, B2⟩
          rw [ends_succ]
          exact hown2
        case measure => simp [intOf]; omega
      · have hkn : 30 = k := by omega
        subst hkn
        obtain ⟨wE, rfl⟩ : ∃ wE : World, wE = wr := ⟨_, rfl⟩
        have hT : L.take 30 = L := List.take_of_length_le (by rw [HL.out]; omega)
        rw [hT]
        have hE := ends_at hown
        have HE := Lib.hid hE
        clear hE hT hown hlt hk
        have hrow := start_end L
        have hrb := start_bound L L.length (by rw [HL.out]; omega)
        rw [hrow] at hrb
        clear hrow
        go_wp2_with fail
        refine (newReader_walk (row L) _).mono ?_
        rintro e w1 ⟨rfl, h1, b1⟩
        go_wp2
        go_loopw [9] (fun i wx => ∃ k : Nat, k ≤ 30 ∧ i = .int .i64 k ∧ Rd wx wE.heap.size (row (L.drop k)) false ∧ Below wE.heap.size wE wx) (fun i _ => 30 - (intOf i).toNat)
        case atStart => exact ⟨0, by omega, rfl, h1, b1⟩
        case round =>
          obtain ⟨k, hk, rfl, hrd, hbx⟩ := hrel
          by_cases hlt : k < 30
          · have hltL : k < L.length := by rw [HL.out]; exact hlt
            obtain ⟨b, off, rfl, hb, hcells⟩ := HAT.out (by omega)
            obtain ⟨g0, g1, g2⟩ := hcells k L[k] (List.getElem?_eq_getElem hltL)
            have hx := HOK.out L[k] (List.getElem_mem hltL)
            have hne := row_drop_ne hltL
            have hask := fun (W : World) (hW : Rd W wE.heap.size (L[k].bytes ++ row (L.drop (k + 1))) false) => ask_walk L[k] hx (row (L.drop (k + 1))) (by have := row_le (L.drop (k + 1)); rw [List.length_drop, HL.out] at this; omega) wE.heap.size W hW
            rw [← row_drop hltL] at hask
            generalize L[k] = x at *
            have hb2 := Nat.lt_of_lt_of_le hb hbel.size
            rw [← hbel.cell (p := ⟨b, off + k * 3, none⟩) hb, ← hbx.cell (p := ⟨b, off + k * 3, none⟩) hb2] at g0
            rw [← hbel.cell (p := ⟨b, off + k * 3 + 1, none⟩) hb, ← hbx.cell (p := ⟨b, off + k * 3 + 1, none⟩) hb2] at g1
            rw [← hbel.cell (p := ⟨b, off + k * 3 + 2, none⟩) hb, ← hbx.cell (p := ⟨b, off + k * 3 + 2, none⟩) hb2] at g2
            have HASK := Lib.hid hask
            have HNE := Lib.hid hne
            clear hask hcells hx hltL hne hb2
            go_wp2_with fail
            refine (end_walk _ _ _ _ hrd).mono ?_
            rw [HNE.out]
            rintro e w2 ⟨rfl, rfl⟩
            go_wp2_with fail
            refine (HASK.out _ hrd).mono ?_
            rintro e w2 ⟨rfl, hrd2, gx⟩
            go_wp2_with fail
            refine (WR.ok_walk _ _ _ _ hrd2).mono ?_
            rintro e w3 ⟨rfl, rfl⟩
            go_wp2
            go_roundw
            case rel => exact ⟨k + 1, by omega, by go_num, hrd2, under_of_only hbx gx hbx.size (Nat.le_refl _)⟩
            case measure => simp [intOf]; omega
          · have hkn : 30 = k := by omega
            subst hkn
            have hnil := row_nil (l := L) (k := 30) (by rw [HL.out]; omega)
            have HN := Lib.hid hnil
            obtain ⟨m, hm, hmle⟩ := cut_at c (row L).length
            clear hnil hlt hk
            obtain ⟨wX, rfl⟩ : ∃ wX : World, wX = wr := ⟨_, rfl⟩
            go_wp2_with fail
            refine (end_walk _ _ _ _ hrd).mono ?_
            rw [HN.out]
            rintro e w2 ⟨rfl, rfl⟩
            clear hrd h1 b1
            go_wp2_with fail
            rw [take_str, hm]
            refine (newReader_walk ((row L).take m) _).mono ?_
            rintro e w3 ⟨rfl, h3, b3⟩
            have B3 := hbx.trans (b3.mono hbx.size)
            have HM := Lib.hid hm
            have hg2 := hbx.size
            clear hm b3
            go_wp2
            go_loopw [12] (fun i wy => ∃ k : Nat, k ≤ 30 ∧ i = .int .i64 k ∧ Rd wy wX.heap.size (left L m k) false ∧ start L k ≤ m ∧ Below wE.heap.size wE wy) (fun i _ => 30 - (intOf i).toNat)
            case atStart => exact ⟨0, by omega, rfl, by rw [left_zero]; exact h3, by rw [start_zero]; omega, B3⟩
            case round =>
              obtain ⟨k, hk, rfl, hrd, hst, hby⟩ := hrel
              clear h3 B3
              by_cases hlt : k < 30
              · have hltL : k < L.length := by rw [HL.out]; exact hlt
                obtain ⟨g, capg, rfl, hg, hends⟩ := HE.out (by omega)
                have he := hends k hlt
                have he0 := Lib.hid he
                rw [← hby.cell (p := ⟨g, k, none⟩) hg] at he
                obtain ⟨b, off, rfl, hb, hcells⟩ := HAT.out (by omega)
                obtain ⟨g0, g1, g2⟩ := hcells k L[k] (List.getElem?_eq_getElem hltL)
                have hx := HOK.out L[k] (List.getElem_mem hltL)
                have hb2 := Nat.lt_of_lt_of_le hb hbel.size
                rw [← hbel.cell (p := ⟨b, off + k * 3, none⟩) hb, ← hby.cell (p := ⟨b, off + k * 3, none⟩) hb2] at g0
                rw [← hbel.cell (p := ⟨b, off + k * 3 + 1, none⟩) hb, ← hby.cell (p := ⟨b, off + k * 3 + 1, none⟩) hb2] at g1
                rw [← hbel.cell (p := ⟨b, off + k * 3 + 2, none⟩) hb, ← hby.cell (p := ⟨b, off + k * 3 + 2, none⟩) hb2] at g2
                by_cases hA : start L (k + 1) ≤ m
                · have hmore := left_more hltL hA
                  have hll := left_le L m (k + 1) (by rw [HL.out]; omega)
                  have hask := fun (W : World) (hW : Rd W wX.heap.size (L[k].bytes ++ left L m (k + 1)) false) => ask_walk L[k] hx (left L m (k + 1)) (by omega) wX.heap.size W hW
                  rw [← hmore] at hask
                  have hemp := left_isEmpty hA hmle
                  have HEMP := Lib.hid hemp
                  have heq : (((start L (k + 1) : Nat) : Int) == (m : Int)) = decide (start L (k + 1) = m) := by rw [Bool.eq_iff_iff]; simp; omega
                  have HASK := Lib.hid hask
                  clear hask hmore hemp hll hx hcells
                  generalize L[k] = x at *
                  generalize hr : left L m (k + 1) = r at *
                  generalize left L m k = r0 at *
                  have HR := Lib.hid hr
                  generalize hsd : start L (k + 1) = sk at *
                  have HSD := Lib.hid hsd
                  generalize hdd : decide (sk = m) = d at *
                  clear hdd hsd hr hends hltL
                  go_wp2_with fail
                  go_region_held3 (fun w' => w'.cell? ⟨b, off + k * 3, none⟩ = some (.bool x.isText) ∧ w'.cell? ⟨b, off + k * 3 + 1, none⟩ = some (.string ⟨x.s.toArray⟩) ∧ w'.cell? ⟨b, off + k * 3 + 2, none⟩ = some (.int .u64 x.n) ∧ w'.cell? ⟨g, k, none⟩ = some (.int .i64 (sk : Nat)))
                    (first
                      | go_keep
                      | exact hS4
                      | exact ⟨g0, g1, g2, he⟩)
                    (first
                      | (go_at_call 24; refine (HASK.out _ ?_).mono ?_; exact Has.draw hrd; rintro e w4 ⟨rfl, h4, gx⟩; have B4 := under_of_only hby (WA.undraw gx) hby.size hg2; have hS4 := held (WA.undraw gx) (show b ≠ wX.heap.size by omega) (show g ≠ wX.heap.size by omega) g0 g1 g2 he)
                      | (go_at_call 19; refine (WR.ok_walk _ _ _ _ h4).mono ?_; rintro e w5 ⟨rfl, rfl⟩)
                      | (go_at_call 21; refine (WR.end_walk _ _ _ _ h4).mono ?_; rw [HEMP.out]; rintro e w5 ⟨rfl, rfl⟩))
                  go_wp2
                  go_roundw
                  case rel => exact ⟨k + 1, by omega, by go_num, by rw [HR.out]; exact h4, by rw [HSD.out]; exact hA, B4⟩
                  case measure => simp [intOf]; omega
                · obtain ⟨c1, c2⟩ := left_cut hltL (show m < start L (k + 1) by omega)
                  rw [c1] at hrd
                  clear c1 hends
                  have hA2 : m < start L (k + 1) := by omega
                  generalize m - start L k = j at *
                  generalize start L (k + 1) = sk at *
                  generalize L[k] = x at *
                  obtain ⟨bt, xs, xn⟩ := x
                  dsimp only at g0 g1 g2
                  clear hltL
                  cases bt with
                  | true =>
                    have hct := cut_text (Itm.text_le ⟨true, xs, xn⟩) (m := j) (by simpa [Itm.bytes] using c2)
                    have hb3 : (Itm.mk true xs xn).bytes = textB (Itm.mk true xs xn).text := by simp [Itm.bytes]
                    rw [hb3] at hrd
                    have htw := WR.text_walk _ false (by rw [List.length_take]; have := (Itm.mk true xs xn).bytes_le; rw [hb3] at this; omega) _ _ hrd
                    rw [hct] at htw
                    have HTW := Lib.hid htw
                    clear htw hct hb3 c2 hx
                    go_wp2_with fail
                    refine HTW.out.mono ?_
                    rintro e w4 ⟨rfl, h4, g4⟩
                    have B4 := under_of_only hby g4 hby.size hg2
                    have g04 := g4.cell g0 (by intro e; injection e with e; simp only at e; omega)
                    go_wp2_with fail
                    refine (WR.ok_walk _ _ _ _ h4).mono ?_
                    rintro e w5 ⟨rfl, rfl⟩
                    go_wp2_with fail
                    refine (WR.end_walk _ _ _ _ h4).mono ?_
                    rintro e w5 ⟨rfl, rfl⟩
                    go_wp2_with fail
                    refine (WR.num_bad _ _ _ h4).mono ?_
                    rintro e w5 ⟨rfl, h5, g5⟩
                    have B5 := under_of_only B4 g5 B4.size hg2
                    go_wp2_with fail
                    refine (WR.text_bad _ _ _ h5).mono ?_
                    rintro e w6 ⟨rfl, h6, g6⟩
                    have B6 := under_of_only B5 g6 B5.size hg2
                    go_wp2_with fail
                    refine (works_walk _).mono ?_
                    rintro e w7 ⟨rfl, b7⟩
                    have B7 := hbel.trans ((B6.trans (b7.mono B6.size)).mono hbel.size)
                    go_wp2
                    go_ret
                    exact ⟨rfl, B7⟩
                  | false =>
                    have hct := cut_num hx.1 (m := j) (by simpa [Itm.bytes] using c2)
                    have hb3 : (Itm.mk false xs xn).bytes = numB xn := by simp [Itm.bytes]
                    rw [hb3] at hrd
                    have htw := WR.num_walk _ false (by rw [List.length_take]; have := (Itm.mk false xs xn).bytes_le; rw [hb3] at this; omega) _ _ hrd
                    rw [hct] at htw
                    have HTW := Lib.hid htw
                    clear htw hct hb3 c2 hx
                    go_wp2_with fail
                    refine HTW.out.mono ?_
                    rintro e w4 ⟨rfl, h4, g4⟩
                    have B4 := under_of_only hby g4 hby.size hg2
                    go_wp2_with fail
                    refine (WR.ok_walk _ _ _ _ h4).mono ?_
                    rintro e w5 ⟨rfl, rfl⟩
                    go_wp2_with fail
                    refine (WR.end_walk _ _ _ _ h4).mono ?_
                    rintro e w5 ⟨rfl, rfl⟩
                    go_wp2_with fail
                    refine (WR.num_bad _ _ _ h4).mono ?_
                    rintro e w5 ⟨rfl, h5, g5⟩
                    have B5 := under_of_only B4 g5 B4.size hg2
                    go_wp2_with fail
                    refine (WR.text_bad _ _ _ h5).mono ?_
                    rintro e w6 ⟨rfl, h6, g6⟩
                    have B6 := under_of_only B5 g6 B5.size hg2
                    go_wp2_with fail
                    refine (works_walk _).mono ?_
                    rintro e w7 ⟨rfl, b7⟩
                    have B7 := hbel.trans ((B6.trans (b7.mono B6.size)).mono hbel.size)
                    go_wp2
                    go_ret
                    exact ⟨rfl, B7⟩
              · clear hrd
                go_wp2_with fail
                refine (works_walk _).mono ?_
                rintro e w4 ⟨rfl, b4⟩
                go_wp2
                go_ret
                have B4 := hbel.trans (hby.mono hbel.size)
                exact ⟨rfl, B4.trans (b4.mono B4.size)⟩
  · obtain ⟨L, hL, hrL⟩ : ∃ L : List Itm, L.length = l.length ∧ Reads w w.heap.size A L := ⟨l, rfl, hr⟩
    clear hr
    generalize l.length = N at *
    go_enter Try.func6, Try.ntmps6
    go_wp2
    obtain ⟨hok, hat⟩ := hrL
    have HL := Lib.hid hL
    have HOK := Lib.hid hok
    have HAT := Lib.hid hat
    clear hok hat hL
    go_loopw [5, 6, 7] (fun x v i wr => ∃ k : Nat, k ≤ N ∧ i = .int .i64 k ∧ x = .string ⟨(row (L.take k)).toArray⟩ ∧ wr.ownsRow w.heap.size 3 1 v k (ends L k) ∧ Below w.heap.size w wr) (fun _ _ i _ => N - (intOf i).toNat)
    case atStart => exact ⟨0, by omega, rfl, by simp [row], ⟨rfl, Or.inl ⟨rfl, rfl⟩⟩, Below.refl _ _⟩
    case round =>
      obtain ⟨k, hk, rfl, rfl, hown, hbel⟩ := hrel
      by_cases hlt : k < N
      · have hltL : k < L.length := by rw [HL.out]; exact hlt
        obtain ⟨b, off, rfl, hb, hcells⟩ := HAT.out (by omega)
        obtain ⟨g0, g1, g2⟩ := hcells k L[k] (List.getElem?_eq_getElem hltL)
        have hx := HOK.out L[k] (List.getElem_mem hltL)
        have hsl := start_bound L k (by rw [HL.out]; omega)
        have hs2 := start_bound L (k + 1) (by rw [HL.out]; omega)
        have hput := put_walk L[k] hx (row (L.take k)) (by unfold start at hsl; omega)
        rw [← row_take hltL] at hput
        generalize L[k] = x at *
        rw [← hbel.cell (p := ⟨b, off + k * 3, none⟩) hb] at g0
        rw [← hbel.cell (p := ⟨b, off + k * 3 + 1, none⟩) hb] at g1
        rw [← hbel.cell (p := ⟨b, off + k * 3 + 2, none⟩) hb] at g2
        have HPUT := Lib.hid hput
        clear hput hcells hx hltL hsl
        go_wp2_with fail
        refine (HPUT.out _).mono ?_
        rintro e w1 ⟨rfl, b1⟩
        have B1 := hbel.trans (b1.mono hbel.size)
        have hown1 : w1.ownsRow w.heap.size 3 1 u6 k (ends L k) := hown.kept (only_of_under b1 none) (by cases hv : u6.ownBlock <;> simp)
        have hob := own_from hown1
        have HOB := Lib.hid hob
        clear hown hob b1 hbel g0 g1 g2 HPUT
        go_wp2_with (at_builtin; refine wpList_append_own _ rfl _ _ 42 rfl w.heap.size 3 i0 (.int .i64 0) 1 8 Try.underlying42 hi hz0 hz1 hz2 rfl (by decide) _ _ _ rfl (hown1.alloc _) ⟨w1.heap.size, 0, none⟩ 1 1 [.int .i64 ((row (L.take (k + 1))).length : Nat)] rfl rfl ?c1 ?c2 ?c3 ?c4 ?c5 ?_)
        case c1 => exact one_new _ _ _
        case c2 => intro u hu; simp only [List.mem_singleton] at hu; subst hu; rfl
        case c3 => unfold maxLen; omega
        case c4 => omega
        case c5 => simp; have := B1.size; omega
        intro v' w2 hown2 hgrow _
        have B2 := (B1.alloc B1.size _).grown hgrow (by simp; have := B1.size; omega) (fun q hq => HOB.out q hq)
        clear hgrow hown1 HOB
        go_wp2
        go_roundw
        case rel =>
          refine ⟨k + 1, by omega, by go_num, rfl, ?_, B2⟩
          rw [ends_succ]
          exact hown2
        case measure => simp [intOf]; omega
      · have hkn : N = k := by omega
        subst hkn
        obtain ⟨wE, rfl⟩ : ∃ wE : World, wE = wr := ⟨_, rfl⟩
        have hT : L.take N = L := List.take_of_length_le (by rw [HL.out]; omega)
        rw [hT]
        have hE := ends_at hown
        have HE := Lib.hid hE
        clear hE hT hown hlt hk
        have hrow := start_end L
        have hrb := start_bound L L.length (by rw [HL.out]; omega)
        rw [hrow] at hrb
        clear hrow
        go_wp2_with fail
        refine (newReader_walk (row L) _).mono ?_
        rintro e w1 ⟨rfl, h1, b1⟩
        go_wp2
        go_loopw [9] (fun i wx => ∃ k : Nat, k ≤ N ∧ i = .int .i64 k ∧ Rd wx wE.heap.size (row (L.drop k)) false ∧ Below wE.heap.size wE wx) (fun i _ => N - (intOf i).toNat)
        case atStart => exact ⟨0, by omega, rfl, h1, b1⟩
        case round =>
          obtain ⟨k, hk, rfl, hrd, hbx⟩ := hrel
          by_cases hlt : k < N
          · have hltL : k < L.length := by rw [HL.out]; exact hlt
            obtain ⟨b, off, rfl, hb, hcells⟩ := HAT.out (by omega)
            obtain ⟨g0, g1, g2⟩ := hcells k L[k] (List.getElem?_eq_getElem hltL)
            have hx := HOK.out L[k] (List.getElem_mem hltL)
            have hne := row_drop_ne hltL
            have hask := fun (W : World) (hW : Rd W wE.heap.size (L[k].bytes ++ row (L.drop (k + 1))) false) => ask_walk L[k] hx (row (L.drop (k + 1))) (by have := row_le (L.drop (k + 1)); rw [List.length_drop, HL.out] at this; omega) wE.heap.size W hW
            rw [← row_drop hltL] at hask
            generalize L[k] = x at *
            have hb2 := Nat.lt_of_lt_of_le hb hbel.size
            rw [← hbel.cell (p := ⟨b, off + k * 3, none⟩) hb, ← hbx.cell (p := ⟨b, off + k * 3, none⟩) hb2] at g0
            rw [← hbel.cell (p := ⟨b, off + k * 3 + 1, none⟩) hb, ← hbx.cell (p := ⟨b, off + k * 3 + 1, none⟩) hb2] at g1
            rw [← hbel.cell (p := ⟨b, off + k * 3 + 2, none⟩) hb, ← hbx.cell (p := ⟨b, off + k * 3 + 2, none⟩) hb2] at g2
            have HASK := Lib.hid hask
            have HNE := Lib.hid hne
            clear hask hcells hx hltL hne hb2
            go_wp2_with fail
            refine (end_walk _ _ _ _ hrd).mono ?_
            rw [HNE.out]
            rintro e w2 ⟨rfl, rfl⟩
            go_wp2_with fail
            refine (HASK.out _ hrd).mono ?_
            rintro e w2 ⟨rfl, hrd2, gx⟩
            go_wp2_with fail
            refine (WR.ok_walk _ _ _ _ hrd2).mono ?_
            rintro e w3 ⟨rfl, rfl⟩
            go_wp2
            go_roundw
            case rel => exact ⟨k + 1, by omega, by go_num, hrd2, under_of_only hbx gx hbx.size (Nat.le_refl _)⟩
            case measure => simp [intOf]; omega
          · have hkn : N = k := by omega
            subst hkn
            have hnil := row_nil (l := L) (k := N) (by rw [HL.out]; omega)
            have HN := Lib.hid hnil
            obtain ⟨m, hm, hmle⟩ := cut_at c (row L).length
            clear hnil hlt hk
            obtain ⟨wX, rfl⟩ : ∃ wX : World, wX = wr := ⟨_, rfl⟩
            go_wp2_with fail
            refine (end_walk _ _ _ _ hrd).mono ?_
            rw [HN.out]
            rintro e w2 ⟨rfl, rfl⟩
            clear hrd h1 b1
            go_wp2_with fail
            rw [take_str, hm]
            refine (newReader_walk ((row L).take m) _).mono ?_
            rintro e w3 ⟨rfl, h3, b3⟩
            have B3 := hbx.trans (b3.mono hbx.size)
            have HM := Lib.hid hm
            have hg2 := hbx.size
            clear hm b3
            go_wp2
            go_loopw [12] (fun i wy => ∃ k : Nat, k ≤ N ∧ i = .int .i64 k ∧ Rd wy wX.heap.size (left L m k) false ∧ start L k ≤ m ∧ Below wE.heap.size wE wy) (fun i _ => N - (intOf i).toNat)
            case atStart => exact ⟨0, by omega, rfl, by rw [left_zero]; exact h3, by rw [start_zero]; omega, B3⟩
            case round =>
              obtain ⟨k, hk, rfl, hrd, hst, hby⟩ := hrel
              clear h3 B3
              by_cases hlt : k < N
              · have hltL : k < L.length := by rw [HL.out]; exact hlt
                obtain ⟨g, capg, rfl, hg, hends⟩ := HE.out (by omega)
                have he := hends k hlt
                have he0 := Lib.hid he
                rw [← hby.cell (p := ⟨g, k, none⟩) hg] at he
                obtain ⟨b, off, rfl, hb, hcells⟩ := HAT.out (by omega)
                obtain ⟨g0, g1, g2⟩ := hcells k L[k] (List.getElem?_eq_getElem hltL)
                have hx := HOK.out L[k] (List.getElem_mem hltL)
                have hb2 := Nat.lt_of_lt_of_le hb hbel.size
                rw [← hbel.cell (p := ⟨b, off + k * 3, none⟩) hb, ← hby.cell (p := ⟨b, off + k * 3, none⟩) hb2] at g0
                rw [← hbel.cell (p := ⟨b, off + k * 3 + 1, none⟩) hb, ← hby.cell (p := ⟨b, off + k * 3 + 1, none⟩) hb2] at g1
                rw [← hbel.cell (p := ⟨b, off + k * 3 + 2, none⟩) hb, ← hby.cell (p := ⟨b, off + k * 3 + 2, none⟩) hb2] at g2
                by_cases hA : start L (k + 1) ≤ m
                · have hmore := left_more hltL hA
                  have hll := left_le L m (k + 1) (by rw [HL.out]; omega)
                  have hask := fun (W : World) (hW : Rd W wX.heap.size (L[k].bytes ++ left L m (k + 1)) false) => ask_walk L[k] hx (left L m (k + 1)) (by omega) wX.heap.size W hW
                  rw [← hmore] at hask
                  have hemp := left_isEmpty hA hmle
                  have HEMP := Lib.hid hemp
                  have heq : (((start L (k + 1) : Nat) : Int) == (m : Int)) = decide (start L (k + 1) = m) := by rw [Bool.eq_iff_iff]; simp; omega
                  have HASK := Lib.hid hask
                  clear hask hmore hemp hll hx hcells
                  generalize L[k] = x at *
                  generalize hr : left L m (k + 1) = r at *
                  generalize left L m k = r0 at *
                  have HR := Lib.hid hr
                  generalize hsd : start L (k + 1) = sk at *
                  have HSD := Lib.hid hsd
                  generalize hdd : decide (sk = m) = d at *
                  clear hdd hsd hr hends hltL
                  go_wp2_with fail
                  go_region_held3 (fun w' => w'.cell? ⟨b, off + k * 3, none⟩ = some (.bool x.isText) ∧ w'.cell? ⟨b, off + k * 3 + 1, none⟩ = some (.string ⟨x.s.toArray⟩) ∧ w'.cell? ⟨b, off + k * 3 + 2, none⟩ = some (.int .u64 x.n) ∧ w'.cell? ⟨g, k, none⟩ = some (.int .i64 (sk : Nat)))
                    (first
                      | go_keep
                      | exact hS4
                      | exact ⟨g0, g1, g2, he⟩)
                    (first
                      | (go_at_call 24; refine (HASK.out _ ?_).mono ?_; exact Has.draw hrd; rintro e w4 ⟨rfl, h4, gx⟩; have B4 := under_of_only hby (WA.undraw gx) hby.size hg2; have hS4 := held (WA.undraw gx) (show b ≠ wX.heap.size by omega) (show g ≠ wX.heap.size by omega) g0 g1 g2 he)
                      | (go_at_call 19; refine (WR.ok_walk _ _ _ _ h4).mono ?_; rintro e w5 ⟨rfl, rfl⟩)
                      | (go_at_call 21; refine (WR.end_walk _ _ _ _ h4).mono ?_; rw [HEMP.out]; rintro e w5 ⟨rfl, rfl⟩))
                  go_wp2
                  go_roundw
                  case rel => exact ⟨k + 1, by omega, by go_num, by rw [HR.out]; exact h4, by rw [HSD.out]; exact hA, B4⟩
                  case measure => simp [intOf]; omega
                · obtain ⟨c1, c2⟩ := left_cut hltL (show m < start L (k + 1) by omega)
                  rw [c1] at hrd
                  clear c1 hends
                  have hA2 : m < start L (k + 1) := by omega
                  generalize m - start L k = j at *
                  generalize start L (k + 1) = sk at *
                  generalize L[k] = x at *
                  obtain ⟨bt, xs, xn⟩ := x
                  dsimp only at g0 g1 g2
                  clear hltL
                  cases bt with
                  | true =>
                    have hct := cut_text (Itm.text_le ⟨true, xs, xn⟩) (m := j) (by simpa [Itm.bytes] using c2)
                    have hb3 : (Itm.mk true xs xn).bytes = textB (Itm.mk true xs xn).text := by simp [Itm.bytes]
                    rw [hb3] at hrd
                    have htw := WR.text_walk _ false (by rw [List.length_take]; have := (Itm.mk true xs xn).bytes_le; rw [hb3] at this; omega) _ _ hrd
                    rw [hct] at htw
                    have HTW := Lib.hid htw
                    clear htw hct hb3 c2 hx
                    go_wp2_with fail
                    refine HTW.out.mono ?_
                    rintro e w4 ⟨rfl, h4, g4⟩
                    have B4 := under_of_only hby g4 hby.size hg2
                    have g04 := g4.cell g0 (by intro e; injection e with e; simp only at e; omega)
                    go_wp2_with fail
                    refine (WR.ok_walk _ _ _ _ h4).mono ?_
                    rintro e w5 ⟨rfl, rfl⟩
                    go_wp2_with fail
                    refine (WR.end_walk _ _ _ _ h4).mono ?_
                    rintro e w5 ⟨rfl, rfl⟩
                    go_wp2_with fail
                    refine (WR.num_bad _ _ _ h4).mono ?_
                    rintro e w5 ⟨rfl, h5, g5⟩
                    have B5 := under_of_only B4 g5 B4.size hg2
                    go_wp2_with fail
                    refine (WR.text_bad _ _ _ h5).mono ?_
                    rintro e w6 ⟨rfl, h6, g6⟩
                    have B6 := under_of_only B5 g6 B5.size hg2
                    go_wp2_with fail
                    refine (works_walk _).mono ?_
                    rintro e w7 ⟨rfl, b7⟩
                    have B7 := hbel.trans ((B6.trans (b7.mono B6.size)).mono hbel.size)
                    go_wp2
                    go_ret
                    exact ⟨rfl, B7⟩
                  | false =>
                    have hct := cut_num hx.1 (m := j) (by simpa [Itm.bytes] using c2)
                    have hb3 : (Itm.mk false xs xn).bytes = numB xn := by simp [Itm.bytes]
                    rw [hb3] at hrd
                    have htw := WR.num_walk _ false (by rw [List.length_take]; have := (Itm.mk false xs xn).bytes_le; rw [hb3] at this; omega) _ _ hrd
                    rw [hct] at htw
                    have HTW := Lib.hid htw
                    clear htw hct hb3 c2 hx
                    go_wp2_with fail
                    refine HTW.out.mono ?_
                    rintro e w4 ⟨rfl, h4, g4⟩
                    have B4 := under_of_only hby g4 hby.size hg2
                    go_wp2_with fail
                    refine (WR.ok_walk _ _ _ _ h4).mono ?_
                    rintro e w5 ⟨rfl, rfl⟩
                    go_wp2_with fail
                    refine (WR.end_walk _ _ _ _ h4).mono ?_
                    rintro e w5 ⟨rfl, rfl⟩
                    go_wp2_with fail
                    refine (WR.num_bad _ _ _ h4).mono ?_
                    rintro e w5 ⟨rfl, h5, g5⟩
                    have B5 := under_of_only B4 g5 B4.size hg2
                    go_wp2_with fail
                    refine (WR.text_bad _ _ _ h5).mono ?_
                    rintro e w6 ⟨rfl, h6, g6⟩
                    have B6 := under_of_only B5 g6 B5.size hg2
                    go_wp2_with fail
                    refine (works_walk _).mono ?_
                    rintro e w7 ⟨rfl, b7⟩
                    have B7 := hbel.trans ((B6.trans (b7.mono B6.size)).mono hbel.size)
                    go_wp2
                    go_ret
                    exact ⟨rfl, B7⟩
              · clear hrd
                go_wp2_with fail
                refine (works_walk _).mono ?_
                rintro e w4 ⟨rfl, b4⟩
                go_wp2
                go_ret
                have B4 := hbel.trans (hby.mono hbel.size)
                exact ⟨rfl, B4.trans (b4.mono B4.size)⟩

set_option maxRecDepth 100000 in
theorem lifted (os : Os) (started : os.Started) (H : Type) (enc : TypeId × Value → H) :
    ReturnsInHanded {} Try.checked os 6 .any (Rows.wireRowSpec.pre6 enc Try.prog Try.f6 Rows.wireRowRow.domain false) (Rows.wireRowSpec.post enc Try.prog Try.f6 false true false false) := by
  refine returnsInHanded_of_change (C := Try.checked) own started (by kernel_rfl) Try.func6
    (ChangeSpec.witness6 (enc := enc) (C := Try.checked) false ⟨#[], #[.slice none 0 0, .int .u16 0], []⟩ 8 (by kernel_rfl) (by kernel_rfl) (by kernel_rfl) (by kernel_rfl)) ?_
  intro W base args ds gs before hval0 hW hcnd _
  have hval : ∀ (j : Nat) t v, Try.f6.params[j]? = some t → args[j]? = some v → Value.okWide Try.prog W .any base t v := hval0
  have hW' := hW
  obtain ⟨p, q, hA0, hV, rfl, hfz, hnd⟩ := hW
  have hA : DataW.TrodAll enc Try.prog W 0 (fun _ => true) true Try.f6.params.toList args.toList ds p := hA0
  rw [Try.params6] at hA hval
  obtain ⟨v0, vs0, d0, ds0, p0, q0, hargs, rfl, rfl, h0, r0⟩ := trodAll_cons hA
  obtain ⟨v1, vs1, d1, ds1, p1, q1, rfl, rfl, rfl, h1, r1⟩ := trodAll_cons r0
  obtain ⟨rfl, rfl, rfl⟩ := trodAll_nil r1
  obtain rfl : args = #[v0, v1] := by cases args; simp_all
  obtain ⟨rfl, rfl⟩ := trodVars_none hV
  obtain ⟨a1, rfl, rfl, rfl, w1⟩ := open_int Try.underlying32 (hval 1 32 v1 rfl rfl) h1
  have hw1 : 0 ≤ a1 ∧ a1 ≤ 65535 := by simpa [Lit.wf, IntKind.min, IntKind.max, IntKind.signed, IntKind.bits] using w1
  obtain ⟨n1, rfl⟩ := Int.eq_ofNat_of_zero_le hw1.1
  obtain ⟨A0, cap0, l0, rfl, hr0, hc0, hm0⟩ := open_items (hval 0 22 v0 rfl rfl) h0
  clear hA0 hval0
  have hc := walk A0 cap0 l0 hc0 hm0 n1 (by omega) W hr0
  try rw [Array.toArray_toList] at hc
  refine hc.mono fun e W' ⟨he, hg⟩ => ?_
  subst he
  exact ⟨_, rfl, law_post rfl (by decide +kernel) (by kernel_rfl) rfl hW' hg⟩

theorem over : Rows.wireRowRow.holds Try.pinned (OpenSpec.ofChange Rows.wireRowSpec) :=
  OpenClaim.holds_of_wide 6 Try.f6 rfl rfl rfl rfl rfl rfl rfl ⟨rfl, rfl, rfl, rfl, rfl⟩ rfl rfl rfl rfl rfl (by kernel_rfl) Try.func6 (by kernel_rfl)
    (of_decide_eq_true (by kernel_rfl)) (by unfold Func.isWrapper; first | (rw [if_pos (by decide +kernel)]; kernel_rfl) | (rw [if_neg (by decide +kernel)]; exact ⟨rfl, rfl⟩))
    (fun os started H enc _ => lifted os started H enc)

theorem proved : Rows.WireRowSaid :=
  over
#print axioms proved
end WireRow
end Go.Proofs.Ytdpkgmcjofddnaa
