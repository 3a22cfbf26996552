/- A tape's Read. -/
import Derived.Test.YtkhdidhpcdlmcaaTapeBuild
namespace Go.Proofs.Ytkhdidhpcdlmcaa
set_option maxRecDepth 100000
open Go.RowKit Go.Lib MM MF DM DK MY TM DP TP RN PL TF TR TQ BL FL TA TZ TU2
namespace TD2
attribute [local go_sem] Oper.semAt_some
section
variable {w : World} {gT gR g gt N : Nat} {a : Int} {T : TS}
/-- Is it out of range? -/
def out (T : TS) (p : Nat) (n : Int) : Bool := decide (n < 0 ∨ p < T.start ∨ T.fin < p ∨ ((T.fin - p : Nat) : Int) < n)
theorem range_walk (bn bp bs p : Nat) (n : Int) (hnn : n ≤ 9223372036854775807) (h : Has w gT 80 (tcs gR g gt a N T)) (ho : T.Ok N) (hn : w.cell? ⟨bn, 0, none⟩ = some (.int .i64 n)) (hp : w.cell? ⟨bp, 0, none⟩ = some (.int .u64 p)) (hs : w.cell? ⟨bs, 0, none⟩ = some (.pointer (some ⟨gT, 0, none⟩))) :
    Calls Try.prog 48 #[.pointer (some ⟨bn, 0, none⟩), .pointer (some ⟨bp, 0, none⟩), .pointer (some ⟨bs, 0, none⟩)] w fun e w' => e = .returned (.bool (out T p n)) ∧ Below w.heap.size w w' := by
  obtain ⟨c0, c1, c2, c3, c4, c5, c6, c7, c8⟩ := tcs_cells h
  have h3 := ho.ends
  unfold out
  generalize T.fin = f at *
  generalize T.start = s at *
  clear h c0 c1 c2 c3 c5 c7 c8 ho
  by_cases h1 : n < 0
  · rw [show decide (n < 0 ∨ p < s ∨ f < p ∨ ((f - p : Nat) : Int) < n) = true by simp [h1]]
    clear h3
    go_enter Try.func48, Try.ntmps48
    go_wp2
    go_quiet (fail)
    go_wp2
    go_ret
    exact ⟨rfl, drawn_below w nq⟩
  have d1 : decide (n < 0) = false := by simp [h1]
  by_cases h2 : p < s
  · rw [show decide (n < 0 ∨ p < s ∨ f < p ∨ ((f - p : Nat) : Int) < n) = true by simp [h2]]
    clear h3 h1
    go_enter Try.func48, Try.ntmps48
    go_wp2
    go_quiet (fail)
    go_wp2
    go_ret
    exact ⟨rfl, drawn_below w nq⟩
  have d2 : decide (p < s) = false := by simp [h2]
  by_cases h4 : f < p
  · rw [show decide (n < 0 ∨ p < s ∨ f < p ∨ ((f - p : Nat) : Int) < n) = true by simp [h4]]
    clear h3 h1 h2
    go_enter Try.func48, Try.ntmps48
    go_wp2
    go_quiet (fail)
    go_wp2
    go_ret
    exact ⟨rfl, drawn_below w nq⟩
  have d3 : decide (f < p) = false := by simp [h4]
  obtain ⟨m, rfl⟩ : ∃ m : Nat, n = m := ⟨n.toNat, by omega⟩
  have hm : m < 9223372036854775808 := by omega
  rw [show decide ((m : Int) < 0 ∨ p < s ∨ f < p ∨ ((f - p : Nat) : Int) < (m : Int)) = decide (f - p < m) from decide_eq_decide.2 (by omega)]
  have e1 : IntKind.u64.wrap (m : Int) = (m : Int) := by unfold IntKind.wrap; simp [IntKind.bits, IntKind.signed]; omega
  have e2 : IntKind.u64.wrap ((f : Int) - (p : Int)) = ((f - p : Nat) : Int) := sub_fits (by omega) (by omega)
  generalize f - p = r at *
  clear h3 h1 h2 h4 hm hnn
  go_enter Try.func48, Try.ntmps48
  go_wp2
  go_quiet (fail)
  go_wp2
  go_ret
  exact ⟨rfl, drawn_below w nq⟩
end
theorem ent_range : Ent 48 := enters_of Try.func48 (by kernel_rfl) rfl
def readE (T : TS) (p : Nat) (n : Int) : Int := firstOf [if T.over then 8 else 0, if out T p n then 6 else 0]
def readL (T : TS) (p : Nat) (n : Int) : List UInt8 := if readE T p n = 0 then (T.bs.drop (p - T.start)).take n.toNat else []
theorem readE_zero {T : TS} {p : Nat} {n : Int} (h : readE T p n = 0) : T.over = false ∧ 0 ≤ n ∧ T.start ≤ p ∧ p ≤ T.fin ∧ n ≤ ((T.fin - p : Nat) : Int) := by
  unfold readE at h
  cases ho : T.over with
  | true => simp [ho, firstOf] at h
  | false =>
    rw [ho] at h
    cases hx : out T p n with
    | true => simp [hx, firstOf] at h
    | false =>
      unfold out at hx
      have := of_decide_eq_false hx
      exact ⟨rfl, by omega, by omega, by omega, by omega⟩
/-- What a round of Read keeps. -/
structure ReadI (w : World) (gT gR g gt N : Nat) (a : Int) (T : TS) (bt2 bs2 gB B fz : Nat) (l : List UInt8) (k : Nat) (W : World) : Prop where
  bt2 : Has W bt2 30 [.int .u64 fz]
  bs2 : Has W bs2 26 [.pointer (some ⟨gT, 0, none⟩)]
  tape : Has W gT 80 (tcs gR g gt a N T)
  rng : Row W gR 126 (byteCells (ring N T.start T.bs))
  bu : (k = 0 ∧ Has W gB 87 [.pointer none, .slice none 0 0]) ∨ (0 < k ∧ Bu B gB (l.take k) W)
  under : Below w.heap.size w W
theorem ReadI.own {w A B' : World} {gT gR g gt N bt2 bs2 gB B fz k n : Nat} {a : Int} {T : TS} {l : List UInt8} {row : Option Nat} (i : ReadI w gT gR g gt N a T bt2 bs2 gB B fz l k A) (hn : w.heap.size ≤ n) (hg : A.grownBy B' row)
    (hr : ∀ r, row = some r → n ≤ r ∧ ∃ o : Obj, A.heap[r]? = some o ∧ o.isCells = false) : ReadI w gT gR g gt N a T bt2 bs2 gB B fz l k B' :=
  ⟨own_has i.bt2 hg hr, own_has i.bs2 hg hr, own_has i.tape hg hr, own_row i.rng hg hr, i.bu.imp (fun h => ⟨h.1, own_has h.2 hg hr⟩) (fun h => ⟨h.1, own_bu h.2 hg hr⟩), i.under.grown hg i.under.size (fun k e => Nat.le_trans hn (hr k e).1)⟩
section
variable {w : World} {gT gR g gt N : Nat} {a : Int} {T : TS}
theorem read_walk (hT : Has w gT 80 (tcs gR g gt a N T)) (hR : Row w gR 126 (byteCells (ring N T.start T.bs))) (hO : T.Ok N) (p : Nat) (n : Int) (hnn : n ≤ 9223372036854775807) :
    Calls Try.prog 12 #[.pointer (some ⟨gT, 0, none⟩), .int .u64 p, .int .i64 n] w fun e w' => e = .returned (.tuple #[.string ⟨(readL T p n).toArray⟩, .int .i64 (readE T p n)]) ∧ Below w.heap.size w w' := by
  obtain ⟨w0, hw0, hA⟩ : ∃ w0, Hid (w0 = w) ∧ All w0 w [] := ⟨w, Lib.hid rfl, All.start w⟩
  have hA3 := bl_new (bl_new (bl_new hA 26 [.pointer (some ⟨gT, 0, none⟩)]) 30 [.int .u64 p]) 3 [.int .i64 n]
  simp only [World.size_alloc] at hA3
  change All w0 (((w.alloc (Obj.cells #[Value.pointer (some { block := gT, off := 0 })] 26)).alloc (Obj.cells #[Value.int IntKind.u64 p] 30)).alloc (Obj.cells #[Value.int IntKind.i64 n] 3)) _ at hA3
  refine calls_of_marks Try.func12 rfl ?_
  simp only [Try.ntmps12, List.size_toArray, List.length_cons, List.length_nil, Nat.reduceAdd, Nat.reduceSub, Array.replicate_succ, Array.replicate_zero, List.push_toArray, List.append_toArray, List.nil_append, List.cons_append]
  go_wp2
  generalize (((w.alloc (Obj.cells #[Value.pointer (some { block := gT, off := 0 })] 26)).alloc (Obj.cells #[Value.int IntKind.u64 p] 30)).alloc (Obj.cells #[Value.int IntKind.i64 n] 3)) = w1 at *
  obtain ⟨bt, ebt⟩ : ∃ bt, bt = w.heap.size := ⟨_, rfl⟩
  obtain ⟨bp, ebp⟩ : ∃ bp, bp = w.heap.size + 1 := ⟨_, rfl⟩
  obtain ⟨bn, ebn⟩ : ∃ bn, bn = w.heap.size + 1 + 1 := ⟨_, rfl⟩
  rw [← ebn, ← ebp, ← ebt] at hA3 ⊢
  clear ebn ebp ebt
  have xt := (all_has hA3 (g := bt) (t := 26) (cs := [.pointer (some ⟨gT, 0, none⟩)]) (by simp)).cell 0
  refine wp_region_noPanic (wp_region_held_drew (S := fun w' => w'.cell? ⟨bt, 0, none⟩ = some (.pointer (some ⟨gT, 0, none⟩))) (by kernel_rfl) xt (fun hS => ?_))
  refine wpAnyH_take (i := 0) (v := (.pointer (some ⟨gT, 0, none⟩))) (lit rfl) (by kernel_rfl) (by kernel_rfl) (by kernel_rfl) (fun _ _ _ h => h) (Or.inl ⟨by rfl, fun w hw => by have hc := hw; go_simp⟩) hS ?_
  simp only [Act.put, List.setIfInBounds_toArray, List.set_cons_zero, List.set_cons_succ]
  refine wpAnyH_take (i := 1) (v := (.func (.func 46) #[.pointer (some ⟨gT, 0, none⟩)] #[])) (lit rfl) (by kernel_rfl) (by kernel_rfl) (by kernel_rfl) (fun _ _ _ h => h) (Or.inl ⟨by rfl, fun w _ => by go_simp⟩) hS ?_
  simp only [Act.put, List.setIfInBounds_toArray, List.set_cons_zero, List.set_cons_succ]
  refine wpAnyH_take (i := 2) (v := (.func (.func 48) #[] #[.pointer (some ⟨bn, 0, none⟩), .pointer (some ⟨bp, 0, none⟩), .pointer (some ⟨bt, 0, none⟩)])) (lit rfl) (by kernel_rfl) (by kernel_rfl) (by kernel_rfl) (fun _ _ _ h => h) (Or.inl ⟨by rfl, fun w _ => by go_simp⟩) hS ?_
  simp only [Act.put, List.setIfInBounds_toArray, List.set_cons_zero, List.set_cons_succ]
  refine wpAnyH_ready (rs := [3]) (by kernel_rfl) (by simp) (AllReadyH.cons (lit rfl) (fun K hK => ?_) AllReadyH.nil)
  go_simp
  go_wp2_with (go_at_call 47; refine (when_walk _ _ _ _ _).mono ?_; rintro e y1 ⟨e1, f1, rfl, p1, q1, b1, _, _⟩)
  have A1 := hA3.drew.below b1
  have x1 := (all_has A1 (g := bt) (t := 26) (cs := [.pointer (some ⟨gT, 0, none⟩)]) (by simp)).cell 0
  refine hK.out _ _ x1 (fun _ => ?_)
  clear hK K
  refine wpAnyH_ready (rs := [4]) (by kernel_rfl) (by simp) (AllReadyH.cons (lit rfl) (fun K hK => ?_) AllReadyH.nil)
  go_simp
  go_wp2
  have A3 := bl_new A1 51 [.func (.func 46) #[.pointer (some ⟨gT, 0, none⟩)] #[], .func (.func 107) #[] #[.pointer (some ⟨f1, 0, none⟩), .pointer (some ⟨e1, 0, none⟩)]]
  change All w0 (y1.alloc (.cells #[.func (.func 46) #[.pointer (some ⟨gT, 0, none⟩)] #[], .func (.func 107) #[] #[.pointer (some ⟨f1, 0, none⟩), .pointer (some ⟨e1, 0, none⟩)]] 51)) _ at A3
  have b3 : Below y1.heap.size y1 (y1.alloc (.cells #[.func (.func 46) #[.pointer (some ⟨gT, 0, none⟩)] #[], .func (.func 107) #[] #[.pointer (some ⟨f1, 0, none⟩), .pointer (some ⟨e1, 0, none⟩)]] 51)) := (Below.refl _ _).alloc (Nat.le_refl _) _
  generalize (y1.alloc (.cells #[.func (.func 46) #[.pointer (some ⟨gT, 0, none⟩)] #[], .func (.func 107) #[] #[.pointer (some ⟨f1, 0, none⟩), .pointer (some ⟨e1, 0, none⟩)]] 51)) = y3 at *
  generalize y1.heap.size = ga at A3 ⊢
  have x3 := (all_has A3 (g := bt) (t := 26) (cs := [.pointer (some ⟨gT, 0, none⟩)]) (by simp)).cell 0
  refine hK.out _ _ x3 (fun _ => ?_)
  clear hK K
  have u3 := A3.under
  rw [hw0.out] at u3
  have hT3 := hT.under u3 hT.lt
  have HF := Lib.hid (first2 (T := T) (p1 := out T p n) ent_range (all_has A3 (List.mem_cons_self ..)) hT3 p1 q1 b3
    (fun W b => range_walk bn bp bt p n hnn (hT3.under b hT3.lt) hO ((all_has (A3.below b) (g := bn) (t := 3) (cs := [.int .i64 n]) (by simp)).cell 0) ((all_has (A3.below b) (g := bp) (t := 30) (cs := [.int .u64 p]) (by simp)).cell 0) ((all_has (A3.below b) (g := bt) (t := 26) (cs := [.pointer (some ⟨gT, 0, none⟩)]) (by simp)).cell 0)))
  change Hid (Calls Try.prog 38 #[.slice (some ⟨ga, 0, none⟩) 2 2] y3 fun e w' => e = .returned (.int .i64 (readE T p n)) ∧ Below y3.heap.size y3 w') at HF
  refine wpAnyH_ready (rs := [5]) (by kernel_rfl) (by simp) (AllReadyH.cons (lit rfl) (fun K hK => ?_) AllReadyH.nil)
  go_simp
  go_wp2_with (go_at_call 38; refine HF.out.mono ?_; rintro e y4 ⟨rfl, b4⟩)
  have A4 := (A3.below b4).tail
  have x4 := (all_has A4 (g := bt) (t := 26) (cs := [.pointer (some ⟨gT, 0, none⟩)]) (by simp)).cell 0
  refine hK.out _ _ x4 (fun _ => ?_)
  clear hK K
  refine wpAnyH_ready (rs := [6]) (by kernel_rfl) (by simp) (AllReadyH.cons (lit rfl) (fun K hK => ?_) AllReadyH.nil)
  go_simp
  refine hK.out _ _ x4 (fun _ => ?_)
  clear hK K
  refine wpAnyH_done (by kernel_rfl) (NoPanic.normal ?_) _
  clear HF b4 b3 x3 A3 A1 x1 b1 p1 q1 hS xt hA3 hT3 u3
  by_cases h0 : readE T p n = 0
  · obtain ⟨z1, z2, z3, z4, z5⟩ := readE_zero h0
    have hL : readL T p n = (T.bs.drop (p - T.start)).take n.toNat := by unfold readL; rw [if_pos h0]
    obtain ⟨m, rfl⟩ : ∃ m : Nat, n = m := ⟨n.toNat, by omega⟩
    rw [Int.toNat_natCast] at hL
    have hend := hO.ends
    obtain ⟨fz, hfz⟩ : ∃ fz, fz = p + m := ⟨_, rfl⟩
    have e4 : IntKind.u64.wrap (m : Int) = (m : Int) := by unfold IntKind.wrap; simp [IntKind.bits, IntKind.signed]; omega
    have e5 : IntKind.u64.wrap ((p : Int) + (m : Int)) = (fz : Int) := add_fits hfz.symm (by omega)
    have A5 := bl_new A4 87 [.pointer none, .slice none 0 0]
    have HA := Lib.hid A5
    have HN := Lib.hid (⟨hfz, z3, z4, z5, hend, hL, h0⟩ : fz = p + m ∧ T.start ≤ p ∧ p ≤ T.fin ∧ (m : Int) ≤ ((T.fin - p : Nat) : Int) ∧ T.fin ≤ 1099511627776 ∧ readL T p m = (T.bs.drop (p - T.start)).take m ∧ readE T p m = 0)
    have HB := Lib.hid A4.under.size
    have k1 := (all_has A5 (g := bt) (t := 26) (cs := [.pointer (some ⟨gT, 0, none⟩)]) (by simp)).cell 0
    have k2 := (all_has A5 (g := bp) (t := 30) (cs := [.int .u64 p]) (by simp)).cell 0
    have k3 := (all_has A5 (g := bn) (t := 3) (cs := [.int .i64 (m : Int)]) (by simp)).cell 0
    rw [h0]
    clear hfz z2 z3 z4 z5 hend hL h0 A5 A4 x4 hA
    go_wp2_with (go_at_call 49; refine (places_walk _ gT p fz).mono ?_; rintro e y5 ⟨bf, bt2, bs2, rfl, hbf, hbt2, hbs2, b5, l1, l2, l3⟩)
    have u5 : Below w.heap.size w y5 := by
      have := (HA.out.below b5).under
      rw [hw0.out] at this
      exact this
    have hgw := HB.out
    rw [hw0.out] at hgw
    have hbu := all_has (HA.out.below b5) (g := y4.heap.size) (t := 87) (cs := [.pointer none, .slice none 0 0]) (by simp)
    have hgB5 : y4.heap.size ≤ y5.heap.size := Nat.le_of_lt hbu.lt
    generalize y4.heap.size = gB at *
    clear b5 l1 l2 l3 k1 k2 k3 e4 e5
    have hpre : N < 4294967296 ∧ p ≤ fz ∧ fz < 4611686018427387904 := by
      obtain ⟨h1, h2, h3, h4, h5, h6, h7⟩ := HN.out
      have := hO.few
      omega
    obtain ⟨L, hLd⟩ : ∃ L, L = (T.bs.drop (p - T.start)).take m := ⟨_, rfl⟩
    have hLl : L.length = m := by
      obtain ⟨h1, h2, h3, h4, h5, h6, h7⟩ := HN.out
      rw [hLd]
      unfold TS.fin at *
      simp
      omega
    have i0 : ReadI w gT gR g gt N a T bt2 bs2 gB gB fz L 0 y5 := ⟨hbt2, hbs2, hT.under u5 hT.lt, hR.of_block (u5.block _ hR.lt), .inl ⟨rfl, hbu⟩, u5⟩
    refine (wpIn_wide (n := 9)).1 (range_places (n := 9) bf bt2 bs2 gT gR N p fz hO.one hpre.1 hpre.2.1 hpre.2.2 rfl rfl (hbf.cell 0) (fun q W => ∃ k, q = p + k ∧ k ≤ m ∧ gB ≤ W.heap.size ∧ ReadI w gT gR g gt N a T bt2 bs2 gB gB fz L k W) (fun _ _ => False)
      (fun q A B row h hg hr => by obtain ⟨k, h1, h2, h3, i⟩ := h; exact ⟨k, h1, h2, Nat.le_trans h3 hg.size, i.own u5.size hg hr⟩) (fun _ _ _ _ h _ _ => h) (fun q W h => by obtain ⟨k, _, _, _, i⟩ := h; exact ⟨i.bt2.cell 0, i.bs2.cell 0, i.tape.cell 3⟩) ⟨0, rfl, Nat.zero_le _, hgB5, i0⟩ ?a1 ?assign ?body ?done ?stop)
    case assign =>
      intro l' q W K hK
      unfold enc
      gi_wp2
      exact hK
    case stop =>
      intro D c W _ h
      exact h.elim
    case body =>
      rintro l' q W ⟨k, rfl, hk, hgW, i⟩ hlt
      obtain ⟨h1, h2, h3, h4, h5, h6, h7⟩ := HN.out
      have hc0 : 0 < cut (p + k) fz := by
        have h4 : (p + k) % 128 < 128 := Nat.mod_lt _ (by decide)
        unfold cut
        omega
      have hc1 : k + cut (p + k) fz ≤ m := by unfold cut; omega
      have hc2 : (p + k) % (N * 128) + cut (p + k) fz ≤ N * 128 := by
        have e1 := place_eq N (p + k)
        have e2 := sec_lt (p := p + k) hO.one
        have e3 : cut (p + k) fz ≤ 128 - (p + k) % 128 := by unfold cut; omega
        have e4 : (p + k) % 128 < 128 := Nat.mod_lt _ (by decide)
        generalize cut (p + k) fz = c at *
        generalize (p + k) % (N * 128) = q at *
        generalize (p + k) % 128 = t at *
        generalize sec N (p + k) = s at *
        clear HN h1 h2 h3 h4 h5 h6 h7 hc1 hc0 hlt hk hgW
        omega
      have hfit := hO.fits
      have hpos : T.start + (p - T.start + k) = p + k := by omega
      have hfl : T.fin = T.start + T.bs.length := rfl
      have hc3 : p - T.start + k + cut (p + k) fz ≤ T.bs.length := by omega
      have hrd := ring_read (n := cut (p + k) fz) (k := p - T.start + k) (ring_is N T.start T.bs) (by omega) (by rw [hpos]; exact hc2) hc3
      rw [hpos] at hrd
      have hv : (L.drop k).take (cut (p + k) fz) = ((ring N T.start T.bs).drop ((p + k) % (N * 128))).take (cut (p + k) fz) := by
        rw [hrd, hLd, List.drop_take, List.drop_drop, List.take_take, Nat.min_eq_left (by omega)]
      have hvl : ((L.drop k).take (cut (p + k) fz)).length = cut (p + k) fz := by
        rw [List.length_take, List.length_drop]
        omega
      have hr : W.rangeAt gR ((p + k) % (N * 128)) (byteCells ((L.drop k).take (cut (p + k) fz))) := by
        refine i.rng.range _ _ (fun j hj => ?_)
        rw [byteCells_length, hvl] at hj
        rw [hv]
        unfold byteCells
        rw [List.getElem?_map, List.getElem?_map, List.getElem?_take_of_lt hj, List.getElem?_drop]
      have hgR : gR ≠ gB := by
        have := hR.lt
        omega
      have hB : Bu gB gB (L.take k) W := by
        rcases i.bu with ⟨rfl, hb⟩ | ⟨_, hb⟩
        · rw [List.take_zero]
          exact .inl ⟨Nat.le_refl _, .slice none 0 0, hb, World.ownsRow_nil _ _ _ _, by simp [Value.ownBlock]⟩
        · exact hb
      have HW := write_walk gB gB (L.take k) W hB hgW gR ((p + k) % (N * 128)) (128 - (p + k) % 128) ((L.drop k).take (cut (p + k) fz)) hr hgR (by rw [hvl, List.length_take]; omega)
      rw [hvl, show L.take k ++ (L.drop k).take (cut (p + k) fz) = L.take (k + cut (p + k) fz) from by rw [List.take_add]] at HW
      have HE := Lib.hid (⟨hc0, hc1⟩ : 0 < cut (p + k) fz ∧ k + cut (p + k) fz ≤ m)
      have HW2 := Lib.hid HW
      clear HW hv hr hrd hvl hc0 hc1 hc2 hc3 h1 h2 h3 h4 h5 h6 h7 hlt hk hfit hpos hfl
      generalize cut (p + k) fz = c at *
      generalize (p + k) % (N * 128) = q at *
      generalize 128 - (p + k) % 128 = r at *
      gi_wp2_with (refine ⟨trivial, ?_⟩; refine (CallsIn.inRound l' (callsIn_wide.2 HW2.out)).mono ?_; rintro e W2 ⟨⟨x, rfl⟩, n1, n2, n3⟩)
      have ng : ∀ {b : Nat} {t : TypeId} {cs : List Value}, Has W b t cs → t ≠ 87 → b ≠ gB := fun h ht e => by
        obtain ⟨cs', t', f', hb⟩ : ∃ cs f, True ∧ W.heap[gB]? = some (.cells cs 87 f) := by
          rcases hB with ⟨_, _, hb, _⟩ | ⟨_, _, hb, _⟩
          · exact ⟨_, _, trivial, hb⟩
          · exact ⟨_, _, trivial, hb⟩
        unfold Has at h
        rw [e, hb] at h
        injection h with h
        injection h with _ h
        exact ht h.symm
      have ui := i.under.trans (n2.mono hgw)
      exact ⟨n3.keeps (bu_block hB), k + c, by omega, HE.out.2, Nat.le_trans hgW n3.1, n3.has i.bt2 (ng i.bt2 (by decide)) (by decide), n3.has i.bs2 (ng i.bs2 (by decide)) (by decide), hT.under ui hT.lt, hR.of_block (ui.block _ hR.lt), .inr ⟨by have := HE.out.1; omega, n1⟩, ui⟩
    case done =>
      rintro D W hD ⟨k, hk, hkl, hgW, i⟩ hK
      obtain ⟨h1, h2, h3, h4, h5, h6, h7⟩ := HN.out
      obtain rfl : k = m := by omega
      have h67 : readL T p k = L := h6.trans hLd.symm
      have HQ := Lib.hid (⟨h67, h7⟩ : readL T p k = L ∧ readE T p k = 0)
      have HS : Calls Try.prog 51 #[.pointer (some ⟨gB, 0, none⟩)] W fun e w' => e = .returned (.string ⟨L.toArray⟩) ∧ Below gB W w' ∧ w'.heap[D]? = some (.deferred (some [])) := by
        rcases i.bu with ⟨h0, hb⟩ | ⟨h0, hb⟩
        · have hLn : L = [] := List.eq_nil_of_length_eq_zero (by omega)
          rw [hLn]
          exact (string_none gB W hb).mono fun e w' ⟨he, hb, hx⟩ => ⟨he, hb.mono hgW, (hx D (Array.getElem?_eq_some_iff.1 hK).1 (fun cs f e => by rw [hK] at e; cases e)).trans hK⟩
        · rw [List.take_of_length_le (by omega)] at hb
          exact (string_walk gB gB L W hb (fun e => by rw [e] at hLl; simp at hLl; omega)).mono fun e w' ⟨he, hb, hx⟩ => ⟨he, hb, (hx D (Array.getElem?_eq_some_iff.1 hK).1 (fun cs f e => by rw [hK] at e; cases e)).trans hK⟩
      have HS2 := Lib.hid HS
      clear h1 h2 h3 h4 h5 h6 h7 h67 HS hk hLd hLl
      go_wp2_with (go_at_call 51; refine HS2.out.mono ?_; rintro e W2 ⟨rfl, bS, hK2⟩)
      have hgD : gB ≤ D := Nat.le_trans hgB5 hD
      refine post_mark rfl hK2 (results_tmp2 rfl _ _ _) ?_
      rw [HQ.out.1, HQ.out.2]
      have ui := i.under.trans (bS.mono hgw)
      exact ⟨rfl, ui.grown (grownBy_putObj' W2 D _) ui.size (fun k e => by cases e; exact Nat.le_trans hgw hgD)⟩
  · have hL : readL T p n = [] := by unfold readL; rw [if_neg h0]
    have u4 := A4.under
    rw [hw0.out] at u4
    go_wp2
    refine post_ret rfl (results_tmp2 rfl _ _ _) ?_
    rw [hL]
    exact ⟨rfl, u4⟩
end
end TD2
end Go.Proofs.Ytkhdidhpcdlmcaa
