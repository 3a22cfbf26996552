/- A tape in memory, and its plain calls. -/
import Derived.Test.YtkhdidhpcdlmcaaTapeMath
import Derived.Test.YtkhdidhpcdlmcaaTapeFirst
import Derived.Test.YtkhdidhpcdlmcaaTwinMany
import Derived.Test.YtkhdidhpcdlmcaaBlocks
import Derived.Deep.RegionHeld3
namespace Go.Proofs.Ytkhdidhpcdlmcaa
set_option maxRecDepth 100000
open Go.RowKit Go.Lib MM MF DM DK MY TM DP TP RN PL TF TR BL FL
namespace TQ
/-- What a tape has. -/
structure TS where
  start : Nat
  stable : Nat
  bs : List UInt8
  more : List UInt8
  over : Bool
def TS.fin (T : TS) : Nat := T.start + T.bs.length
/-- It may be, on a ring of N sectors. -/
structure TS.Ok (T : TS) (N : Nat) : Prop where
  one : 1 ≤ N
  few : N ≤ 4096
  low : T.start ≤ T.stable
  high : T.stable ≤ T.fin
  fits : T.bs.length ≤ N * 128
  ends : T.fin ≤ 1099511627776
  short : T.more.length ≤ 32
def tcs (gR g gt : Nat) (a : Int) (N : Nat) (T : TS) : List Value := [.pointer (some ⟨g, 0, none⟩), .pointer (some ⟨gt, 0, none⟩), .int .i64 a, .slice (some ⟨gR, 0, none⟩) N N, .int .u64 T.start, .int .u64 T.stable, .int .u64 T.fin, .string ⟨T.more.toArray⟩, .bool T.over]
/-- The tape at gT, its ring at gR, on the disk at g, with the twin at gt, as a thing. -/
def Tp (B gT gR g gt : Nat) (a : Int) (N : Nat) (T : TS) (w : World) (fs : List Nat) : Prop :=
  Has w gT 80 (tcs gR g gt a N T) ∧ Row w gR 126 (byteCells (ring N T.start T.bs)) ∧ T.Ok N ∧ B ≤ gT ∧ B ≤ gR ∧ fs = [gT, gR]
theorem tp_kp (B gT gR g gt : Nat) (a : Int) (N : Nat) (T : TS) : Kp B (Tp B gT gR g gt a N T) := by
  refine ⟨?_, ?_⟩
  · rintro w fs ⟨h, r, _, h1, h2, rfl⟩ x hx
    simp only [List.mem_cons, List.not_mem_nil, or_false] at hx
    rcases hx with rfl | rfl
    · exact ⟨h1, h.lt⟩
    · exact ⟨h2, r.lt⟩
  · rintro w w' fs gs ⟨h, r, ho, h1, h2, rfl⟩ k hn
    exact ⟨k.has h (hn _ (by simp)), r.kept k (hn _ (by simp)), ho, h1, h2, rfl⟩
section
variable {w : World} {gT gR g gt N : Nat} {a : Int} {T : TS}
theorem tcs_cells (h : Has w gT 80 (tcs gR g gt a N T)) : w.cell? ⟨gT, 0, none⟩ = some (.pointer (some ⟨g, 0, none⟩)) ∧ w.cell? ⟨gT, 1, none⟩ = some (.pointer (some ⟨gt, 0, none⟩)) ∧ w.cell? ⟨gT, 2, none⟩ = some (.int .i64 a) ∧
    w.cell? ⟨gT, 3, none⟩ = some (.slice (some ⟨gR, 0, none⟩) N N) ∧ w.cell? ⟨gT, 4, none⟩ = some (.int .u64 T.start) ∧ w.cell? ⟨gT, 5, none⟩ = some (.int .u64 T.stable) ∧ w.cell? ⟨gT, 6, none⟩ = some (.int .u64 T.fin) ∧
    w.cell? ⟨gT, 7, none⟩ = some (.string ⟨T.more.toArray⟩) ∧ w.cell? ⟨gT, 8, none⟩ = some (.bool T.over) :=
  ⟨h.cell 0, h.cell 1, h.cell 2, h.cell 3, h.cell 4, h.cell 5, h.cell 6, h.cell 7, h.cell 8⟩
theorem gone_walk (h : Has w gT 80 (tcs gR g gt a N T)) : Calls Try.prog 46 #[.pointer (some ⟨gT, 0, none⟩)] w fun e w' => e = .returned (.int .i64 (if T.over then 8 else 0)) ∧ w' = w := by
  obtain ⟨c0, c1, c2, c3, c4, c5, c6, c7, c8⟩ := tcs_cells h
  clear h c1 c2 c3 c4 c5 c6 c7
  go_enter Try.func46, Try.ntmps46
  cases ho : T.over with
  | true =>
    rw [ho] at c8
    go_wp2
    go_ret
    exact ⟨rfl, rfl⟩
  | false =>
    rw [ho] at c8
    go_wp2
    go_ret
    exact ⟨rfl, rfl⟩
theorem ent_gone : Ent 46 := enters_of Try.func46 (by kernel_rfl) rfl
theorem asks_gone (h : Has w gT 80 (tcs gR g gt a N T)) : Asks (.func (.func 46) #[.pointer (some ⟨gT, 0, none⟩)] #[]) w (fun c' W' => c' = (if T.over then 8 else 0) ∧ Below w.heap.size w W') :=
  ⟨_, _, _, rfl, ent_gone, (gone_walk h).mono fun _ _ ⟨he, hb⟩ => ⟨_, he, rfl, hb ▸ Below.refl _ _⟩⟩
theorem start_walk (h : Has w gT 80 (tcs gR g gt a N T)) : Calls Try.prog 22 #[.pointer (some ⟨gT, 0, none⟩)] w fun e w' => e = .returned (.int .u64 T.start) ∧ w' = w := by
  obtain ⟨c0, c1, c2, c3, c4, c5, c6, c7, c8⟩ := tcs_cells h
  clear h
  go_enter Try.func22, Try.ntmps22
  go_wp2
  go_ret
  exact ⟨rfl, rfl⟩
theorem stable_walk (h : Has w gT 80 (tcs gR g gt a N T)) : Calls Try.prog 13 #[.pointer (some ⟨gT, 0, none⟩)] w fun e w' => e = .returned (.int .u64 T.stable) ∧ w' = w := by
  obtain ⟨c0, c1, c2, c3, c4, c5, c6, c7, c8⟩ := tcs_cells h
  clear h
  go_enter Try.func13, Try.ntmps13
  go_wp2
  go_ret
  exact ⟨rfl, rfl⟩
theorem end_walk (h : Has w gT 80 (tcs gR g gt a N T)) : Calls Try.prog 14 #[.pointer (some ⟨gT, 0, none⟩)] w fun e w' => e = .returned (.int .u64 T.fin) ∧ w' = w := by
  obtain ⟨c0, c1, c2, c3, c4, c5, c6, c7, c8⟩ := tcs_cells h
  clear h
  go_enter Try.func14, Try.ntmps14
  go_wp2
  go_ret
  exact ⟨rfl, rfl⟩
/-- The iterator that is made. -/
theorem places_walk (w : World) (gT from_ to_ : Nat) : Calls Try.prog 49 #[.pointer (some ⟨gT, 0, none⟩), .int .u64 from_, .int .u64 to_] w fun e w' => ∃ bf bt bs : Nat, e = .returned (.func (.func 108) #[] #[.pointer (some ⟨bf, 0, none⟩), .pointer (some ⟨bt, 0, none⟩), .pointer (some ⟨bs, 0, none⟩)]) ∧
    Has w' bf 30 [.int .u64 from_] ∧ Has w' bt 30 [.int .u64 to_] ∧ Has w' bs 26 [.pointer (some ⟨gT, 0, none⟩)] ∧ Below w.heap.size w w' ∧ w.heap.size ≤ bf ∧ w.heap.size ≤ bt ∧ w.heap.size ≤ bs := by
  go_enter Try.func49, Try.ntmps49
  go_wp2
  go_ret
  have h1 := has_fresh w [.pointer (some ⟨gT, 0, none⟩)] 26
  have h2 := has_fresh (w.alloc (.cells #[.pointer (some ⟨gT, 0, none⟩)] 26)) [.int .u64 from_] 30
  have h3 := has_fresh ((w.alloc (.cells #[.pointer (some ⟨gT, 0, none⟩)] 26)).alloc (.cells #[.int .u64 from_] 30)) [.int .u64 to_] 30
  simp only [World.size_alloc] at h2 h3
  have hb : Below w.heap.size w (((w.alloc (.cells #[.pointer (some ⟨gT, 0, none⟩)] 26)).alloc (.cells #[.int .u64 from_] 30)).alloc (.cells #[.int .u64 to_] 30)) := (((Below.refl _ w).alloc (Nat.le_refl _) _).alloc (by simp) _).alloc (by simp; omega) _
  exact ⟨_, _, _, rfl, h2.grow _, h3, (h1.grow _).grow _, hb, by omega, by omega, by omega⟩
end
end TQ
end Go.Proofs.Ytkhdidhpcdlmcaa
