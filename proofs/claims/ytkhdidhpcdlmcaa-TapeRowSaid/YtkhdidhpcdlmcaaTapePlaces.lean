/- The places of positions: the iterator's contract, and the law for a range over it. -/
import Derived.Test.YtkhdidhpcdlmcaaRound
import Derived.RangeFuncBound
import Derived.RangeFuncCalls
import Derived.Shelf.Abstract
import Derived.Shelf.RegionOpen
import Derived.WalkKit
import Derived.OwnWalkIn
import Derived.TacticsInMore
import Derived.LoopNIn
import Derived.LoopIn
namespace Go.Proofs.Ytkhdidhpcdlmcaa
open Go.RowKit Go.Shelf Go.Lib MM MF RN
namespace PL
/-- How many bytes the places of a position give at once. -/
def cut (p to_ : Nat) : Nat := min (128 - p % 128) (to_ - p)
/-- The sector's number, and the place in it. -/
def sec (N p : Nat) : Nat := p % (N * 128) / 128
theorem mod_mod (N p : Nat) : p % (N * 128) % 128 = p % 128 := Nat.mod_mod_of_dvd _ ⟨N, by omega⟩
theorem sec_lt {N p : Nat} (hN : 0 < N) : sec N p < N := by
  unfold sec
  have := Nat.mod_lt p (show 0 < N * 128 by omega)
  omega
theorem place_eq (N p : Nat) : sec N p * 128 + p % 128 = p % (N * 128) := by
  unfold sec
  rw [← mod_mod N p]
  omega
/-- What an iterator reads between two rounds. -/
structure Rd (W : World) (bt bs gT gR N to_ : Nat) : Prop where
  to_ : W.cell? ⟨bt, 0, none⟩ = some (.int .u64 to_)
  tape : W.cell? ⟨bs, 0, none⟩ = some (.pointer (some ⟨gT, 0, none⟩))
  ring : W.cell? ⟨gT, 3, none⟩ = some (.slice (some ⟨gR, 0, none⟩) N N)
/-- What a round is handed. -/
def enc (gR N to_ p : Nat) : Array Value := #[.int .i64 (sec N p : Nat), .slice (some ⟨gR, p % (N * 128), none⟩) (cut p to_) (128 - p % 128)]

theorem size_walk (w : World) (gT gR N : Nat) (hN : N < 4294967296) (h : w.cell? ⟨gT, 3, none⟩ = some (.slice (some ⟨gR, 0, none⟩) N N)) :
    Calls Try.prog 53 #[.pointer (some ⟨gT, 0, none⟩)] w fun e w' => e = .returned (.int .u64 ((N * 128 : Nat) : Int)) ∧ w' = w := by
  go_enter Try.func53, Try.ntmps53
  have e1 : IntKind.u64.wrap (N : Int) = (N : Int) := by unfold IntKind.wrap; simp [IntKind.bits, IntKind.signed]; omega
  have e2 : IntKind.u64.wrap ((N : Int) * 128) = ((N * 128 : Nat) : Int) := by unfold IntKind.wrap; simp [IntKind.bits, IntKind.signed]; omega
  go_wp2
  go_ret
  exact ⟨by rw [Int.natCast_mul]; rfl, rfl⟩

theorem slice_sec (s t c gR : Nat) (h1 : t < 128) (h : t + c ≤ 128) (w : World) : (Instr.sliceAt 126 (.pointer (some ⟨gR, s * 128, none⟩)) (some (.int .u64 (t : Int))) (some (.int .u64 ((t : Int) + (c : Int)))) none).run Try.prog w = .ok (.slice (some ⟨gR, s * 128 + t, none⟩) c (128 - t)) w := by
  have hl : (Try.prog.arrayLen 126 : Nat) = 128 := by kernel_rfl
  rw [run_sliceAt_array_lh (P := Try.prog) w 126 ⟨gR, s * 128, none⟩ (by kernel_rfl) .u64 .u64 t (t + (c : Int)) (by omega) (by omega) (by rw [hl]; omega)]
  have hz : (sizeOf (Try.prog.elem 126)).run Try.prog w = .ok 1 w := by kernel_rfl
  rw [hl, hz, show (t : Int).toNat = t from rfl, show ((t : Int) + (c : Int)).toNat = t + c by omega]
  simp only [Result.andThen, slicedAt, if_neg (show ¬ 128 = t by omega), Addr.add_mid, Nat.mul_one, show t + c - t = c by omega]
theorem nums (N q to_ : Nat) (hN0 : 0 < N) (hN : N < 4294967296) (hlt : q < to_) (ht : to_ < 4611686018427387904) : ∃ m s t c r d : Nat, m = q % (N * 128) ∧ s = sec N q ∧ t = q % 128 ∧ c = cut q to_ ∧ s < N ∧ s * 128 + t = m ∧ t < 128 ∧ r = 128 - t ∧ d = to_ - q ∧
    (q : Int) % ((N : Int) * 128) = (m : Int) ∧ IntKind.u64.wrap ((m : Int) / 128) = (s : Int) ∧ wrap64 (s : Int) = (s : Int) ∧ (m : Int).tmod 128 = (t : Int) ∧ IntKind.u64.wrap (128 - (t : Int)) = (r : Int) ∧
    IntKind.u64.wrap ((to_ : Int) - (q : Int)) = (d : Int) ∧ ((r ≤ d ∧ c = r) ∨ (d < r ∧ c = d)) ∧
    t + c ≤ 128 ∧ IntKind.u64.wrap ((q : Int) + (c : Int)) = ((q + c : Nat) : Int) ∧ q + c ≤ to_ ∧ 0 < c ∧ IntKind.u64.wrap ((t : Int) + (c : Int)) = (t : Int) + (c : Int) := by
  have hs := sec_lt (p := q) hN0
  have hst := place_eq N q
  have ht1 : q % 128 < 128 := Nat.mod_lt _ (by decide)
  have hc1 : q % 128 + cut q to_ ≤ 128 := by unfold cut; omega
  have hc2 : q + cut q to_ ≤ to_ := by unfold cut; omega
  have hc3 : 0 < cut q to_ := by unfold cut; omega
  refine ⟨_, _, _, _, _, _, rfl, rfl, rfl, rfl, hs, hst, ht1, rfl, rfl, ?_, ?_, ?_, ?_, ?_, ?_, ?_, hc1, ?_, hc2, hc3, ?_⟩
  · rw [Int.natCast_emod, Int.natCast_mul]; rfl
  · generalize q % (N * 128) = m at *
    generalize sec N q = s at *
    generalize q % 128 = t at *
    rw [show (m : Int) / 128 = (s : Int) by omega]
    unfold IntKind.wrap; simp [IntKind.bits, IntKind.signed]; omega
  · generalize sec N q = s at *
    unfold wrap64; omega
  · generalize q % (N * 128) = m at *
    generalize sec N q = s at *
    generalize q % 128 = t at *
    rw [show (m : Int).tmod 128 = ((m % 128 : Nat) : Int) from rfl, show m % 128 = t by omega]
  · generalize q % 128 = t at *
    unfold IntKind.wrap; simp [IntKind.bits, IntKind.signed]; omega
  · unfold IntKind.wrap; simp [IntKind.bits, IntKind.signed]; omega
  · unfold cut
    omega
  · generalize cut q to_ = c at *
    clear hs hst hc1 hc3
    unfold IntKind.wrap; simp [IntKind.bits, IntKind.signed]; omega
  · generalize cut q to_ = c at *
    generalize q % 128 = t at *
    clear hs hst hc2 hc3
    unfold IntKind.wrap; simp [IntKind.bits, IntKind.signed]; omega
set_option maxRecDepth 100000 in
set_option maxHeartbeats 2000000 in
/-- The iterator, for whatever the rounds keep. -/
theorem places_in {n : Nat} (l bf bt bs gT gR N from_ to_ : Nat) (hN0 : 0 < N) (hN : N < 4294967296) (hf : from_ ≤ to_) (ht : to_ < 4611686018427387904) (J : Nat → World → Prop) (Jx : World → Prop)
    (hR : ∀ p W, J p W → Rd W bt bs gT gR N to_)
    (hY : ∀ p W, J p W → p < to_ → YieldAt Fence.wide (n - 1) Try.prog l (enc gR N to_ p) W fun e W' => (e = .returned (.bool true) ∧ J (p + cut p to_) W') ∨ (e = .returned (.bool false) ∧ Jx W'))
    (W : World) (hfr : W.cell? ⟨bf, 0, none⟩ = some (.int .u64 from_)) (h0 : J from_ W) :
    CallsIn Fence.wide n Try.prog 108 #[.func (.yield l) #[] #[], .pointer (some ⟨bf, 0, none⟩), .pointer (some ⟨bt, 0, none⟩), .pointer (some ⟨bs, 0, none⟩)] W fun e W' =>
      (∃ v, e = .returned v) ∧ (J to_ W' ∨ Jx W') := by
  refine callsIn_of_wp Try.func108 rfl trivial ?_ rfl
  simp only [Try.ntmps108, List.size_toArray, List.length_cons, List.length_nil, Nat.reduceAdd, Nat.reduceSub, Array.replicate_succ, Array.replicate_zero, List.push_toArray, List.append_toArray, List.nil_append, List.cons_append]
  gi_wp2
  gi_loopw [5] (fun p wr => ∃ q : Nat, p = .int .u64 q ∧ q ≤ to_ ∧ J q wr) (fun p wr => match p with | .int _ i => (to_ - i.toNat) | _ => 0)
  case atStart => exact ⟨from_, rfl, hf, h0⟩
  case round =>
    obtain ⟨q, rfl, hq, hj⟩ := hrel
    obtain ⟨r1, r2, r3⟩ := hR q wr hj
    have HS := Lib.hid (callsIn_wide (n := n - 1).2 (size_walk wr gT gR N hN r3))
    rcases Nat.lt_or_ge q to_ with hlt | hge
    · obtain ⟨fn, tmps, assign, body, hy, hr⟩ := hY q wr hj hlt
      have hy' := Lib.hid hy
      unfold enc at hy
      obtain ⟨m, s, t, c, r, d, em, es, et, ec, hs, hst, ht1, hr1, hd1, e0, e1, e2, e3, e4, e5, hcc, hcr, e6, hqc, hc0, e7⟩ := nums N q to_ hN0 hN hlt ht
      have hz : ((N : Int) * 128) ≠ 0 := by clear em es et ec hst hr1 hd1 hcc; omega
      rw [← em, ← es, ← et, ← ec] at hy
      rw [← ec] at hr
      have HL := slice_sec s t c gR ht1 hcr wr
      rw [hst] at HL
      rw [← hr1] at hy HL
      clear hy' hY em es et ec hst hR hr1 hd1 hcr ht1
      have Hq := Lib.hid hqc
      have Hc := Lib.hid hc0
      clear hqc hc0
      rcases hcc with ⟨hle, rfl⟩ | ⟨hle, rfl⟩
      all_goals
        gi_wp2_with (refine ⟨trivial, fun x => absurd x (by simp [Fence.wide]), ?_⟩; refine HS.out.mono ?_; rintro e w3 ⟨rfl, rfl⟩)
      all_goals
        refine ⟨fun x => absurd x (by simp [Fence.wide]), hr.mono ?_⟩
        rintro e W3 (⟨rfl, hJ3⟩ | ⟨rfl, hJx3⟩)
        · gi_wp2
          go_roundw
          case rel => exact ⟨q + c, rfl, Hq.out, hJ3⟩
          case measure =>
            have := Hq.out
            have := Hc.out
            clear e0 e1 e2 e3 e5 e6 e7 hz e4
            simp
            omega
        · gi_wp2
          refine bodyPost_ret (results_none rfl _ _ _) rfl ?_
          exact ⟨⟨_, rfl⟩, .inr hJx3⟩
    · obtain rfl : q = to_ := by omega
      gi_wp2
      go_end0
      exact ⟨⟨_, rfl⟩, .inl hj⟩

/-- What a round must leave. -/
def rpost (B : Nat) (I : World → Prop) (Ix : Code → World → Prop) (W : World) : Exit → Act → World → Prop
  | .normal, _, W' => KeepsFrom B W W' ∧ I W'
  | .ret, _, W' => KeepsFrom B W W' ∧ Ix .ret W'
  | .exit id, _, W' => KeepsFrom B W W' ∧ Ix (.exit id) W'
  | .goto t, _, W' => KeepsFrom B W W' ∧ Ix (.goto t) W'
  | .panic _, _, _ => False
  | .outgrown, _, _ => False
theorem rpost_stays (B : Nat) (I : World → Prop) (Ix : Code → World → Prop) (W : World) : ¬ LetsOut (rpost B I Ix W) := fun ⟨_, _, h⟩ => h

theorem rpost_block (B : Nat) (I : World → Prop) (Ix : Code → World → Prop) (W : World) (id : Nat) : ¬ LetsOut (Exit.inBlock id (rpost B I Ix W)) := fun ⟨_, _, h⟩ => h
/-- **THE LAW: 'for .. := range t.places(from, to)'.** -/
theorem range_places {g : Operand} {ps : Array Tmp} {assign body : Code} {Q : Exit → Act → World → Prop} {a : Act} {w : World} {n : Nat}
    (bf bt bs gT gR N from_ to_ : Nat) (hN0 : 0 < N) (hN : N < 4294967296) (hf : from_ ≤ to_) (ht : to_ < 4611686018427387904)
    (hg : a.eval g = .func (.func 108) #[] #[.pointer (some ⟨bf, 0, none⟩), .pointer (some ⟨bt, 0, none⟩), .pointer (some ⟨bs, 0, none⟩)]) (hps : ps.size = 2)
    (hfr : w.cell? ⟨bf, 0, none⟩ = some (.int .u64 from_))
    (I : Nat → World → Prop) (Ix : Code → World → Prop) (hI : OwnFrom w.heap.size I) (hIx : OwnFrom w.heap.size Ix)
    (hRd : ∀ p W, I p W → Rd W bt bs gT gR N to_) (h0 : I from_ w) (a₁ : Nat → Act)
    (hassign : ∀ (l p : Nat) (W : World) (K : Act → World → Prop), K (a₁ p) W → assign.wpIn (Fence.wide.inRound l) (n - 1 - 1) Try.prog (Exit.then K (fun _ _ _ => False))
      { tmps := (ps.zip (enc gR N to_ p)).foldl (fun t (q, v) => t.setIfInBounds q v) a.tmps, defers := [] } W)
    (hbody : ∀ (l p : Nat) (W : World), I p W → p < to_ → body.wpIn (Fence.wide.inRound l) (n - 1 - 1) Try.prog (rpost w.heap.size (I (p + cut p to_)) Ix W) (a₁ p) W)
    (hdone : ∀ (D : Nat) (W : World), w.heap.size ≤ D → I to_ W → W.heap[D]? = some (.deferred (some [])) → Q .normal { a with defers := { target := .collected D, args := #[] } :: a.defers } W)
    (hstop : ∀ (D : Nat) (c : Code) (W : World), w.heap.size ≤ D → Ix c W → W.heap[D]? = some (.deferred (some [])) → c.wpIn Fence.wide n Try.prog Q { a with defers := { target := .collected D, args := #[] } :: a.defers } W) :
    (Code.rangeFunc g ps assign body).wpIn Fence.wide n Try.prog Q a w := by
  refine wpIn_rangeFunc ?_
  intro fn hfn
  obtain ⟨rec, hrec⟩ : ∃ rec : LoopState → Option Code → Loop, rec = fun st pe => { state := st, pending := pe, fn, tmps := a.tmps, params := ps, assign, body, defers := w.heap.size } := ⟨_, rfl⟩
  obtain ⟨W1, hW1⟩ : ∃ W1, (w.alloc (.deferred (some []))).alloc (.loop (rec .ready none)) = W1 := ⟨_, rfl⟩
  have hB1 : Below w.heap.size w W1 := by rw [← hW1]; exact ((Below.refl _ w).alloc (Nat.le_refl _) _).alloc (by simp) _
  have hL1 : W1.heap[w.heap.size + 1]? = some (.loop (rec .ready none)) := by
    rw [← hW1]
    have := World.alloc_heap_new (w.alloc (.deferred (some []))) (.loop (rec .ready none))
    rwa [World.size_alloc] at this
  have hK1 : W1.heap[w.heap.size]? = some (.deferred (some [])) := by
    rw [← hW1]
    exact (Below.heap_alloc _ _ _ (by simp)).trans (World.alloc_heap_new w _)
  have hI1 : I from_ W1 := by rw [← hW1]; exact hI.alloc _ (hI.alloc _ h0)
  refine ⟨w.heap.size + 1, [{ target := .collected w.heap.size, args := #[] }], W1, { target := .fn (.func 108) #[.pointer (some ⟨bf, 0, none⟩), .pointer (some ⟨bt, 0, none⟩), .pointer (some ⟨bs, 0, none⟩)], args := #[.func (.yield (w.heap.size + 1)) #[] #[]] }, W1, 108,
    #[.func (.yield (w.heap.size + 1)) #[] #[], .pointer (some ⟨bf, 0, none⟩), .pointer (some ⟨bt, 0, none⟩), .pointer (some ⟨bs, 0, none⟩)], W1, ?_, ?_, ?_, ?_, fun x => absurd x (by simp [Fence.wide]), ?_⟩
  · rw [← hW1, hrec]; exact run_enterLoop_outer _ _ _ _ _
  · simp only [resolve, hg]
    simp [go_sem]
  · exact fun _ _ => trivial
  · simp [invoke, go_sem]
  · refine (places_in (w.heap.size + 1) bf bt bs gT gR N from_ to_ hN0 hN hf ht
      (fun p W => I p W ∧ W.heap[w.heap.size + 1]? = some (.loop (rec .ready none)) ∧ W.heap[w.heap.size]? = some (.deferred (some [])))
      (fun W => ∃ c, Ix c W ∧ W.heap[w.heap.size + 1]? = some (.loop (rec .done (some c))) ∧ W.heap[w.heap.size]? = some (.deferred (some [])))
      (fun p W h => hRd p W h.1) ?_ W1 ?_ ⟨hI1, hL1, hK1⟩).mono ?_
    · rintro p W ⟨hi, hl, hk⟩ hlt
      have hlen : w.heap.size + 1 < W.heap.size := (Array.getElem?_eq_some_iff.1 hl).1
      have hy := run_yield (P := Try.prog) (args := enc gR N to_ p) hl (by rw [hrec]; exact hps.symm)
      rw [hrec] at hy
      refine ⟨fn, _, assign, body, hy, roundIn_of_wpIn hfn (hassign _ p W _ ⟨_, run_beginRound hl (by rw [hrec]), ?_⟩)⟩
      clear hy
      have hl2 : (W.putObj (w.heap.size + 1) (.loop { rec .ready none with state := .busy })).heap[w.heap.size + 1]? = some (.loop { rec .ready none with state := .busy }) := World.putObj_heap_same hlen
      have hk2 : (W.putObj (w.heap.size + 1) (.loop { rec .ready none with state := .busy })).heap[w.heap.size]? = some (.deferred (some [])) := (World.putObj_heap_other (by omega)).trans hk
      refine wpIn_mono (hbody _ p _ (hI.putObj _ hi (by omega) hl rfl) hlt) ?_
      have fin : ∀ (jump : Option Code) (W3 : World), KeepsFrom w.heap.size (W.putObj (w.heap.size + 1) (.loop { rec .ready none with state := .busy })) W3 →
          (Instr.endRound (w.heap.size + 1) jump).run Try.prog W3 = .ok (.bool jump.isNone) (W3.putObj (w.heap.size + 1) (.loop (rec (if jump.isNone then .ready else .done) jump))) ∧
          W3.heap[w.heap.size + 1]? = some (.loop { rec .ready none with state := .busy }) ∧
          (W3.putObj (w.heap.size + 1) (.loop (rec (if jump.isNone then .ready else .done) jump))).heap[w.heap.size + 1]? = some (.loop (rec (if jump.isNone then .ready else .done) jump)) ∧
          (W3.putObj (w.heap.size + 1) (.loop (rec (if jump.isNone then .ready else .done) jump))).heap[w.heap.size]? = some (.deferred (some [])) := fun jump W3 hk3 => by
        have hl3 := hk3.same _ _ (by omega) hl2 rfl
        have := run_endRound (P := Try.prog) jump hl3
        rw [hrec] at this ⊢
        exact ⟨this, by rw [hrec] at hl3; exact hl3, World.putObj_heap_same (Array.getElem?_eq_some_iff.1 hl3).1, (World.putObj_heap_other (by omega)).trans (hk3.same _ _ (Nat.le_refl _) hk2 rfl)⟩
      rintro e a3 W3 hp
      cases e with
      | normal =>
        obtain ⟨hk3, hi3⟩ := hp
        obtain ⟨hr, hl3, hl4, hk4⟩ := fin none W3 hk3
        exact ⟨_, _, hr, .inl ⟨rfl, hI.putObj _ hi3 (by omega) hl3 rfl, hl4, hk4⟩⟩
      | ret =>
        obtain ⟨hk3, hi3⟩ := hp
        obtain ⟨hr, hl3, hl4, hk4⟩ := fin (some .ret) W3 hk3
        exact ⟨_, _, hr, .inr ⟨rfl, .ret, hIx.putObj _ hi3 (by omega) hl3 rfl, hl4, hk4⟩⟩
      | exit id =>
        obtain ⟨hk3, hi3⟩ := hp
        obtain ⟨hr, hl3, hl4, hk4⟩ := fin (some (.exit id)) W3 hk3
        exact ⟨_, _, hr, .inr ⟨rfl, .exit id, hIx.putObj _ hi3 (by omega) hl3 rfl, hl4, hk4⟩⟩
      | goto t =>
        obtain ⟨hk3, hi3⟩ := hp
        obtain ⟨hr, hl3, hl4, hk4⟩ := fin (some (.goto t)) W3 hk3
        exact ⟨_, _, hr, .inr ⟨rfl, .goto t, hIx.putObj _ hi3 (by omega) hl3 rfl, hl4, hk4⟩⟩
      | panic ch => exact hp.elim
      | outgrown => exact hp.elim
    · exact (hB1.cell (p := ⟨bf, 0, none⟩) (cell_lt hfr)).trans hfr
    · rintro e W2 ⟨⟨v, rfl⟩, (⟨hi, hl, hk⟩ | ⟨c, hi, hl, hk⟩)⟩
      · exact ⟨none, _, by have := run_endLoop (P := Try.prog) hl (by rw [hrec]; simp); rw [hrec] at this; exact this, hdone _ _ (Nat.le_refl _) (hI.putObj _ hi (by omega) hl rfl) ((World.putObj_heap_other (by omega)).trans hk)⟩
      · exact ⟨some c, _, by have := run_endLoop (P := Try.prog) hl (by rw [hrec]; simp); rw [hrec] at this; exact this, hstop _ c _ (Nat.le_refl _) (hIx.putObj _ hi (by omega) hl rfl) ((World.putObj_heap_other (by omega)).trans hk)⟩
end PL
end Go.Proofs.Ytkhdidhpcdlmcaa
