/- The calls on tapes, among other things that lie apart. -/
import Derived.Test.YtkhdidhpcdlmcaaTapeOpen
import Derived.Test.YtkhdidhpcdlmcaaTapeRead
import Derived.Test.YtkhdidhpcdlmcaaTapePublish
import Derived.Test.YtkhdidhpcdlmcaaTapeFlush
namespace Go.Proofs.Ytkhdidhpcdlmcaa
set_option maxRecDepth 100000
open Go.RowKit Go.Lib MM MF DM DK MY TM TO TD DP TP RN PL TF TR TQ BL FL TA TZ TI TJ TK TN2 TO2 TD2
namespace TV
/-- A tape behind an Append. -/
def appT (N : Nat) (T : TS) (l : List UInt8) : TS := if appE N T l.length = 0 then { T with bs := T.bs ++ l } else T
theorem appT_ok {N : Nat} {T : TS} (h : T.Ok N) (l : List UInt8) : (appT N T l).Ok N := by
  unfold appT
  split
  · rename_i h0
    obtain ⟨_, h1, h2⟩ := appE_zero h0
    have h3 := h.fits
    have h4 := h.high
    have h5 := h.ends
    have ef : ({ T with bs := T.bs ++ l } : TS).fin = T.fin + l.length := by
      show T.start + (T.bs ++ l).length = T.start + T.bs.length + l.length
      rw [List.length_append]
      omega
    exact ⟨h.one, h.few, h.low, by rw [ef]; exact Nat.le_trans h4 (Nat.le_add_right _ _), by show (T.bs ++ l).length ≤ _; rw [List.length_append]; omega, by rw [ef]; omega, h.short⟩
  · exact h
section
variable {w0 w : World} {gT gR g gt N : Nat} {a : Int} {T : TS} {Ps : List (World → List Nat → Prop)}
theorem ta_ok (hA : All w0 w (Tp w0.heap.size gT gR g gt a N T :: Ps)) : T.Ok N := by obtain ⟨_, ⟨_, _, ho, _⟩, _⟩ := hA.opened; exact ho
theorem ta_append (hA : All w0 w (Tp w0.heap.size gT gR g gt a N T :: Ps)) (l : List UInt8) (hl : l.length < 4611686018427387904) :
    Calls Try.prog 15 #[.pointer (some ⟨gT, 0, none⟩), .string ⟨l.toArray⟩] w fun e w' => e = .returned (.int .i64 (appE N T l.length)) ∧ All w0 w' (Tp w0.heap.size gT gR g gt a N (appT N T l) :: Ps) := by
  obtain ⟨f, ⟨h, r, ho, h1, h2, rfl⟩, k⟩ := hA.opened
  refine (append_walk h r ho l hl).mono ?_
  rintro e w' ⟨c, rfl, rfl, hx⟩
  refine ⟨rfl, ?_⟩
  have ho' := appT_ok ho l
  rcases hx with ⟨hc, hb⟩ | ⟨hc, hT, hR, fr⟩
  · have e0 : appT N T l = T := by unfold appT; rw [if_neg hc]
    rw [e0]
    exact hA.below hb
  · have e0 : appT N T l = { T with bs := T.bs ++ l } := by unfold appT; rw [if_pos hc]
    rw [e0] at ho' ⊢
    exact k w' _ [gT, gR] (tp_kp _ _ _ _ _ _ _ _) ⟨hT, hR, ho', h1, h2, rfl⟩ fr (fun x hx => .inl hx)
theorem ta_read (hA : All w0 w (Tp w0.heap.size gT gR g gt a N T :: Ps)) (p : Nat) (n : Int) (hnn : n ≤ 9223372036854775807) :
    Calls Try.prog 12 #[.pointer (some ⟨gT, 0, none⟩), .int .u64 p, .int .i64 n] w fun e w' => e = .returned (.tuple #[.string ⟨(readL T p n).toArray⟩, .int .i64 (readE T p n)]) ∧ Below w.heap.size w w' := by
  obtain ⟨f, ⟨h, r, ho, h1, h2, rfl⟩, k⟩ := hA.opened
  exact read_walk h r ho p n hnn
theorem ta_start (hA : All w0 w (Tp w0.heap.size gT gR g gt a N T :: Ps)) : Calls Try.prog 22 #[.pointer (some ⟨gT, 0, none⟩)] w fun e w' => e = .returned (.int .u64 T.start) ∧ w' = w := by
  obtain ⟨f, ⟨h, _⟩, _⟩ := hA.opened
  exact start_walk h
theorem ta_stable (hA : All w0 w (Tp w0.heap.size gT gR g gt a N T :: Ps)) : Calls Try.prog 13 #[.pointer (some ⟨gT, 0, none⟩)] w fun e w' => e = .returned (.int .u64 T.stable) ∧ w' = w := by
  obtain ⟨f, ⟨h, _⟩, _⟩ := hA.opened
  exact stable_walk h
theorem ta_end (hA : All w0 w (Tp w0.heap.size gT gR g gt a N T :: Ps)) : Calls Try.prog 14 #[.pointer (some ⟨gT, 0, none⟩)] w fun e w' => e = .returned (.int .u64 T.fin) ∧ w' = w := by
  obtain ⟨f, ⟨h, _⟩, _⟩ := hA.opened
  exact end_walk h
theorem ta_meta (hA : All w0 w (Tp w0.heap.size gT gR g gt a N T :: Ps)) : Calls Try.prog 26 #[.pointer (some ⟨gT, 0, none⟩)] w fun e w' => e = .returned (.string ⟨T.more.toArray⟩) ∧ Below w.heap.size w w' := by
  obtain ⟨f, ⟨h, _, ho, _⟩, _⟩ := hA.opened
  obtain ⟨c0, c1, c2, c3, c4, c5, c6, c7, c8⟩ := tcs_cells h
  have hs := ho.short
  have HC := Lib.hid (fun w => WR.clone_walk T.more (by omega) w)
  clear h c0 c1 c2 c3 c4 c5 c6 c8
  go_enter Try.func26, Try.ntmps26
  go_wp2_with (go_at_call 66; refine (HC.out _).mono ?_; rintro e w1 ⟨rfl, hb⟩)
  go_ret
  exact ⟨rfl, hb⟩
end
end TV
end Go.Proofs.Ytkhdidhpcdlmcaa
