/- The statement's put: a piece behind a tape's bytes, a Flush, a Publish. -/
import Derived.Test.YtkhdidhpcdlmcaaTapeNoDisk
import Derived.BigQuiet
namespace Go.Proofs.Ytkhdidhpcdlmcaa
set_option maxRecDepth 100000
open Go.RowKit Go.Lib MM MF DM DK DN MY TM TO TD DP TP RN PL TF TR TQ BL FL TA TZ TI TJ TK TN2 TO2 TD2 TV TU TT DW DF DU TG TB TW TX TNo TNd
namespace TPu
/-- A piece. -/
structure Pc where
  many : Nat
  letter : UInt8
  fl : Bool
  pb : Bool
  cutn : Nat
  more : List UInt8
def pcells (x : Pc) : List Value := [.int .u8 x.many, .int .u8 x.letter.toNat, .bool x.fl, .bool x.pb, .int .u8 x.cutn, .string ⟨x.more.toArray⟩]
/-- What one has: an answer, a tape, a disk, a twin's half, lost. -/
structure Pu where
  c : Int
  T : TS
  S : St
  h : List UInt8
  j : Bool
def toOf (T : TS) (x : Pc) : Nat := if T.stable < T.start + x.cutn then T.stable else T.start + x.cutn
def putPub (a : Int) (x : Pc) (T : TS) (S : St) (h : List UInt8) (j : Bool) : Pu :=
  if x.pb = true then ⟨pubE S a h j T (toOf T x) (x.more.take 32), pubT S a h j T (toOf T x) (x.more.take 32), pubS S a h j T (toOf T x) (x.more.take 32), pubH S a h j T (toOf T x) (x.more.take 32), pubL S a h j T (toOf T x) (x.more.take 32)⟩ else ⟨0, T, S, h, j⟩
section
variable {w0 w : World} {gT gR g gt N b : Nat} {a : Int} {T : TS} {S : St} {h : List UInt8} {j : Bool} {Ps : List (World → List Nat → Prop)}
theorem take_text (l : List UInt8) : (⟨l.toArray⟩ : ByteArray).extract 0 (min l.length 32) = ⟨(l.take 32).toArray⟩ := by
  rw [ByteArray.extract_mk]
  congr 1
  simp
  exact Nat.min_comm _ _
theorem take_text2 (l : List UInt8) : (⟨l.toArray⟩ : ByteArray).extract 0 (min (l.length : Int) 32).toNat = ⟨(l.take 32).toArray⟩ := by
  rw [← take_text l]
  congr 1
  omega
/-- What put leaves. -/
def putOf (N : Nat) (a : Int) (x : Pc) (T : TS) (S : St) (h : List UInt8) (j : Bool) : Pu :=
  if x.fl = true then (if (flR N a (appT N T (bytesL x.letter x.many)) S h j).1 ≠ 0 then ⟨(flR N a (appT N T (bytesL x.letter x.many)) S h j).1, flT N a (appT N T (bytesL x.letter x.many)) S h j, (flR N a (appT N T (bytesL x.letter x.many)) S h j).2.1, (flR N a (appT N T (bytesL x.letter x.many)) S h j).2.2.1, (flR N a (appT N T (bytesL x.letter x.many)) S h j).2.2.2⟩
    else putPub a x (flT N a (appT N T (bytesL x.letter x.many)) S h j) (flR N a (appT N T (bytesL x.letter x.many)) S h j).2.1 (flR N a (appT N T (bytesL x.letter x.many)) S h j).2.2.1 (flR N a (appT N T (bytesL x.letter x.many)) S h j).2.2.2)
  else putPub a x (appT N T (bytesL x.letter x.many)) S h j
set_option maxHeartbeats 8000000 in
theorem put_walk (x : Pc) (hx : x.many ≤ 255) (hc : x.cutn ≤ 255) (hA : All w0 w (Tp w0.heap.size gT gR g gt a N T :: Ti w0.heap.size gt g a h j :: Di w0.heap.size g S :: Ps)) (ha0 : 0 ≤ a) (ha1 : a ≤ 4096)
    (hc1 : appE N T x.many = 0 ∨ appE N T x.many = 7) (hun : S.un.length < 999980000) (hun2 : (flR N a (appT N T (bytesL x.letter x.many)) S h j).2.1.un.length < 999999990) (hml : x.more.length ≤ 9223372036854775807) :
    Calls Try.prog 10 #[.pointer (some ⟨gT, 0, none⟩), .agg (pcells x).toArray] w fun e w' => e = .returned (.int .i64 (putOf N a x T S h j).c) ∧
      All w0 w' (Tp w0.heap.size gT gR g gt a N (putOf N a x T S h j).T :: Ti w0.heap.size gt g a (putOf N a x T S h j).h (putOf N a x T S h j).j :: Di w0.heap.size g (putOf N a x T S h j).S :: Ps) := by
  obtain ⟨many, letter, fl, pb, cutn, more⟩ := x
  simp only at hx hc hc1 hun2 hml
  have A1 := bl_new hA 35 [.int .u8 many, .int .u8 letter.toNat, .bool fl, .bool pb, .int .u8 cutn, .string ⟨more.toArray⟩]
  obtain ⟨bx, ebx⟩ : ∃ bx, bx = w.heap.size := ⟨_, rfl⟩
  rw [← ebx] at A1
  have FA : Hid (All w0 (w.alloc (.cells #[.int .u8 many, .int .u8 letter.toNat, .bool fl, .bool pb, .int .u8 cutn, .string ⟨more.toArray⟩] 35)) (Tp w0.heap.size gT gR g gt a N T :: Ti w0.heap.size gt g a h j :: Di w0.heap.size g S :: Bl w0.heap.size bx 35 [.int .u8 many, .int .u8 letter.toNat, .bool fl, .bool pb, .int .u8 cutn, .string ⟨more.toArray⟩] :: Ps)) := Lib.hid (all_idx [_, _, _, _] 4 [1, 2, 3, 0] A1 rfl (by decide))
  clear hA A1
  have e1 : IntKind.i64.wrap (many : Int) = (many : Int) := by unfold IntKind.wrap; simp [IntKind.bits, IntKind.signed]; omega
  have HBy := Lib.hid (fun w1 => bytes_walk (w := w1) many (by omega) letter)
  simp only [pcells]
  go_enter Try.func10, Try.ntmps10
  go_wp2_with fail
  rw [← ebx]
  clear ebx
  refine (HBy.out _).mono ?_
  rintro e w2 ⟨rfl, hb2⟩
  have FB := Lib.hid (FA.out.below hb2)
  clear FA hb2 HBy
  have H3 := Lib.hid (ta_append FB.out (bytesL letter many) (by rw [bytesL_length]; omega))
  rw [bytesL_length] at H3
  clear FB
  go_wp2_with fail
  refine H3.out.mono ?_
  clear H3
  rintro e w3 ⟨rfl, A⟩
  have FA := Lib.hid A
  have c2 : w3.cell? ⟨bx, 2, none⟩ = some (.bool fl) := (all_has A (g := bx) (t := 35) (cs := [.int .u8 many, .int .u8 letter.toNat, .bool fl, .bool pb, .int .u8 cutn, .string ⟨more.toArray⟩]) (by simp)).cell 2
  have c3 : w3.cell? ⟨bx, 3, none⟩ = some (.bool pb) := (all_has A (g := bx) (t := 35) (cs := [.int .u8 many, .int .u8 letter.toNat, .bool fl, .bool pb, .int .u8 cutn, .string ⟨more.toArray⟩]) (by simp)).cell 3
  have c4 : w3.cell? ⟨bx, 4, none⟩ = some (.int .u8 cutn) := (all_has A (g := bx) (t := 35) (cs := [.int .u8 many, .int .u8 letter.toNat, .bool fl, .bool pb, .int .u8 cutn, .string ⟨more.toArray⟩]) (by simp)).cell 4
  have c5 : w3.cell? ⟨bx, 5, none⟩ = some (.string ⟨more.toArray⟩) := (all_has A (g := bx) (t := 35) (cs := [.int .u8 many, .int .u8 letter.toNat, .bool fl, .bool pb, .int .u8 cutn, .string ⟨more.toArray⟩]) (by simp)).cell 5
  clear A
  generalize appE N T many = ce at *
  rcases hc1 with rfl | rfl
  all_goals
    cases fl with
    | false =>
      have HP := Lib.hid (show putOf N a ⟨many, letter, false, pb, cutn, more⟩ T S h j = putPub a ⟨many, letter, false, pb, cutn, more⟩ (appT N T (bytesL letter many)) S h j from if_neg (fun h => by cases h))
      have hun3 : S.un.length < 999999990 := by omega
      generalize appT N T (bytesL letter many) = T2 at FA HP
      clear hun2
      clear hun
      cases pb with
      | false =>
        go_wp2
        go_ret
        rw [HP.out]
        exact ⟨rfl, (all_idx [_, _, _, _] 4 [3, 0, 1, 2] FA.out rfl (by decide)).tail⟩
      | true =>
        have HS := Lib.hid (fun n => ta_start (FA.out.below (drawn_below _ n)))
        have hO := ta_ok FA.out
        have hlo := hO.low
        have hhi := hO.high
        have hen := hO.ends
        have HSt := Lib.hid (fun n => ta_stable (FA.out.below (drawn_below _ n)))
        have e3 : IntKind.u64.wrap (cutn : Int) = (cutn : Int) := by unfold IntKind.wrap; simp [IntKind.bits, IntKind.signed]; omega
        obtain ⟨su, hsu⟩ : ∃ su, su = T2.start + cutn := ⟨_, rfl⟩
        have e4 : IntKind.u64.wrap ((T2.start : Int) + (cutn : Int)) = (su : Int) := add_fits hsu.symm (by omega)
        have HSU := Lib.hid hsu
        clear hsu hO
        go_wp2_with fail
        go_quiet ((go_at_call 22; first | exact Calls.quiet_of_same (HS.out 0) | exact Calls.quiet_of_same (HS.out _)))
        obtain ⟨sb, hsb⟩ : ∃ sb, sb = T2.stable := ⟨_, rfl⟩
        rw [← hsb] at HSt
        have HSB := Lib.hid hsb
        clear hsb hlo hhi hen
        rcases Nat.lt_or_ge sb su with k1 | k1
        · have d1 : decide (sb < su) = true := decide_eq_true k1
          go_wp2_with (go_at_call 13; refine (HSt.out _).mono ?_; rintro e w5 ⟨rfl, rfl⟩)
          rw [take_text2]
          have hto : toOf T2 ⟨many, letter, false, true, cutn, more⟩ = sb := by unfold toOf; rw [← HSU.out, ← HSB.out]; exact if_pos k1
          have H6 := Lib.hid (publish_walk (FA.out.below (drawn_below _ nq)) sb (more.take 32) ha0 ha1 hun3)
          have HTO := Lib.hid hto
          clear hto FA
          refine H6.out.mono ?_
          clear H6
          rintro e w6 ⟨rfl, A6⟩
          have HA := Lib.hid A6
          clear A6
          go_wp2
          go_ret
          rw [HP.out]
          unfold putPub
          rw [if_pos rfl, HTO.out]
          exact ⟨rfl, (all_idx [_, _, _, _] 4 [3, 0, 1, 2] HA.out rfl (by decide)).tail⟩
        · have d1 : decide (sb < su) = false := decide_eq_false (by omega)
          go_wp2_with (go_at_call 13; refine (HSt.out _).mono ?_; rintro e w5 ⟨rfl, rfl⟩)
          rw [take_text2]
          have hto : toOf T2 ⟨many, letter, false, true, cutn, more⟩ = su := by unfold toOf; rw [← HSU.out, ← HSB.out]; exact if_neg (by omega)
          have H6 := Lib.hid (publish_walk (FA.out.below (drawn_below _ nq)) su (more.take 32) ha0 ha1 hun3)
          have HTO := Lib.hid hto
          clear hto FA
          refine H6.out.mono ?_
          clear H6
          rintro e w6 ⟨rfl, A6⟩
          have HA := Lib.hid A6
          clear A6
          go_wp2
          go_ret
          rw [HP.out]
          unfold putPub
          rw [if_pos rfl, HTO.out]
          exact ⟨rfl, (all_idx [_, _, _, _] 4 [3, 0, 1, 2] HA.out rfl (by decide)).tail⟩
    | true =>
      have H4 := Lib.hid (flush_walk FA.out ha0 ha1 hun)
      clear hun FA
      go_wp2_with fail
      refine H4.out.mono ?_
      clear H4
      rintro e w4 ⟨rfl, A⟩
      clear c2 c3 c4 c5
      have FA := Lib.hid A
      have c3 : w4.cell? ⟨bx, 3, none⟩ = some (.bool pb) := (all_has A (g := bx) (t := 35) (cs := [.int .u8 many, .int .u8 letter.toNat, .bool true, .bool pb, .int .u8 cutn, .string ⟨more.toArray⟩]) (by simp)).cell 3
      have c4 : w4.cell? ⟨bx, 4, none⟩ = some (.int .u8 cutn) := (all_has A (g := bx) (t := 35) (cs := [.int .u8 many, .int .u8 letter.toNat, .bool true, .bool pb, .int .u8 cutn, .string ⟨more.toArray⟩]) (by simp)).cell 4
      have c5 : w4.cell? ⟨bx, 5, none⟩ = some (.string ⟨more.toArray⟩) := (all_has A (g := bx) (t := 35) (cs := [.int .u8 many, .int .u8 letter.toNat, .bool true, .bool pb, .int .u8 cutn, .string ⟨more.toArray⟩]) (by simp)).cell 5
      clear A
      have HP0 : putOf N a ⟨many, letter, true, pb, cutn, more⟩ T S h j = (if (flR N a (appT N T (bytesL letter many)) S h j).1 ≠ 0 then ⟨(flR N a (appT N T (bytesL letter many)) S h j).1, flT N a (appT N T (bytesL letter many)) S h j, (flR N a (appT N T (bytesL letter many)) S h j).2.1, (flR N a (appT N T (bytesL letter many)) S h j).2.2.1, (flR N a (appT N T (bytesL letter many)) S h j).2.2.2⟩ else putPub a ⟨many, letter, true, pb, cutn, more⟩ (flT N a (appT N T (bytesL letter many)) S h j) (flR N a (appT N T (bytesL letter many)) S h j).2.1 (flR N a (appT N T (bytesL letter many)) S h j).2.2.1 (flR N a (appT N T (bytesL letter many)) S h j).2.2.2) := if_pos rfl
      generalize flT N a (appT N T (bytesL letter many)) S h j = T2 at FA HP0
      generalize (flR N a (appT N T (bytesL letter many)) S h j) = rr at FA HP0 hun2 ⊢
      obtain ⟨rc, S2, h2, j2⟩ := rr
      by_cases hz : rc = 0
      · subst hz
        have HP := Lib.hid (HP0.trans (if_neg (fun h => h rfl)))
        have hun3 : S2.un.length < 999999990 := hun2
        clear hun2 HP0
        cases pb with
        | false =>
          go_wp2
          go_ret
          rw [HP.out]
          exact ⟨rfl, (all_idx [_, _, _, _] 4 [3, 0, 1, 2] FA.out rfl (by decide)).tail⟩
        | true =>
          have HS := Lib.hid (fun n => ta_start (FA.out.below (drawn_below _ n)))
          have hO := ta_ok FA.out
          have hlo := hO.low
          have hhi := hO.high
          have hen := hO.ends
          have HSt := Lib.hid (fun n => ta_stable (FA.out.below (drawn_below _ n)))
          have e3 : IntKind.u64.wrap (cutn : Int) = (cutn : Int) := by unfold IntKind.wrap; simp [IntKind.bits, IntKind.signed]; omega
          obtain ⟨su, hsu⟩ : ∃ su, su = T2.start + cutn := ⟨_, rfl⟩
          have e4 : IntKind.u64.wrap ((T2.start : Int) + (cutn : Int)) = (su : Int) := add_fits hsu.symm (by omega)
          have HSU := Lib.hid hsu
          clear hsu hO
          go_wp2_with fail
          go_quiet ((go_at_call 22; first | exact Calls.quiet_of_same (HS.out 0) | exact Calls.quiet_of_same (HS.out _)))
          obtain ⟨sb, hsb⟩ : ∃ sb, sb = T2.stable := ⟨_, rfl⟩
          rw [← hsb] at HSt
          have HSB := Lib.hid hsb
          clear hsb hlo hhi hen
          rcases Nat.lt_or_ge sb su with k1 | k1
          · have d1 : decide (sb < su) = true := decide_eq_true k1
            go_wp2_with (go_at_call 13; refine (HSt.out _).mono ?_; rintro e w5 ⟨rfl, rfl⟩)
            rw [take_text2]
            have hto : toOf T2 ⟨many, letter, true, true, cutn, more⟩ = sb := by unfold toOf; rw [← HSU.out, ← HSB.out]; exact if_pos k1
            have H6 := Lib.hid (publish_walk (FA.out.below (drawn_below _ nq)) sb (more.take 32) ha0 ha1 hun3)
            have HTO := Lib.hid hto
            clear hto FA
            refine H6.out.mono ?_
            clear H6
            rintro e w6 ⟨rfl, A6⟩
            have HA := Lib.hid A6
            clear A6
            go_wp2
            go_ret
            rw [HP.out]
            unfold putPub
            rw [if_pos rfl, HTO.out]
            exact ⟨rfl, (all_idx [_, _, _, _] 4 [3, 0, 1, 2] HA.out rfl (by decide)).tail⟩
          · have d1 : decide (sb < su) = false := decide_eq_false (by omega)
            go_wp2_with (go_at_call 13; refine (HSt.out _).mono ?_; rintro e w5 ⟨rfl, rfl⟩)
            rw [take_text2]
            have hto : toOf T2 ⟨many, letter, true, true, cutn, more⟩ = su := by unfold toOf; rw [← HSU.out, ← HSB.out]; exact if_neg (by omega)
            have H6 := Lib.hid (publish_walk (FA.out.below (drawn_below _ nq)) su (more.take 32) ha0 ha1 hun3)
            have HTO := Lib.hid hto
            clear hto FA
            refine H6.out.mono ?_
            clear H6
            rintro e w6 ⟨rfl, A6⟩
            have HA := Lib.hid A6
            clear A6
            go_wp2
            go_ret
            rw [HP.out]
            unfold putPub
            rw [if_pos rfl, HTO.out]
            exact ⟨rfl, (all_idx [_, _, _, _] 4 [3, 0, 1, 2] HA.out rfl (by decide)).tail⟩

      · have hzb : (rc == 0) = false := by rw [beq_eq_false_iff_ne]; exact hz
        have HP := Lib.hid (HP0.trans (if_pos hz))
        clear HP0 hun2
        go_wp2
        go_ret
        rw [HP.out]
        exact ⟨rfl, (all_idx [_, _, _, _] 4 [3, 0, 1, 2] FA.out rfl (by decide)).tail⟩
end
end TPu
end Go.Proofs.Ytkhdidhpcdlmcaa
