/- The walk over a twin's Set. -/
import Derived.Test.YtkhdidhpcdlmcaaTwinSet
namespace Go.Proofs.Ytkhdidhpcdlmcaa
open Go.RowKit Go.Lib MM MF DM DK TM FL TH DN DW DF TD TN TS TO TT
namespace TU
/-- Is a text stored at all? -/
def may (S : St) (H : List UInt8) (lost : Bool) (t : List UInt8) : Int := if 55 < t.length then 3 else if lost = true ∨ S.on = false then 8 else if num H = 4294967295 then 10 else 0
def nextH (H t : List UInt8) : List UInt8 := half (num H + 1) t
def setE (S : St) (a : Int) (H : List UInt8) (lost : Bool) (t : List UInt8) : Int := if may S H lost t ≠ 0 then may S H lost t else stE S a (nextH H t)
def setS (S : St) (a : Int) (H : List UInt8) (lost : Bool) (t : List UInt8) : St := if may S H lost t ≠ 0 then S else stS S a (nextH H t)
def setH (S : St) (a : Int) (H : List UInt8) (lost : Bool) (t : List UInt8) : List UInt8 := if setE S a H lost t = 0 then nextH H t else H
def setL (S : St) (a : Int) (H : List UInt8) (lost : Bool) (t : List UInt8) : Bool := if may S H lost t = 0 ∧ setE S a H lost t ≠ 0 then true else lost
theorem set_not {S : St} {a : Int} {H : List UInt8} {lost : Bool} {t : List UInt8} {r : Int} (h : may S H lost t = r) (hr : r ≠ 0) : setE S a H lost t = r ∧ setS S a H lost t = S ∧ setH S a H lost t = H ∧ setL S a H lost t = lost := by
  subst h
  simp [setE, setS, setH, setL, hr]
theorem set_ok {S : St} {a : Int} {H : List UInt8} {lost : Bool} {t : List UInt8} (h : may S H lost t = 0) (he : stE S a (nextH H t) = 0) : setE S a H lost t = 0 ∧ setS S a H lost t = stS S a (nextH H t) ∧ setH S a H lost t = nextH H t ∧ setL S a H lost t = lost := by
  simp [setE, setS, setH, setL, h, he]
theorem set_bad {S : St} {a : Int} {H : List UInt8} {lost : Bool} {t : List UInt8} (h : may S H lost t = 0) (he : stE S a (nextH H t) ≠ 0) : setE S a H lost t = stE S a (nextH H t) ∧ setS S a H lost t = stS S a (nextH H t) ∧ setH S a H lost t = H ∧ setL S a H lost t = true := by
  simp [setE, setS, setH, setL, h, he]
theorem twin_lost (g : Nat) (a : Int) (h : List UInt8) (lost : Bool) (hh : h.length = 64) : splice (tcells g a h lost) 66 [.bool true] = tcells g a h true := by
  unfold splice tcells
  rw [show 66 = 64 + 1 + 1 from rfl, List.take_succ_cons, List.take_succ_cons, List.take_append, List.take_of_length_le (by rw [byteCells_length]; omega), byteCells_length, hh, List.drop_eq_nil_of_le (by simp [byteCells_length, hh])]
  simp
/-- What a Set leaves. -/
def SetEnd (w : World) (B g : Nat) (S : St) (fs : List Nat) (gt : Nat) (a : Int) (H : List UInt8) (lost : Bool) (w' : World) : Prop := ∃ fs', Dk w' B g S fs' ∧ Row w' gt 121 (tcells g a H lost) ∧ Fr w w' (gt :: fs) ∧ ∀ x ∈ fs', x ∈ fs ∨ w.heap.size ≤ x
set_option maxRecDepth 100000 in
set_option maxHeartbeats 4000000 in
theorem set_walk (w : World) (B g : Nat) (S : St) (fs : List Nat) (h : Dk w B g S fs) (gt : Nat) (a : Int) (h0 : 0 ≤ a) (h1 : a ≤ 4096) (H : List UInt8) (lost : Bool) (hH : H.length = 64) (hT : Row w gt 121 (tcells g a H lost)) (hgt : gt ∉ fs) (t : List UInt8) (ht : t.length ≤ 9223372036854775807) (hlen : S.un.length < 999999990) :
    Calls Try.prog 60 #[.pointer (some ⟨gt, 0, none⟩), .string ⟨t.toArray⟩] w fun e w' => e = .returned (.int .i64 (setE S a H lost t)) ∧ SetEnd w B g (setS S a H lost t) fs gt a (setH S a H lost t) (setL S a H lost t) w' := by
  obtain ⟨hc0, hc1, hc66⟩ := twin_cell hH hT
  have hgl := hT.lt
  have hmem := fun x hx => (h.mem x hx).2
  have HON := Lib.hid (on_walk h)
  have l2 := twin_range hT
  have HSH := Lib.hid (half_size hH)
  have HQ := Lib.hid (fun w => seq_walk H hH w)
  have HEND := Lib.hid (fun (w2 : World) (hb : Below w.heap.size w w2) => show SetEnd w B g S fs gt a H lost w2 from ⟨fs, h.below hb, hT.kept (Fr.of_below hb []) (by simp), Fr.of_below hb _, fun x hx => .inl hx⟩)
  have hnl := num_lt H
  by_cases h55 : 55 < t.length
  · obtain ⟨q1, q2, q3, q4⟩ := set_not (a := a) (show may S H lost t = 3 by unfold may; rw [if_pos h55]) (by decide)
    rw [q1, q2, q3, q4]
    have HX := Lib.hid (HEND.out w (Below.refl _ _))
    clear h hT q1 q2 q3 q4 HEND
    go_enter Try.func60, Try.ntmps60
    go_wp2
    go_ret
    exact ⟨rfl, HX.out⟩
  · have h55' : t.length ≤ 55 := by omega
    cases lost with
    | true =>
      obtain ⟨q1, q2, q3, q4⟩ := set_not (a := a) (show may S H true t = 8 by unfold may; rw [if_neg h55, if_pos (.inl rfl)]) (by decide)
      rw [q1, q2, q3, q4]
      have HX := Lib.hid (HEND.out w (Below.refl _ _))
      clear h hT q1 q2 q3 q4 HEND
      go_enter Try.func60, Try.ntmps60
      go_wp2
      go_ret
      exact ⟨rfl, HX.out⟩
    | false =>
      cases hon : S.on with
      | false =>
        obtain ⟨q1, q2, q3, q4⟩ := set_not (a := a) (show may S H false t = 8 by unfold may; rw [if_neg h55, if_pos (.inr hon)]) (by decide)
        rw [q1, q2, q3, q4]
        rw [hon] at HON
        have HX := Lib.hid (HEND.out w (Below.refl _ _))
        clear h hT q1 q2 q3 q4 HEND
        go_enter Try.func60, Try.ntmps60
        go_wp2_with (go_at_call 17; refine HON.out.mono ?_; rintro e w1 ⟨rfl, rfl⟩)
        go_ret
        exact ⟨rfl, HX.out⟩
      | true =>
        rw [hon] at HON
        by_cases hmax : num H = 4294967295
        · obtain ⟨q1, q2, q3, q4⟩ := set_not (a := a) (show may S H false t = 10 by unfold may; rw [if_neg h55, if_neg (by simp [hon]), if_pos hmax]) (by decide)
          rw [q1, q2, q3, q4]
          rw [hmax] at HQ
          clear h hT q1 q2 q3 q4
          go_enter Try.func60, Try.ntmps60
          go_wp2_with (first
            | (go_at_call 17; refine HON.out.mono ?_; rintro e w1 ⟨rfl, rfl⟩)
            | (refine wpList_load_mid rfl _ (.tmp 37) rfl gt 2 rfl (byteCells H) _ l2 Try.underlying116 rfl HSH.out ?_)
            | (go_at_call 100; refine (HQ.out _).mono ?_; rintro e w2 ⟨rfl, b2⟩))
          go_ret
          exact ⟨rfl, HEND.out _ b2⟩
        · have hmay : may S H false t = 0 := by unfold may; rw [if_neg h55, if_neg (by simp [hon]), if_neg hmax]
          have hX := half_length (num H + 1) t (by omega)
          have hN0 := fun w => new_half (num H + 1) t h55' w
          have HNX := Lib.hid (show nextH H t = half (num H + 1) t from rfl)
          have HST := Lib.hid (fun (w3 : World) (hb : Below w.heap.size w w3) => store_walk w3 B g S fs (h.below hb) gt a h0 h1 H false hH (hT.kept (Fr.of_below hb []) (by simp)) hgt (half (num H + 1) t) hX hlen)
          have HOK := Lib.hid (fun he => set_ok (a := a) hmay he)
          have HBAD := Lib.hid (fun he => set_bad (a := a) hmay he)
          rw [HNX.out] at HOK HBAD
          generalize setE S a H false t = xe at *
          generalize setS S a H false t = xs at *
          generalize setH S a H false t = xh at *
          generalize setL S a H false t = xl at *
          generalize half (num H + 1) t = X at *
          generalize hnum : num H = n at *
          have HN := Lib.hid (show ∀ w, Calls Try.prog 112 #[.int .u64 ((n : Int) + 1), .string ⟨t.toArray⟩] w fun e w' => e = .returned (.agg (byteCells X).toArray) ∧ Below w.heap.size w w' from fun w => by have := hN0 w; rwa [show ((n + 1 : Nat) : Int) = (n : Int) + 1 by omega] at this)
          have hqm : ((n : Int) == 4294967295) = false := beq_eq_false_iff_ne.2 (by omega)
          have HSX := Lib.hid (half_size hX)
          have HSP := Lib.hid (twin_splice g a H X false hH hX)
          have HSL := Lib.hid (twin_lost g a H false hH)
          have HTL := Lib.hid (tcells_length g a H false hH)
          obtain ⟨Z, hZ⟩ : ∃ Z, Z = byteCells zeros64 := ⟨_, rfl⟩
          have hzw := zero_half Z hZ
          have hXZ : (byteCells X).length = Z.length := by rw [hZ, byteCells_length, byteCells_length, hX]; rfl
          have hXl : (byteCells X).length = 64 := by rw [byteCells_length, hX]
          clear hZ hN0 hnum hmax
          have hone := byteCells_one X
          generalize byteCells X = cX at *
          generalize hse : stE S a X = se at *
          generalize stS S a X = sS at *
          clear hse
          have HONEX := Lib.hid hone
          clear hone
          by_cases hs : se = 0
          · subst hs
            obtain ⟨q1, q2, q3, q4⟩ := HOK.out rfl
            rw [q1, q2, q3, q4]
            clear q1 q2 q3 q4 HOK HBAD
            go_enter Try.func60, Try.ntmps60
            go_wp2_with (first
              | (go_at_call 17; refine HON.out.mono ?_; rintro e w1 ⟨rfl, rfl⟩)
              | (refine wpList_load_mid rfl _ (.tmp 37) rfl gt 2 rfl (byteCells H) _ l2 Try.underlying116 rfl HSH.out ?_)
              | (refine wpList_load_mid rfl _ (.tmp 43) rfl gt 2 rfl (byteCells H) _ l2b Try.underlying116 rfl HSH.out ?_)
              | (go_at_call 112
                 refine (HN.out _).mono ?_
                 rintro e w4 ⟨rfl, b4⟩
                 have bb4 := bb3.trans (b4.mono bb3.size)
                 have r4 : Row (w4.alloc (.cells Z.toArray 116)) w4.heap.size 116 Z := Row.of_has (heap_alloc_new w4 _)
                 have bb4a := bb4.alloc bb4.size (.cells Z.toArray 116))
              | (go_at_call 100
                 refine (HQ.out _).mono ?_
                 first
                 | (rintro e w3 ⟨rfl, b3⟩
                    have bb3 := b2.trans (b3.mono b2.size))
                 | (rintro e w2 ⟨rfl, b2⟩
                    have l2b := twin_range (hT.kept (Fr.of_below b2 []) (by simp))))
              | (refine wpList_store_all rfl _ (.tmp 5) (.tmp 48) rfl w4.heap.size cX rfl rfl 116 _ r4 hXZ HSX.out HONEX.out ?_
                 intro w5 hw5 hf5
                 have bb5 := bb4a.trans (hf5.below (B := w.heap.size) (by simpa using bb4.size) bb4a.size)
                 have l5 := hw5.range 0 _ (fun j hj => by rw [Nat.zero_add]))
              | (refine wpList_load_mid rfl _ (.tmp 5) rfl w4.heap.size 0 rfl cX _ l5 Try.underlying116 rfl HSX.out ?_)
              | (go_at_call 113
                 refine (HST.out w5 bb5).mono ?_
                 rintro e w6 ⟨rfl, f6, d6, r6, m6⟩
                 have hT6 := (hT.kept (Fr.of_below bb5 []) (by simp)).kept r6 hgt
                 have h56 := hw5.kept r6 (fun hx => Nat.lt_irrefl _ (Nat.lt_of_le_of_lt bb4.size (hmem _ hx)))
                 have l6 := h56.range 0 _ (fun j hj => by rw [Nat.zero_add])
                 have hfz := hT6.free 66
                 obtain ⟨-, -, hc66'⟩ := twin_cell hH hT6
                 have hne6 : gt ∉ f6 := fun hx => (m6 gt hx).elim hgt (fun hx => by have := bb5.size; omega)
                 have M6 := Lib.hid (show ∀ x ∈ f6, x ∈ fs ∨ w.heap.size ≤ x from fun x hx => (m6 x hx).imp id (fun hx => Nat.le_trans bb5.size hx))
                 have F6 := Lib.hid (show Fr w w6 (gt :: fs) from ((Fr.of_below bb5 (gt :: fs)).trans r6 (fun x hx => .inl (by simp [hx])))))
              | (refine wpList_load_mid rfl _ (.tmp 5) rfl w4.heap.size 0 rfl cX _ l6 Try.underlying116 rfl HSX.out ?_)
              | (refine wpList_store_at rfl _ (.tmp 61) (.tmp 59) rfl gt 2 cX rfl rfl 121 _ hT6 (by rw [HTL.out, hXl]; omega) HSX.out HONEX.out ?_
                 intro w7 hw7 hf7
                 rw [HSP.out] at hw7
                 have d7 := d6.kept hf7 (fun x hx => by simp; rintro rfl; exact hne6 hx)))
            go_ret
            exact ⟨rfl, f6, d7, hw7, F6.out.trans hf7 (by simp), M6.out⟩
          · obtain ⟨q1, q2, q3, q4⟩ := HBAD.out hs
            have hne : (se != 0) = true := by simpa using hs
            rw [q1, q2, q3, q4]
            clear q1 q2 q3 q4 HOK HBAD
            go_enter Try.func60, Try.ntmps60
            go_wp2_with (first
              | (go_at_call 17; refine HON.out.mono ?_; rintro e w1 ⟨rfl, rfl⟩)
              | (refine wpList_load_mid rfl _ (.tmp 37) rfl gt 2 rfl (byteCells H) _ l2 Try.underlying116 rfl HSH.out ?_)
              | (refine wpList_load_mid rfl _ (.tmp 43) rfl gt 2 rfl (byteCells H) _ l2b Try.underlying116 rfl HSH.out ?_)
              | (go_at_call 112
                 refine (HN.out _).mono ?_
                 rintro e w4 ⟨rfl, b4⟩
                 have bb4 := bb3.trans (b4.mono bb3.size)
                 have r4 : Row (w4.alloc (.cells Z.toArray 116)) w4.heap.size 116 Z := Row.of_has (heap_alloc_new w4 _)
                 have bb4a := bb4.alloc bb4.size (.cells Z.toArray 116))
              | (go_at_call 100
                 refine (HQ.out _).mono ?_
                 first
                 | (rintro e w3 ⟨rfl, b3⟩
                    have bb3 := b2.trans (b3.mono b2.size))
                 | (rintro e w2 ⟨rfl, b2⟩
                    have l2b := twin_range (hT.kept (Fr.of_below b2 []) (by simp))))
              | (refine wpList_store_all rfl _ (.tmp 5) (.tmp 48) rfl w4.heap.size cX rfl rfl 116 _ r4 hXZ HSX.out HONEX.out ?_
                 intro w5 hw5 hf5
                 have bb5 := bb4a.trans (hf5.below (B := w.heap.size) (by simpa using bb4.size) bb4a.size)
                 have l5 := hw5.range 0 _ (fun j hj => by rw [Nat.zero_add]))
              | (refine wpList_load_mid rfl _ (.tmp 5) rfl w4.heap.size 0 rfl cX _ l5 Try.underlying116 rfl HSX.out ?_)
              | (go_at_call 113
                 refine (HST.out w5 bb5).mono ?_
                 rintro e w6 ⟨rfl, f6, d6, r6, m6⟩
                 have hT6 := (hT.kept (Fr.of_below bb5 []) (by simp)).kept r6 hgt
                 have h56 := hw5.kept r6 (fun hx => Nat.lt_irrefl _ (Nat.lt_of_le_of_lt bb4.size (hmem _ hx)))
                 have l6 := h56.range 0 _ (fun j hj => by rw [Nat.zero_add])
                 have hfz := hT6.free 66
                 obtain ⟨-, -, hc66'⟩ := twin_cell hH hT6
                 have hne6 : gt ∉ f6 := fun hx => (m6 gt hx).elim hgt (fun hx => by have := bb5.size; omega)
                 have M6 := Lib.hid (show ∀ x ∈ f6, x ∈ fs ∨ w.heap.size ≤ x from fun x hx => (m6 x hx).imp id (fun hx => Nat.le_trans bb5.size hx))
                 have F6 := Lib.hid (show Fr w w6 (gt :: fs) from ((Fr.of_below bb5 (gt :: fs)).trans r6 (fun x hx => .inl (by simp [hx]))))))
            have hw7 := hT6.put 66 [.bool true] (by rw [HTL.out]; decide)
            rw [HSL.out] at hw7
            have hf7 : Fr w6 (w6.setCell ⟨gt, 66, none⟩ (.bool true)) [gt] := (Fr.refl w6 [gt]).setCell (by simp) _
            have d7 := d6.kept hf7 (fun x hx => by simp; rintro rfl; exact hne6 hx)
            go_ret
            exact ⟨rfl, f6, d7, hw7, F6.out.trans hf7 (by simp), M6.out⟩
end TU
end Go.Proofs.Ytkhdidhpcdlmcaa
