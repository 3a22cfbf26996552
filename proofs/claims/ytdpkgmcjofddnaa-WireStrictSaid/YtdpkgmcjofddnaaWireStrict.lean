/- Of the beginnings of any bytes (the first forty) at most one is a number's bytes, and that is just how the number is put; likewise at most one is a text's. No condition. -/
import Derived.Test.YtdpkgmcjofddnaaWireLaw
import Derived.Test.YtdpkgmcjofddnaaLawKit
import Derived.ShutString
import Derived.ChangeMaps5
import Derived.Deep.RegionWith
namespace Go.Proofs.Ytdpkgmcjofddnaa
open Go.ChangeShapes Go.WideShapes Go.ChangeAt Go.RowKit Go.Lib WM WW WP WR WL LK
namespace WireStrict
def Done (w : World) (e : Ending) (w' : World) : Prop := e = .returned (.bool true) ∧ Below w.heap.size w w'

/-- Is the beginning of k bytes a number's? a text's? -/
def endN (s : List UInt8) (k : Nat) : Bool := !(numS (s.take k) false).2.2 && (numS (s.take k) false).2.1.isEmpty
def endT (s : List UInt8) (k : Nat) : Bool := !(textS (s.take k) false).2.2 && (textS (s.take k) false).2.1.isEmpty
def count (p : Nat → Bool) (k : Nat) : Nat := ((List.range k).filter p).length

theorem count_succ (p : Nat → Bool) (k : Nat) : count p (k + 1) = count p k + if p k then 1 else 0 := by
  unfold count
  rw [List.range_succ, List.filter_append, List.length_append]
  cases h : p k <;> simp [h]
theorem count_zero_of (p : Nat → Bool) : ∀ k, (∀ i, i < k → p i = false) → count p k = 0
  | 0, _ => rfl
  | k + 1, h => by
    rw [count_succ, count_zero_of p k (fun i hi => h i (by omega)), h k (by omega)]
    simp
theorem count_le (p : Nat → Bool) : ∀ k, (∀ i j, i < k → j < k → p i = true → p j = true → i = j) → count p k ≤ 1
  | 0, _ => by simp [count]
  | k + 1, h => by
    rw [count_succ]
    cases hk : p k with
    | false => simpa using count_le p k (fun i j hi hj => h i j (by omega) (by omega))
    | true =>
      have hz : count p k = 0 := count_zero_of p k (fun i hi => by
        cases hp : p i with
        | false => rfl
        | true => have := h i k (by omega) (by omega) hp hk; omega)
      simp [hz]

theorem endN_of {s : List UInt8} {k : Nat} (hk : k ≤ s.length) (h : endN s k = true) : ∃ n, numS (s.take k) false = (n, [], false) ∧ s.take k = numB n ∧ U64 n ∧ first s = some (n, k) := by
  rcases hf : first (s.take k) with _ | ⟨n, j⟩
  · rw [endN, numS_none hf] at h; simp at h
  · rw [endN, numS_some hf] at h
    obtain ⟨_, hj, ht, h64, hl, _⟩ := first_some hf
    have hd : (s.take k).drop j = [] := by simpa using h
    have hjk : j = (s.take k).length := by
      have := congrArg List.length hd
      rw [List.length_drop, List.length_nil] at this
      omega
    have e : s.take k = numB n := by rw [← ht, hjk, List.take_length]
    refine ⟨n, by rw [numS_some hf, hd], e, h64, ?_⟩
    have h2 := first_numB n (s.drop k) h64
    rw [← e, List.take_append_drop, List.length_take, Nat.min_eq_left hk] at h2
    exact h2
theorem endN_one {s : List UInt8} {i j : Nat} (hi : i ≤ s.length) (hj : j ≤ s.length) (h1 : endN s i = true) (h2 : endN s j = true) : i = j := by
  obtain ⟨n, _, _, _, e1⟩ := endN_of hi h1
  obtain ⟨m, _, _, _, e2⟩ := endN_of hj h2
  rw [e1] at e2
  simp only [Option.some.injEq, Prod.mk.injEq] at e2
  exact e2.2
theorem endT_of {s : List UInt8} {k : Nat} (hk : k ≤ s.length) (h : endT s k = true) : ∃ t K, textS (s.take k) false = (t, [], false) ∧ s.take k = textB t ∧ first s = some (t.length, K) ∧ k = K + t.length := by
  rcases hf : first (s.take k) with _ | ⟨n, j⟩
  · rw [endT, textS_none hf] at h; simp at h
  · rcases Nat.lt_or_ge ((s.take k).drop j).length n with hl | hl
    · rw [endT, textS_long hf hl] at h; simp at h
    · rw [endT, textS_some hf hl] at h
      have hs := textS_some hf hl
      obtain ⟨_, hj, ht, h64, hjl, _⟩ := first_some hf
      have hd : ((s.take k).drop j).drop n = [] := by simpa using h
      have hn : n = ((s.take k).drop j).length := by
        have := congrArg List.length hd
        rw [List.length_drop, List.length_nil] at this
        omega
      have e : ((s.take k).drop j).take n = (s.take k).drop j := by rw [hn, List.take_length]
      rw [e, hd] at hs
      have hkl : (s.take k).length = k := by rw [List.length_take]; omega
      refine ⟨(s.take k).drop j, j, hs, ?_, ?_, ?_⟩
      · rw [textB, ← hn, ← ht, List.take_append_drop]
      · rw [← hn]
        have h2 := first_numB n ((s.take k).drop j ++ s.drop k) h64
        rw [← List.append_assoc, ← ht, List.take_append_drop, List.take_append_drop] at h2
        rw [h2, List.length_take]
        congr 2
        omega
      · rw [List.length_drop] at hn ⊢
        omega
theorem endT_one {s : List UInt8} {i j : Nat} (hi : i ≤ s.length) (hj : j ≤ s.length) (h1 : endT s i = true) (h2 : endT s j = true) : i = j := by
  obtain ⟨t, K, _, _, e1, e3⟩ := endT_of hi h1
  obtain ⟨u, L, _, _, e2, e4⟩ := endT_of hj h2
  rw [e1] at e2
  simp only [Option.some.injEq, Prod.mk.injEq] at e2
  omega
theorem counts (s : List UInt8) : count (endN s) (s.length + 1) ≤ 1 ∧ count (endT s) (s.length + 1) ≤ 1 :=
  ⟨count_le _ _ fun i j hi hj => endN_one (by omega) (by omega), count_le _ _ fun i j hi hj => endT_one (by omega) (by omega)⟩
theorem counts_upto (p : Nat → Bool) (k : Nat) : count p k ≤ k := by
  unfold count
  have := List.length_filter_le p (List.range k)
  rw [List.length_range] at this
  exact this

theorem under_drew {a b : World} (h : Below a.drew.heap.size a.drew b) : Below a.heap.size a b := ⟨h.os, h.tape, h.output, h.size, h.block⟩
theorem cmp_cut {l t : List UInt8} {k : Nat} (h : t.take k = l) : (l == ((⟨t.toArray⟩ : ByteArray).extract 0 k).toList) = true := by
  rw [take_str, ByteArray.toList_mk, h]; simp
theorem putText_nil (u : List UInt8) (hu : u.length ≤ 40) (w : World) :
    Calls Try.prog 25 #[.string ⟨#[]⟩, .string ⟨u.toArray⟩] w fun e w' => e = .returned (.string ⟨(textB u).toArray⟩) ∧ Below w.heap.size w w' := by
  have h := putText_walk [] u (by simp) (by omega) w
  rw [List.nil_append] at h
  exact h

set_option maxRecDepth 100000 in
set_option maxHeartbeats 4000000 in
theorem walk (s : List UInt8) (w : World) :
    Calls Try.prog 7 #[.string ⟨s.toArray⟩] w (Done w) := by
  rcases Nat.lt_or_ge 40 s.length with hcase | hcase
  · go_enter Try.func7, Try.ntmps7
    go_wp2_with fail
    rw [take_str]
    have ht : (s.take 40).length ≤ 40 := by rw [List.length_take]; omega
    generalize s.take 40 = t at *
    go_loopw [3, 4, 5] (fun n x i wr => ∃ k : Nat, k ≤ t.length + 1 ∧ i = .int .i64 k ∧ n = .int .i64 (count (endN t) k) ∧ x = .int .i64 (count (endT t) k) ∧ Below w.heap.size w wr) (fun _ _ i _ => t.length + 1 - (intOf i).toNat)
    case atStart => exact ⟨0, by omega, rfl, rfl, rfl, Below.refl _ _⟩
    case round =>
      obtain ⟨k, hk, rfl, rfl, rfl, hbel⟩ := hrel
      by_cases hlt : k ≤ t.length
      · go_wp2_with fail
        go_region_with (go_at_call 14; (try rw [take_str]); refine (newReader_walk (t.take k) _).mono ?_; rintro e w2 ⟨rfl, h2, b2⟩)
        rename_i w1 h1 b1
        have B1 : Below w.heap.size w w1 := hbel.trans (⟨b1.os, b1.tape, b1.output, b1.size, fun i hi => b1.block i (Nat.lt_of_lt_of_le hi hbel.size)⟩)
        have s1 : wr.heap.size < w1.heap.size := h1.lt
        have B2 := B1.trans (b2.mono B1.size)
        have h12 : Rd w2 wr.heap.size (t.take k) false := h1.under b2 s1
        have hl40 : (t.take k).length ≤ 140737488355328 := by rw [List.length_take]; omega
        have hnum := num_walk (t.take k) false hl40 _ _ h12
        have htext := fun W hW => text_walk (t.take k) false hl40 w1.heap.size W hW
        have hcN := count_succ (endN t) k
        have hcT := count_succ (endT t) k
        have hbN := counts_upto (endN t) k
        have hbT := counts_upto (endT t) k
        have hg1 := hbel.size
        clear b1 b2 h1 h12 hbel
        have HT := Lib.hid htext
        clear htext
        cases hN : endN t k with
        | true =>
          obtain ⟨n, e1, e2, hn, -⟩ := endN_of hlt hN
          rw [e1] at hnum
          rw [hN] at hcN
          have hcmp := cmp_cut e2
          have HCN := Lib.hid hcN
          have HNUM := Lib.hid hnum
          clear hnum e1 e2 hN hcN
          go_wp2_with fail
          refine HNUM.out.mono ?_
          rintro e w3 ⟨rfl, h3, g3⟩
          have B3 := under_of_only B2 g3 B2.size hg1
          have h23 := Has.but h2 g3 (by intro h; injection h with h; omega)
          go_wp2_with fail
          refine (end_walk _ _ _ _ h3).mono ?_
          rintro e w4 ⟨rfl, rfl⟩
          go_wp2_with fail
          go_region_with (go_at_call 23; refine (bytesOf_walk n hn _).mono ?_; rintro e w4 ⟨rfl, b4⟩)
          have b4' := under_drew b4
          have BW := B3.trans (b4'.mono B3.size)
          have hq : Rd w4 w1.heap.size (t.take k) false := Has.under h23 b4' h23.lt
          clear B2 B3 h2 h23 g3 h3 b4 b4'
          go_wp2_with fail
          cases hT : endT t k with
          | true =>
            obtain ⟨u, K, e1, e2, -, e3⟩ := endT_of hlt hT
            have hu : u.length ≤ 40 := by omega
            have htx := HT.out _ hq
            rw [e1] at htx
            rw [hT] at hcT
            have HCT := Lib.hid hcT
            have HTX := Lib.hid htx
            have hcmp2 := cmp_cut e2
            clear htx hcT hT e1 e2 e3
            refine HTX.out.mono ?_
            rintro e w6 ⟨rfl, h6, g6⟩
            have B6 := under_of_only BW g6 BW.size B1.size
            go_wp2_with fail
            refine (end_walk _ _ _ _ h6).mono ?_
            rintro e w7 ⟨rfl, rfl⟩
            go_wp2_with fail
            go_region_with (go_at_call 25; refine (putText_nil u hu _).mono ?_; rintro e w7 ⟨rfl, b7⟩)
            go_wp2
            go_roundw
            case rel => exact ⟨k + 1, by omega, by go_num, by rw [HCN.out]; simp, by rw [HCT.out]; simp, B6.trans ((under_drew b7).mono B6.size)⟩
            case measure => simp [intOf]; omega
          | false =>
            have htx := HT.out _ hq
            have hnot : Hid ((!(textS (t.take k) false).2.2 && (textS (t.take k) false).2.1.isEmpty) = false) := hT
            rw [hT] at hcT
            have HCT := Lib.hid hcT
            clear hcT hT
            generalize textS (t.take k) false = x at *
            obtain ⟨u, l, b⟩ := x
            have HTX := Lib.hid htx
            clear htx
            refine HTX.out.mono ?_
            rintro e w6 ⟨rfl, h6, g6⟩
            have B6 := under_of_only BW g6 BW.size B1.size
            go_wp2_with fail
            refine (end_walk _ _ _ _ h6).mono ?_
            have hn6 := hnot.out
            rw [hn6]
            clear hn6 hnot
            rintro e w7 ⟨rfl, rfl⟩
            go_wp2
            go_roundw
            case rel => exact ⟨k + 1, by omega, by go_num, by rw [HCN.out]; simp, by rw [HCT.out]; simp, B6⟩
            case measure => simp [intOf]; omega
        | false =>
          have hnot : Hid ((!(numS (t.take k) false).2.2 && (numS (t.take k) false).2.1.isEmpty) = false) := hN
          rw [hN] at hcN
          have HCN := Lib.hid hcN
          clear hcN hN
          generalize numS (t.take k) false = x at *
          obtain ⟨n, l, b⟩ := x
          have HNUM := Lib.hid hnum
          clear hnum
          go_wp2_with fail
          refine HNUM.out.mono ?_
          rintro e w3 ⟨rfl, h3, g3⟩
          have BW := under_of_only B2 g3 B2.size hg1
          have hq : Rd w3 w1.heap.size (t.take k) false := Has.but h2 g3 (by intro h; injection h with h; omega)
          go_wp2_with fail
          refine (end_walk _ _ _ _ h3).mono ?_
          have hn6 := hnot.out
          rw [hn6]
          clear hn6 hnot B2 h2 g3 h3
          rintro e w4 ⟨rfl, rfl⟩
          go_wp2_with fail
          cases hT : endT t k with
          | true =>
            obtain ⟨u, K, e1, e2, -, e3⟩ := endT_of hlt hT
            have hu : u.length ≤ 40 := by omega
            have htx := HT.out _ hq
            rw [e1] at htx
            rw [hT] at hcT
            have HCT := Lib.hid hcT
            have HTX := Lib.hid htx
            have hcmp2 := cmp_cut e2
            clear htx hcT hT e1 e2 e3
            refine HTX.out.mono ?_
            rintro e w6 ⟨rfl, h6, g6⟩
            have B6 := under_of_only BW g6 BW.size B1.size
            go_wp2_with fail
            refine (end_walk _ _ _ _ h6).mono ?_
            rintro e w7 ⟨rfl, rfl⟩
            go_wp2_with fail
            go_region_with (go_at_call 25; refine (putText_nil u hu _).mono ?_; rintro e w7 ⟨rfl, b7⟩)
            go_wp2
            go_roundw
            case rel => exact ⟨k + 1, by omega, by go_num, by rw [HCN.out]; simp, by rw [HCT.out]; simp, B6.trans ((under_drew b7).mono B6.size)⟩
            case measure => simp [intOf]; omega
          | false =>
            have htx := HT.out _ hq
            have hnot : Hid ((!(textS (t.take k) false).2.2 && (textS (t.take k) false).2.1.isEmpty) = false) := hT
            rw [hT] at hcT
            have HCT := Lib.hid hcT
            clear hcT hT
            generalize textS (t.take k) false = x at *
            obtain ⟨u, l, b⟩ := x
            have HTX := Lib.hid htx
            clear htx
            refine HTX.out.mono ?_
            rintro e w6 ⟨rfl, h6, g6⟩
            have B6 := under_of_only BW g6 BW.size B1.size
            go_wp2_with fail
            refine (end_walk _ _ _ _ h6).mono ?_
            have hn6 := hnot.out
            rw [hn6]
            clear hn6 hnot
            rintro e w7 ⟨rfl, rfl⟩
            go_wp2
            go_roundw
            case rel => exact ⟨k + 1, by omega, by go_num, by rw [HCN.out]; simp, by rw [HCT.out]; simp, B6⟩
            case measure => simp [intOf]; omega
      · have hkl : k = t.length + 1 := by omega
        obtain ⟨c1, c2⟩ := counts t
        rw [← hkl] at c1 c2
        clear hkl
        go_wp2_with fail
        refine (works_walk _).mono ?_
        rintro e w2 ⟨rfl, b2⟩
        go_wp2
        go_ret
        exact ⟨rfl, hbel.trans (b2.mono hbel.size)⟩
  · go_enter Try.func7, Try.ntmps7
    go_wp2_with fail
    rw [take_str, List.take_length]
    have ht := hcase
    generalize s = t at *
    go_loopw [3, 4, 5] (fun n x i wr => ∃ k : Nat, k ≤ t.length + 1 ∧ i = .int .i64 k ∧ n = .int .i64 (count (endN t) k) ∧ x = .int .i64 (count (endT t) k) ∧ Below w.heap.size w wr) (fun _ _ i _ => t.length + 1 - (intOf i).toNat)
    case atStart => exact ⟨0, by omega, rfl, rfl, rfl, Below.refl _ _⟩
    case round =>
      obtain ⟨k, hk, rfl, rfl, rfl, hbel⟩ := hrel
      by_cases hlt : k ≤ t.length
      · go_wp2_with fail
        go_region_with (go_at_call 14; (try rw [take_str]); refine (newReader_walk (t.take k) _).mono ?_; rintro e w2 ⟨rfl, h2, b2⟩)
        rename_i w1 h1 b1
        have B1 : Below w.heap.size w w1 := hbel.trans (⟨b1.os, b1.tape, b1.output, b1.size, fun i hi => b1.block i (Nat.lt_of_lt_of_le hi hbel.size)⟩)
        have s1 : wr.heap.size < w1.heap.size := h1.lt
        have B2 := B1.trans (b2.mono B1.size)
        have h12 : Rd w2 wr.heap.size (t.take k) false := h1.under b2 s1
        have hl40 : (t.take k).length ≤ 140737488355328 := by rw [List.length_take]; omega
        have hnum := num_walk (t.take k) false hl40 _ _ h12
        have htext := fun W hW => text_walk (t.take k) false hl40 w1.heap.size W hW
        have hcN := count_succ (endN t) k
        have hcT := count_succ (endT t) k
        have hbN := counts_upto (endN t) k
        have hbT := counts_upto (endT t) k
        have hg1 := hbel.size
        clear b1 b2 h1 h12 hbel
        have HT := Lib.hid htext
        clear htext
        cases hN : endN t k with
        | true =>
          obtain ⟨n, e1, e2, hn, -⟩ := endN_of hlt hN
          rw [e1] at hnum
          rw [hN] at hcN
          have hcmp := cmp_cut e2
          have HCN := Lib.hid hcN
          have HNUM := Lib.hid hnum
          clear hnum e1 e2 hN hcN
          go_wp2_with fail
          refine HNUM.out.mono ?_
          rintro e w3 ⟨rfl, h3, g3⟩
          have B3 := under_of_only B2 g3 B2.size hg1
          have h23 := Has.but h2 g3 (by intro h; injection h with h; omega)
          go_wp2_with fail
          refine (end_walk _ _ _ _ h3).mono ?_
          rintro e w4 ⟨rfl, rfl⟩
          go_wp2_with fail
          go_region_with (go_at_call 23; refine (bytesOf_walk n hn _).mono ?_; rintro e w4 ⟨rfl, b4⟩)
          have b4' := under_drew b4
          have BW := B3.trans (b4'.mono B3.size)
          have hq : Rd w4 w1.heap.size (t.take k) false := Has.under h23 b4' h23.lt
          clear B2 B3 h2 h23 g3 h3 b4 b4'
          go_wp2_with fail
          cases hT : endT t k with
          | true =>
            obtain ⟨u, K, e1, e2, -, e3⟩ := endT_of hlt hT
            have hu : u.length ≤ 40 := by omega
            have htx := HT.out _ hq
            rw [e1] at htx
            rw [hT] at hcT
            have HCT := Lib.hid hcT
            have HTX := Lib.hid htx
            have hcmp2 := cmp_cut e2
            clear htx hcT hT e1 e2 e3
            refine HTX.out.mono ?_
            rintro e w6 ⟨rfl, h6, g6⟩
            have B6 := under_of_only BW g6 BW.size B1.size
            go_wp2_with fail
            refine (end_walk _ _ _ _ h6).mono ?_
            rintro e w7 ⟨rfl, rfl⟩
            go_wp2_with fail
            go_region_with (go_at_call 25; refine (putText_nil u hu _).mono ?_; rintro e w7 ⟨rfl, b7⟩)
            go_wp2
            go_roundw
            case rel => exact ⟨k + 1, by omega, by go_num, by rw [HCN.out]; simp, by rw [HCT.out]; simp, B6.trans ((under_drew b7).mono B6.size)⟩
            case measure => simp [intOf]; omega
          | false =>
            have htx := HT.out _ hq
            have hnot : Hid ((!(textS (t.take k) false).2.2 && (textS (t.take k) false).2.1.isEmpty) = false) := hT
            rw [hT] at hcT
            have HCT := Lib.hid hcT
            clear hcT hT
            generalize textS (t.take k) false = x at *
            obtain ⟨u, l, b⟩ := x
            have HTX := Lib.hid htx
            clear htx
            refine HTX.out.mono ?_
            rintro e w6 ⟨rfl, h6, g6⟩
            have B6 := under_of_only BW g6 BW.size B1.size
            go_wp2_with fail
            refine (end_walk _ _ _ _ h6).mono ?_
            have hn6 := hnot.out
            rw [hn6]
            clear hn6 hnot
            rintro e w7 ⟨rfl, rfl⟩
            go_wp2
            go_roundw
            case rel => exact ⟨k + 1, by omega, by go_num, by rw [HCN.out]; simp, by rw [HCT.out]; simp, B6⟩
            case measure => simp [intOf]; omega
        | false =>
          have hnot : Hid ((!(numS (t.take k) false).2.2 && (numS (t.take k) false).2.1.isEmpty) = false) := hN
          rw [hN] at hcN
          have HCN := Lib.hid hcN
          clear hcN hN
          generalize numS (t.take k) false = x at *
          obtain ⟨n, l, b⟩ := x
          have HNUM := Lib.hid hnum
          clear hnum
          go_wp2_with fail
          refine HNUM.out.mono ?_
          rintro e w3 ⟨rfl, h3, g3⟩
          have BW := under_of_only B2 g3 B2.size hg1
          have hq : Rd w3 w1.heap.size (t.take k) false := Has.but h2 g3 (by intro h; injection h with h; omega)
          go_wp2_with fail
          refine (end_walk _ _ _ _ h3).mono ?_
          have hn6 := hnot.out
          rw [hn6]
          clear hn6 hnot B2 h2 g3 h3
          rintro e w4 ⟨rfl, rfl⟩
          go_wp2_with fail
          cases hT : endT t k with
          | true =>
            obtain ⟨u, K, e1, e2, -, e3⟩ := endT_of hlt hT
            have hu : u.length ≤ 40 := by omega
            have htx := HT.out _ hq
            rw [e1] at htx
            rw [hT] at hcT
            have HCT := Lib.hid hcT
            have HTX := Lib.hid htx
            have hcmp2 := cmp_cut e2
            clear htx hcT hT e1 e2 e3
            refine HTX.out.mono ?_
            rintro e w6 ⟨rfl, h6, g6⟩
            have B6 := under_of_only BW g6 BW.size B1.size
            go_wp2_with fail
            refine (end_walk _ _ _ _ h6).mono ?_
            rintro e w7 ⟨rfl, rfl⟩
            go_wp2_with fail
            go_region_with (go_at_call 25; refine (putText_nil u hu _).mono ?_; rintro e w7 ⟨rfl, b7⟩)
            go_wp2
            go_roundw
            case rel => exact ⟨k + 1, by omega, by go_num, by rw [HCN.out]; simp, by rw [HCT.out]; simp, B6.trans ((under_drew b7).mono B6.size)⟩
            case measure => simp [intOf]; omega
          | false =>
            have htx := HT.out _ hq
            have hnot : Hid ((!(textS (t.take k) false).2.2 && (textS (t.take k) false).2.1.isEmpty) = false) := hT
            rw [hT] at hcT
            have HCT := Lib.hid hcT
            clear hcT hT
            generalize textS (t.take k) false = x at *
            obtain ⟨u, l, b⟩ := x
            have HTX := Lib.hid htx
            clear htx
            refine HTX.out.mono ?_
            rintro e w6 ⟨rfl, h6, g6⟩
            have B6 := under_of_only BW g6 BW.size B1.size
            go_wp2_with fail
            refine (end_walk _ _ _ _ h6).mono ?_
            have hn6 := hnot.out
            rw [hn6]
            clear hn6 hnot
            rintro e w7 ⟨rfl, rfl⟩
            go_wp2
            go_roundw
            case rel => exact ⟨k + 1, by omega, by go_num, by rw [HCN.out]; simp, by rw [HCT.out]; simp, B6⟩
            case measure => simp [intOf]; omega
      · have hkl : k = t.length + 1 := by omega
        obtain ⟨c1, c2⟩ := counts t
        rw [← hkl] at c1 c2
        clear hkl
        go_wp2_with fail
        refine (works_walk _).mono ?_
        rintro e w2 ⟨rfl, b2⟩
        go_wp2
        go_ret
        exact ⟨rfl, hbel.trans (b2.mono hbel.size)⟩

set_option maxRecDepth 100000 in
theorem lifted (os : Os) (started : os.Started) (H : Type) (enc : TypeId × Value → H) :
    ReturnsInHanded {} Try.checked os 7 .any (Rows.wireStrictSpec.pre6 enc Try.prog Try.f7 Rows.wireStrictRow.domain false) (Rows.wireStrictSpec.post enc Try.prog Try.f7 false true false false) := by
  refine returnsInHanded_of_change (C := Try.checked) own started (by kernel_rfl) Try.func7
    (ChangeSpec.witness6 (enc := enc) (C := Try.checked) false ⟨#[], #[.string ⟨#[]⟩], []⟩ 8 (by kernel_rfl) (by kernel_rfl) (by kernel_rfl) (by kernel_rfl)) ?_
  intro W base args ds gs before hval0 hW hcnd _
  have hval : ∀ (j : Nat) t v, Try.f7.params[j]? = some t → args[j]? = some v → Value.okWide Try.prog W .any base t v := hval0
  have hW' := hW
  obtain ⟨p, q, hA0, hV, rfl, hfz, hnd⟩ := hW
  have hA : DataW.TrodAll enc Try.prog W 0 (fun _ => true) true Try.f7.params.toList args.toList ds p := hA0
  rw [Try.params7] at hA hval
  obtain ⟨v0, vs0, d0, ds0, p0, q0, hargs, rfl, rfl, h0, r0⟩ := trodAll_cons hA
  obtain ⟨rfl, rfl, rfl⟩ := trodAll_nil r0
  obtain rfl : args = #[v0] := by cases args; simp_all
  obtain ⟨rfl, rfl⟩ := trodVars_none hV
  obtain ⟨s0, rfl, rfl, rfl, ws0⟩ := Go.ChangeMaps.open_string Try.underlying9 (hval 0 9 v0 rfl rfl) h0
  have hsz0 : s0.data.toList.length ≤ 9223372036854775807 := by rw [Array.length_toList]; exact ws0
  clear hA0 hval0
  have hc := walk s0.data.toList W
  try rw [Array.toArray_toList] at hc
  refine hc.mono fun e W' ⟨he, hg⟩ => ?_
  subst he
  exact ⟨_, rfl, law_post rfl (by decide +kernel) (by kernel_rfl) rfl hW' hg⟩

theorem over : Rows.wireStrictRow.holds Try.pinned (OpenSpec.ofChange Rows.wireStrictSpec) :=
  OpenClaim.holds_of_wide 7 Try.f7 rfl rfl rfl rfl rfl rfl rfl ⟨rfl, rfl, rfl, rfl, rfl⟩ rfl rfl rfl rfl rfl (by kernel_rfl) Try.func7 (by kernel_rfl)
    (of_decide_eq_true (by kernel_rfl)) (by unfold Func.isWrapper; first | (rw [if_pos (by decide +kernel)]; kernel_rfl) | (rw [if_neg (by decide +kernel)]; exact ⟨rfl, rfl⟩))
    (fun os started H enc _ => lifted os started H enc)

theorem proved : Rows.WireStrictSaid :=
  over
#print axioms proved
end WireStrict
end Go.Proofs.Ytdpkgmcjofddnaa
