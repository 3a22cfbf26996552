/- For any number and any bytes: a fuse of n lets just n - 1 operations be done, the next one is the last, and is not done; reading is none, and what is refused is none. No condition. -/
import Derived.Test.YtdbnfkchmndaiaaDiskWorks
import Derived.Test.YtdbnfkchmndaiaaLawKit
namespace Go.Proofs.Ytdbnfkchmndaiaa
open Go.ChangeShapes Go.WideShapes Go.ChangeAt Go.RowKit Go.Lib MM MF DM DK DN FL DW DF DU MS DL DO LK
namespace DiskFuse
/-- The disk ahead of operation i of k. -/
def Inv (S : St) (i k : Nat) : Prop := S.fl.length = 4 ∧ S.un.length ≤ i ∧ (i < k → S.on = true ∧ S.fuse = k - i) ∧ (i = k → S.on = false ∧ S.fuse = 0)
theorem op_last {S : St} {i k : Nat} (h : Inv S i k) (hi : i + 1 = k) : opOk S = false ∧ opS S = { S with on := false, fuse := 0 } := by
  have hf : S.fuse = 1 := by have := (h.2.2.1 (by omega)).2; omega
  exact ⟨by unfold opOk; rw [hf]; rfl, by unfold opS; rw [if_neg (by omega), if_pos hf]⟩
theorem op_mid {S : St} {i k : Nat} (h : Inv S i k) (hi : i + 1 < k) : opOk S = true ∧ opS S = { S with fuse := S.fuse - 1 } := by
  have hf := (h.2.2.1 (by omega)).2
  exact ⟨by unfold opOk; simp; omega, by unfold opS; rw [if_neg (by omega), if_neg (by omega)]⟩
theorem ref_ok {S : St} {i k : Nat} (h : Inv S i k) (hi : i < k) (q : Int) (h0 : 0 ≤ q) (h4 : q < 4) : refuse S q = 0 := refuse_in (h.2.2.1 hi).1 h0 (by rw [h.1]; omega)
theorem flush_last {S : St} {i k : Nat} (h : Inv S i k) (hi : i + 1 = k) : flushE S = 8 ∧ (flushS S).on = false ∧ Inv (flushS S) (i + 1) k := by
  obtain ⟨h1, h2⟩ := op_last h hi
  have hon := (h.2.2.1 (by omega)).1
  have e : flushS S = opS S := by unfold flushS; rw [if_pos hon, if_neg (by simp [h1])]
  refine ⟨by unfold flushE; rw [if_neg (by simp [h1])], by rw [e, h2], ?_⟩
  rw [e, h2]
  exact ⟨h.1, by have := h.2.1; show S.un.length ≤ _; omega, fun hx => by omega, fun _ => ⟨rfl, rfl⟩⟩
theorem flush_mid {S : St} {i k : Nat} (h : Inv S i k) (hi : i + 1 < k) : flushE S = 0 ∧ (flushS S).on = true ∧ Inv (flushS S) (i + 1) k := by
  obtain ⟨h1, h2⟩ := op_mid h hi
  obtain ⟨hon, hf⟩ := h.2.2.1 (by omega)
  have e : flushS S = { opS S with fl := S.now, un := [] } := by unfold flushS; rw [if_pos hon, if_pos h1]
  refine ⟨by unfold flushE; rw [if_pos ⟨hon, h1⟩], by rw [e, h2]; exact hon, ?_⟩
  rw [e, h2]
  exact ⟨by show S.now.length = 4; rw [St.now_length, h.1], by simp, fun _ => ⟨hon, by show S.fuse - 1 = _; omega⟩, fun hx => by omega⟩
theorem write_last {S : St} {i k : Nat} (h : Inv S i k) (hi : i + 1 = k) (q : Int) (h0 : 0 ≤ q) (h4 : q < 4) (l : List UInt8) (hl : l.length = 128) : writeE S q l = 8 ∧ (writeS S q l).on = false ∧ Inv (writeS S q l) (i + 1) k := by
  obtain ⟨h1, h2⟩ := op_last h hi
  have hr := ref_ok h (by omega) q h0 h4
  have e : writeS S q l = opS S := by unfold writeS; rw [if_neg (by simp [hr]), if_neg (by simp [hl]), if_neg (by simp [h1])]
  refine ⟨by unfold writeE; rw [if_neg (by simp [hr]), if_neg (by simp [hl]), if_neg (by simp [h1])], by rw [e, h2], ?_⟩
  rw [e, h2]
  exact ⟨h.1, by have := h.2.1; show S.un.length ≤ _; omega, fun hx => by omega, fun _ => ⟨rfl, rfl⟩⟩
theorem write_mid {S : St} {i k : Nat} (h : Inv S i k) (hi : i + 1 < k) (q : Int) (h0 : 0 ≤ q) (h4 : q < 4) (l : List UInt8) (hl : l.length = 128) : writeE S q l = 0 ∧ (writeS S q l).on = true ∧ Inv (writeS S q l) (i + 1) k := by
  obtain ⟨h1, h2⟩ := op_mid h hi
  obtain ⟨hon, hf⟩ := h.2.2.1 (by omega)
  have hr := ref_ok h (by omega) q h0 h4
  have e : writeS S q l = { opS S with un := S.un ++ [(q.toNat, l)] } := by unfold writeS; rw [if_neg (by simp [hr]), if_neg (by simp [hl]), if_pos h1]
  refine ⟨by unfold writeE; rw [if_neg (by simp [hr]), if_neg (by simp [hl]), if_pos h1], by rw [e, h2]; exact hon, ?_⟩
  rw [e, h2]
  exact ⟨h.1, by have := h.2.1; simp; omega, fun _ => ⟨hon, by show S.fuse - 1 = _; omega⟩, fun hx => by omega⟩
theorem write_nine {S : St} {i k : Nat} (h : Inv S i k) (hi : i < k) (l : List UInt8) : writeE S 9 l = 6 ∧ writeS S 9 l = S := by
  have hr : refuse S 9 = 6 := refuse_out (h.2.2.1 hi).1 (by rw [h.1]; omega)
  exact ⟨by unfold writeE; rw [if_pos (by simp [hr]), hr], by unfold writeS; rw [if_pos (by simp [hr])]⟩
theorem write_short {S : St} {i k : Nat} (h : Inv S i k) (hi : i < k) : writeE S 0 [97] = 2 ∧ writeS S 0 [97] = S := by
  have hr := ref_ok h hi 0 (by omega) (by omega)
  exact ⟨by unfold writeE; rw [if_neg (by simp [hr]), if_pos (by simp)], by unfold writeS; rw [if_neg (by simp [hr]), if_pos (by simp)]⟩
theorem at_end {S : St} {k : Nat} (h : Inv S k k) : refuse S 0 = 8 ∧ (wakeS S []).on = true ∧ writeE (wakeS S []) 0 (sectS 99 false) = 0 ∧ (wakeS S []).un.length < 1000000000 := by
  obtain ⟨hon, hf⟩ := h.2.2.2 rfl
  have e : wakeS S [] = { S with fl := woken S.fl S.un [], un := [], on := true } := by unfold wakeS; rw [if_neg (by simp [hon])]
  have hlen : (woken S.fl S.un []).length = 4 := by have := wokenTo_length S.fl S.un [] S.un.length; unfold woken; rw [this, h.1]
  refine ⟨refuse_off hon, by rw [e], ?_, by rw [e]; simp⟩
  rw [e]
  have hr : refuse { S with fl := woken S.fl S.un [], un := [], on := true } 0 = 0 := refuse_in rfl (by omega) (by show (0 : Int) < (woken S.fl S.un []).length; rw [hlen]; omega)
  unfold writeE
  rw [if_neg (by simp [hr]), if_neg (by simp [sectS, sectB_length]), if_pos (by unfold opOk; rw [hf]; rfl)]
theorem fresh_inv (k : Nat) (hk : 1 ≤ k) : Inv { fresh 4 with fuse := ((k : Int)).toNat } 0 k := by
  refine ⟨by simp [fresh], by simp [fresh], fun _ => ⟨rfl, by show ((k : Int)).toNat = k - 0; omega⟩, fun hx => by omega⟩
/-- The relations of the two loops. -/
def Rel (w : World) (g k : Nat) (x : Value) (wr : World) : Prop := ∃ (i : Nat) (S : St), i ≤ k ∧ x = .int .i64 i ∧ Inv S i k ∧ On w wr g S
def Rel2 (w : World) (g : Nat) (S : St) (x : Value) (wr : World) : Prop := ∃ j : Nat, j ≤ 3 ∧ x = .int .i64 j ∧ On w wr g S
set_option maxRecDepth 100000 in
set_option maxHeartbeats 8000000 in
theorem walk (n : Nat) (hn : n ≤ 255) (v : Value) (l : List UInt8) (w : World) (hs : Src w v l) (hl : l.length ≤ 9223372036854775807) :
    Calls Try.prog 6 #[.int .u8 n, v] w fun e w' => e = .returned (.bool true) ∧ Below w.heap.size w w' := by
  obtain ⟨A, cap, rfl⟩ := src_form hs
  have hm : (n : Int) % 30 = ((n % 30 : Nat) : Int) := by omega
  have hm30 : n % 30 < 30 := Nat.mod_lt _ (by omega)
  generalize n % 30 = m at *
  obtain ⟨k, hk⟩ : ∃ k, k = 1 + m := ⟨_, rfl⟩
  have hkI : (k : Int) = 1 + (m : Int) := by omega
  have HK := Lib.hid hk
  have HKI := Lib.hid hkI
  have hk1 : 1 ≤ k := by omega
  have hk31 : k ≤ 31 := by omega
  have hkm1 : k ≤ 1 + m := by omega
  have hkm2 : 1 + m ≤ k := by omega
  have HS := Lib.hid hs
  clear hk hkI hs
  go_enter Try.func6, Try.ntmps6
  go_wp2_with fail
  refine (new_on 4 _ rfl (by omega) (by omega) w _ (Below.refl _ _)).mono ?_
  rintro e w1 ⟨g, rfl, o1⟩
  go_wp2_with fail
  rw [← HKI.out]
  refine (arm_on o1 k (by omega)).mono ?_
  rintro e w2 ⟨rfl, o2⟩
  rw [HKI.out]
  have hI0 := fresh_inv k hk1
  generalize hS0 : St.mk (fresh 4).fl (fresh 4).un (fresh 4).on (k : Int).toNat = S0 at *
  clear hS0 o1
  go_wp2
  go_loopw [7] (fun x wr => Rel w g k x wr) (fun x _ => k - (RowKit.intOf x).toNat)
  case atStart => exact ⟨0, S0, by omega, rfl, hI0, o2⟩
  case round =>
    obtain ⟨i, S, hik, rfl, hI, hO⟩ := hrel
    by_cases hlt : i < k
    · obtain ⟨e9, s9⟩ := write_nine hI hlt (sectS 97 false)
      obtain ⟨e0, s0⟩ := write_short hI hlt
      have hu : S.un.length < 1000000000 := by have := hI.2.1; omega
      have E9 := Lib.hid e9
      have S9 := Lib.hid s9
      have E0 := Lib.hid e0
      have SS := Lib.hid s0
      clear e9 s9 e0 s0
      have hiI : decide ((i : Int) < 1 + (m : Int)) = true := by simp; omega
      obtain ⟨wo, hwo⟩ : ∃ wo : World, wo = wr := ⟨_, rfl⟩
      subst hwo
      go_wp2
      go_loopw [8] (fun x wr => Rel2 w g S x wr) (fun x _ => 4 - (RowKit.intOf x).toNat)
      case atStart => exact ⟨0, by omega, rfl, hO⟩
      case round =>
        clear hO
        obtain ⟨j, hj3, rfl, hO⟩ := hrel
        rcases Nat.lt_or_ge i l.length with hil0 | hil0
        · obtain ⟨b, off, rfl, hcell⟩ := src_at (src_under HS.out hO.under) i hil0
          have hcm : (l[i].toNat : Int) % 4 = ((l[i].toNat % 4 : Nat) : Int) := by omega
          have hc4 : l[i].toNat % 4 < 4 := Nat.mod_lt _ (by omega)
          generalize l[i].toNat % 4 = c at *
          by_cases hjc : j < c
          · go_wp2_with fail
            refine (sector_on 97 _ rfl _ _).mono ?_
            rintro e w3 ⟨rfl, b3⟩
            have o3 := hO.below b3
            clear hcell
            go_wp2_with fail
            refine (write_on o3 _ _ hu).mono ?_
            rintro e w4 ⟨rfl, o4⟩
            rw [E9.out]
            rw [S9.out] at o4
            clear o3 b3 hO
            go_wp2_with fail
            refine (write_on o4 0 [97] hu).mono ?_
            rintro e w5 ⟨rfl, o5⟩
            rw [E0.out]
            rw [SS.out] at o5
            clear o4
            go_wp2_with fail
            refine (read_on o5 _).mono ?_
            rintro e w6 ⟨rfl, rfl⟩
            go_wp2
            go_roundw
            case rel => exact ⟨j + 1, by omega, by go_num, o5⟩
            case measure => simp [RowKit.intOf]; omega
          · have hjd : decide ((j : Int) < (c : Int)) = false := by simp; omega
            have hjc2 : c ≤ j := by omega
            by_cases h3 : i % 3 = 2
            · have h3b : ((i : Int) % 3 == 2) = true := beq_iff_eq.2 (by omega)
              by_cases hlast : i + 1 = k
              · have hil : i + 1 = k := by omega
                have hwb : ((i : Int) == (1 + (m : Int) - 1)) = true := beq_iff_eq.2 (by omega)
                have hd : decide ((i : Int) < 1 + (m : Int) - 1) = false := by simp; omega
                go_wp2_with fail
                refine (flush_on hO).mono ?_
                rintro e w3 ⟨rfl, o3⟩
                obtain ⟨f1, f2, f3⟩ := flush_last hI hil
                rw [f1]
                have HF2 := Lib.hid f2
                have HF3 := Lib.hid f3
                clear f1 f2 f3 hI hO
                generalize flushS S = S3 at *
                go_wp2_with fail
                refine (on_on o3).mono ?_
                rintro e w4 ⟨rfl, rfl⟩
                rw [HF2.out]
                go_wp2
                go_roundw
                case rel => exact ⟨i + 1, S3, by omega, by go_num, HF3.out, o3⟩
                case measure => simp [RowKit.intOf]; omega
              · have hil : i + 1 < k := by omega
                have hwb : ((i : Int) == (1 + (m : Int) - 1)) = false := beq_eq_false_iff_ne.2 (by omega)
                have hd : decide ((i : Int) < 1 + (m : Int) - 1) = true := by simp; omega
                go_wp2_with fail
                refine (flush_on hO).mono ?_
                rintro e w3 ⟨rfl, o3⟩
                obtain ⟨f1, f2, f3⟩ := flush_mid hI hil
                rw [f1]
                have HF2 := Lib.hid f2
                have HF3 := Lib.hid f3
                clear f1 f2 f3 hI hO
                generalize flushS S = S3 at *
                go_wp2_with fail
                refine (on_on o3).mono ?_
                rintro e w4 ⟨rfl, rfl⟩
                rw [HF2.out]
                go_wp2
                go_roundw
                case rel => exact ⟨i + 1, S3, by omega, by go_num, HF3.out, o3⟩
                case measure => simp [RowKit.intOf]; omega
            · have h3b : ((i : Int) % 3 == 2) = false := beq_eq_false_iff_ne.2 (by omega)
              by_cases hlast : i + 1 = k
              · have hil : i + 1 = k := by omega
                have hwb : ((i : Int) == (1 + (m : Int) - 1)) = true := beq_iff_eq.2 (by omega)
                have hd : decide ((i : Int) < 1 + (m : Int) - 1) = false := by simp; omega
                go_wp2_with fail
                refine (sector_on 98 _ rfl _ _).mono ?_
                rintro e w2 ⟨rfl, b2⟩
                have o2 := hO.below b2
                go_wp2_with fail
                refine (write_on o2 _ _ (by have := hI.2.1; omega)).mono ?_
                rintro e w3 ⟨rfl, o3⟩
                obtain ⟨f1, f2, f3⟩ := write_last hI hil ((i : Int) % 4) (by omega) (by omega) (sectS 98 false) (by simp [sectS, sectB_length])
                rw [f1]
                clear o2 b2
                have HF2 := Lib.hid f2
                have HF3 := Lib.hid f3
                clear f1 f2 f3 hI hO
                generalize writeS S ((i : Int) % 4) (sectS 98 false) = S3 at *
                go_wp2_with fail
                refine (on_on o3).mono ?_
                rintro e w4 ⟨rfl, rfl⟩
                rw [HF2.out]
                go_wp2
                go_roundw
                case rel => exact ⟨i + 1, S3, by omega, by go_num, HF3.out, o3⟩
                case measure => simp [RowKit.intOf]; omega
              · have hil : i + 1 < k := by omega
                have hwb : ((i : Int) == (1 + (m : Int) - 1)) = false := beq_eq_false_iff_ne.2 (by omega)
                have hd : decide ((i : Int) < 1 + (m : Int) - 1) = true := by simp; omega
                go_wp2_with fail
                refine (sector_on 98 _ rfl _ _).mono ?_
                rintro e w2 ⟨rfl, b2⟩
                have o2 := hO.below b2
                go_wp2_with fail
                refine (write_on o2 _ _ (by have := hI.2.1; omega)).mono ?_
                rintro e w3 ⟨rfl, o3⟩
                obtain ⟨f1, f2, f3⟩ := write_mid hI hil ((i : Int) % 4) (by omega) (by omega) (sectS 98 false) (by simp [sectS, sectB_length])
                rw [f1]
                clear o2 b2
                have HF2 := Lib.hid f2
                have HF3 := Lib.hid f3
                clear f1 f2 f3 hI hO
                generalize writeS S ((i : Int) % 4) (sectS 98 false) = S3 at *
                go_wp2_with fail
                refine (on_on o3).mono ?_
                rintro e w4 ⟨rfl, rfl⟩
                rw [HF2.out]
                go_wp2
                go_roundw
                case rel => exact ⟨i + 1, S3, by omega, by go_num, HF3.out, o3⟩
                case measure => simp [RowKit.intOf]; omega
        · have hjd : decide ((i : Int) < (l.length : Int)) = false := by simp; omega
          by_cases h3 : i % 3 = 2
          · have h3b : ((i : Int) % 3 == 2) = true := beq_iff_eq.2 (by omega)
            by_cases hlast : i + 1 = k
            · have hil : i + 1 = k := by omega
              have hwb : ((i : Int) == (1 + (m : Int) - 1)) = true := beq_iff_eq.2 (by omega)
              have hd : decide ((i : Int) < 1 + (m : Int) - 1) = false := by simp; omega
              go_wp2_with fail
              refine (flush_on hO).mono ?_
              rintro e w3 ⟨rfl, o3⟩
              obtain ⟨f1, f2, f3⟩ := flush_last hI hil
              rw [f1]
              have HF2 := Lib.hid f2
              have HF3 := Lib.hid f3
              clear f1 f2 f3 hI hO
              generalize flushS S = S3 at *
              go_wp2_with fail
              refine (on_on o3).mono ?_
              rintro e w4 ⟨rfl, rfl⟩
              rw [HF2.out]
              go_wp2
              go_roundw
              case rel => exact ⟨i + 1, S3, by omega, by go_num, HF3.out, o3⟩
              case measure => simp [RowKit.intOf]; omega
            · have hil : i + 1 < k := by omega
              have hwb : ((i : Int) == (1 + (m : Int) - 1)) = false := beq_eq_false_iff_ne.2 (by omega)
              have hd : decide ((i : Int) < 1 + (m : Int) - 1) = true := by simp; omega
              go_wp2_with fail
              refine (flush_on hO).mono ?_
              rintro e w3 ⟨rfl, o3⟩
              obtain ⟨f1, f2, f3⟩ := flush_mid hI hil
              rw [f1]
              have HF2 := Lib.hid f2
              have HF3 := Lib.hid f3
              clear f1 f2 f3 hI hO
              generalize flushS S = S3 at *
              go_wp2_with fail
              refine (on_on o3).mono ?_
              rintro e w4 ⟨rfl, rfl⟩
              rw [HF2.out]
              go_wp2
              go_roundw
              case rel => exact ⟨i + 1, S3, by omega, by go_num, HF3.out, o3⟩
              case measure => simp [RowKit.intOf]; omega
          · have h3b : ((i : Int) % 3 == 2) = false := beq_eq_false_iff_ne.2 (by omega)
            by_cases hlast : i + 1 = k
            · have hil : i + 1 = k := by omega
              have hwb : ((i : Int) == (1 + (m : Int) - 1)) = true := beq_iff_eq.2 (by omega)
              have hd : decide ((i : Int) < 1 + (m : Int) - 1) = false := by simp; omega
              go_wp2_with fail
              refine (sector_on 98 _ rfl _ _).mono ?_
              rintro e w2 ⟨rfl, b2⟩
              have o2 := hO.below b2
              go_wp2_with fail
              refine (write_on o2 _ _ (by have := hI.2.1; omega)).mono ?_
              rintro e w3 ⟨rfl, o3⟩
              obtain ⟨f1, f2, f3⟩ := write_last hI hil ((i : Int) % 4) (by omega) (by omega) (sectS 98 false) (by simp [sectS, sectB_length])
              rw [f1]
              clear o2 b2
              have HF2 := Lib.hid f2
              have HF3 := Lib.hid f3
              clear f1 f2 f3 hI hO
              generalize writeS S ((i : Int) % 4) (sectS 98 false) = S3 at *
              go_wp2_with fail
              refine (on_on o3).mono ?_
              rintro e w4 ⟨rfl, rfl⟩
              rw [HF2.out]
              go_wp2
              go_roundw
              case rel => exact ⟨i + 1, S3, by omega, by go_num, HF3.out, o3⟩
              case measure => simp [RowKit.intOf]; omega
            · have hil : i + 1 < k := by omega
              have hwb : ((i : Int) == (1 + (m : Int) - 1)) = false := beq_eq_false_iff_ne.2 (by omega)
              have hd : decide ((i : Int) < 1 + (m : Int) - 1) = true := by simp; omega
              go_wp2_with fail
              refine (sector_on 98 _ rfl _ _).mono ?_
              rintro e w2 ⟨rfl, b2⟩
              have o2 := hO.below b2
              go_wp2_with fail
              refine (write_on o2 _ _ (by have := hI.2.1; omega)).mono ?_
              rintro e w3 ⟨rfl, o3⟩
              obtain ⟨f1, f2, f3⟩ := write_mid hI hil ((i : Int) % 4) (by omega) (by omega) (sectS 98 false) (by simp [sectS, sectB_length])
              rw [f1]
              clear o2 b2
              have HF2 := Lib.hid f2
              have HF3 := Lib.hid f3
              clear f1 f2 f3 hI hO
              generalize writeS S ((i : Int) % 4) (sectS 98 false) = S3 at *
              go_wp2_with fail
              refine (on_on o3).mono ?_
              rintro e w4 ⟨rfl, rfl⟩
              rw [HF2.out]
              go_wp2
              go_roundw
              case rel => exact ⟨i + 1, S3, by omega, by go_num, HF3.out, o3⟩
              case measure => simp [RowKit.intOf]; omega
    · have hke : i = k := by omega
      subst hke
      obtain ⟨q1, q2, q3, q4⟩ := at_end hI
      have Q1 := Lib.hid q1
      have Q2 := Lib.hid q2
      have Q3 := Lib.hid q3
      have hw := Lib.hid (fun (w' : World) (o : On w w' g S) => wake_nil o)
      generalize wakeS S [] = S2 at *
      clear q1 q2 q3
      go_wp2_with fail
      refine (read_on hO _).mono ?_
      rintro e w3 ⟨rfl, rfl⟩
      rw [Q1.out]
      go_wp2_with fail
      refine (hw.out _ hO).mono ?_
      rintro e w4 ⟨rfl, o4⟩
      go_wp2_with fail
      refine (on_on o4).mono ?_
      rintro e w5 ⟨rfl, rfl⟩
      rw [Q2.out]
      go_wp2_with fail
      refine (sector_on 99 _ rfl _ _).mono ?_
      rintro e w6 ⟨rfl, b6⟩
      have o6 := o4.below b6
      go_wp2_with fail
      refine (write_on o6 _ _ q4).mono ?_
      rintro e w7 ⟨rfl, o7⟩
      rw [Q3.out]
      go_wp2_with fail
      refine (works_walk _).mono ?_
      rintro e w8 ⟨rfl, b8⟩
      have hB := o7.under.trans (b8.mono o7.under.size)
      go_wp2
      go_ret
      exact ⟨rfl, hB⟩

set_option maxRecDepth 100000 in
theorem lifted (os : Os) (started : os.Started) (H : Type) (enc : TypeId × Value → H) :
    ReturnsInHanded {} Try.checked os 6 .any (Rows.diskFuseSpec.pre6 enc Try.prog Try.f6 Rows.diskFuseRow.domain false) (Rows.diskFuseSpec.post enc Try.prog Try.f6 false true false false) := by
  refine returnsInHanded_of_change (C := Try.checked) own started (by kernel_rfl) Try.func6
    (ChangeSpec.witness6 (enc := enc) (C := Try.checked) false ⟨#[], #[.int .u8 0, .slice none 0 0], []⟩ 8 (by kernel_rfl) (by kernel_rfl) (by kernel_rfl) (by kernel_rfl)) ?_
  intro W base args ds gs before hval0 hW hcnd _
  have hval : ∀ (j : Nat) t v, Try.f6.params[j]? = some t → args[j]? = some v → Value.okWide Try.prog W .any base t v := hval0
  have hW' := hW
  obtain ⟨p, q, hA0, hV, rfl, hfz, hnd⟩ := hW
  have hA : DataW.TrodAll enc Try.prog W 0 (fun _ => true) true Try.f6.params.toList args.toList ds p := hA0
  rw [Try.params6] at hA hval
  obtain ⟨v0, vs0, d0, ds0, p0, q0, hargs, rfl, rfl, h0, r0⟩ := trodAll_cons hA
  obtain ⟨v1, vs1, d1, ds1, p1, q1, rfl, rfl, rfl, h1, r1⟩ := trodAll_cons r0
  obtain ⟨rfl, rfl, rfl⟩ := trodAll_nil r1
  obtain rfl : args = #[v0, v1] := by cases args; simp_all
  obtain ⟨rfl, rfl⟩ := trodVars_none hV
  obtain ⟨a0, rfl, rfl, rfl, w0⟩ := open_int Try.underlying5 (hval 0 5 v0 rfl rfl) h0
  have hw0 : 0 ≤ a0 ∧ a0 ≤ 255 := by simpa [Lit.wf, IntKind.min, IntKind.max, IntKind.signed, IntKind.bits] using w0
  obtain ⟨n0, rfl⟩ := Int.eq_ofNat_of_zero_le hw0.1
  obtain ⟨l1, hs1, hl1⟩ := open_bytes (hval 1 30 v1 rfl rfl) h1
  clear hA0 hval0
  have hc := walk n0 (by omega) v1 l1 W hs1 (by unfold maxLen at hl1; omega)
  try rw [Array.toArray_toList] at hc
  refine hc.mono fun e W' ⟨he, hg⟩ => ?_
  subst he
  exact ⟨_, rfl, law_post rfl (by decide +kernel) (by kernel_rfl) rfl hW' hg⟩

theorem over : Rows.diskFuseRow.holds Try.pinned (OpenSpec.ofChange Rows.diskFuseSpec) :=
  OpenClaim.holds_of_wide 6 Try.f6 rfl rfl rfl rfl rfl rfl rfl ⟨rfl, rfl, rfl, rfl, rfl⟩ rfl rfl rfl rfl rfl (by kernel_rfl) Try.func6 (by kernel_rfl)
    (of_decide_eq_true (by kernel_rfl)) (by unfold Func.isWrapper; first | (rw [if_pos (by decide +kernel)]; kernel_rfl) | (rw [if_neg (by decide +kernel)]; exact ⟨rfl, rfl⟩))
    (fun os started H enc _ => lifted os started H enc)

theorem proved : Rows.DiskFuseSaid :=
  over
#print axioms proved
end DiskFuse
end Go.Proofs.Ytdbnfkchmndaiaa
