/- The document's twin: zeros, a sector of two copies, what a sector says. -/
import Derived.Test.YtjdkmafbogaboaaRefMany
import Derived.Test.YtjdkmafbogaboaaTwinPut
import Derived.Test.YtjdkmafbogaboaaTwinTorn
import Derived.Deep.RegionHeld
namespace Go.Proofs.Ytjdkmafbogaboaa
open Go.RowKit Go.Lib MM MS MF DM DK TM FL TH DN DW DF DU MY DP RM RD RW RI TD TN TS TO TT TU TP
namespace RT
theorem zeros_walk (n : Nat) (hn : n ≤ 1000000) (w : World) : Calls Try.prog 39 #[.int .i64 n] w fun e w' => e = .returned (.string ⟨(ZE.zs n).toArray⟩) ∧ Below w.heap.size w w' := by
  have hmk := ZE.make_zeros n hn
  have hcv := ZE.zeros_text n
  have hb : Below w.heap.size w (w.alloc (.cells (byteCells (ZE.zs n)).toArray 5)) := (Below.refl _ _).alloc (Nat.le_refl _) _
  generalize byteCells (ZE.zs n) = cz at *
  generalize ZE.zs n = z at *
  go_enter Try.func39, Try.ntmps39
  go_wp2
  go_ret
  exact ⟨rfl, hb⟩
theorem b4_cells (n : Nat) (c : UInt8) : byteCells (b4 n ++ [c]) = [.int .u8 ((n : Int) / 16777216 % 256), .int .u8 ((n : Int) / 65536 % 256), .int .u8 ((n : Int) / 256 % 256), .int .u8 ((n : Int) % 256), .int .u8 c.toNat] := by
  simp [byteCells, b4]
theorem head_text (n : Nat) (c : UInt8) (cells : Array Value) (hc : cells = (byteCells (b4 n ++ [c])).toArray) (w : World) : (convert 36 9 (.slice (some ⟨w.heap.size, 0, none⟩) 5 5)).run Try.prog (w.alloc (.cells cells 5)) = .ok (.string ⟨(b4 n ++ [c]).toArray⟩) (w.alloc (.cells cells 5)) := by
  subst hc
  exact string_of_row (l := b4 n ++ [c]) (show Has (w.alloc (.cells (byteCells (b4 n ++ [c])).toArray 5)) _ _ _ from heap_alloc_new w _)
theorem half_parts (n : Nat) (t : List UInt8) : (b4 n ++ [UInt8.ofNat t.length]) ++ t ++ ZE.zs (59 - t.length) = half n t := by
  unfold half ZE.zs
  simp
set_option maxRecDepth 100000 in
set_option maxHeartbeats 2000000 in
theorem sector_walk (n : Nat) (t : List UInt8) (ht : t.length ≤ 55) (w : World) : Calls Try.prog 40 #[.int .u64 n, .string ⟨t.toArray⟩] w fun e w' => e = .returned (.string ⟨(two (half n t)).toArray⟩) ∧ Below w.heap.size w w' := by
  have hcl : UInt8.ofNat t.length = UInt8.ofNat t.length := rfl
  have hlt : ((UInt8.ofNat t.length).toNat : Int) = t.length := by rw [UInt8.toNat_ofNat', Nat.mod_eq_of_lt (by omega)]
  have hcells : #[Value.int .u8 ((n : Int) / 16777216 % 256), .int .u8 ((n : Int) / 65536 % 256), .int .u8 ((n : Int) / 256 % 256), .int .u8 ((n : Int) % 256), .int .u8 (t.length : Int)] = (byteCells (b4 n ++ [UInt8.ofNat t.length])).toArray := by
    rw [b4_cells, hlt]
  have hcv := head_text n (UInt8.ofNat t.length) _ hcells
  have hl5 : (b4 n ++ [UInt8.ofNat t.length]).length = 5 := by simp [b4]
  have hadd := fun W : World => run_string_add_sum (P := Try.prog) (w := W) ⟨(b4 n ++ [UInt8.ofNat t.length]).toArray⟩ ⟨t.toArray⟩ (by show (b4 n ++ [UInt8.ofNat t.length]).length + t.length ≤ _; omega)
  rw [ByteArray.mk_append_mk] at hadd
  have hl6 : ((b4 n ++ [UInt8.ofNat t.length]) ++ t).length = 5 + t.length := by rw [List.length_append, hl5]
  have hpart := half_parts n t
  have hk : (64 : Int) - (5 + (t.length : Int)) = ((59 - t.length : Nat) : Int) := by omega
  have HK := Lib.hid hk
  have hadd2 := fun W : World => run_string_add_sum (P := Try.prog) (w := W) ⟨((b4 n ++ [UInt8.ofNat t.length]) ++ t).toArray⟩ ⟨(ZE.zs (59 - t.length)).toArray⟩ (by show ((b4 n ++ [UInt8.ofNat t.length]) ++ t).length + (ZE.zs (59 - t.length)).length ≤ _; rw [ZE.zs_length, hl6]; omega)
  rw [ByteArray.mk_append_mk, hpart] at hadd2
  have hhl := half_length n t (by omega)
  have hadd3 := fun W : World => run_string_add_sum (P := Try.prog) (w := W) ⟨(half n t).toArray⟩ ⟨(half n t).toArray⟩ (by show (half n t).length + (half n t).length ≤ _; omega)
  rw [ByteArray.mk_append_mk] at hadd3
  have HTW := Lib.hid (show two (half n t) = half n t ++ half n t from rfl)
  have HZ := Lib.hid (fun w => zeros_walk (59 - t.length) (by omega) w)
  have hb : Below w.heap.size w (w.alloc (.cells #[Value.int .u8 ((n : Int) / 16777216 % 256), .int .u8 ((n : Int) / 65536 % 256), .int .u8 ((n : Int) / 256 % 256), .int .u8 ((n : Int) % 256), .int .u8 (t.length : Int)] 5)) := (Below.refl _ _).alloc (Nat.le_refl _) _
  generalize half n t = hf at *
  generalize hP : b4 n ++ [UInt8.ofNat t.length] = p5 at *
  generalize hP6 : p5 ++ t = p6 at *
  generalize ZE.zs (59 - t.length) = z at *
  generalize 59 - t.length = kz at *
  clear hpart hcells hP hP6 hcl hl5 hk
  go_enter Try.func40, Try.ntmps40
  go_wp2_with (go_at_call 39; (try rw [HK.out]); refine (HZ.out _).mono ?_; rintro e w2 ⟨rfl, hb2⟩)
  go_ret
  exact ⟨by rw [HTW.out]; rfl, hb.trans (hb2.mono (by simp))⟩
theorem index_walk (s : List UInt8) (k : Nat) (hk : k < s.length) (w : World) :
    (Instr.index 9 (.string ⟨s.toArray⟩) (.int .i64 k)).run Try.prog w = .ok (.int .u8 (s[k]).toNat) w := by
  simp [go_sem, hk]
  rfl
theorem wrap_byte (n : Nat) (h : n < 256) : IntKind.u64.wrap (n : Int) = n := by simp [IntKind.wrap, IntKind.bits, IntKind.signed]; omega
theorem wrap_shl (n m : Nat) (h : n * m < 4294967296) : IntKind.u64.wrap ((n : Int) * (m : Int)) = ((n * m : Nat) : Int) := by
  rw [← Int.natCast_mul]
  simp only [IntKind.wrap, IntKind.bits, IntKind.signed]
  generalize n * m = x at *
  simp
  omega
theorem or1 (a b : Nat) (ha : a < 256) (hb : b < 256) : bits .or .u64 ((a * 16777216 : Nat) : Int) ((b * 65536 : Nat) : Int) = (((a * 256 + b) * 65536 : Nat) : Int) := by
  rw [u64_or_nat _ _ (by omega) (by omega), nat_join 24 _ _ (by omega) (by omega), show a * 16777216 + b * 65536 = (a * 256 + b) * 65536 by omega]
theorem or2 (a b : Nat) (ha : a < 65536) (hb : b < 256) : bits .or .u64 ((a * 65536 : Nat) : Int) ((b * 256 : Nat) : Int) = (((a * 256 + b) * 256 : Nat) : Int) := by
  rw [u64_or_nat _ _ (by omega) (by omega), nat_join 16 _ _ (by omega) (by omega), show a * 65536 + b * 256 = (a * 256 + b) * 256 by omega]
theorem or3 (a b : Nat) (ha : a < 16777216) (hb : b < 256) : bits .or .u64 ((a * 256 : Nat) : Int) (b : Int) = ((a * 256 + b : Nat) : Int) := by
  rw [u64_or_nat _ _ (by omega) (by omega), nat_join 8 _ _ (by omega) (by omega)]
theorem cut_text (s : List UInt8) (tl : Nat) : (⟨s.toArray⟩ : ByteArray).extract 5 (5 + tl) = ⟨((s.drop 5).take tl).toArray⟩ := by
  rw [ByteArray.extract_mk]; simp
theorem slice_str (s : List UInt8) (tl : Nat) (h : 5 + tl ≤ s.length) (w : World) : (Instr.slice 9 (.string ⟨s.toArray⟩) (some (.int .i64 5)) (some (.int .i64 (5 + (tl : Int)))) none).run Try.prog w = .ok (.string ⟨((s.drop 5).take tl).toArray⟩) w := by
  have e : (⟨s.toArray⟩ : ByteArray).size = s.length := rfl
  rw [run_slice_string (P := Try.prog) w 9 ⟨s.toArray⟩ .i64 .i64 5 (5 + (tl : Int)) Try.underlying9 (by omega) (by omega) (by rw [e]; omega), show (5 + (tl : Int)).toNat = 5 + tl by omega, show (5 : Int).toNat = 5 from rfl, cut_text]
def silent (tl n k : Nat) (s T : List UInt8) : Prop := 55 < tl ∨ n = 0 ∨ n % 2 ≠ k ∨ two (half n T) ≠ s
instance (tl n k : Nat) (s T : List UInt8) : Decidable (silent tl n k s T) := by unfold silent; infer_instance
def saidV (tl n k : Nat) (s T : List UInt8) : Value := if silent tl n k s T then .tuple #[.int .u64 0, .string ⟨#[]⟩] else .tuple #[.int .u64 n, .string ⟨T.toArray⟩]
theorem saidV_not (tl n k : Nat) (s T : List UInt8) (h : silent tl n k s T) : saidV tl n k s T = .tuple #[.int .u64 0, .string ⟨#[]⟩] := by unfold saidV; rw [if_pos h]
theorem saidV_yes (tl n k : Nat) (s T : List UInt8) (h : ¬ silent tl n k s T) : saidV tl n k s T = .tuple #[.int .u64 n, .string ⟨T.toArray⟩] := by unfold saidV; rw [if_neg h]
set_option maxRecDepth 100000 in
set_option maxHeartbeats 2000000 in
theorem says_walk (s : List UInt8) (hs : s.length = 128) (k : Nat) (hk : k < 2) (w : World) : Calls Try.prog 47 #[.string ⟨s.toArray⟩, .int .u64 k] w fun e w' =>
    e = .returned (saidV (s.getD 4 0).toNat (num s) k s ((s.drop 5).take (s.getD 4 0).toNat)) ∧ Below w.heap.size w w' := by
  have g0 : s.getD 0 0 = s[0] := by simp [show 0 < s.length by omega]
  have g1 : s.getD 1 0 = s[1] := by simp [show 1 < s.length by omega]
  have g2 : s.getD 2 0 = s[2] := by simp [show 2 < s.length by omega]
  have g3 : s.getD 3 0 = s[3] := by simp [show 3 < s.length by omega]
  have g4 : s.getD 4 0 = s[4] := by simp [show 4 < s.length by omega]
  have hn : num s = ((s[0].toNat * 256 + s[1].toNat) * 256 + s[2].toNat) * 256 + s[3].toNat := by unfold num; rw [g0, g1, g2, g3]
  rw [g4]
  have t0 : (s[0]).toNat < 256 := (s[0]).toNat_lt
  have t1 : (s[1]).toNat < 256 := (s[1]).toNat_lt
  have t2 : (s[2]).toNat < 256 := (s[2]).toNat_lt
  have t3 : (s[3]).toNat < 256 := (s[3]).toNat_lt
  have t4 : (s[4]).toNat < 256 := (s[4]).toNat_lt
  clear g0 g1 g2 g3 g4
  generalize he0 : s[0].toNat = n0 at *
  have i0 := fun (h : (0 : Nat) < (⟨s.toArray⟩ : ByteArray).size) => ((show ((⟨s.toArray⟩ : ByteArray)[0]'h).toNat = s[0].toNat from rfl).trans he0)
  generalize he1 : s[1].toNat = n1 at *
  have i1 := fun (h : (1 : Nat) < (⟨s.toArray⟩ : ByteArray).size) => ((show ((⟨s.toArray⟩ : ByteArray)[1]'h).toNat = s[1].toNat from rfl).trans he1)
  generalize he2 : s[2].toNat = n2 at *
  have i2 := fun (h : (2 : Nat) < (⟨s.toArray⟩ : ByteArray).size) => ((show ((⟨s.toArray⟩ : ByteArray)[2]'h).toNat = s[2].toNat from rfl).trans he2)
  generalize he3 : s[3].toNat = n3 at *
  have i3 := fun (h : (3 : Nat) < (⟨s.toArray⟩ : ByteArray).size) => ((show ((⟨s.toArray⟩ : ByteArray)[3]'h).toNat = s[3].toNat from rfl).trans he3)
  generalize he4 : s[4].toNat = tl at *
  have i4 := fun (h : (4 : Nat) < (⟨s.toArray⟩ : ByteArray).size) => ((show ((⟨s.toArray⟩ : ByteArray)[4]'h).toNat = s[4].toNat from rfl).trans he4)
  clear he0 he1 he2 he3 he4
  have w0 := wrap_byte n0 t0
  have w1 := wrap_byte n1 t1
  have w2 := wrap_byte n2 t2
  have w3 := wrap_byte n3 t3
  have s0 : IntKind.u64.wrap ((n0 : Int) * 16777216) = ((n0 * 16777216 : Nat) : Int) := wrap_shl n0 16777216 (by omega)
  have s1 : IntKind.u64.wrap ((n1 : Int) * 65536) = ((n1 * 65536 : Nat) : Int) := wrap_shl n1 65536 (by omega)
  have s2 : IntKind.u64.wrap ((n2 : Int) * 256) = ((n2 * 256 : Nat) : Int) := wrap_shl n2 256 (by omega)
  have o1 := or1 n0 n1 t0 t1
  have o2 := or2 (n0 * 256 + n1) n2 (by omega) t2
  have o3 := or3 ((n0 * 256 + n1) * 256 + n2) n3 (by omega) t3
  have hb : num s < 4294967296 := by omega
  rw [← hn] at o3
  obtain ⟨x0, hx0⟩ : ∃ x, x = n0 * 16777216 := ⟨_, rfl⟩
  rw [← hx0] at s0 o1
  obtain ⟨x1, hx1⟩ : ∃ x, x = n1 * 65536 := ⟨_, rfl⟩
  rw [← hx1] at s1 o1
  obtain ⟨x2, hx2⟩ : ∃ x, x = n2 * 256 := ⟨_, rfl⟩
  rw [← hx2] at s2 o2
  obtain ⟨x3, hx3⟩ : ∃ x, x = (n0 * 256 + n1) * 65536 := ⟨_, rfl⟩
  rw [← hx3] at o1 o2
  obtain ⟨x4, hx4⟩ : ∃ x, x = ((n0 * 256 + n1) * 256 + n2) * 256 := ⟨_, rfl⟩
  rw [← hx4] at o2 o3
  clear hx0 hx1 hx2 hx3 hx4
  have HO := Lib.hid (And.intro w0 (And.intro w1 (And.intro w2 (And.intro w3 (And.intro s0 (And.intro s1 (And.intro s2 (And.intro o1 (And.intro o2 o3)))))))))
  have HI := Lib.hid (And.intro i0 (And.intro i1 (And.intro i2 i3)))
  clear w0 w1 w2 w3 s0 s1 s2 o1 o2 o3 i0 i1 i2 i3
  have HN := Lib.hid hn
  clear hn t0 t1 t2 t3
  generalize num s = n at *
  have HCU := Lib.hid (show ¬ 55 < tl → _ from fun h => slice_str s tl (by omega))
  have HTL := Lib.hid (show ¬ 55 < tl → ((s.drop 5).take tl).length = tl from fun h => by rw [List.length_take, List.length_drop]; omega)
  generalize (s.drop 5).take tl = T at *
  have HR0 := Lib.hid (saidV_not tl n k s T)
  have HR1 := Lib.hid (saidV_yes tl n k s T)
  generalize saidV tl n k s T = X at *
  go_enter Try.func47, Try.ntmps47
  go_wp2_with fail
  go_region
  have HIo := HI.out
  have HOo := HO.out
  simp only [HIo.1, HIo.2.1, HIo.2.2.1, HIo.2.2.2]
  obtain ⟨w0, w1, w2, w3, s0, s1, s2, o1, o2, o3⟩ := HOo
  simp only [w0, w1, w2, w3, s0, s1, s2, o1, o2, o3]
  clear w0 w1 w2 w3 s0 s1 s2 o1 o2 o3 HIo HI HO HN
  have hbw : Below w.heap.size w w.drew := ⟨rfl, rfl, rfl, Nat.le_refl _, fun _ _ => rfl⟩
  have htm : (n : Int).tmod 2 = (n : Int) % 2 := Int.tmod_eq_emod_of_nonneg (by omega)
  by_cases c1 : 55 < tl
  · go_wp2
    go_ret2
    exact ⟨by rw [HR0.out (.inl c1)]; rfl, hbw⟩
  by_cases c2 : n = 0
  · have HC2 := Lib.hid c2
    have c2' : ((n : Int) == 0) = true := by rw [c2]; rfl
    clear c2
    go_wp2
    go_ret2
    exact ⟨by rw [HR0.out (.inr (.inl HC2.out))]; rfl, hbw⟩
  by_cases c3 : n % 2 ≠ k
  · have c3' : ((n : Int) % 2 == (k : Int)) = false := by rw [beq_eq_false_iff_ne]; omega
    have HC3 := Lib.hid c3
    have c2' : ((n : Int) == 0) = false := by rw [beq_eq_false_iff_ne]; omega
    have c1' : decide (55 < (tl : Int)) = false := by rw [decide_eq_false_iff_not]; omega
    have c3n : ((n : Int) % 2 != (k : Int)) = true := by rw [bne, c3']; rfl
    clear c3
    go_wp2
    go_ret2
    exact ⟨by rw [HR0.out (.inr (.inr (.inl HC3.out)))]; rfl, hbw⟩
  have c3' : ((n : Int) % 2 == (k : Int)) = true := by rw [beq_iff_eq]; omega
  have HC3 := Lib.hid c3
  have c2' : ((n : Int) == 0) = false := by rw [beq_eq_false_iff_ne]; omega
  have HC2 := Lib.hid c2
  have HC1 := Lib.hid c1
  clear c3 c2
  have hcut := HCU.out c1
  have c1' : decide (55 < (tl : Int)) = false := by rw [decide_eq_false_iff_not]; omega
  have c3n : ((n : Int) % 2 != (k : Int)) = false := by rw [bne, c3']; rfl
  have hTl := HTL.out c1
  have HS := Lib.hid (sector_walk n T (by omega) w.drew)
  by_cases c4 : two (half n T) = s
  · have HC4 := Lib.hid c4
    rw [c4] at HS
    clear c4
    go_wp2_with (go_at_call 40; refine HS.out.mono ?_; rintro e w2 ⟨rfl, hb2⟩)
    go_region
    go_wp2
    go_ret2
    exact ⟨by rw [HR1.out (fun h => Or.elim h HC1.out (fun h => Or.elim h HC2.out (fun h => Or.elim h HC3.out (fun h => h HC4.out))))]; rfl, (hbw.trans (hb2.mono (Nat.le_refl _))).trans ⟨rfl, rfl, rfl, Nat.le_refl _, fun _ _ => rfl⟩⟩
  · have HSIL := Lib.hid (show silent tl n k s T from .inr (.inr (.inr c4)))
    have c4' : (two (half n T) == s) = false := by rw [beq_eq_false_iff_ne]; exact c4
    generalize two (half n T) = s2 at *
    clear c4
    go_wp2_with (go_at_call 40; refine HS.out.mono ?_; rintro e w2 ⟨rfl, hb2⟩)
    go_ret2
    exact ⟨by rw [HR0.out HSIL.out]; rfl, hbw.trans (hb2.mono (Nat.le_refl _))⟩
end RT
end Go.Proofs.Ytjdkmafbogaboaa
