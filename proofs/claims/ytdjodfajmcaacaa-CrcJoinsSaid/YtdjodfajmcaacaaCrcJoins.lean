/- For any two texts and any bytes, cut to the shortest's length and to two thousand: where both texts are changed by the same bytes, the sums' difference stays. No condition. -/
import Derived.Test.YtdjodfajmcaacaaCrcLaw
import Derived.Test.YtdjodfajmcaacaaLawKit
import Derived.Test.YtdjodfajmcaacaaSrc
import Derived.Test.YtdjodfajmcaacaaCrcTurn
import Derived.RegionTactic
import Derived.ChangeAlike
import Derived.Deep.RegionWith
import Derived.Deep.DeepCutAuto
namespace Go.Proofs.Ytdjodfajmcaacaa
open Go.ChangeShapes Go.WideShapes Go.ChangeAt Go.RowKit Go.Lib CM MM MB MS CS CE CL CT LK
namespace CrcJoins
/-- The law answers true, and leaves what was there. -/
def Done (w : World) (e : Ending) (w' : World) : Prop := e = .returned (.bool true) ∧ Below w.heap.size w w'
/-- Two rows of bytes of the call's own. -/
def Two (w : World) (n : Nat) (x y : List UInt8) (vx vy : Value) (wr : World) : Prop :=
  ∃ g1 c1 g2 c2, vx = .slice (some ⟨g1, 0, none⟩) n c1 ∧ vy = .slice (some ⟨g2, 0, none⟩) n c2 ∧ g1 ≠ g2 ∧ w.heap.size ≤ g1 ∧ w.heap.size ≤ g2 ∧ n ≤ c1 ∧ n ≤ c2 ∧ Byt wr g1 x ∧ Byt wr g2 y ∧ Below w.heap.size w wr
/-- A row as a conversion lays it. -/
def rowOf (l : List UInt8) (c : Nat) : Obj := .cells (bytesRow ⟨l.toArray⟩ c) 5 ((bytesRow ⟨l.toArray⟩ c).size, (bytesRow ⟨l.toArray⟩ c).size + 1)
theorem two_made {w w1 : World} (hB : Below w.heap.size w w1) (x y : List UInt8) (n c1 c2 : Nat) (h1 : n ≤ c1) (h2 : n ≤ c2) :
    Two w n x y (.slice (some ⟨w1.heap.size, 0, none⟩) n c1) (.slice (some ⟨w1.heap.size + 1, 0, none⟩) n c2) ((w1.alloc (rowOf x c1)).alloc (rowOf y c2)).drew.drew.drew := by
  have hs : (w1.alloc (rowOf x c1)).heap.size = w1.heap.size + 1 := by simp
  have hy : Byt ((w1.alloc (rowOf x c1)).alloc (rowOf y c2)) (w1.alloc (rowOf x c1)).heap.size y := byt_new _ _ _
  rw [hs] at hy
  have hx : Byt ((w1.alloc (rowOf x c1)).alloc (rowOf y c2)) w1.heap.size x := (byt_new _ _ _).grow _
  have h := hB.size
  exact ⟨_, _, _, _, rfl, rfl, by omega, by omega, by omega, h1, h2, hx, hy, ((hB.alloc h _).alloc (by rw [hs]; omega) _).trans ⟨rfl, rfl, rfl, Nat.le_refl _, fun _ _ => rfl⟩⟩
theorem Two.turn {w : World} {n : Nat} {x y : List UInt8} {vx vy : Value} {wr : World} (h : Two w n x y vx vy wr) : Two w n y x vy vx wr := by
  obtain ⟨g1, c1, g2, c2, e1, e2, hne, a1, a2, l1, l2, b1, b2, hB⟩ := h
  exact ⟨g2, c2, g1, c1, e2, e1, hne.symm, a2, a1, l2, l1, b2, b1, hB⟩

theorem byte_mix (c d : UInt8) : bits .xor .u8 (c.toNat : Int) (d.toNat : Int) = ((UInt8.ofNat (c.toNat ^^^ d.toNat)).toNat : Int) := by
  have hx : c.toNat ^^^ d.toNat < 2 ^ 8 := Nat.xor_lt_two_pow c.toNat_lt d.toNat_lt
  rw [u8_xor_nat _ _ c.toNat_lt d.toNat_lt, UInt8.toNat_ofNat', Nat.mod_eq_of_lt (by simpa using hx)]

/-- So many bytes of both rows have been changed. -/
def At (w : World) (x y z : List UInt8) (g1 g2 k : Nat) (wr : World) : Prop := Byt wr g1 (mixK x z k) ∧ Byt wr g2 (mixK y z k) ∧ Below w.heap.size w wr
theorem At.more {w wr : World} {x y z : List UInt8} {g1 g2 k vb off : Nat} (h : At w x y z g1 g2 k wr) (hne : g1 ≠ g2) (hg1 : w.heap.size ≤ g1) (hg2 : w.heap.size ≤ g2)
    (hx : k < x.length) (hy : k < y.length) (hz : k < z.length) (hvb : vb < w.heap.size) (hc : w.cell? ⟨vb, off + k, none⟩ = some (.int .u8 z[k].toNat)) :
    ∃ cx cy cz m1 m2 : Nat, wr.cell? ⟨g1, k, none⟩ = some (.int .u8 cx) ∧ wr.frozen? ⟨g1, k, none⟩ = false ∧ wr.cell? ⟨g2, k, none⟩ = some (.int .u8 cy) ∧ wr.frozen? ⟨g2, k, none⟩ = false ∧
      wr.cell? ⟨vb, off + k, none⟩ = some (.int .u8 cz) ∧ bits .xor .u8 (cx : Int) cz = (m1 : Int) ∧ bits .xor .u8 (cy : Int) cz = (m2 : Int) ∧
      Hid (At w x y z g1 g2 (k + 1) ((wr.setCell ⟨g1, k, none⟩ (.int .u8 m1)).setCell ⟨g2, k, none⟩ (.int .u8 m2)).drew.drew) := by
  obtain ⟨hb1, hb2, hB⟩ := h
  have ex := mixK_length (l := x) (b := z) (k := k) (by omega) (by omega)
  have ey := mixK_length (l := y) (b := z) (k := k) (by omega) (by omega)
  have hx1 := hb1.cell k (by omega)
  have hy1 := hb2.cell k (by omega)
  rw [mixK_get hx hz] at hx1
  rw [mixK_get hy hz] at hy1
  have hp1 := hb1.put k (by omega) (UInt8.ofNat (x[k].toNat ^^^ z[k].toNat))
  rw [mixK_set hx hz] at hp1
  have hp2 := (hb2.far (p := ⟨g1, k, none⟩) (fun h => hne h.symm) (.int .u8 (UInt8.ofNat (x[k].toNat ^^^ z[k].toNat)).toNat)).put k (by omega) (UInt8.ofNat (y[k].toNat ^^^ z[k].toNat))
  rw [mixK_set hy hz] at hp2
  have hp3 := hp1.far (p := ⟨g2, k, none⟩) hne (.int .u8 (UInt8.ofNat (y[k].toNat ^^^ z[k].toNat)).toNat)
  refine ⟨_, _, _, _, _, hx1, hb1.free k (by omega), hy1, hb2.free k (by omega), (hB.cell (p := ⟨vb, off + k, none⟩) hvb).trans hc, byte_mix _ _, byte_mix _ _, ?_⟩
  exact (show At w x y z g1 g2 (k + 1) _ from ⟨hp3, hp2, ((hB.setCell hg1 _).setCell hg2 _).trans ⟨rfl, rfl, rfl, Nat.le_refl _, fun _ _ => rfl⟩⟩)

theorem under_drawn {a b : World} (h : Below a.drew.heap.size a.drew b) : Below a.heap.size a b := ⟨h.os, h.tape, h.output, h.size, h.block⟩

theorem run_min4 (ts : Array TypeId) (t : TypeId) (a b c : Nat) : ∃ n : Nat, n ≤ a ∧ n ≤ b ∧ n ≤ c ∧ n ≤ 2000 ∧ ∀ W : World, (Builtin.min_ ts t #[.int .i64 a, .int .i64 b, .int .i64 c, .int .i64 2000]).run Try.prog W = .ok (.int .i64 n) W := by
  refine ⟨min (min (min a b) c) 2000, by omega, by omega, by omega, by omega, fun W => ?_⟩
  simp [Builtin.min_, Builtin.min2]
  split <;> split <;> split <;> omega

set_option maxRecDepth 100000 in
set_option maxHeartbeats 4000000 in
theorem walk_empty (a b : List UInt8) (_ha : a.length ≤ 9223372036854775807) (_hb : b.length ≤ 9223372036854775807) (p : Option Addr) (cap : Nat) (w : World) :
    Calls Try.prog 7 #[.string ⟨a.toArray⟩, .string ⟨b.toArray⟩, .slice p 0 cap] w (Done w) := by
  obtain ⟨n, hna, hnb, hnz, hn2, hmin⟩ := run_min4 #[3, 3, 3, 3] 3 a.length b.length 0
  simp only [show ((0 : Nat) : Int) = 0 from rfl] at hmin
  obtain ⟨z, hz0⟩ : ∃ z : List UInt8, z.length = 0 := ⟨[], rfl⟩
  go_enter Try.func7, Try.ntmps7
  go_wp2_with fail
  refine (works_walk _).mono ?_
  rintro e w1 ⟨rfl, b1⟩
  go_upto_region 4 with fail
  have hrx := fun W : World => run_bytes_of_string (P := Try.prog) W 9 30 5 ⟨(a.take n).toArray⟩ rfl rfl rfl
  have hry := fun W : World => run_bytes_of_string (P := Try.prog) W 9 30 5 ⟨(b.take n).toArray⟩ rfl rfl rfl
  have hta := take_str a n
  have htb := take_str b n
  go_cut [8, 9] (fun vx vy wx => Two w n (a.take n) (b.take n) vx vy wx)
  case first =>
    go_region
    all_goals (go_wp2_with fail)
    all_goals (go_meet)
    · exact two_made b1 _ _ n _ _ (grownCap_ge _ _ _ _) (grownCap_ge _ _ _ _)
    · exact (two_made b1 _ _ n _ _ (grownCap_ge _ _ _ _) (grownCap_ge _ _ _ _)).turn
  case rest =>
    obtain ⟨g1, c1, g2, c2, rfl, rfl, hne, hg1, hg2, hc1, hc2, hb1, hb2, hB⟩ := hcut
    have lx : (a.take n).length = n := by rw [List.length_take]; omega
    have ly : (b.take n).length = n := by rw [List.length_take]; omega
    clear hrx hry hta htb hmin b1
    generalize a.take n = x at *
    generalize b.take n = y at *
    go_upto_region 5 with fail
    go_cut [10] (fun s wx => s = .int .u32 ((sumB x ^^^ sumB y : Nat) : Int) ∧ Byt wx g1 x ∧ Byt wx g2 y ∧ Below w.heap.size w wx)
    case first =>
      have lx2 : x.length ≤ 9223372036854775807 := by omega
      have ly2 : y.length ≤ 9223372036854775807 := by omega
      have hcx := fun W (h : Byt W g1 x) => string_of_byt h c1
      have hcy := fun W (h : Byt W g2 y) => string_of_byt h c2
      rw [lx] at hcx
      rw [ly] at hcy
      have hb1' : Byt wc.drew g1 x := hb1
      have hb2' : Byt wc.drew g2 y := hb2
      have k1 := hb1.lt
      have k2 := hb2.lt
      have LX := Lib.hid lx
      have LY := Lib.hid ly
      clear lx ly
      go_region_with (go_at_call 9; refine (sum_walk _ (by assumption) _).mono ?_; rintro e w2 ⟨rfl, b2⟩; (first | (have k3 := hb1'.under b2 k1; have k4 := hb2'.under b2 k2; have k5 := under_drawn b2) | skip))
      all_goals (go_wp2_with fail)
      all_goals go_meet
      all_goals exact ⟨by rw [u32_xor_nat _ _ (sumB_lt _) (sumB_lt _)], k3.under b2 k3.lt, k4.under b2 k4.lt, hB.trans ((k5.trans (b2.mono k5.size)).mono hB.size)⟩
    case rest =>
      obtain ⟨rfl, hb1, hb2, hB⟩ := hcut
      go_wp2
      go_loopw [11] (fun i wr => ∃ k : Nat, k ≤ n ∧ i = .int .i64 k ∧ At w x y z g1 g2 k wr) (fun i _ => n - (intOf i).toNat)
      case atStart => exact ⟨0, by omega, rfl, by rw [mixK_zero]; exact hb1, by rw [mixK_zero]; exact hb2, hB⟩
      case round =>
        obtain ⟨k, hk, rfl, hat⟩ := hrel
        by_cases hlt : k < n
        · exact absurd hlt (by omega)
        · have hkn : k = n := by omega
          obtain ⟨hb1, hb2, hB⟩ := hat
          have hxor : bits .xor .u32 ((sumB (mixK x z k) : Nat) : Int) ((sumB (mixK y z k) : Nat) : Int) = ((sumB x ^^^ sumB y : Nat) : Int) := by
            rw [u32_xor_nat _ _ (sumB_lt _) (sumB_lt _), mixK_all _ _ (lx.trans hkn.symm), mixK_all _ _ (ly.trans hkn.symm), sums_alike (by rw [List.length_take]; omega) (by rw [List.length_take]; omega)]
          have lp := mixK_length (l := x) (b := z) (k := k) (by omega) (by omega)
          have lq := mixK_length (l := y) (b := z) (k := k) (by omega) (by omega)
          rw [lx] at lp
          rw [ly] at lq
          generalize mixK x z k = p at *
          generalize mixK y z k = q at *
          have lx2 : p.length ≤ 9223372036854775807 := by omega
          have ly2 : q.length ≤ 9223372036854775807 := by omega
          have hcx := fun W (h : Byt W g1 p) => string_of_byt h c1
          have hcy := fun W (h : Byt W g2 q) => string_of_byt h c2
          rw [lp] at hcx
          rw [lq] at hcy
          have hb1' : Byt wr.drew g1 p := hb1
          have hb2' : Byt wr.drew g2 q := hb2
          have k1 := hb1.lt
          have k2 := hb2.lt
          have LX := Lib.hid lx
          have LY := Lib.hid ly
          have LP := Lib.hid lp
          have LQ := Lib.hid lq
          have KN := Lib.hid hkn
          clear lx ly lp lq hkn
          go_wp2_with fail
          go_region_with (go_at_call 9; refine (sum_walk _ (by assumption) _).mono ?_; rintro e w2 ⟨rfl, b2⟩; (first | (have k3 := hb1'.under b2 k1; have k4 := hb2'.under b2 k2; have k5 := under_drawn b2) | skip))
          all_goals (go_wp2_with fail)
          all_goals go_ret
          all_goals exact ⟨rfl, hB.trans ((k5.trans (b2.mono k5.size)).mono hB.size)⟩
set_option maxRecDepth 100000 in
set_option maxHeartbeats 4000000 in
theorem walk_some (a b : List UInt8) (_ha : a.length ≤ 9223372036854775807) (_hb : b.length ≤ 9223372036854775807) (z : List UInt8) (_hz : z.length ≤ 9223372036854775807) (w : World) (_h0 : 0 < z.length) (vb off cap : Nat)
    (_hcap : z.length ≤ cap) (hcm : cap ≤ maxLen) (hvb : vb < w.heap.size) (hcell : ∀ i (h : i < z.length), w.cell? ⟨vb, off + i, none⟩ = some (.int .u8 z[i].toNat)) :
    Calls Try.prog 7 #[.string ⟨a.toArray⟩, .string ⟨b.toArray⟩, .slice (some ⟨vb, off, none⟩) z.length cap] w (Done w) := by
  obtain ⟨n, hna, hnb, hnz, hn2, hmin⟩ := run_min4 #[3, 3, 3, 3] 3 a.length b.length z.length
  have HC := Lib.hid hcell
  clear hcell
  have hcm' : cap ≤ 9223372036854775807 := hcm
  clear hcm
  go_enter Try.func7, Try.ntmps7
  go_wp2_with fail
  refine (works_walk _).mono ?_
  rintro e w1 ⟨rfl, b1⟩
  go_upto_region 4 with fail
  have hrx := fun W : World => run_bytes_of_string (P := Try.prog) W 9 30 5 ⟨(a.take n).toArray⟩ rfl rfl rfl
  have hry := fun W : World => run_bytes_of_string (P := Try.prog) W 9 30 5 ⟨(b.take n).toArray⟩ rfl rfl rfl
  have hta := take_str a n
  have htb := take_str b n
  go_cut [8, 9] (fun vx vy wx => Two w n (a.take n) (b.take n) vx vy wx)
  case first =>
    go_region
    all_goals (go_wp2_with fail)
    all_goals (go_meet)
    · exact two_made b1 _ _ n _ _ (grownCap_ge _ _ _ _) (grownCap_ge _ _ _ _)
    · exact (two_made b1 _ _ n _ _ (grownCap_ge _ _ _ _) (grownCap_ge _ _ _ _)).turn
  case rest =>
    obtain ⟨g1, c1, g2, c2, rfl, rfl, hne, hg1, hg2, hc1, hc2, hb1, hb2, hB⟩ := hcut
    have lx : (a.take n).length = n := by rw [List.length_take]; omega
    have ly : (b.take n).length = n := by rw [List.length_take]; omega
    clear hrx hry hta htb hmin b1
    generalize a.take n = x at *
    generalize b.take n = y at *
    go_upto_region 5 with fail
    go_cut [10] (fun s wx => s = .int .u32 ((sumB x ^^^ sumB y : Nat) : Int) ∧ Byt wx g1 x ∧ Byt wx g2 y ∧ Below w.heap.size w wx)
    case first =>
      have lx2 : x.length ≤ 9223372036854775807 := by omega
      have ly2 : y.length ≤ 9223372036854775807 := by omega
      have hcx := fun W (h : Byt W g1 x) => string_of_byt h c1
      have hcy := fun W (h : Byt W g2 y) => string_of_byt h c2
      rw [lx] at hcx
      rw [ly] at hcy
      have hb1' : Byt wc.drew g1 x := hb1
      have hb2' : Byt wc.drew g2 y := hb2
      have k1 := hb1.lt
      have k2 := hb2.lt
      have LX := Lib.hid lx
      have LY := Lib.hid ly
      clear lx ly
      go_region_with (go_at_call 9; refine (sum_walk _ (by assumption) _).mono ?_; rintro e w2 ⟨rfl, b2⟩; (first | (have k3 := hb1'.under b2 k1; have k4 := hb2'.under b2 k2; have k5 := under_drawn b2) | skip))
      all_goals (go_wp2_with fail)
      all_goals go_meet
      all_goals exact ⟨by rw [u32_xor_nat _ _ (sumB_lt _) (sumB_lt _)], k3.under b2 k3.lt, k4.under b2 k4.lt, hB.trans ((k5.trans (b2.mono k5.size)).mono hB.size)⟩
    case rest =>
      obtain ⟨rfl, hb1, hb2, hB⟩ := hcut
      go_wp2
      go_loopw [11] (fun i wr => ∃ k : Nat, k ≤ n ∧ i = .int .i64 k ∧ At w x y z g1 g2 k wr) (fun i _ => n - (intOf i).toNat)
      case atStart => exact ⟨0, by omega, rfl, by rw [mixK_zero]; exact hb1, by rw [mixK_zero]; exact hb2, hB⟩
      case round =>
        obtain ⟨k, hk, rfl, hat⟩ := hrel
        by_cases hlt : k < n
        · obtain ⟨cx, cy, cz, m1, m2, hx1, hx2, hy1, hy2, hz1, hm1, hm2, HA⟩ := hat.more hne hg1 hg2 (by omega) (by omega) (by omega) hvb (HC.out k (by omega))
          have hk3 : (k : Int) < n := by omega
          have hk4 : (0 : Int) ≤ k := by omega
          have hv1 : vb ≠ g1 := by omega
          have hv2 : vb ≠ g2 := by omega
          have LX := Lib.hid lx
          have LY := Lib.hid ly
          clear lx ly
          go_wp2_with fail
          go_region
          go_wp2_with fail
          go_region
          go_wp2
          go_roundw
          case rel => exact ⟨k + 1, by omega, by go_num, HA.out⟩
          case measure => simp [intOf]; omega
        · have hkn : k = n := by omega
          obtain ⟨hb1, hb2, hB⟩ := hat
          have hxor : bits .xor .u32 ((sumB (mixK x z k) : Nat) : Int) ((sumB (mixK y z k) : Nat) : Int) = ((sumB x ^^^ sumB y : Nat) : Int) := by
            rw [u32_xor_nat _ _ (sumB_lt _) (sumB_lt _), mixK_all _ _ (lx.trans hkn.symm), mixK_all _ _ (ly.trans hkn.symm), sums_alike (by rw [List.length_take]; omega) (by rw [List.length_take]; omega)]
          have lp := mixK_length (l := x) (b := z) (k := k) (by omega) (by omega)
          have lq := mixK_length (l := y) (b := z) (k := k) (by omega) (by omega)
          rw [lx] at lp
          rw [ly] at lq
          generalize mixK x z k = p at *
          generalize mixK y z k = q at *
          have lx2 : p.length ≤ 9223372036854775807 := by omega
          have ly2 : q.length ≤ 9223372036854775807 := by omega
          have hcx := fun W (h : Byt W g1 p) => string_of_byt h c1
          have hcy := fun W (h : Byt W g2 q) => string_of_byt h c2
          rw [lp] at hcx
          rw [lq] at hcy
          have hb1' : Byt wr.drew g1 p := hb1
          have hb2' : Byt wr.drew g2 q := hb2
          have k1 := hb1.lt
          have k2 := hb2.lt
          have LX := Lib.hid lx
          have LY := Lib.hid ly
          have LP := Lib.hid lp
          have LQ := Lib.hid lq
          have KN := Lib.hid hkn
          clear lx ly lp lq hkn
          go_wp2_with fail
          go_region_with (go_at_call 9; refine (sum_walk _ (by assumption) _).mono ?_; rintro e w2 ⟨rfl, b2⟩; (first | (have k3 := hb1'.under b2 k1; have k4 := hb2'.under b2 k2; have k5 := under_drawn b2) | skip))
          all_goals (go_wp2_with fail)
          all_goals go_ret
          all_goals exact ⟨rfl, hB.trans ((k5.trans (b2.mono k5.size)).mono hB.size)⟩
theorem walk (a b : List UInt8) (ha : a.length ≤ 9223372036854775807) (hb : b.length ≤ 9223372036854775807) (v : Value) (z : List UInt8) (hz : z.length ≤ 9223372036854775807) (w : World) (hv : Src w v z) :
    Calls Try.prog 7 #[.string ⟨a.toArray⟩, .string ⟨b.toArray⟩, v] w (Done w) := by
  rcases hv with ⟨rfl, p, cap, rfl⟩ | ⟨h0, vb, off, cap, rfl, hcap, hcm, hvb, hcell⟩
  · exact walk_empty a b ha hb p cap w
  · exact walk_some a b ha hb z hz w h0 vb off cap hcap hcm hvb hcell

set_option maxRecDepth 100000 in
theorem lifted (os : Os) (started : os.Started) (H : Type) (enc : TypeId × Value → H) :
    ReturnsInHanded {} Try.checked os 7 .any (Rows.crcJoinsSpec.pre6 enc Try.prog Try.f7 Rows.crcJoinsRow.domain false) (Rows.crcJoinsSpec.post enc Try.prog Try.f7 false true false false) := by
  refine returnsInHanded_of_change (C := Try.checked) own started (by kernel_rfl) Try.func7
    (ChangeSpec.witness6 (enc := enc) (C := Try.checked) false ⟨#[], #[.string ⟨#[]⟩, .string ⟨#[]⟩, .slice none 0 0], []⟩ 8 (by kernel_rfl) (by kernel_rfl) (by kernel_rfl) (by kernel_rfl)) ?_
  intro W base args ds gs before hval0 hW hcnd _
  have hval : ∀ (j : Nat) t v, Try.f7.params[j]? = some t → args[j]? = some v → Value.okWide Try.prog W .any base t v := hval0
  have hW' := hW
  obtain ⟨p, q, hA0, hV, rfl, hfz, hnd⟩ := hW
  have hA : DataW.TrodAll enc Try.prog W 0 (fun _ => true) true Try.f7.params.toList args.toList ds p := hA0
  rw [Try.params7] at hA hval
  obtain ⟨v0, vs0, d0, ds0, p0, q0, hargs, rfl, rfl, h0, r0⟩ := trodAll_cons hA
  obtain ⟨v1, vs1, d1, ds1, p1, q1, rfl, rfl, rfl, h1, r1⟩ := trodAll_cons r0
  obtain ⟨v2, vs2, d2, ds2, p2, q2, rfl, rfl, rfl, h2, r2⟩ := trodAll_cons r1
  obtain ⟨rfl, rfl, rfl⟩ := trodAll_nil r2
  obtain rfl : args = #[v0, v1, v2] := by cases args; simp_all
  obtain ⟨rfl, rfl⟩ := trodVars_none hV
  obtain ⟨s0, rfl, rfl, rfl, ws0⟩ := Go.ChangeMaps.open_string Try.underlying9 (hval 0 9 v0 rfl rfl) h0
  have hsz0 : s0.data.toList.length ≤ 9223372036854775807 := by rw [Array.length_toList]; exact ws0
  obtain ⟨s1, rfl, rfl, rfl, ws1⟩ := Go.ChangeMaps.open_string Try.underlying9 (hval 1 9 v1 rfl rfl) h1
  have hsz1 : s1.data.toList.length ≤ 9223372036854775807 := by rw [Array.length_toList]; exact ws1
  obtain ⟨z2, hs2, hz2⟩ := open_bytes (hval 2 30 v2 rfl rfl) h2
  clear hA0 hval0
  have hc := walk s0.data.toList s1.data.toList hsz0 hsz1 v2 z2 hz2 W hs2
  try rw [Array.toArray_toList] at hc
  refine hc.mono fun e W' ⟨he, hg⟩ => ?_
  subst he
  exact ⟨_, rfl, law_post rfl (by decide +kernel) (by kernel_rfl) rfl hW' hg⟩

theorem over : Rows.crcJoinsRow.holds Try.pinned (OpenSpec.ofChange Rows.crcJoinsSpec) :=
  OpenClaim.holds_of_wide 7 Try.f7 rfl rfl rfl rfl rfl rfl rfl ⟨rfl, rfl, rfl, rfl, rfl⟩ rfl rfl rfl rfl rfl (by kernel_rfl) Try.func7 (by kernel_rfl)
    (of_decide_eq_true (by kernel_rfl)) (by unfold Func.isWrapper; first | (rw [if_pos (by decide +kernel)]; kernel_rfl) | (rw [if_neg (by decide +kernel)]; exact ⟨rfl, rfl⟩))
    (fun os started H enc _ => lifted os started H enc)

theorem proved : Rows.CrcJoinsSaid :=
  over
#print axioms proved
end CrcJoins
end Go.Proofs.Ytdjodfajmcaacaa
