/- slices.Sort at []uint64: the pivot, the patterns broken. Conditions: none but the places. -/
import Derived.Test.YtlhpbfjelgmkeaaGreatShelfD
import Derived.Test.YtlhpbfjelgmkeaaGreatSrtA
import Derived.Test.YtlhpbfjelgmkeaaGreatShelf
import Derived.Shelf.SlSortCmp.WholeK
import Derived.Test.YtlhpbfjelgmkeaaGreatBits
import Derived.Deep.RegionHeld
set_option maxRecDepth 1000000
namespace Go.Proofs.YtlhpbfjelgmkeaaGreat.Dig
open Go.Shelf Go.RowKit Go.Lib Go.Sort

/-- a world of the sort's, with a counter laid since -/
def Cnt (w0 : World) (blk off : Nat) (d0 : Array UInt64) (c : Nat) (W : World) : Prop :=
  Srt w0 blk off d0 W ∧ (∃ s : Int, W.cell? ⟨c, 0, none⟩ = some (.int .i64 s)) ∧ W.frozen? ⟨c, 0, none⟩ = false ∧ w0.heap.size ≤ c
section
variable {w0 W : World} {blk off c : Nat} {d0 : Array UInt64}
theorem Cnt.drewN (h : Cnt w0 blk off d0 c W) (n : Nat) : Cnt w0 blk off d0 c (W.drewN n) := ⟨h.1.drewN n, h.2.1, h.2.2.1, h.2.2.2⟩
theorem Cnt.bump (h : Cnt w0 blk off d0 c W) (t : Int) : Cnt w0 blk off d0 c (W.setCell ⟨c, 0, none⟩ (.int .i64 t)) := by
  obtain ⟨s, hs⟩ := h.2.1
  exact ⟨h.1.setNew c 0 _ h.2.2.2, ⟨t, World.cell?_setCell_same' _ _ _ (by rw [hs]; rfl)⟩, by rw [World.frozen?_setCell]; exact h.2.2.1, h.2.2.2⟩
theorem Cnt.start (h : Srt w0 blk off d0 W) (T : TypeId) : Cnt w0 blk off d0 W.heap.size (W.alloc (.cells #[.int .i64 0] T)) :=
  ⟨h.alloc _, ⟨0, by simp⟩, by simp, h.le⟩
end
/-- two places, handed back -/
def Two2 (w0 : World) (blk off : Nat) (d0 : Array UInt64) (c L U : Nat) (e : Ending) (w' : World) : Prop :=
  ∃ x y : Nat, e = .returned (.tuple #[.int .i64 x, .int .i64 y]) ∧ L ≤ x ∧ x < U ∧ L ≤ y ∧ y < U ∧ Cnt w0 blk off d0 c w'
def One1 (w0 : World) (blk off : Nat) (d0 : Array UInt64) (c L U : Nat) (e : Ending) (w' : World) : Prop :=
  ∃ x : Nat, e = .returned (.int .i64 x) ∧ L ≤ x ∧ x < U ∧ Cnt w0 blk off d0 c w'

set_option maxHeartbeats 4000000 in
theorem order2_w (blk off cap a b c L U : Nat) (d0 : Array UInt64) (w0 w : World) (R : RowW w0 blk off d0) (S : Cnt w0 blk off d0 c w) (ha : L ≤ a) (ha2 : a < U) (hb : L ≤ b) (hb2 : b < U) (hU : U ≤ d0.size) (_hsz : d0.size < 1152921504606846976) :
    Calls Tryz.prog 274 #[.slice (some ⟨blk, off, none⟩) d0.size cap, .int .i64 a, .int .i64 b, .pointer (some ⟨c, 0, none⟩)] w fun e w' => Two2 w0 blk off d0 c L U e w' := by
  have HR : Hid (RowW w0 blk off d0) := R
  have mixed : Tryz.prog.follows .mixedOrders = true := by kernel_rfl
  have S1 : Aside (Cnt w0 blk off d0 c w) := S
  obtain ⟨G, hcw, hfw, HW⟩ := S.1.fam R
  have na : a < d0.size := by omega
  have nb : b < d0.size := by omega
  have ca := hcw a na
  have cb := hcw b nb
  have ba : (a : Int) < (d0.size : Int) := by omega
  have bb : (b : Int) < (d0.size : Int) := by omega
  clear S R HW
  go_enter Tryz.func274, Tryz.ntmps274
  go_wp2_with fail
  go_quiet (first | (go_at_call 268; refine Calls.quiet_of_same (less_w _ _ _)))
  clear hcw hfw ca cb
  have S2 : Aside (Cnt w0 blk off d0 c (w.drewN nq)) := S1.out.drewN nq
  clear S1
  generalize w.drewN nq = wv at S2 ⊢
  obtain ⟨s, hc⟩ := S2.out.2.1
  have hf := S2.out.2.2.1
  go_wp2
  · have S3 : Aside (Cnt w0 blk off d0 c _) := S2.out.bump (wrap64 (s + 1))

    refine bodyPost_ret (results_tmp2 rfl _ _ _) rfl ?_
    exact ⟨b, a, rfl, hb, hb2, ha, ha2, S3⟩
  · refine bodyPost_ret (results_tmp2 rfl _ _ _) rfl ?_
    exact ⟨a, b, rfl, ha, ha2, hb, hb2, S2.out⟩

set_option maxHeartbeats 4000000 in
theorem median_w (blk off cap a b c' c L U : Nat) (d0 : Array UInt64) (w0 w : World) (R : RowW w0 blk off d0) (S : Cnt w0 blk off d0 c w) (ha : L ≤ a) (ha2 : a < U) (hb : L ≤ b) (hb2 : b < U) (hc : L ≤ c') (hc2 : c' < U) (hU : U ≤ d0.size) (hsz : d0.size < 1152921504606846976) :
    Calls Tryz.prog 273 #[.slice (some ⟨blk, off, none⟩) d0.size cap, .int .i64 a, .int .i64 b, .int .i64 c', .pointer (some ⟨c, 0, none⟩)] w fun e w' => One1 w0 blk off d0 c L U e w' := by
  have KO := Lib.hid (fun (W : World) (x y : Nat) (h : Cnt w0 blk off d0 c W) (h1 : L ≤ x) (h2 : x < U) (h3 : L ≤ y) (h4 : y < U) => order2_w blk off cap x y c L U d0 w0 W R h h1 h2 h3 h4 hU hsz)
  have K1 := KO.out w a b S ha ha2 hb hb2
  have HC : Hid (L ≤ c' ∧ c' < U) := ⟨hc, hc2⟩
  clear S R hU hsz ha ha2 hb hb2 hc hc2
  go_enter Tryz.func273, Tryz.ntmps273
  go_wp2_with fail
  refine K1.mono ?_
  rintro e w1 ⟨x1, y1, rfl, p1, p2, p3, p4, S1⟩
  have K2 := KO.out w1 y1 c' S1 p3 p4 HC.out.1 HC.out.2
  clear K1 S1
  go_wp2_with fail
  refine K2.mono ?_
  rintro e w2 ⟨x2, y2, rfl, q1, q2, q3, q4, S2⟩
  have K3 := KO.out w2 x1 x2 S2 p1 p2 q1 q2
  clear K2 S2
  go_wp2_with fail
  refine K3.mono ?_
  rintro e w3 ⟨x3, y3, rfl, r1, r2, r3, r4, S3⟩
  have S4 : Aside (Cnt w0 blk off d0 c w3) := S3
  have HQ : Hid (L ≤ y3 ∧ y3 < U) := ⟨r3, r4⟩
  clear K3 S3
  go_wp2_with fail
  refine bodyPost_ret (results_tmp rfl _ _ _) rfl ?_
  exact ⟨y3, rfl, HQ.out.1, HQ.out.2, S4.out⟩

set_option maxHeartbeats 4000000 in
theorem adj_w (blk off cap a c L U : Nat) (d0 : Array UInt64) (w0 w : World) (R : RowW w0 blk off d0) (S : Cnt w0 blk off d0 c w) (ha : L + 1 ≤ a) (ha2 : a + 1 < U) (hU : U ≤ d0.size) (hsz : d0.size < 1152921504606846976) :
    Calls Tryz.prog 272 #[.slice (some ⟨blk, off, none⟩) d0.size cap, .int .i64 a, .pointer (some ⟨c, 0, none⟩)] w fun e w' => One1 w0 blk off d0 c L U e w' := by
  obtain ⟨am, rfl⟩ : ∃ am, a = am + 1 := ⟨a - 1, by omega⟩
  have K := median_w blk off cap am (am + 1) (am + 2) c L U d0 w0 w R S (by omega) (by omega) (by omega) (by omega) (by omega) (by omega) hU hsz
  have hwp : IntKind.i64.wrap (am : Int) = (am : Int) := by rw [IntKind.wrap_i64]; omega
  have hwq : IntKind.i64.wrap ((am : Int) + 1 + 1) = (am : Int) + 2 := by rw [IntKind.wrap_i64]; omega
  have hwr : IntKind.i64.wrap ((am : Int) + 2) = (am : Int) + 2 := by rw [IntKind.wrap_i64]; omega
  clear S R ha ha2 hU hsz
  go_enter Tryz.func272, Tryz.ntmps272
  go_wp2_with fail
  refine K.mono ?_
  rintro e w3 ⟨y3, rfl, r3, r4, S3⟩
  have S4 : Aside (Cnt w0 blk off d0 c w3) := S3
  have HQ : Hid (L ≤ y3 ∧ y3 < U) := ⟨r3, r4⟩
  clear K S3
  go_wp2_with fail
  refine bodyPost_ret (results_tmp rfl _ _ _) rfl ?_
  exact ⟨y3, rfl, HQ.out.1, HQ.out.2, S4.out⟩

/-- a place and a hint, handed back -/
def Piv (w0 : World) (blk off : Nat) (d0 : Array UInt64) (a b : Nat) (e : Ending) (w' : World) : Prop :=
  ∃ (x : Nat) (h : Int), e = .returned (.tuple #[.int .i64 x, .int .i64 h]) ∧ a ≤ x ∧ x < b ∧ Srt w0 blk off d0 w'

set_option maxHeartbeats 8000000 in
theorem pivot_w (blk off cap a b : Nat) (d0 : Array UInt64) (w0 w : World) (R : RowW w0 blk off d0) (S : Srt w0 blk off d0 w) (hab : a + 8 ≤ b) (hb : b ≤ d0.size) (hsz : d0.size < 1152921504606846976) :
    Calls Tryz.prog 265 #[.slice (some ⟨blk, off, none⟩) d0.size cap, .int .i64 a, .int .i64 b] w fun e w' => Piv w0 blk off d0 a b e w' := by
  obtain ⟨l, hl⟩ : ∃ l, b = a + l := ⟨b - a, by omega⟩
  obtain ⟨q, hq⟩ : ∃ q, l / 4 = q := ⟨_, rfl⟩
  obtain ⟨i, hi⟩ : ∃ i, a + q = i := ⟨_, rfl⟩
  obtain ⟨j, hj⟩ : ∃ j, a + q * 2 = j := ⟨_, rfl⟩
  obtain ⟨k, hk⟩ : ∃ k, a + q * 3 = k := ⟨_, rfl⟩
  have tl : (b : Int) - (a : Int) = (l : Int) := by omega
  have tq : (l : Int) / 4 = (q : Int) := by omega
  have ti : (a : Int) + (q : Int) = (i : Int) := by omega
  have tj : (a : Int) + (q : Int) * 2 = (j : Int) := by omega
  have tk : (a : Int) + (q : Int) * 3 = (k : Int) := by omega
  have wl : IntKind.i64.wrap (l : Int) = (l : Int) := by rw [IntKind.wrap_i64]; omega
  have wq2 : IntKind.i64.wrap ((q : Int) * 2) = (q : Int) * 2 := by rw [IntKind.wrap_i64]; omega
  have wq3 : IntKind.i64.wrap ((q : Int) * 3) = (q : Int) * 3 := by rw [IntKind.wrap_i64]; omega
  have wq : IntKind.i64.wrap (q : Int) = (q : Int) := by rw [IntKind.wrap_i64]; omega
  have wi : IntKind.i64.wrap (i : Int) = (i : Int) := by rw [IntKind.wrap_i64]; omega
  have wj : IntKind.i64.wrap (j : Int) = (j : Int) := by rw [IntKind.wrap_i64]; omega
  have wk : IntKind.i64.wrap (k : Int) = (k : Int) := by rw [IntKind.wrap_i64]; omega
  have l8 : (8 : Int) ≤ (l : Int) := by omega
  obtain ⟨c, hc⟩ : ∃ c, w.heap.size = c := ⟨_, rfl⟩
  have S0 : Aside (Cnt w0 blk off d0 c (w.alloc (.cells #[.int .i64 0] 3))) := hc ▸ Cnt.start S 3
  have KM := Lib.hid (fun (W : World) (x y z : Nat) (h : Cnt w0 blk off d0 c W) (h1 : a ≤ x) (h2 : x < b) (h3 : a ≤ y) (h4 : y < b) (h5 : a ≤ z) (h6 : z < b) => median_w blk off cap x y z c a b d0 w0 W R h h1 h2 h3 h4 h5 h6 hb hsz)
  have KA := Lib.hid (fun (W : World) (x : Nat) (h : Cnt w0 blk off d0 c W) (h1 : a + 1 ≤ x) (h2 : x + 1 < b) => adj_w blk off cap x c a b d0 w0 W R h h1 h2 hb hsz)
  have HI : Hid (a ≤ i ∧ i < b ∧ (50 ≤ l → a + 1 ≤ i ∧ i + 1 < b)) := ⟨by omega, by omega, fun _ => ⟨by omega, by omega⟩⟩
  have HJ : Hid (a ≤ j ∧ j < b ∧ (50 ≤ l → a + 1 ≤ j ∧ j + 1 < b)) := ⟨by omega, by omega, fun _ => ⟨by omega, by omega⟩⟩
  have HK : Hid (a ≤ k ∧ k < b ∧ (50 ≤ l → a + 1 ≤ k ∧ k + 1 < b)) := ⟨by omega, by omega, fun _ => ⟨by omega, by omega⟩⟩
  clear S R hl hq hi hj hk hab hb
  go_enter Tryz.func265, Tryz.ntmps265
  by_cases h50 : 50 ≤ l
  · have h50z : (50 : Int) ≤ (l : Int) := by omega
    have K1 := KA.out _ i S0.out (HI.out.2.2 h50).1 (HI.out.2.2 h50).2
    go_wp2_with fail
    refine K1.mono ?_
    rintro e w1 ⟨x1, rfl, p1, p2, S1⟩
    have K2 := KA.out w1 j S1 (HJ.out.2.2 h50).1 (HJ.out.2.2 h50).2
    have HX1 : Hid (a ≤ x1 ∧ x1 < b) := ⟨p1, p2⟩
    clear K1 S1 p1 p2
    go_wp2_with fail
    refine K2.mono ?_
    rintro e w2 ⟨x2, rfl, p1, p2, S2⟩
    have K3 := KA.out w2 k S2 (HK.out.2.2 h50).1 (HK.out.2.2 h50).2
    have HX2 : Hid (a ≤ x2 ∧ x2 < b) := ⟨p1, p2⟩
    clear K2 S2 p1 p2
    go_wp2_with fail
    refine K3.mono ?_
    rintro e w3 ⟨x3, rfl, p1, p2, S3⟩
    have KN := KM.out w3 x1 x2 x3 S3 HX1.out.1 HX1.out.2 HX2.out.1 HX2.out.2 p1 p2
    clear K3 S3 p1 p2
    go_wp2_with fail
    refine KN.mono ?_
    rintro e wZ ⟨x, rfl, r3, r4, S3⟩
    have S4 : Aside (Srt w0 blk off d0 wZ) := S3.1
    obtain ⟨s, hc⟩ := S3.2.1
    have HQ : Hid (a ≤ x ∧ x < b) := ⟨r3, r4⟩
    clear KN S3 r3 r4 S0
    go_wp2
    · refine bodyPost_ret (results_tmp2 rfl _ _ _) rfl ?_
      exact ⟨x, _, rfl, HQ.out.1, HQ.out.2, S4.out⟩
    · refine bodyPost_ret (results_tmp2 rfl _ _ _) rfl ?_
      exact ⟨x, _, rfl, HQ.out.1, HQ.out.2, S4.out⟩
    · refine bodyPost_ret (results_tmp2 rfl _ _ _) rfl ?_
      exact ⟨x, _, rfl, HQ.out.1, HQ.out.2, S4.out⟩
  · have h50z : ¬ (50 : Int) ≤ (l : Int) := by omega
    have K1 := KM.out _ i j k S0.out HI.out.1 HI.out.2.1 HJ.out.1 HJ.out.2.1 HK.out.1 HK.out.2.1
    go_wp2_with fail
    refine K1.mono ?_
    rintro e wZ ⟨x, rfl, r3, r4, S3⟩
    have S4 : Aside (Srt w0 blk off d0 wZ) := S3.1
    obtain ⟨s, hc⟩ := S3.2.1
    have HQ : Hid (a ≤ x ∧ x < b) := ⟨r3, r4⟩
    clear K1 S3 r3 r4 S0
    go_wp2
    · refine bodyPost_ret (results_tmp2 rfl _ _ _) rfl ?_
      exact ⟨x, _, rfl, HQ.out.1, HQ.out.2, S4.out⟩
    · refine bodyPost_ret (results_tmp2 rfl _ _ _) rfl ?_
      exact ⟨x, _, rfl, HQ.out.1, HQ.out.2, S4.out⟩
    · refine bodyPost_ret (results_tmp2 rfl _ _ _) rfl ?_
      exact ⟨x, _, rfl, HQ.out.1, HQ.out.2, S4.out⟩

/-- a world of the sort's, with the generator's cell -/
def Gnt (w0 : World) (blk off : Nat) (d0 : Array UInt64) (c : Nat) (W : World) : Prop :=
  Srt w0 blk off d0 W ∧ (∃ X : Nat, X < 18446744073709551616 ∧ W.cell? ⟨c, 0, none⟩ = some (.int .u64 (X : Int))) ∧ W.frozen? ⟨c, 0, none⟩ = false ∧ w0.heap.size ≤ c
section
variable {w0 W : World} {blk off c : Nat} {d0 : Array UInt64}
theorem Gnt.swapped (h : Gnt w0 blk off d0 c W) (hblk : blk < w0.heap.size) {i j : Nat} {u v : Value} (hS : Srt w0 blk off d0 (((W.drewN 1).setCell ⟨blk, off + i, none⟩ u).setCell ⟨blk, off + j, none⟩ v)) :
    Gnt w0 blk off d0 c (((W.drewN 1).setCell ⟨blk, off + i, none⟩ u).setCell ⟨blk, off + j, none⟩ v) := by
  obtain ⟨h1, ⟨X, hX, hc⟩, hf, hle⟩ := h
  have n1 : blk ≠ c := by omega
  refine ⟨hS, ⟨X, hX, ?_⟩, ?_, hle⟩
  · rw [World.cell?_setCell_far _ _ _ _ n1, World.cell?_setCell_far _ _ _ _ n1, World.cell?_drewN]; exact hc
  · rw [World.frozen?_setCell, World.frozen?_setCell, World.frozen?_drewN]; exact hf
theorem Gnt.start (h : Srt w0 blk off d0 W) (T : TypeId) {X : Nat} (hX : X < 18446744073709551616) : Gnt w0 blk off d0 W.heap.size (W.alloc (.cells #[.int .u64 (X : Int)] T)) :=
  ⟨h.alloc _, ⟨X, hX, by simp⟩, by simp, h.le⟩
/-- what a generator's step hands back: a number, and a world in which it is the cell's -/
def Nxt (w0 : World) (blk off : Nat) (d0 : Array UInt64) (c : Nat) (e : Ending) (w' : World) : Prop := ∃ Y : Nat, Y < 18446744073709551616 ∧ e = .returned (.int .u64 (Y : Int)) ∧ Gnt w0 blk off d0 c w'
theorem next_w (h : Gnt w0 blk off d0 c W) : Calls Tryz.prog 159 #[.pointer (some ⟨c, 0, none⟩)] W fun e w' => Nxt w0 blk off d0 c e w' := by
  obtain ⟨h1, ⟨X, hX, hc⟩, hf, hle⟩ := h
  have L : SlLaysF0.n48 Tryz.prog Tryz.sortNode_ren := { Tryz.sortNode with }
  have K := AnyF.xorshift_Next L c 0 X hX W hc hf
  refine K.mono ?_
  rintro e w' ⟨rfl, rfl⟩
  have lX := xorNextN_lt X hX
  exact ⟨xorNextN X, lX, rfl, (h1.setNew c 0 _ hle).drewN 3, ⟨xorNextN X, lX, by rw [World.cell?_drewN]; exact World.cell?_setCell_same _ _ _ hc⟩, by rw [World.frozen?_drewN]; simpa using hf, hle⟩
theorem power_w (n : Nat) (hn : n < 4611686018427387904) (W : World) : Calls Tryz.prog 158 #[.int .i64 n] W fun e w' => e = .returned (.int .u64 ((1 <<< bitsLen n : Nat) : Int)) ∧ w' = W := by
  have L : SlLaysF0.n47 Tryz.prog Tryz.sortNode_ren := { Tryz.sortNode with }
  exact AnyF.nextPowerOfTwo L n hn W
end

set_option maxHeartbeats 8000000 in
theorem break_w (blk off cap a b : Nat) (d0 : Array UInt64) (w0 w : World) (R : RowW w0 blk off d0) (S : Srt w0 blk off d0 w) (hab : a + 8 ≤ b) (hb : b ≤ d0.size) (hsz : d0.size < 1152921504606846976) :
    Calls Tryz.prog 264 #[.slice (some ⟨blk, off, none⟩) d0.size cap, .int .i64 a, .int .i64 b] w fun e w' => e = .returned (.tuple #[]) ∧ Srt w0 blk off d0 w' := by
  obtain ⟨l, hl⟩ : ∃ l, b = a + l := ⟨b - a, by omega⟩
  obtain ⟨M, hM⟩ : ∃ M : Nat, M = 1 <<< bitsLen l := ⟨_, rfl⟩
  have hM1 : 1 ≤ M := by rw [hM, Nat.one_shiftLeft]; exact Nat.two_pow_pos _
  have hM2 : M ≤ 2 * l := by rw [hM, Nat.one_shiftLeft]; exact two_pow_bitsLen_le (by omega)
  have hNP := Lib.hid (fun W => power_w l (by omega) W)
  rw [← hM] at hNP
  obtain ⟨q, hq⟩ : ∃ q, l / 4 = q := ⟨_, rfl⟩
  obtain ⟨i, hi⟩ : ∃ i, a + q * 2 = i + 1 := ⟨a + q * 2 - 1, by omega⟩
  have tl : (b : Int) - (a : Int) = (l : Int) := by omega
  have wl : IntKind.i64.wrap (l : Int) = (l : Int) := by rw [IntKind.wrap_i64]; omega
  have wlu : IntKind.u64.wrap (l : Int) = (l : Int) := by rw [IntKind.wrap_u64]; omega
  have l8 : (8 : Int) ≤ (l : Int) := by omega
  have tq : (l : Int) / 4 = (q : Int) := by omega
  have wq2 : IntKind.i64.wrap ((q : Int) * 2) = (q : Int) * 2 := by rw [IntKind.wrap_i64]; omega
  have wq : IntKind.i64.wrap (q : Int) = (q : Int) := by rw [IntKind.wrap_i64]; omega
  have ti : (a : Int) + (q : Int) * 2 = (i : Int) + 1 := by omega
  have wi : IntKind.i64.wrap (i : Int) = (i : Int) := by rw [IntKind.wrap_i64]; omega
  have wi1 : IntKind.i64.wrap ((i : Int) + 1) = (i : Int) + 1 := by rw [IntKind.wrap_i64]; omega
  obtain ⟨c, hc⟩ : ∃ c, w.heap.size = c := ⟨_, rfl⟩
  have S0 : Aside (Gnt w0 blk off d0 c (w.alloc (.cells #[.int .u64 (l : Int)] 255))) := hc ▸ Gnt.start S _ (by omega)
  have mixed : Tryz.prog.follows .mixedOrders = true := by kernel_rfl
  have HR : Hid (RowW w0 blk off d0) := R
  have KP := hNP.out (w.alloc (.cells #[.int .u64 (l : Int)] 255))
  have hia : a ≤ i := by omega
  have hib : i + 3 ≤ b := by omega
  have wi2 : IntKind.i64.wrap ((i : Int) + 1 + 1) = (i : Int) + 2 := by rw [IntKind.wrap_i64]; omega
  have wi3 : IntKind.i64.wrap ((i : Int) + 2) = (i : Int) + 2 := by rw [IntKind.wrap_i64]; omega
  obtain ⟨Mm, hMm⟩ : ∃ Mm, M = Mm + 1 := ⟨M - 1, by omega⟩
  have tM : (M : Int) - 1 = (Mm : Int) := by omega
  have wM : IntKind.u64.wrap (Mm : Int) = (Mm : Int) := by rw [IntKind.wrap_u64]; omega
  have lM : Mm < 2 * l := by omega
  have nl : a + l ≤ d0.size := by omega
  clear S R hM hNP hq hi hl hab hM1 hM2 hMm
  go_enter Tryz.func264, Tryz.ntmps264
  go_wp2_with fail
  refine KP.mono ?_
  rintro e w1 ⟨rfl, rfl⟩
  clear KP
  go_wp2_with fail
  go_loopg [9] 3 (fun kx si wr => ∃ z : Nat, si = .int .i64 z ∧ i ≤ z ∧ z ≤ i + 3 ∧ i + 3 - z ≤ kx ∧ Aside (Gnt w0 blk off d0 c wr))
  case atStart => exact ⟨i, rfl, by omega, by omega, by omega, S0⟩
  case round =>
    clear S0
    obtain ⟨z, rfl, hiz, hz3, hkx, S1⟩ := hrel
    by_cases hz : z ≤ i + 2
    · have hzz : (z : Int) ≤ (i : Int) + 2 := by omega
      have KX := next_w S1.out
      clear S1
      go_wp2_with fail
      refine KX.mono ?_
      rintro e w2 ⟨Y, hY, rfl, S2⟩
      have S2 : Aside (Gnt w0 blk off d0 c w2) := S2
      obtain ⟨O, hO⟩ : ∃ O : Nat, O = Y &&& Mm := ⟨_, rfl⟩
      have eAnd : bits .and .u64 (Y : Int) (Mm : Int) = (O : Int) := by rw [and_u64 Y Mm hY (by omega), hO]
      have lO : O ≤ Mm := by rw [hO]; exact Nat.and_le_right
      have wO : IntKind.i64.wrap (O : Int) = (O : Int) := by rw [IntKind.wrap_i64]; omega
      clear KX hO hY
      by_cases hLO : l ≤ O
      · have hLz : (l : Int) ≤ (O : Int) := by omega
        obtain ⟨O', hO'⟩ : ∃ O', O = l + O' := ⟨O - l, by omega⟩
        have tO : (O : Int) - (l : Int) = (O' : Int) := by omega
        have wO' : IntKind.i64.wrap (O' : Int) = (O' : Int) := by rw [IntKind.wrap_i64]; omega
        have lO' : O' < l := by omega
        clear hO'
        obtain ⟨A, hA⟩ : ∃ A, a + O' = A := ⟨_, rfl⟩
        have tA : (a : Int) + (O' : Int) = (A : Int) := by omega
        have wA : IntKind.i64.wrap (A : Int) = (A : Int) := by rw [IntKind.wrap_i64]; omega
        have nA : A < d0.size := by omega
        have nz : z < d0.size := by omega
        have bA : (A : Int) < (d0.size : Int) := by omega
        have bz : (z : Int) < (d0.size : Int) := by omega
        obtain ⟨G, hcw, hfw, HW⟩ := S2.out.1.fam HR.out
        have cA := hcw A nA
        have cz := hcw z nz
        obtain ⟨u, cU⟩ := cell_set_some (i := off + z) (.int .u64 (G A)) cA
        have S3 : Aside (Gnt w0 blk off d0 c _) := S2.out.swapped HR.out.hblk (HW.out 1 z A nz nA)
        clear S2 HW hA
        go_wp2_with fail
        go_region
        all_goals
          go_wp2
          go_roundg (i + 3 - (z + 1))
          case measure => omega
          case rel => exact ⟨z + 1, by go_num, by omega, by omega, by omega, S3⟩
      · have hLz : ¬ (l : Int) ≤ (O : Int) := by omega
        obtain ⟨A, hA⟩ : ∃ A, a + O = A := ⟨_, rfl⟩
        have tA : (a : Int) + (O : Int) = (A : Int) := by omega
        have wA : IntKind.i64.wrap (A : Int) = (A : Int) := by rw [IntKind.wrap_i64]; omega
        have nA : A < d0.size := by omega
        have nz : z < d0.size := by omega
        have bA : (A : Int) < (d0.size : Int) := by omega
        have bz : (z : Int) < (d0.size : Int) := by omega
        obtain ⟨G, hcw, hfw, HW⟩ := S2.out.1.fam HR.out
        have cA := hcw A nA
        have cz := hcw z nz
        obtain ⟨u, cU⟩ := cell_set_some (i := off + z) (.int .u64 (G A)) cA
        have S3 : Aside (Gnt w0 blk off d0 c _) := S2.out.swapped HR.out.hblk (HW.out 1 z A nz nA)
        clear S2 HW hA
        go_wp2_with fail
        go_region
        all_goals
          go_wp2
          go_roundg (i + 3 - (z + 1))
          case measure => omega
          case rel => exact ⟨z + 1, by go_num, by omega, by omega, by omega, S3⟩
    · have hzz : ¬ (z : Int) ≤ (i : Int) + 2 := by omega
      go_wp2
      go_end0
      exact ⟨rfl, S1.out.1⟩
end Go.Proofs.YtlhpbfjelgmkeaaGreat.Dig
