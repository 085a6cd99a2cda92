/- The texts CelM CelN CelQ CelR CelS, one behind the other; each one's own comment says what it holds. -/
import Derived.Test.YtlhpbfjelgmkeaaGreatCellOrderRowGH
import Derived.Test.YtlhpbfjelgmkeaaGreatCellOrderRowGG
import Derived.Test.YtlhpbfjelgmkeaaGreatCellOrderRowGD
/- The document's examples hold in any world. Conditions: none. -/
set_option maxRecDepth 100000
namespace Go.Proofs.YtlhpbfjelgmkeaaGreat
open Go.RowKit Go.Maps Go.Sort Go.Lib
open Wide

def lvN : Nat → Int | 0 => 0 | 1 => 5 | 2 => 5 | _ => 12
def lvn : Nat → Nat | 0 => 0 | 1 => 1 | 2 => 1 | _ => 2
def v5 : VV := ⟨1, 5, ⟨#[]⟩⟩
def v7 : VV := ⟨1, 7, ⟨#[]⟩⟩
def lvl : Nat → VV | 0 => VV.none_ | _ => v5
def lvV : Nat → VV | 0 => v5 | 1 => VV.none_ | _ => v7
def lvSt (b0 b1 m : Nat) : List (Nat × Sv) := [(b0, .sum (lvN m) (lvn m)), (b1, .low (lvl m))]
def lvMs : List (Int × ByteArray) := [(2, ⟨#[]⟩), (3, ⟨#[]⟩)]
def CVl (b0 b1 m : Nat) : Cv := ⟨lvMs, [1, 1], 4, [(3, 1)], 4, 2, m, lvSt b0 b1 m⟩
theorem lv_next (b0 b1 : Nat) : ∀ m, m < 3 → [addS (lvV m) 0 (b0, .sum (lvN m) (lvn m)), addS (lvV m) 0 (b1, .low (lvl m))] = lvSt b0 b1 (m + 1)
  | 0, _ => rfl
  | 1, _ => rfl
  | 2, _ => rfl
theorem lv_fits : ∀ m, m < 3 → fitsL [lvV m, lvV m] [1, 1] = true
  | 0, _ => by kernel_rfl
  | 1, _ => by kernel_rfl
  | 2, _ => by kernel_rfl
theorem v5_fine : v5.fine := ⟨by decide, by decide, by decide⟩
theorem lvV_fine : ∀ m, (lvV m).fine
  | 0 => v5_fine
  | 1 => ⟨by decide, by decide, by decide⟩
  | _ + 2 => (show v7.fine from ⟨by decide, by decide, by decide⟩)
theorem lvl_fine : ∀ m, (lvl m).fine
  | 0 => ⟨by decide, by decide, by decide⟩
  | _ + 1 => v5_fine
theorem lv_small (b0 b1 m : Nat) : ∀ s ∈ lvSt b0 b1 m, smallS 10 s.2 := fun s hs => by
  unfold lvSt at hs
  simp only [List.mem_cons, List.not_mem_nil, or_false] at hs
  rcases hs with rfl | rfl
  · show lvn m ≤ 10 ∧ -(((10 : Nat) : Int) * 9223372036854775808) ≤ lvN m ∧ lvN m ≤ ((10 : Nat) : Int) * 9223372036854775808
    rcases m with _ | _ | _ | m
    · exact ⟨by decide, by decide, by decide⟩
    · exact ⟨by decide, by decide, by decide⟩
    · exact ⟨by decide, by decide, by decide⟩
    · show (2 : Nat) ≤ 10 ∧ -(((10 : Nat) : Int) * 9223372036854775808) ≤ 12 ∧ (12 : Int) ≤ ((10 : Nat) : Int) * 9223372036854775808
      exact ⟨by decide, by decide, by decide⟩
  · exact lvl_fine m
theorem begun_sum {t : Nat} {S : List (Nat × Nat)} {s : Sv} (h : Begun t S 2 s) : s = .sum 0 0 := by
  rcases h with ⟨h, _⟩ | ⟨_, h⟩ | ⟨h, _⟩ | ⟨h, _⟩ | ⟨h, _⟩
  · omega
  · exact h
  · omega
  · omega
  · omega
theorem begun_low {t : Nat} {S : List (Nat × Nat)} {s : Sv} (h : Begun t S 3 s) : s = .low VV.none_ := by
  rcases h with ⟨h, _⟩ | ⟨h, _⟩ | ⟨_, h⟩ | ⟨h, _⟩ | ⟨h, _⟩
  · omega
  · omega
  · exact h
  · omega
  · omega
theorem new_two {C : Cv} (h : NewC lvMs [1, 1] 4 [(3, 1)] 4 2 2 C) : ∃ b0 b1, C = CVl b0 b1 0 := by
  obtain ⟨ms, ks, t, S, K, M, rows, st⟩ := C
  obtain ⟨e1, e2, e3, e4, e5, e6, e7, e8, e9⟩ := h
  simp only at e1 e2 e3 e4 e5 e6 e7 e8 e9
  match st, e8 with
  | [(b0, s0), (b1, s1)], _ =>
    have h0 := begun_sum (e9 0 _ _ rfl rfl)
    have h1 := begun_low (e9 1 _ _ rfl rfl)
    simp only at h0 h1
    subst h0 h1 e2 e3 e4 e5 e6 e7
    refine ⟨b0, b1, ?_⟩
    rw [e1]
    rfl
def mO : Obj := .cells #[.int .i64 2, .string ⟨#[]⟩, .int .i64 3, .string ⟨#[]⟩] 25 (0, 0)
def kO : Obj := .cells #[.int .i64 1, .int .i64 1] 3 (0, 0)
def zO : Obj := .cells #[.int .i64 0, .int .i64 0] 3 (0, 0)
def valO (v : VV) : Obj := .cells #[.int .i64 v.k, .int .i64 v.n, .string v.s] 36 (0, 0)
theorem holds_ints {w : World} {b : Nat} {x y : Int} (h : w.heap[b]? = some (.cells #[.int .i64 x, .int .i64 y] 3 (0, 0))) : Holds w (.slice (some ⟨b, 0, none⟩) 2 2) (i64s [x, y]) := Holds.of_heap h rfl 2 2 rfl (Nat.le_refl _)
def lvE (w : World) (b : Nat) : List (Nat × Thing) := [(103, Box b seedO), (102, Box (w.heap.size + 1) kO), (101, Box w.heap.size mO)]
theorem lvE_off (w : World) (b : Nat) : tagsOff 0 (lvE w b) := fun e he => by
  unfold lvE at he
  simp only [List.mem_cons, List.not_mem_nil, or_false] at he
  rcases he with rfl | rfl | rfl <;> exact .inr (by dsimp only; omega)
/-- a row more of the example -/
theorem lv_add {w wr : World} {q b b0 b1 m : Nat} {L : Lay} (h : Side w (cellE 0 q L (CVl b0 b1 m) ++ lvE w b) wr) (hm : m < 3) :
    Calls Tryz.prog 12 #[.pointer (some ⟨q, 0, none⟩), .slice (some ⟨wr.heap.size + 1, 0, none⟩) 2 2, .slice (some ⟨wr.heap.size + 1 + 1, 0, none⟩) 2 2] (((wr.alloc (valO (lvV m))).alloc (twoO (lvV m))).alloc zO) fun e w' => ∃ c, e = .returned (.int .i64 c) ∧ Hid (Side w (cellE 0 q L (CVl b0 b1 (m + 1)) ++ lvE w b) w') := by
  have hz1 : (wr.alloc (valO (lvV m))).heap.size = wr.heap.size + 1 := by simp
  have hz2 : ((wr.alloc (valO (lvV m))).alloc (twoO (lvV m))).heap.size = wr.heap.size + 1 + 1 := by simp
  have S1 := ((h.alloc 104 (valO (lvV m))).alloc 105 (twoO (lvV m))).alloc 106 zO
  rw [hz1, hz2] at S1
  have S2 := S1.sub (E' := cellE 0 q L (CVl b0 b1 m) ++ ((106, Box (wr.heap.size + 1 + 1) zO) :: (105, Box (wr.heap.size + 1) (twoO (lvV m))) :: lvE w b)) (fun x hx => by
    simp only [List.mem_append, List.mem_cons] at hx ⊢
    rcases hx with hx | hx | hx | hx <;> simp [hx])
  have hE : tagsOff 0 ((106, Box (wr.heap.size + 1 + 1) zO) :: (105, Box (wr.heap.size + 1) (twoO (lvV m))) :: lvE w b) := fun e he => by
    rcases List.mem_cons.1 he with rfl | he
    · exact .inr (by dsimp only; omega)
    rcases List.mem_cons.1 he with rfl | he
    · exact .inr (by dsimp only; omega)
    · exact lvE_off w b e he
  refine (cadd_any (m := 10) (xs := [lvV m, lvV m]) (ids := [0, 0]) S2 hE (fun W hW => holds_two (hW.heap (i := 105) (List.mem_cons_of_mem _ (List.mem_cons_self ..)))) (fun W hW => holds_ints (hW.heap (i := 106) (List.mem_cons_self ..))) (by decide) rfl rfl rfl rfl (by show 1 ≤ 4; decide) (by show m ≤ 1000000; omega) (by decide) (lv_small b0 b1 m)
    (fun v hv => ?_) (fun _ v hv => ?_) (fun k hk => ?_)).mono ?_
  · have : v = lvV m := by simpa using hv
    rw [this]
    exact (lvV_fine m).2
  · have : v = lvV m := by simpa using hv
    rw [this]
    exact lvV_fine m
  · have : k = 1 := by simpa [CVl] using hk
    rw [this]
    exact ⟨by decide, by decide⟩
  rintro e w' (⟨_, rfl, st', ha, _, S3⟩ | ⟨hf, _⟩)
  · have := added_two ha
    rw [lv_next b0 b1 m hm] at this
    subst this
    refine ⟨_, rfl, Lib.hid (S3.out.sub (fun x hx => ?_))⟩
    have e1 : addC (CVl b0 b1 m) (lvSt b0 b1 (m + 1)) = CVl b0 b1 (m + 1) := rfl
    rw [e1]
    simp only [List.mem_append, List.mem_cons] at hx ⊢
    rcases hx with hx | hx <;> simp [hx]
  · rw [show fitsL [lvV m, lvV m] (CVl b0 b1 m).ks = true from lv_fits m hm] at hf
    cases hf
end Go.Proofs.YtlhpbfjelgmkeaaGreat
/- The document's examples hold in any world: the walk. Conditions: none. -/
set_option maxRecDepth 100000
namespace Go.Proofs.YtlhpbfjelgmkeaaGreat
open Go.RowKit Go.Maps Go.Sort Go.Lib
open Wide

set_option maxHeartbeats 6400000 in
theorem clives_any (w : World) : Calls Tryz.prog 11 #[] w fun e w' => e = .returned (.bool true) ∧ Below w.heap.size w w' := by
  have hz1 : (w.alloc mO).heap.size = w.heap.size + 1 := by simp
  have S0 := ((Side.nil w).alloc 101 mO).alloc 102 kO
  rw [hz1] at S0
  have KS := set_any S0 103
  clear S0 hz1
  go_enter Tryz.func11, Tryz.ntmps11
  go_wp2_with fail
  refine KS.mono ?_
  rintro e w1 ⟨b, rfl, S1⟩
  have S1 : Hid (Side w (lvE w b) w1) := S1
  have KN := cnew_any S1.out 0 (lvE_off w b) (a1 := some ⟨w.heap.size, 0, none⟩) (a2 := some ⟨w.heap.size + 1, 0, none⟩) (n1 := 2) (n2 := 2) (c1 := 2) (c2 := 2) (ms := lvMs) (ks := [1, 1])
    (fun W hW => holds2_heap rfl (hW.heap (i := 101) (b := w.heap.size) (ob := mO) (by unfold lvE; simp)) rfl) (fun W hW => holds_ints (hW.heap (i := 102) (b := w.heap.size + 1) (ob := kO) (by unfold lvE; simp))) (fun W hW => set_box (hW.heap (i := 103) (b := b) (ob := seedO) (by unfold lvE; simp))) 4 4 2 (by decide) rfl (by decide) (fun j m k hm hk => by
      rcases j with _ | _ | j
      · cases hm; cases hk
        exact ⟨⟨⟨by decide, by decide⟩, .inr (.inl ⟨rfl, rfl⟩)⟩, by decide⟩
      · cases hm; cases hk
        exact ⟨⟨⟨by decide, by decide⟩, .inr (.inr (.inl rfl))⟩, by decide⟩
      · simp at hk)
  clear KS S1
  go_wp2_with fail
  refine KN.mono ?_
  rintro e w2 ⟨q, L, C, rfl, hC, S2⟩
  obtain ⟨b0, b1, rfl⟩ := new_two hC
  clear KN hC
  have i0 : ∀ W, (Instr.index 100 (.agg #[.int .i64 1, .int .i64 5, .string ⟨#[]⟩, .int .i64 0, .int .i64 0, .string ⟨#[]⟩, .int .i64 1, .int .i64 7, .string ⟨#[]⟩]) (.int .i64 0)).run Tryz.prog W = .ok (.agg #[.int .i64 1, .int .i64 5, .string ⟨#[]⟩]) W := fun _ => by kernel_rfl
  have i1 : ∀ W, (Instr.index 100 (.agg #[.int .i64 1, .int .i64 5, .string ⟨#[]⟩, .int .i64 0, .int .i64 0, .string ⟨#[]⟩, .int .i64 1, .int .i64 7, .string ⟨#[]⟩]) (.int .i64 1)).run Tryz.prog W = .ok (.agg #[.int .i64 0, .int .i64 0, .string ⟨#[]⟩]) W := fun _ => by kernel_rfl
  have i2 : ∀ W, (Instr.index 100 (.agg #[.int .i64 1, .int .i64 5, .string ⟨#[]⟩, .int .i64 0, .int .i64 0, .string ⟨#[]⟩, .int .i64 1, .int .i64 7, .string ⟨#[]⟩]) (.int .i64 2)).run Tryz.prog W = .ok (.agg #[.int .i64 1, .int .i64 7, .string ⟨#[]⟩]) W := fun _ => by kernel_rfl
  go_wp2_with fail
  go_loopw [23] (fun s23 wr => ∃ m : Nat, s23 = .int .i64 m ∧ m ≤ 3 ∧ Hid (Side w (cellE 0 q L (CVl b0 b1 m) ++ lvE w b) wr)) (fun s23 _ => 3 - (RowKit.intOf s23).toNat)
  case atStart => exact ⟨0, rfl, by omega, S2⟩
  case round =>
    obtain ⟨m, rfl, hm, HR⟩ := hrel
    rcases (by omega : m = 0 ∨ m = 1 ∨ m = 2 ∨ m = 3) with rfl | rfl | rfl | rfl
    · have KA := lv_add HR.out (by decide)
      unfold lvV valO twoO zO at KA
      unfold v5 at KA
      simp only at KA
      clear HR S2
      go_wp2_with fail
      refine KA.mono ?_
      rintro e w5 ⟨c, rfl, S6⟩
      clear KA
      go_wp2_with fail
      go_roundw
      case rel => exact ⟨1, rfl, by omega, S6⟩
      case measure => simp [RowKit.intOf]
    · have KA := lv_add HR.out (by decide)
      unfold lvV valO twoO zO at KA
      unfold VV.none_ at KA
      simp only at KA
      clear HR S2
      go_wp2_with fail
      refine KA.mono ?_
      rintro e w5 ⟨c, rfl, S6⟩
      clear KA
      go_wp2_with fail
      go_roundw
      case rel => exact ⟨2, rfl, by omega, S6⟩
      case measure => simp [RowKit.intOf]
    · have KA := lv_add HR.out (by decide)
      unfold lvV valO twoO zO at KA
      unfold v7 at KA
      simp only at KA
      clear HR S2
      go_wp2_with fail
      refine KA.mono ?_
      rintro e w5 ⟨c, rfl, S6⟩
      clear KA
      go_wp2_with fail
      go_roundw
      case rel => exact ⟨3, rfl, by omega, S6⟩
      case measure => simp [RowKit.intOf]
    · have S3 := HR
      clear HR S2 i0 i1 i2
      have m1 : (0, OBox q (celO L (CVl b0 b1 3))) ∈ cellE 0 q L (CVl b0 b1 3) ++ lvE w b := by unfold cellE; simp
      have m2 : (0 + 2, RowT 97 1 L.sv (CVl b0 b1 3).st.length (vals (CVl b0 b1 3).st)) ∈ cellE 0 q L (CVl b0 b1 3) ++ lvE w b := by unfold cellE; simp
      have m3 : (5, OBox b0 (sumO 12 2)) ∈ cellE 0 q L (CVl b0 b1 3) ++ lvE w b := by unfold cellE CVl lvSt; simp [stE, StT, lvN, lvn]
      have m4 : (6, OBox b1 (lowO v5)) ∈ cellE 0 q L (CVl b0 b1 3) ++ lvE w b := by unfold cellE CVl lvSt; simp [stE, StT, lvl]
      have KS := csum_at S3.out m1 m2 (by show 1 ≤ 4; decide) (m := 0) (b := b0) (n := 2) (N := 12) rfl m3
      have KL := Lib.hid (fun (W : World) (hW : Side w (cellE 0 q L (CVl b0 b1 3) ++ lvE w b) W) => cleast_at hW m1 m2 (by show 1 ≤ 4; decide) (m := 1) (b := b1) (v := v5) rfl m4 v5_fine)
      have KC := Lib.hid (fun (W : World) (hW : Side w (cellE 0 q L (CVl b0 b1 3) ++ lvE w b) W) => ccount_sum hW m1 m2 (by show 1 ≤ 4; decide) (m := 0) (b := b0) (n := 2) (N := 12) rfl)
      have KR := Lib.hid (fun (W : World) (hW : Side w (cellE 0 q L (CVl b0 b1 3) ++ lvE w b) W) => crows_at (hW.heapO m1) (by show 1 ≤ 4; decide))
      rw [show wv 12 = .agg #[.int .i64 0, .int .u64 12] from rfl] at KS
      clear m1 m2 m3 m4
      go_wp2_with fail
      refine KS.mono ?_
      rintro e w5 ⟨rfl, hb5⟩
      have S5 := Lib.hid (S3.out.below hb5)
      have S6 := Lib.hid (S5.out.alloc 107 (.cells #[.int .i64 0, .int .u64 12] 45))
      have KL1 := KL.out _ (S6.out.sub (fun x hx => List.mem_cons_of_mem _ hx))
      rw [show v5.val = .agg #[.int .i64 1, .int .i64 5, .string ⟨#[]⟩] from rfl] at KL1
      clear KS hb5 S3 KL
      go_wp2_with fail
      refine KL1.mono ?_
      rintro e w7 ⟨rfl, hb7⟩
      have S7 := Lib.hid (S6.out.below hb7)
      have S8 := Lib.hid (S7.out.alloc 108 (.cells #[.int .i64 1, .int .i64 5, .string ⟨#[]⟩] 36))
      have KC1 := KC.out _ (S8.out.sub (fun x hx => List.mem_cons_of_mem _ (List.mem_cons_of_mem _ hx)))
      clear KL1 hb7 S6 KC S7
      go_wp2_with fail
      refine KC1.mono ?_
      rintro e w8 ⟨rfl, rfl⟩
      clear KC1
      have KR1 := KR.out _ (S8.out.drew.sub (fun x hx => List.mem_cons_of_mem _ (List.mem_cons_of_mem _ hx)))
      rw [show ((CVl b0 b1 3).rows : Int) = 3 from rfl] at KR1
      have KO := Lib.hid (fun W => Wide.of_any 12 W (by decide) (by decide))
      have KE : ∀ W, (binOp .eql 45 (.agg #[.int .i64 0, .int .u64 12]) (.agg #[.int .i64 0, .int .u64 12])).run Tryz.prog W = .ok (.bool true) W := fun _ => by kernel_rfl
      have KU : ∀ (x y : Operand) (W : World), (eqGuard .eql 45 x y (.agg #[.int .i64 0, .int .u64 12]) (.agg #[.int .i64 0, .int .u64 12])).run Tryz.prog W = .ok () W := fun _ _ _ => by kernel_rfl
      have HC := Lib.hid (fun (V : World) (hV : Below (w7.alloc (.cells #[.int .i64 1, .int .i64 5, .string ⟨#[]⟩] 36)).heap.size (w7.alloc (.cells #[.int .i64 1, .int .i64 5, .string ⟨#[]⟩] 36)) V) => (show (V.cell? ⟨w5.heap.size, 0, none⟩ = some (.int .i64 0) ∧ V.cell? ⟨w5.heap.size, 1, none⟩ = some (.int .u64 12)) ∧ V.cell? ⟨w7.heap.size, 1, none⟩ = some (.int .i64 5) from by
        have g := S8.out.below hV
        have g1 := g.heap (i := 107) (List.mem_cons_of_mem _ (List.mem_cons_self ..))
        have g2 := g.heap (i := 108) (List.mem_cons_self ..)
        exact ⟨⟨by rw [cell_of_row _ _ _ _ _ _ g1]; rfl, by rw [cell_of_row _ _ _ _ _ _ g1]; rfl⟩, by rw [cell_of_row _ _ _ _ _ _ g2]; rfl⟩))
      have HB8 := Lib.hid S8.out.base
      clear KR S8 S5
      go_wp2_with fail
      refine wp_region_mix (fun V => (V.cell? ⟨w5.heap.size, 0, none⟩ = some (.int .i64 0) ∧ V.cell? ⟨w5.heap.size, 1, none⟩ = some (.int .u64 12)) ∧ V.cell? ⟨w7.heap.size, 1, none⟩ = some (.int .i64 5)) 28 [(true, 0), (false, 1), (true, 2), (true, 3), (true, 4), (true, 5), (true, 6), (true, 7), (true, 8), (true, 9), (true, 10), (true, 11), (false, 12), (true, 13), (true, 14), (true, 15), (true, 16), (true, 17), (true, 18), (true, 19), (true, 20), (true, 21), (true, 22), (true, 23), (true, 24), (true, 25), (true, 26), (true, 27)] (by kernel_rfl) (by decide +kernel) rfl (by decide +kernel) (HC.out _ (below_drew1 _)) ?_
      iterate 1
        refine wpMix_take (v := ?_) rfl rfl ?_ ?_
        rotate_left
        · (intro W hW; (try dsimp only at hW); go_simp) <;> with_reducible rfl
        simp only [Act.put, List.setIfInBounds_toArray, List.set_cons_zero, List.set_cons_succ]
      refine wpMix_run rfl ?_
      intro K' hK'
      go_wp2_with fail
      refine KR1.mono ?_
      rintro e w9 ⟨rfl, rfl⟩
      clear KR1
      go_wp2_with fail
      refine hK'.out _ _ (fun _ => HC.out _ (below_drew1 _)) ?_
      clear hK' K'
      iterate 10
        refine wpMix_take (v := ?_) rfl rfl ?_ ?_
        rotate_left
        · (intro W hW; (try dsimp only at hW); go_simp) <;> with_reducible rfl
        simp only [Act.put, List.setIfInBounds_toArray, List.set_cons_zero, List.set_cons_succ]
      refine wpMix_run rfl ?_
      intro K' hK'
      go_wp2_with fail
      refine (KO.out _).mono ?_
      rintro e w10 ⟨rfl, hb10⟩
      rw [show wv 12 = .agg #[.int .i64 0, .int .u64 12] from rfl]
      have hbA := (below_drew1 (w7.alloc (.cells #[.int .i64 1, .int .i64 5, .string ⟨#[]⟩] 36))).trans (hb10.mono (Nat.le_refl _))
      have C10 := HC.out _ hbA
      have FIN := Lib.hid (HB8.out.trans (hbA.mono HB8.out.size))
      clear hb10 hbA KO HC HB8
      go_wp2_with fail
      refine hK'.out _ _ (fun _ => C10) ?_
      clear hK' K'
      iterate 15
        refine wpMix_take (v := ?_) rfl rfl ?_ ?_
        rotate_left
        · (intro W hW; (try dsimp only at hW); go_simp) <;> with_reducible rfl
        simp only [Act.put, List.setIfInBounds_toArray, List.set_cons_zero, List.set_cons_succ]
      refine wpMix_nil ?_
      go_wp2_with fail
      go_ret
      exact ⟨rfl, FIN.out⟩
end Go.Proofs.YtlhpbfjelgmkeaaGreat
/- What a measure keeps, of two states: merging, whichever state it has. Conditions: few values. -/
set_option maxRecDepth 100000
namespace Go.Proofs.YtlhpbfjelgmkeaaGreat
open Go.RowKit Go.Maps Go.Sort Go.Lib
open Wide

theorem mrg_cnt {w : World} {b c n m : Nat} (h : w.heap[b]? = some (cntO n)) (h' : w.heap[c]? = some (cntO m)) (hn : n + m ≤ 1099511627776) :
    Calls Tryz.prog 193 #[.pointer (some ⟨b, 0, none⟩), Sv.val c (.cnt m)] w fun e w' => e = .returned (.tuple #[]) ∧ Upd b (cntO (n + m)) w w' := by
  have hu := Upd.start h (below_drew1 w)
  have C1 : w.drew.cell? ⟨b, 0, none⟩ = some (.int .i64 (n : Int)) ∧ w.drew.cell? ⟨c, 0, none⟩ = some (.int .i64 (m : Int)) := ⟨by rw [cell_of_row _ _ _ _ _ _ hu.2]; rfl, by show w.cell? _ = _; rw [cell_of_row _ _ _ _ _ _ h']; rfl⟩
  have f0 := free_of_row hu.2 0
  have KP := cplus_any n m (by omega) w.drew
  have FIN := Lib.hid (show Upd b (cntO (n + m)) w (w.drew.setCell ⟨b, 0, none⟩ (.int .i64 ((n + m : Nat) : Int))) from hu.set 0 _)
  obtain ⟨s, hs⟩ : ∃ s, n + m = s := ⟨_, rfl⟩
  rw [hs] at KP FIN ⊢
  have KA := as_count_count
  unfold Sv.val
  simp only
  clear h h' hu hn hs
  go_enter Tryz.func193, Tryz.ntmps193
  go_upto_region 2 with (fail)
  refine wp_region_mix (fun V => V.cell? ⟨b, 0, none⟩ = some (.int .i64 (n : Int)) ∧ V.cell? ⟨c, 0, none⟩ = some (.int .i64 (m : Int))) 12 [(true, 0), (true, 1), (true, 2), (true, 3), (true, 4), (true, 5), (true, 6), (true, 7), (true, 8), (false, 9), (true, 10), (true, 11), (false, 12)] (by kernel_rfl) (by decide +kernel) rfl (by decide +kernel) C1 ?_
  iterate 9
    refine wpMix_take (v := ?_) rfl rfl ?_ ?_
    rotate_left
    · (intro W hW; (try dsimp only at hW); go_simp) <;> with_reducible rfl
    simp only [Act.put, List.setIfInBounds_toArray, List.set_cons_zero, List.set_cons_succ]
  refine wpMix_run rfl ?_
  intro K' hK'
  go_wp2_with fail
  refine KP.mono ?_
  rintro e w' ⟨rfl, rfl⟩
  go_wp2_with fail
  refine hK'.out _ _ (fun _ => C1) ?_
  clear hK' K' KP
  iterate 2
    refine wpMix_take (v := ?_) rfl rfl ?_ ?_
    rotate_left
    · (intro W hW; (try dsimp only at hW); go_simp) <;> with_reducible rfl
    simp only [Act.put, List.setIfInBounds_toArray, List.set_cons_zero, List.set_cons_succ]
  obtain ⟨c0, _⟩ := C1
  refine wpMix_run rfl ?_
  intro K' hK'
  go_wp2_with fail
  refine hK'.out _ _ (fun h => absurd rfl h) ?_
  clear hK' K'
  refine wpMix_nil ?_
  go_wp2_with fail
  go_end0
  exact ⟨rfl, FIN.out⟩
theorem mrg_sum {w : World} {b c n m : Nat} {N M : Int} (h : w.heap[b]? = some (sumO N n)) (h' : w.heap[c]? = some (sumO M m)) (hN : fitW N = true) (hM : fitW M = true) (hs : fitW (N + M) = true) (hn : n + m ≤ 1099511627776) :
    Calls Tryz.prog 195 #[.pointer (some ⟨b, 0, none⟩), Sv.val c (.sum M m)] w fun e w' => e = .returned (.tuple #[]) ∧ Upd b (sumO (N + M) (n + m)) w w' := by
  have hu := Upd.start h (below_drew1 w)
  have KS := add_sum hu.2 hN hM hs m (by omega)
  have HU := Lib.hid hu
  have g' : w.drew.heap[c]? = some (sumO M m) := h'
  obtain ⟨x, y, ex, ey⟩ : ∃ x y, hiW M = x ∧ loW M = y := ⟨_, _, rfl, rfl⟩
  unfold wv at KS
  rw [ex, ey] at KS
  unfold sumO at g'
  rw [ex, ey] at g'
  have C1 : w.drew.cell? ⟨c, 0, none⟩ = some (.int .i64 x) ∧ w.drew.cell? ⟨c, 1, none⟩ = some (.int .u64 y) ∧ w.drew.cell? ⟨c, 2, none⟩ = some (.int .i64 (m : Int)) := ⟨by rw [cell_of_row _ _ _ _ _ _ g']; rfl, by rw [cell_of_row _ _ _ _ _ _ g']; rfl, by rw [cell_of_row _ _ _ _ _ _ g']; rfl⟩
  have KA := as_sum_sum
  unfold Sv.val
  simp only
  clear h h' hu g' hN hM hs hn ex ey
  go_enter Tryz.func195, Tryz.ntmps195
  go_upto_region 2 with (fail)
  refine wp_region_mix (fun V => V.cell? ⟨c, 0, none⟩ = some (.int .i64 x) ∧ V.cell? ⟨c, 1, none⟩ = some (.int .u64 y) ∧ V.cell? ⟨c, 2, none⟩ = some (.int .i64 (m : Int))) 9 [(true, 0), (true, 1), (true, 2), (true, 3), (true, 4), (true, 5), (true, 6), (true, 7), (true, 8), (false, 9)] (by kernel_rfl) (by decide +kernel) rfl (by decide +kernel) C1 ?_
  iterate 9
    refine wpMix_take (v := ?_) rfl rfl ?_ ?_
    rotate_left
    · (intro W hW; (try dsimp only at hW); go_simp) <;> with_reducible rfl
    simp only [Act.put, List.setIfInBounds_toArray, List.set_cons_zero, List.set_cons_succ]
  refine wpMix_run rfl ?_
  intro K' hK'
  go_wp2_with fail
  refine KS.mono ?_
  rintro e w' ⟨rfl, hu2⟩
  have FIN := Lib.hid (HU.out.trans hu2)
  clear hu2 KS HU
  go_wp2_with fail
  refine hK'.out _ _ (fun h => absurd rfl h) ?_
  clear hK' K' C1
  refine wpMix_nil ?_
  go_wp2_with fail
  go_end0
  exact ⟨rfl, FIN.out⟩
theorem mrg_low {w : World} {b c : Nat} {o v : VV} (h : w.heap[b]? = some (lowO o)) (h' : w.heap[c]? = some (lowO v)) (ho : o.fine) (hv : v.fine) :
    Calls Tryz.prog 201 #[.pointer (some ⟨b, 0, none⟩), Sv.val c (.low v)] w fun e w' => e = .returned (.tuple #[]) ∧ Upd b (lowO (if (v.k == 0) = true then o else lowV o v)) w w' := by
  have KT := take_low h ho v hv 0
  have hu := Upd.start h (Below.refl _ w)
  have KA := as_least_least
  obtain ⟨R, hR⟩ : ∃ R, lowV o v = R := ⟨_, rfl⟩
  rw [hR] at KT ⊢
  obtain ⟨vk, vn, vs⟩ := v
  rw [one_val] at KT
  unfold lowO at h'
  simp only at h' KT ⊢
  have c0 : w.cell? ⟨c, 0, none⟩ = some (.int .i64 vk) := by rw [cell_of_row _ _ _ _ _ _ h']; rfl
  have c1 : w.cell? ⟨c, 1, none⟩ = some (.int .i64 vn) := by rw [cell_of_row _ _ _ _ _ _ h']; rfl
  have c2 : w.cell? ⟨c, 2, none⟩ = some (.string vs) := by rw [cell_of_row _ _ _ _ _ _ h']; rfl
  unfold Sv.val
  simp only
  have HU := Lib.hid hu
  clear h h' hu ho hv hR
  by_cases hz : vk = 0
  · have e1 : (vk == 0) = true := by simpa using hz
    have e2 : (vk != 0) = false := by simp [hz]
    rw [if_pos e1]
    clear hz KT
    go_enter Tryz.func201, Tryz.ntmps201
    go_wp2_with fail
    go_end0
    exact ⟨rfl, HU.out⟩
  · have e1 : (vk == 0) = false := by simpa using hz
    have e2 : (vk != 0) = true := by simp [hz]
    rw [if_neg (by rw [e1]; simp)]
    clear hz HU
    go_enter Tryz.func201, Tryz.ntmps201
    go_wp2_with fail
    refine KT.mono ?_
    rintro e w' ⟨rfl, hu2⟩
    have FIN := Lib.hid hu2
    clear KT hu2
    go_wp2_with fail
    go_end0
    exact ⟨rfl, FIN.out⟩
theorem mrg_high {w : World} {b c : Nat} {o v : VV} (h : w.heap[b]? = some (highO o)) (h' : w.heap[c]? = some (highO v)) (ho : o.fine) (hv : v.fine) :
    Calls Tryz.prog 203 #[.pointer (some ⟨b, 0, none⟩), Sv.val c (.high v)] w fun e w' => e = .returned (.tuple #[]) ∧ Upd b (highO (highV o v)) w w' := by
  have KT := take_high h ho v hv 0
  have KA := as_greatest_greatest
  obtain ⟨R, hR⟩ : ∃ R, highV o v = R := ⟨_, rfl⟩
  rw [hR] at KT ⊢
  obtain ⟨vk, vn, vs⟩ := v
  rw [one_val] at KT
  unfold highO at h'
  simp only at h' KT ⊢
  have c0 : w.cell? ⟨c, 0, none⟩ = some (.int .i64 vk) := by rw [cell_of_row _ _ _ _ _ _ h']; rfl
  have c1 : w.cell? ⟨c, 1, none⟩ = some (.int .i64 vn) := by rw [cell_of_row _ _ _ _ _ _ h']; rfl
  have c2 : w.cell? ⟨c, 2, none⟩ = some (.string vs) := by rw [cell_of_row _ _ _ _ _ _ h']; rfl
  unfold Sv.val
  simp only
  clear h h' ho hv hR
  go_enter Tryz.func203, Tryz.ntmps203
  go_wp2_with fail
  refine KT.mono ?_
  rintro e w' ⟨rfl, hu2⟩
  have FIN := Lib.hid hu2
  clear KT hu2
  go_wp2_with fail
  go_end0
  exact ⟨rfl, FIN.out⟩
end Go.Proofs.YtlhpbfjelgmkeaaGreat
/- A measure is merged with another one, whichever state it has: one form for the call through the interface. Conditions: few values. -/
set_option maxRecDepth 100000
namespace Go.Proofs.YtlhpbfjelgmkeaaGreat
open Go.RowKit Go.Maps Go.Sort Go.Lib
open Wide

theorem mrg_dis {T : Tags} {i j : Nat} {w : World} {b c p q : Nat} {V U : SkV} (h : DisT b p V T i w) (g : DisT c q U T j w) (hij : i ≠ j) (ht : U.t = V.t) (hS : U.seeds = V.seeds) :
    Calls Tryz.prog 205 #[.pointer (some ⟨b, 0, none⟩), Sv.val c (.dis q U)] w fun e w' => e = .returned (.tuple #[]) ∧ Goes T i w (DisT b p (V.merge U)) w' := by
  have hb := below_drew1 w
  have h2 := (DisT.framed b p V).below h hb
  have g2 := (DisT.framed c q U).below g hb
  have KM := merge_two h2.2 g2.2 hij ht hS
  have C1 : w.drew.cell? ⟨b, 0, none⟩ = some (.pointer (some ⟨p, 0, none⟩)) ∧ w.drew.cell? ⟨c, 0, none⟩ = some (.pointer (some ⟨q, 0, none⟩)) := ⟨by rw [cell_of_row _ _ _ _ _ _ h2.1.2]; rfl, by rw [cell_of_row _ _ _ _ _ _ g2.1.2]; rfl⟩
  have FIN : Hid (∀ w', Goes T i w.drew (Sk p (V.merge U)) w' → Goes T i w (DisT b p (V.merge U)) w') := Lib.hid fun w' hg => by
    obtain ⟨T', n1, e1, s1⟩ := hg
    refine ⟨T', n1, (Else.of_below hb).trans e1 (fun x hx => .inl hx), ?_, s1⟩
    have hlt := lt_of_heap h2.1.2
    exact ⟨(n1 b hlt).trans h2.1.1, (e1.block b hlt (by rw [h2.1.1]; simp)).trans h2.1.2⟩
  have KA := as_distinct_distinct
  unfold Sv.val
  simp only
  clear h g h2 g2 hb hij ht hS
  go_enter Tryz.func205, Tryz.ntmps205
  go_upto_region 2 with (fail)
  refine wp_region_mix (fun V => V.cell? ⟨b, 0, none⟩ = some (.pointer (some ⟨p, 0, none⟩)) ∧ V.cell? ⟨c, 0, none⟩ = some (.pointer (some ⟨q, 0, none⟩))) 8 [(true, 0), (true, 1), (true, 2), (true, 3), (true, 4), (true, 5), (true, 6), (true, 7), (false, 8)] (by kernel_rfl) (by decide +kernel) rfl (by decide +kernel) C1 ?_
  iterate 8
    refine wpMix_take (v := ?_) rfl rfl ?_ ?_
    rotate_left
    · (intro W hW; (try dsimp only at hW); go_simp) <;> with_reducible rfl
    simp only [Act.put, List.setIfInBounds_toArray, List.set_cons_zero, List.set_cons_succ]
  refine wpMix_run rfl ?_
  intro K' hK'
  go_wp2_with fail
  refine KM.mono ?_
  rintro e w' ⟨rfl, hg⟩
  have FI := Lib.hid (FIN.out w' hg)
  clear hg KM FIN
  go_wp2_with fail
  refine hK'.out _ _ (fun h => absurd rfl h) ?_
  clear hK' K' C1
  refine wpMix_nil ?_
  go_wp2_with fail
  go_end0
  exact ⟨rfl, FI.out⟩
/-- two states of one measure -/
def alikeS : Sv → Sv → Prop
  | .cnt _, .cnt _ => True
  | .sum _ _, .sum _ _ => True
  | .low _, .low _ => True
  | .high _, .high _ => True
  | .dis _ V, .dis _ U => U.t = V.t ∧ U.seeds = V.seeds
  | _, _ => False
def mrgS : Sv → Sv → Sv
  | .cnt n, .cnt m => .cnt (n + m)
  | .sum N n, .sum M m => .sum (N + M) (n + m)
  | .low o, .low v => .low (if (v.k == 0) = true then o else lowV o v)
  | .high o, .high v => .high (highV o v)
  | .dis p V, .dis _ U => .dis p (V.merge U)
  | s, _ => s
theorem mrg_val (b : Nat) (s s' : Sv) : Sv.val b (mrgS s s') = Sv.val b s := by cases s <;> cases s' <;> rfl
theorem small_mrg {m n : Nat} : ∀ {s s' : Sv}, alikeS s s' → smallS m s → smallS n s' → smallS (m + n) (mrgS s s')
  | .cnt _, .cnt _, _, h, h' => by unfold smallS mrgS at *; omega
  | .sum _ _, .sum _ _, _, h, h' => by
    unfold smallS mrgS at *
    refine ⟨by omega, ?_, ?_⟩
    · simp only [Int.natCast_add, Int.add_mul]; omega
    · simp only [Int.natCast_add, Int.add_mul]; omega
  | .low o, .low v, _, h, h' => show (if (v.k == 0) = true then o else lowV o v).fine by
    have h1 : o.fine := h
    have h2 : v.fine := h'
    unfold lowV
    split
    · exact h1
    · split
      · exact h2
      · split
        · exact h2
        · exact h1
  | .high o, .high v, _, h, h' => show (highV o v).fine by
    have h1 : o.fine := h
    have h2 : v.fine := h'
    unfold highV
    split
    · exact h2
    · exact h1
  | .dis _ _, .dis _ _, _, _, _ => trivial
/-- the call of merge, in letters -/
structure MrgC (b : Nat) (s : Sv) (ty f : Nat) : Prop where
  val : Sv.val b s = .iface ty (.pointer (some ⟨b, 0, none⟩))
  meth : ∀ w, (method 501 ty (.pointer (some ⟨b, 0, none⟩)) "talus/cell.merge").run Tryz.prog w = .ok (f, .pointer (some ⟨b, 0, none⟩)) w
  ahead : ∀ w, (nilAhead 501 ty (.pointer (some ⟨b, 0, none⟩)) "talus/cell.merge").run Tryz.prog w = .ok (some false) w
  ent : EntC f
  call : ∀ {w0 w : World} {E : List (Nat × Thing)} {j j' c m n : Nat} {s' : Sv}, Side w0 ((j, StT b s) :: E) w → (∀ e ∈ E, e.1 ≠ j) → (j', StT c s') ∈ E → alikeS s s' → smallS m s → smallS n s' → m + n ≤ 1000000 →
    Calls Tryz.prog f #[.pointer (some ⟨b, 0, none⟩), Sv.val c s'] w fun e w' => e = .returned (.tuple #[]) ∧ Hid (Side w0 ((j, StT b (mrgS s s')) :: E) w')
theorem mrg_call (b : Nat) (s : Sv) : ∃ ty f, MrgC b s ty f := by
  cases s with
  | cnt n => exact ⟨_, _, rfl, fun w => m_count_merge _ w, fun _ => by kernel_rfl, entC_of Tryz.func193 (by kernel_rfl) rfl, fun {w0 w E j j' c m k s'} h hi hx ha hs hs' hm => by
      cases s' with
      | cnt n' => exact (mrg_cnt (h.heapO (List.mem_cons_self ..)) (h.heapO (List.mem_cons_of_mem _ hx)) (by have h1 : n ≤ m := hs; have h2 : n' ≤ k := hs'; omega)).mono fun _ _ ⟨a, u⟩ => ⟨a, Lib.hid (side_upd h hi u)⟩
      | _ => exact ha.elim⟩
  | sum N n => exact ⟨_, _, rfl, fun w => m_sum_merge _ w, fun _ => by kernel_rfl, entC_of Tryz.func195 (by kernel_rfl) rfl, fun {w0 w E j j' c m k s'} h hi hx ha hs hs' hm => by
      cases s' with
      | sum M n' => exact (mrg_sum (h.heapO (List.mem_cons_self ..)) (h.heapO (List.mem_cons_of_mem _ hx)) (small_fit (by omega) hs.2) (small_fit (by omega) hs'.2) (by have h1 := hs.2; have h2 := hs'.2; rw [fit_iff]; omega) (by have h1 := hs.1; have h2 := hs'.1; omega)).mono fun _ _ ⟨a, u⟩ => ⟨a, Lib.hid (side_upd h hi u)⟩
      | _ => exact ha.elim⟩
  | low o => exact ⟨_, _, rfl, fun w => m_least_merge _ w, fun _ => by kernel_rfl, entC_of Tryz.func201 (by kernel_rfl) rfl, fun {w0 w E j j' c m k s'} h hi hx ha hs hs' hm => by
      cases s' with
      | low v => exact (mrg_low (h.heapO (List.mem_cons_self ..)) (h.heapO (List.mem_cons_of_mem _ hx)) hs hs').mono fun _ _ ⟨a, u⟩ => ⟨a, Lib.hid (side_upd h hi u)⟩
      | _ => exact ha.elim⟩
  | high o => exact ⟨_, _, rfl, fun w => m_greatest_merge _ w, fun _ => by kernel_rfl, entC_of Tryz.func203 (by kernel_rfl) rfl, fun {w0 w E j j' c m k s'} h hi hx ha hs hs' hm => by
      cases s' with
      | high v => exact (mrg_high (h.heapO (List.mem_cons_self ..)) (h.heapO (List.mem_cons_of_mem _ hx)) hs hs').mono fun _ _ ⟨a, u⟩ => ⟨a, Lib.hid (side_upd h hi u)⟩
      | _ => exact ha.elim⟩
  | dis p V => exact ⟨_, _, rfl, fun w => m_distinct_merge _ w, fun _ => by kernel_rfl, entC_of Tryz.func205 (by kernel_rfl) rfl, fun {w0 w E j j' c m k s'} h hi hx ha hs hs' hm => by
      cases s' with
      | dis q U => exact (h.step hi (DisT.framed b p _) (Pr := fun e => e = .returned (.tuple #[])) fun _ _ hA => mrg_dis (hA _ (List.mem_cons_self ..)) (hA _ (List.mem_cons_of_mem _ hx)) (fun e => hi _ hx e.symm) ha.1 ha.2).mono fun _ _ ⟨a, u⟩ => ⟨a, Lib.hid u⟩
      | _ => exact ha.elim⟩
end Go.Proofs.YtlhpbfjelgmkeaaGreat
/- Two cells of one shape are alike. Conditions: cells that were made, of the same measures, kinds and settings. -/
set_option maxRecDepth 100000
namespace Go.Proofs.YtlhpbfjelgmkeaaGreat
open Go.RowKit Go.Maps Go.Sort Go.Lib

theorem neq_meaC (w : World) (a : Int) (s : ByteArray) : (binOp .neq 25 (.agg #[.int .i64 a, .string s]) (.agg #[.int .i64 a, .string s])).run Tryz.prog w = .ok (.bool false) w := by
  have hS : Tryz.prog.underlying 25 = some (.struct (Tryz.prog.fieldsOf 25)) := by kernel_rfl
  have hp : Tryz.prog.stoodInHeld 25 = false := by kernel_rfl
  have u3 := Tryz.underlying3
  have u9 := Tryz.underlying9
  rw [run_neq_struct, show (10000 : Nat) = 9999 + 1 from rfl, run_equalIn_agg w 9999 25 _ _ hS hp]
  simp only [Program.fieldsOf, Tryz.underlying25]
  go_simp
theorem guard_meaC (w : World) (o : BinOp) (x y : Operand) (a : Int) (s : ByteArray) (b : Int) (u : ByteArray) : (eqGuard o 25 x y (.agg #[.int .i64 a, .string s]) (.agg #[.int .i64 b, .string u])).run Tryz.prog w = .ok () w :=
  run_eqGuard_agg w o _ x y _ _ (by kernel_rfl)
set_option maxHeartbeats 1600000 in
theorem mequal_same {w : World} {a b : Option Addr} {n c d : Nat} {ms : List (Int × ByteArray)} (h : Holds2 w (.slice a n c) (ms.map meaC)) (g : Holds2 w (.slice b n d) (ms.map meaC)) (hn : ms.length = n) (h7 : n ≤ 1000) :
    Calls Tryz.prog 67 #[.slice a n c, .slice b n d] w (Draws (.bool true) w) := by
  have KN := fun W A B => neq_meaC W A B
  have KG := fun W o x y A B A' B' => guard_meaC W o x y A B A' B'
  have H := Lib.hid h
  have G := Lib.hid g
  have HN := Lib.hid hn
  clear h g hn
  go_enter Tryz.func67, Tryz.ntmps67
  go_wp2_with fail
  go_loopw [5, 13] (fun _ k wr => ∃ (m q : Nat), k = .int .i64 m ∧ m ≤ n ∧ wr = w.drewN q) (fun _ k _ => n - (RowKit.intOf k).toNat)
  case atStart => exact ⟨0, 0, rfl, Nat.zero_le _, (World.drewN_zero _).symm⟩
  case round =>
    obtain ⟨m, q, rfl, hm, rfl⟩ := hrel
    by_cases hlt : m < n
    · obtain ⟨⟨A, B⟩, hm1⟩ : ∃ x, ms[m]? = some x := ⟨_, List.getElem?_eq_getElem (by rw [HN.out]; exact hlt)⟩
      obtain ⟨ad, ha, d0, d1⟩ := H.out.at_ (i := m) (x := meaC (A, B)) (by rw [List.getElem?_map, hm1]; rfl)
      obtain ⟨bd, hb, e0, e1⟩ := G.out.at_ (i := m) (x := meaC (A, B)) (by rw [List.getElem?_map, hm1]; rfl)
      subst ha hb
      unfold meaC at d0 d1 e0 e1
      simp only at d0 d1 e0 e1
      have b0 : (0 : Int) ≤ (m : Int) := by omega
      have b1 : (m : Int) < (n : Int) := by omega
      clear hm1
      go_wp2_with fail
      go_quiet (fail)
      go_wp2_with fail
      go_roundw
      case rel => exact ⟨m + 1, _, by go_num, by omega, rfl⟩
      case measure => simp [RowKit.intOf]; omega
    · go_wp2_with fail
      go_ret
      exact ⟨rfl, _, rfl⟩
end Go.Proofs.YtlhpbfjelgmkeaaGreat
