/- The texts CelM CelN CelO HeavyOwn, one behind the other; each one's own comment says what it holds. -/
import Derived.Test.YtfoeodiijbdbeaaGreatCellNoneRowGH
import Derived.Test.YtfoeodiijbdbeaaGreatGen
import Derived.ProofKit
import Derived.OpenShut
import Derived.ChangeOld
import Derived.ChangeSame
/- The document's examples hold in any world. Conditions: none. -/
set_option maxRecDepth 100000
namespace Go.Proofs.YtfoeodiijbdbeaaGreat
open Go.RowKit Go.Maps Go.Sort Go.Lib
open Wide

def lvN : Nat → Int | 0 => 0 | 1 => 5 | 2 => 5 | _ => 12
def lvn : Nat → Nat | 0 => 0 | 1 => 1 | 2 => 1 | _ => 2
def v5 : VV := ⟨1, 5, ⟨#[]⟩⟩
def v7 : VV := ⟨1, 7, ⟨#[]⟩⟩
def lvl : Nat → VV | 0 => VV.none_ | _ => v5
def lvV : Nat → VV | 0 => v5 | 1 => VV.none_ | _ => v7
def lvSt (b0 b1 m : Nat) : List (Nat × Sv) := [(b0, .sum (lvN m) (lvn m)), (b1, .low (lvl m))]
def lvMs : List (Int × ByteArray) := [(2, ⟨#[]⟩), (3, ⟨#[]⟩)]
def CVl (b0 b1 m : Nat) : Cv := ⟨lvMs, [1, 1], 4, [(3, 1)], 4, 2, m, lvSt b0 b1 m⟩
theorem lv_next (b0 b1 : Nat) : ∀ m, m < 3 → [addS (lvV m) 0 (b0, .sum (lvN m) (lvn m)), addS (lvV m) 0 (b1, .low (lvl m))] = lvSt b0 b1 (m + 1)
  | 0, _ => rfl
  | 1, _ => rfl
  | 2, _ => rfl
theorem lv_fits : ∀ m, m < 3 → fitsL [lvV m, lvV m] [1, 1] = true
  | 0, _ => by kernel_rfl
  | 1, _ => by kernel_rfl
  | 2, _ => by kernel_rfl
theorem v5_fine : v5.fine := ⟨by decide, by decide, by decide⟩
theorem lvV_fine : ∀ m, (lvV m).fine
  | 0 => v5_fine
  | 1 => ⟨by decide, by decide, by decide⟩
  | _ + 2 => (show v7.fine from ⟨by decide, by decide, by decide⟩)
theorem lvl_fine : ∀ m, (lvl m).fine
  | 0 => ⟨by decide, by decide, by decide⟩
  | _ + 1 => v5_fine
theorem lv_small (b0 b1 m : Nat) : ∀ s ∈ lvSt b0 b1 m, smallS 10 s.2 := fun s hs => by
  unfold lvSt at hs
  simp only [List.mem_cons, List.not_mem_nil, or_false] at hs
  rcases hs with rfl | rfl
  · show lvn m ≤ 10 ∧ -(((10 : Nat) : Int) * 9223372036854775808) ≤ lvN m ∧ lvN m ≤ ((10 : Nat) : Int) * 9223372036854775808
    rcases m with _ | _ | _ | m
    · exact ⟨by decide, by decide, by decide⟩
    · exact ⟨by decide, by decide, by decide⟩
    · exact ⟨by decide, by decide, by decide⟩
    · show (2 : Nat) ≤ 10 ∧ -(((10 : Nat) : Int) * 9223372036854775808) ≤ 12 ∧ (12 : Int) ≤ ((10 : Nat) : Int) * 9223372036854775808
      exact ⟨by decide, by decide, by decide⟩
  · exact lvl_fine m
theorem begun_sum {t : Nat} {S : List (Nat × Nat)} {s : Sv} (h : Begun t S 2 s) : s = .sum 0 0 := by
  rcases h with ⟨h, _⟩ | ⟨_, h⟩ | ⟨h, _⟩ | ⟨h, _⟩ | ⟨h, _⟩
  · omega
  · exact h
  · omega
  · omega
  · omega
theorem begun_low {t : Nat} {S : List (Nat × Nat)} {s : Sv} (h : Begun t S 3 s) : s = .low VV.none_ := by
  rcases h with ⟨h, _⟩ | ⟨h, _⟩ | ⟨_, h⟩ | ⟨h, _⟩ | ⟨h, _⟩
  · omega
  · omega
  · exact h
  · omega
  · omega
theorem new_two {C : Cv} (h : NewC lvMs [1, 1] 4 [(3, 1)] 4 2 2 C) : ∃ b0 b1, C = CVl b0 b1 0 := by
  obtain ⟨ms, ks, t, S, K, M, rows, st⟩ := C
  obtain ⟨e1, e2, e3, e4, e5, e6, e7, e8, e9⟩ := h
  simp only at e1 e2 e3 e4 e5 e6 e7 e8 e9
  match st, e8 with
  | [(b0, s0), (b1, s1)], _ =>
    have h0 := begun_sum (e9 0 _ _ rfl rfl)
    have h1 := begun_low (e9 1 _ _ rfl rfl)
    simp only at h0 h1
    subst h0 h1 e2 e3 e4 e5 e6 e7
    refine ⟨b0, b1, ?_⟩
    rw [e1]
    rfl
def mO : Obj := .cells #[.int .i64 2, .string ⟨#[]⟩, .int .i64 3, .string ⟨#[]⟩] 25 (0, 0)
def kO : Obj := .cells #[.int .i64 1, .int .i64 1] 3 (0, 0)
def zO : Obj := .cells #[.int .i64 0, .int .i64 0] 3 (0, 0)
def valO (v : VV) : Obj := .cells #[.int .i64 v.k, .int .i64 v.n, .string v.s] 36 (0, 0)
theorem holds_ints {w : World} {b : Nat} {x y : Int} (h : w.heap[b]? = some (.cells #[.int .i64 x, .int .i64 y] 3 (0, 0))) : Holds w (.slice (some ⟨b, 0, none⟩) 2 2) (i64s [x, y]) := Holds.of_heap h rfl 2 2 rfl (Nat.le_refl _)
def lvE (w : World) (b : Nat) : List (Nat × Thing) := [(103, Box b seedO), (102, Box (w.heap.size + 1) kO), (101, Box w.heap.size mO)]
theorem lvE_off (w : World) (b : Nat) : tagsOff 0 (lvE w b) := fun e he => by
  unfold lvE at he
  simp only [List.mem_cons, List.not_mem_nil, or_false] at he
  rcases he with rfl | rfl | rfl <;> exact .inr (by dsimp only; omega)
/-- a row more of the example -/
theorem lv_add {w wr : World} {q b b0 b1 m : Nat} {L : Lay} (h : Side w (cellE 0 q L (CVl b0 b1 m) ++ lvE w b) wr) (hm : m < 3) :
    Calls Tryz.prog 9 #[.pointer (some ⟨q, 0, none⟩), .slice (some ⟨wr.heap.size + 1, 0, none⟩) 2 2, .slice (some ⟨wr.heap.size + 1 + 1, 0, none⟩) 2 2] (((wr.alloc (valO (lvV m))).alloc (twoO (lvV m))).alloc zO) fun e w' => ∃ c, e = .returned (.int .i64 c) ∧ Hid (Side w (cellE 0 q L (CVl b0 b1 (m + 1)) ++ lvE w b) w') := by
  have hz1 : (wr.alloc (valO (lvV m))).heap.size = wr.heap.size + 1 := by simp
  have hz2 : ((wr.alloc (valO (lvV m))).alloc (twoO (lvV m))).heap.size = wr.heap.size + 1 + 1 := by simp
  have S1 := ((h.alloc 104 (valO (lvV m))).alloc 105 (twoO (lvV m))).alloc 106 zO
  rw [hz1, hz2] at S1
  have S2 := S1.sub (E' := cellE 0 q L (CVl b0 b1 m) ++ ((106, Box (wr.heap.size + 1 + 1) zO) :: (105, Box (wr.heap.size + 1) (twoO (lvV m))) :: lvE w b)) (fun x hx => by
    simp only [List.mem_append, List.mem_cons] at hx ⊢
    rcases hx with hx | hx | hx | hx <;> simp [hx])
  have hE : tagsOff 0 ((106, Box (wr.heap.size + 1 + 1) zO) :: (105, Box (wr.heap.size + 1) (twoO (lvV m))) :: lvE w b) := fun e he => by
    rcases List.mem_cons.1 he with rfl | he
    · exact .inr (by dsimp only; omega)
    rcases List.mem_cons.1 he with rfl | he
    · exact .inr (by dsimp only; omega)
    · exact lvE_off w b e he
  refine (cadd_any (m := 10) (xs := [lvV m, lvV m]) (ids := [0, 0]) S2 hE (fun W hW => holds_two (hW.heap (i := 105) (List.mem_cons_of_mem _ (List.mem_cons_self ..)))) (fun W hW => holds_ints (hW.heap (i := 106) (List.mem_cons_self ..))) (by decide) rfl rfl rfl rfl (by show 1 ≤ 4; decide) (by show m ≤ 1000000; omega) (by decide) (lv_small b0 b1 m)
    (fun v hv => ?_) (fun v hv => ?_) (fun k hk => ?_)).mono ?_
  · have : v = lvV m := by simpa using hv
    rw [this]
    exact (lvV_fine m).2
  · have : v = lvV m := by simpa using hv
    rw [this]
    exact lvV_fine m
  · have : k = 1 := by simpa [CVl] using hk
    rw [this]
    exact ⟨by decide, by decide⟩
  rintro e w' (⟨_, rfl, st', ha, _, S3⟩ | ⟨hf, _⟩)
  · have := added_two ha
    rw [lv_next b0 b1 m hm] at this
    subst this
    refine ⟨_, rfl, Lib.hid (S3.out.sub (fun x hx => ?_))⟩
    have e1 : addC (CVl b0 b1 m) (lvSt b0 b1 (m + 1)) = CVl b0 b1 (m + 1) := rfl
    rw [e1]
    simp only [List.mem_append, List.mem_cons] at hx ⊢
    rcases hx with hx | hx <;> simp [hx]
  · rw [show fitsL [lvV m, lvV m] (CVl b0 b1 m).ks = true from lv_fits m hm] at hf
    cases hf
end Go.Proofs.YtfoeodiijbdbeaaGreat
/- The document's examples hold in any world: the walk. Conditions: none. -/
set_option maxRecDepth 100000
namespace Go.Proofs.YtfoeodiijbdbeaaGreat
open Go.RowKit Go.Maps Go.Sort Go.Lib
open Wide

set_option maxHeartbeats 6400000 in
theorem clives_any (w : World) : Calls Tryz.prog 8 #[] w fun e w' => e = .returned (.bool true) ∧ Below w.heap.size w w' := by
  have hz1 : (w.alloc mO).heap.size = w.heap.size + 1 := by simp
  have S0 := ((Side.nil w).alloc 101 mO).alloc 102 kO
  rw [hz1] at S0
  have KS := set_any S0 103
  clear S0 hz1
  go_enter Tryz.func8, Tryz.ntmps8
  go_wp2_with fail
  refine KS.mono ?_
  rintro e w1 ⟨b, rfl, S1⟩
  have S1 : Hid (Side w (lvE w b) w1) := S1
  have KN := cnew_any S1.out 0 (lvE_off w b) (a1 := some ⟨w.heap.size, 0, none⟩) (a2 := some ⟨w.heap.size + 1, 0, none⟩) (n1 := 2) (n2 := 2) (c1 := 2) (c2 := 2) (ms := lvMs) (ks := [1, 1])
    (fun W hW => holds2_heap rfl (hW.heap (i := 101) (b := w.heap.size) (ob := mO) (by unfold lvE; simp)) rfl) (fun W hW => holds_ints (hW.heap (i := 102) (b := w.heap.size + 1) (ob := kO) (by unfold lvE; simp))) (fun W hW => set_box (hW.heap (i := 103) (b := b) (ob := seedO) (by unfold lvE; simp))) 4 4 2 (by decide) rfl (by decide) (fun j m k hm hk => by
      rcases j with _ | _ | j
      · cases hm; cases hk
        exact ⟨⟨⟨by decide, by decide⟩, .inr (.inl ⟨rfl, rfl⟩)⟩, by decide⟩
      · cases hm; cases hk
        exact ⟨⟨⟨by decide, by decide⟩, .inr (.inr (.inl rfl))⟩, by decide⟩
      · simp at hk)
  clear KS S1
  go_wp2_with fail
  refine KN.mono ?_
  rintro e w2 ⟨q, L, C, rfl, hC, S2⟩
  obtain ⟨b0, b1, rfl⟩ := new_two hC
  clear KN hC
  have i0 : ∀ W, (Instr.index 74 (.agg #[.int .i64 1, .int .i64 5, .string ⟨#[]⟩, .int .i64 0, .int .i64 0, .string ⟨#[]⟩, .int .i64 1, .int .i64 7, .string ⟨#[]⟩]) (.int .i64 0)).run Tryz.prog W = .ok (.agg #[.int .i64 1, .int .i64 5, .string ⟨#[]⟩]) W := fun _ => by kernel_rfl
  have i1 : ∀ W, (Instr.index 74 (.agg #[.int .i64 1, .int .i64 5, .string ⟨#[]⟩, .int .i64 0, .int .i64 0, .string ⟨#[]⟩, .int .i64 1, .int .i64 7, .string ⟨#[]⟩]) (.int .i64 1)).run Tryz.prog W = .ok (.agg #[.int .i64 0, .int .i64 0, .string ⟨#[]⟩]) W := fun _ => by kernel_rfl
  have i2 : ∀ W, (Instr.index 74 (.agg #[.int .i64 1, .int .i64 5, .string ⟨#[]⟩, .int .i64 0, .int .i64 0, .string ⟨#[]⟩, .int .i64 1, .int .i64 7, .string ⟨#[]⟩]) (.int .i64 2)).run Tryz.prog W = .ok (.agg #[.int .i64 1, .int .i64 7, .string ⟨#[]⟩]) W := fun _ => by kernel_rfl
  go_wp2_with fail
  go_loopw [23] (fun s23 wr => ∃ m : Nat, s23 = .int .i64 m ∧ m ≤ 3 ∧ Hid (Side w (cellE 0 q L (CVl b0 b1 m) ++ lvE w b) wr)) (fun s23 _ => 3 - (RowKit.intOf s23).toNat)
  case atStart => exact ⟨0, rfl, by omega, S2⟩
  case round =>
    obtain ⟨m, rfl, hm, HR⟩ := hrel
    rcases (by omega : m = 0 ∨ m = 1 ∨ m = 2 ∨ m = 3) with rfl | rfl | rfl | rfl
    · have KA := lv_add HR.out (by decide)
      unfold lvV valO twoO zO at KA
      unfold v5 at KA
      simp only at KA
      clear HR S2
      go_wp2_with fail
      refine KA.mono ?_
      rintro e w5 ⟨c, rfl, S6⟩
      clear KA
      go_wp2_with fail
      go_roundw
      case rel => exact ⟨1, rfl, by omega, S6⟩
      case measure => simp [RowKit.intOf]
    · have KA := lv_add HR.out (by decide)
      unfold lvV valO twoO zO at KA
      unfold VV.none_ at KA
      simp only at KA
      clear HR S2
      go_wp2_with fail
      refine KA.mono ?_
      rintro e w5 ⟨c, rfl, S6⟩
      clear KA
      go_wp2_with fail
      go_roundw
      case rel => exact ⟨2, rfl, by omega, S6⟩
      case measure => simp [RowKit.intOf]
    · have KA := lv_add HR.out (by decide)
      unfold lvV valO twoO zO at KA
      unfold v7 at KA
      simp only at KA
      clear HR S2
      go_wp2_with fail
      refine KA.mono ?_
      rintro e w5 ⟨c, rfl, S6⟩
      clear KA
      go_wp2_with fail
      go_roundw
      case rel => exact ⟨3, rfl, by omega, S6⟩
      case measure => simp [RowKit.intOf]
    · have S3 := HR
      clear HR S2 i0 i1 i2
      have m1 : (0, OBox q (celO L (CVl b0 b1 3))) ∈ cellE 0 q L (CVl b0 b1 3) ++ lvE w b := by unfold cellE; simp
      have m2 : (0 + 2, RowT 71 1 L.sv (CVl b0 b1 3).st.length (vals (CVl b0 b1 3).st)) ∈ cellE 0 q L (CVl b0 b1 3) ++ lvE w b := by unfold cellE; simp
      have m3 : (5, OBox b0 (sumO 12 2)) ∈ cellE 0 q L (CVl b0 b1 3) ++ lvE w b := by unfold cellE CVl lvSt; simp [stE, StT, lvN, lvn]
      have m4 : (6, OBox b1 (lowO v5)) ∈ cellE 0 q L (CVl b0 b1 3) ++ lvE w b := by unfold cellE CVl lvSt; simp [stE, StT, lvl]
      have KS := csum_at S3.out m1 m2 (by show 1 ≤ 4; decide) (m := 0) (b := b0) (n := 2) (N := 12) rfl m3
      have KL := Lib.hid (fun (W : World) (hW : Side w (cellE 0 q L (CVl b0 b1 3) ++ lvE w b) W) => cleast_at hW m1 m2 (by show 1 ≤ 4; decide) (m := 1) (b := b1) (v := v5) rfl m4 v5_fine)
      have KC := Lib.hid (fun (W : World) (hW : Side w (cellE 0 q L (CVl b0 b1 3) ++ lvE w b) W) => ccount_sum hW m1 m2 (by show 1 ≤ 4; decide) (m := 0) (b := b0) (n := 2) (N := 12) rfl)
      have KR := Lib.hid (fun (W : World) (hW : Side w (cellE 0 q L (CVl b0 b1 3) ++ lvE w b) W) => crows_at (hW.heapO m1) (by show 1 ≤ 4; decide))
      rw [show wv 12 = .agg #[.int .i64 0, .int .u64 12] from rfl] at KS
      clear m1 m2 m3 m4
      go_wp2_with fail
      refine KS.mono ?_
      rintro e w5 ⟨rfl, hb5⟩
      have S5 := Lib.hid (S3.out.below hb5)
      have S6 := Lib.hid (S5.out.alloc 107 (.cells #[.int .i64 0, .int .u64 12] 45))
      have KL1 := KL.out _ (S6.out.sub (fun x hx => List.mem_cons_of_mem _ hx))
      rw [show v5.val = .agg #[.int .i64 1, .int .i64 5, .string ⟨#[]⟩] from rfl] at KL1
      clear KS hb5 S3 KL
      go_wp2_with fail
      refine KL1.mono ?_
      rintro e w7 ⟨rfl, hb7⟩
      have S7 := Lib.hid (S6.out.below hb7)
      have S8 := Lib.hid (S7.out.alloc 108 (.cells #[.int .i64 1, .int .i64 5, .string ⟨#[]⟩] 36))
      have KC1 := KC.out _ (S8.out.sub (fun x hx => List.mem_cons_of_mem _ (List.mem_cons_of_mem _ hx)))
      clear KL1 hb7 S6 KC S7
      go_wp2_with fail
      refine KC1.mono ?_
      rintro e w8 ⟨rfl, rfl⟩
      clear KC1
      have KR1 := KR.out _ (S8.out.drew.sub (fun x hx => List.mem_cons_of_mem _ (List.mem_cons_of_mem _ hx)))
      rw [show ((CVl b0 b1 3).rows : Int) = 3 from rfl] at KR1
      have KO := Lib.hid (fun W => Wide.of_any 12 W (by decide) (by decide))
      have KE : ∀ W, (binOp .eql 45 (.agg #[.int .i64 0, .int .u64 12]) (.agg #[.int .i64 0, .int .u64 12])).run Tryz.prog W = .ok (.bool true) W := fun _ => by kernel_rfl
      have KU : ∀ (x y : Operand) (W : World), (eqGuard .eql 45 x y (.agg #[.int .i64 0, .int .u64 12]) (.agg #[.int .i64 0, .int .u64 12])).run Tryz.prog W = .ok () W := fun _ _ _ => by kernel_rfl
      have HC := Lib.hid (fun (V : World) (hV : Below (w7.alloc (.cells #[.int .i64 1, .int .i64 5, .string ⟨#[]⟩] 36)).heap.size (w7.alloc (.cells #[.int .i64 1, .int .i64 5, .string ⟨#[]⟩] 36)) V) => (show (V.cell? ⟨w5.heap.size, 0, none⟩ = some (.int .i64 0) ∧ V.cell? ⟨w5.heap.size, 1, none⟩ = some (.int .u64 12)) ∧ V.cell? ⟨w7.heap.size, 1, none⟩ = some (.int .i64 5) from by
        have g := S8.out.below hV
        have g1 := g.heap (i := 107) (List.mem_cons_of_mem _ (List.mem_cons_self ..))
        have g2 := g.heap (i := 108) (List.mem_cons_self ..)
        exact ⟨⟨by rw [cell_of_row _ _ _ _ _ _ g1]; rfl, by rw [cell_of_row _ _ _ _ _ _ g1]; rfl⟩, by rw [cell_of_row _ _ _ _ _ _ g2]; rfl⟩))
      have HB8 := Lib.hid S8.out.base
      clear KR S8 S5
      go_wp2_with fail
      refine wp_region_mix (fun V => (V.cell? ⟨w5.heap.size, 0, none⟩ = some (.int .i64 0) ∧ V.cell? ⟨w5.heap.size, 1, none⟩ = some (.int .u64 12)) ∧ V.cell? ⟨w7.heap.size, 1, none⟩ = some (.int .i64 5)) 28 [(true, 0), (false, 1), (true, 2), (true, 3), (true, 4), (true, 5), (true, 6), (true, 7), (true, 8), (true, 9), (true, 10), (true, 11), (false, 12), (true, 13), (true, 14), (true, 15), (true, 16), (true, 17), (true, 18), (true, 19), (true, 20), (true, 21), (true, 22), (true, 23), (true, 24), (true, 25), (true, 26), (true, 27)] (by kernel_rfl) (by decide +kernel) rfl (by decide +kernel) (HC.out _ (below_drew1 _)) ?_
      iterate 1
        refine wpMix_take (v := ?_) rfl rfl ?_ ?_
        rotate_left
        · (intro W hW; (try dsimp only at hW); go_simp) <;> with_reducible rfl
        simp only [Act.put, List.setIfInBounds_toArray, List.set_cons_zero, List.set_cons_succ]
      refine wpMix_run rfl ?_
      intro K' hK'
      go_wp2_with fail
      refine KR1.mono ?_
      rintro e w9 ⟨rfl, rfl⟩
      clear KR1
      go_wp2_with fail
      refine hK'.out _ _ (fun _ => HC.out _ (below_drew1 _)) ?_
      clear hK' K'
      iterate 10
        refine wpMix_take (v := ?_) rfl rfl ?_ ?_
        rotate_left
        · (intro W hW; (try dsimp only at hW); go_simp) <;> with_reducible rfl
        simp only [Act.put, List.setIfInBounds_toArray, List.set_cons_zero, List.set_cons_succ]
      refine wpMix_run rfl ?_
      intro K' hK'
      go_wp2_with fail
      refine (KO.out _).mono ?_
      rintro e w10 ⟨rfl, hb10⟩
      rw [show wv 12 = .agg #[.int .i64 0, .int .u64 12] from rfl]
      have hbA := (below_drew1 (w7.alloc (.cells #[.int .i64 1, .int .i64 5, .string ⟨#[]⟩] 36))).trans (hb10.mono (Nat.le_refl _))
      have C10 := HC.out _ hbA
      have FIN := Lib.hid (HB8.out.trans (hbA.mono HB8.out.size))
      clear hb10 hbA KO HC HB8
      go_wp2_with fail
      refine hK'.out _ _ (fun _ => C10) ?_
      clear hK' K'
      iterate 15
        refine wpMix_take (v := ?_) rfl rfl ?_ ?_
        rotate_left
        · (intro W hW; (try dsimp only at hW); go_simp) <;> with_reducible rfl
        simp only [Act.put, List.setIfInBounds_toArray, List.set_cons_zero, List.set_cons_succ]
      refine wpMix_nil ?_
      go_wp2_with fail
      go_ret
      exact ⟨rfl, FIN.out⟩
end Go.Proofs.YtfoeodiijbdbeaaGreat
/- A cell that no call made tells nothing: the walk of CellNone. Conditions: none. -/
set_option maxRecDepth 100000
namespace Go.Proofs.YtfoeodiijbdbeaaGreat
open Go.RowKit Go.Maps Go.Sort Go.Lib

theorem cmerge_arg {w : World} {q : Nat} {L : Lay} {C : Cv} (h : w.heap[q]? = some (celO L C)) (ht : 1 ≤ C.t) {y : Option Addr} (g : NoC w y) : Calls Tryz.prog 10 #[.pointer (some ⟨q, 0, none⟩), .pointer y] w fun e w' => e = .returned (.int .i64 2) ∧ w = w' := by
  have K1 := cmade_yes h ht
  have K2 := cmade_no g
  clear h g ht
  go_enter Tryz.func10, Tryz.ntmps10
  go_wp2_with fail
  refine K1.mono ?_
  rintro e w' ⟨rfl, rfl⟩
  clear K1
  go_wp2_with fail
  refine K2.mono ?_
  rintro e w' ⟨rfl, rfl⟩
  clear K2
  go_wp2_with fail
  go_ret
  exact ⟨rfl, rfl⟩
/-- New of no measures -/
theorem new_none {w : World} (b : Nat) (h : w.heap[b]? = some seedO) : Calls Tryz.prog 6 #[.slice none 0 0, .slice none 0 0, setV 4 (some ⟨b, 0, none⟩) 1 1 4 2] w fun e w' => ∃ q, e = .returned (.pointer (some ⟨q, 0, none⟩)) ∧ Below w.heap.size w w' ∧ ∃ L C, w'.heap[q]? = some (celO L C) ∧ 1 ≤ C.t := by
  have hlt := lt_of_heap h
  refine (cnew_any (Side.nil w) 0 (fun e he => by cases he) (a1 := none) (a2 := none) (n1 := 0) (n2 := 0) (c1 := 0) (c2 := 0) (ms := []) (ks := []) (S := [(3, 1)]) (fun W _ => ⟨none, 0, rfl, Nat.le_refl _, .inl ⟨rfl, rfl, rfl⟩⟩) (fun W _ => Holds.nil W) (fun W hW => set_box ((hW.base.block b hlt).trans h)) 4 4 2 (by decide) rfl (by decide) (fun j m k hm _ => by simp at hm)).mono ?_
  rintro e w' ⟨q, L, C, rfl, hC, S⟩
  refine ⟨q, rfl, S.out.base, L, C, S.out.heapO (i := 0) (by unfold cellE; simp), ?_⟩
  rw [hC.et]
  decide
set_option maxHeartbeats 12800000 in
theorem cnone_walk (x0 : Int) (w : World) :
    Calls Tryz.prog 4 #[.int .i64 x0] w fun e w' => e = .returned (.bool true) ∧ Below w.heap.size w w' := by
  have hb := below_c w (.cells #[.slice none 0 0, .slice none 0 0, .int .i64 0, .slice none 0 0, .int .i64 0, .int .i64 0, .int .i64 0, .slice none 0 0] 53)
  have hn := heap_alloc_new w (.cells #[.slice none 0 0, .slice none 0 0, .int .i64 0, .slice none 0 0, .int .i64 0, .int .i64 0, .int .i64 0, .slice none 0 0] 53)
  have HI : Hid (∀ (V : World) (m : Nat), Below (w.alloc (.cells #[.slice none 0 0, .slice none 0 0, .int .i64 0, .slice none 0 0, .int .i64 0, .int .i64 0, .int .i64 0, .slice none 0 0] 53)).heap.size (w.alloc (.cells #[.slice none 0 0, .slice none 0 0, .int .i64 0, .slice none 0 0, .int .i64 0, .int .i64 0, .int .i64 0, .slice none 0 0] 53)) V → m < 2 → ∃ x, NoC V x ∧ ∀ W, (Instr.index 54 (.agg #[.pointer none, .pointer (some ⟨w.heap.size, 0, none⟩)]) (.int .i64 (m : Int))).run Tryz.prog W = .ok (.pointer x) W) := Lib.hid fun V m hV hm => by
    rcases (by omega : m = 0 ∨ m = 1) with rfl | rfl
    · exact ⟨none, .inl rfl, fun _ => by kernel_rfl⟩
    · exact ⟨some ⟨w.heap.size, 0, none⟩, .inr ⟨_, rfl, (hV.block _ (lt_of_heap hn)).trans hn⟩, fun _ => by kernel_rfl⟩
  obtain ⟨W0, hW0⟩ : ∃ W0, w.alloc (.cells #[.slice none 0 0, .slice none 0 0, .int .i64 0, .slice none 0 0, .int .i64 0, .int .i64 0, .int .i64 0, .slice none 0 0] 53) = W0 := ⟨_, rfl⟩
  rw [hW0] at HI hb
  have HB0 := Lib.hid hb
  clear hb hn
  go_enter Tryz.func4, Tryz.ntmps4
  go_wp2_with fail
  clear hW0
  go_loopw [23] (fun s23 V => ∃ m : Nat, s23 = .int .i64 m ∧ m ≤ 2 ∧ Hid (Below W0.heap.size W0 V)) (fun s23 _ => 2 - (RowKit.intOf s23).toNat)
  case atStart => exact ⟨0, rfl, by omega, Lib.hid (Below.refl _ _)⟩
  case round =>
    obtain ⟨m, rfl, hm, HB⟩ := hrel
    by_cases hlt : m < 2
    · obtain ⟨x, hx, hidx⟩ := HI.out wr m HB.out hlt
      have HN := Lib.hid (fun (V : World) (hV : Below wr.heap.size wr V) => hx.below hV)
      have l1 : (m : Int) < 2 := by omega
      have hwk : IntKind.i64.wrap ((m : Int) + 1) = (m : Int) + 1 := by rw [IntKind.wrap_i64]; omega
      have HLT := Lib.hid hlt
      have KC := ccount_no hx x0
      clear hx hlt hm
      go_wp2_with fail
      refine KC.mono ?_
      rintro e w1 ⟨rfl, hb1⟩
      have HB1 := Lib.hid hb1
      have K := csum_no (HN.out _ HB1.out) x0
      clear hb1 KC
      go_wp2_with fail
      refine K.mono ?_
      rintro e w2 ⟨rfl, hb2⟩
      have HB2 := Lib.hid ((HB1.out.trans (hb2.mono HB1.out.size)).trans ((below_c w2 (.cells #[.int .i64 0, .int .u64 0] 45)).mono (HB1.out.trans (hb2.mono HB1.out.size)).size))
      clear hb2 K
      have K := cleast_no (HN.out _ HB2.out) x0
      unfold vv at K
      go_wp2_with fail
      refine K.mono ?_
      rintro e w3 ⟨rfl, hb3⟩
      have HB3 := Lib.hid ((HB2.out.trans (hb3.mono HB2.out.size)).trans ((below_c w3 (.cells #[.int .i64 0, .int .i64 0, .string ⟨#[]⟩] 36)).mono (HB2.out.trans (hb3.mono HB2.out.size)).size))
      clear hb3 K
      have K := cgreatest_no (HN.out _ HB3.out) x0
      unfold vv at K
      go_wp2_with fail
      refine K.mono ?_
      rintro e w4 ⟨rfl, hb4⟩
      have HB4 := Lib.hid ((HB3.out.trans (hb4.mono HB3.out.size)).trans ((below_c w4 (.cells #[.int .i64 0, .int .i64 0, .string ⟨#[]⟩] 36)).mono (HB3.out.trans (hb4.mono HB3.out.size)).size))
      clear hb4 K
      have K := cdistinct_no (HN.out _ HB4.out) x0
      go_wp2_with fail
      refine K.mono ?_
      rintro e w5 ⟨rfl, hb5⟩
      have HB5 := Lib.hid (HB4.out.trans (hb5.mono HB4.out.size))
      clear hb5 K
      have K := cquantile_no (HN.out _ HB5.out) x0 5
      unfold vv at K
      go_wp2_with fail
      refine K.mono ?_
      rintro e w6 ⟨rfl, hb6⟩
      have HB6 := Lib.hid ((HB5.out.trans (hb6.mono HB5.out.size)).trans ((below_c w6 (.cells #[.int .i64 0, .int .i64 0, .string ⟨#[]⟩] 36)).mono (HB5.out.trans (hb6.mono HB5.out.size)).size))
      clear hb6 K
      have K := ctop_no (HN.out _ HB6.out) x0 3
      go_wp2_with fail
      refine K.mono ?_
      rintro e w7 ⟨rfl, hb7⟩
      have HB7 := Lib.hid (HB6.out.trans (hb7.mono HB6.out.size))
      clear hb7 K HB1 HB2 HB3 HB4 HB5 HB6
      have hx7 := HN.out _ HB7.out
      have KA := cadd_no hx7 (.slice none 0 0) (.slice none 0 0)
      have KM := cmerge_no hx7 (.pointer x)
      have KR := crows_no hx7
      have KY := ccopy_no hx7
      have KS := set_any (Side.nil w7) 103
      clear hx7
      go_wp2_with fail
      refine KA.mono ?_
      rintro e w8 ⟨rfl, rfl⟩
      clear KA
      go_wp2_with fail
      refine KM.mono ?_
      rintro e w8 ⟨rfl, rfl⟩
      clear KM
      go_wp2_with fail
      refine KR.mono ?_
      rintro e w8 ⟨rfl, rfl⟩
      clear KR
      go_wp2_with fail
      refine KY.mono ?_
      rintro e w8 ⟨rfl, rfl⟩
      clear KY
      go_wp2_with fail
      refine KS.mono ?_
      rintro e w9 ⟨b, rfl, S9⟩
      have KN := new_none b (S9.out.heap (i := 103) (b := b) (ob := seedO) (List.mem_cons_self ..))
      have HB9 := Lib.hid (HB7.out.trans (S9.out.base.mono HB7.out.size))
      clear KS S9 HB7
      go_wp2_with fail
      refine KN.mono ?_
      rintro e w10 ⟨q, rfl, hb10, L, C, hq, ht⟩
      have HB10 := Lib.hid (HB9.out.trans (hb10.mono HB9.out.size))
      have KG := cmerge_arg hq ht (HN.out _ HB10.out)
      clear hb10 hq ht KN HB9
      go_wp2_with fail
      refine KG.mono ?_
      rintro e w11 ⟨rfl, rfl⟩
      have HBE := Lib.hid (HB.out.trans (HB10.out.mono HB.out.size))
      clear KG HB10 HN HB
      go_wp2_with fail
      go_roundw
      case rel => exact ⟨m + 1, by go_num, by have := HLT.out; omega, HBE⟩
      case measure => have := HLT.out; simp [RowKit.intOf]; omega
    · have hm2 : m = 2 := by omega
      have KL := clives_any wr
      have HBE := Lib.hid (HB0.out.trans (HB.out.mono HB0.out.size))
      have l1 : ¬ ((m : Int) < 2) := by omega
      clear HB hlt hm hm2
      go_wp2_with fail
      refine KL.mono ?_
      rintro e w9 ⟨rfl, hb9⟩
      have FI := HBE.out.trans (hb9.mono HBE.out.size)
      clear KL hb9
      go_wp2_with fail
      go_ret
      exact ⟨rfl, FI⟩
end Go.Proofs.YtfoeodiijbdbeaaGreat
/- Two closed facts of this translation that every row asks. Conditions: none. -/
namespace Go.Proofs.YtfoeodiijbdbeaaGreat
theorem own : ownKnob Tryz.prog.godebug = none := by kernel_rfl
theorem laidOut : laidOutB Tryz.prog = true := by kernel_rfl
end Go.Proofs.YtfoeodiijbdbeaaGreat
