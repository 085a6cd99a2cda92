/- The calls of a dictionary that no call made, and the walk of DictNone. Conditions: such a dictionary. -/
import Derived.Test.YtdbaeghhlhkobaaDictBack
set_option maxRecDepth 100000
namespace Go.Proofs.Ytdbaeghhlhkobaa
open Go.RowKit Go.Maps Go.Sort Go.Lib Go.Shelf

/-- a pointer to a dictionary that no call made -/
def NoK (w : World) (x : Option Addr) : Prop := x = none ∨ ∃ b, x = some ⟨b, 0, none⟩ ∧ w.cell? ⟨b, 0, none⟩ = some (.int .i64 0)
theorem NoK.below {w w' : World} {x : Option Addr} (h : NoK w x) (hb : Below w.heap.size w w') : NoK w' x := by
  rcases h with rfl | ⟨b, rfl, hc⟩
  · exact .inl rfl
  · exact .inr ⟨b, rfl, by rw [hb.cell (World.block_lt_of_cell? w _ hc)]; exact hc⟩
def MadeNo (w : World) (x : Option Addr) : Prop := Calls Try.prog 26 #[.pointer x] w fun e w' => e = .returned (.bool false) ∧ w = w'
theorem made_no {w : World} {x : Option Addr} (h : NoK w x) : MadeNo w x := by
  rcases h with rfl | ⟨b, rfl, hc⟩
  all_goals (
    unfold MadeNo
    go_enter Try.func26, Try.ntmps26
    go_wp2_with fail
    go_ret
    exact ⟨rfl, rfl⟩)
section
variable {w : World} {x : Option Addr}
theorem add_no (h : NoK w x) (v : VV) : Calls Try.prog 15 #[.pointer x, v.val] w fun e w' => e = .returned (.tuple #[.int .i64 0, .int .i64 1]) ∧ Below w.heap.size w w' := by
  have hb := (Below.refl w.heap.size w).alloc (Nat.le_refl _) (.cells #[.int .i64 v.k, .int .i64 v.n, .string v.s] 29)
  have KM : Calls Try.prog 26 #[.pointer x] (w.alloc (.cells #[.int .i64 v.k, .int .i64 v.n, .string v.s] 29)) fun e w' => e = .returned (.bool false) ∧ w.alloc (.cells #[.int .i64 v.k, .int .i64 v.n, .string v.s] 29) = w' := made_no (h.below hb)
  have HB := Lib.hid hb
  clear h hb
  go_enter Try.func15, Try.ntmps15
  go_wp2_with fail
  refine KM.mono ?_
  rintro e w' ⟨rfl, rfl⟩
  clear KM
  go_wp2_with fail
  go_ret2
  exact ⟨rfl, HB.out⟩
theorem find_no (h : NoK w x) (v : VV) : Calls Try.prog 13 #[.pointer x, v.val] w fun e w' => e = .returned (.tuple #[.int .i64 0, .bool false]) ∧ Below w.heap.size w w' := by
  have hb := (Below.refl w.heap.size w).alloc (Nat.le_refl _) (.cells #[.int .i64 v.k, .int .i64 v.n, .string v.s] 29)
  have KM : Calls Try.prog 26 #[.pointer x] (w.alloc (.cells #[.int .i64 v.k, .int .i64 v.n, .string v.s] 29)) fun e w' => e = .returned (.bool false) ∧ w.alloc (.cells #[.int .i64 v.k, .int .i64 v.n, .string v.s] 29) = w' := made_no (h.below hb)
  have HB := Lib.hid hb
  clear h hb
  go_enter Try.func13, Try.ntmps13
  go_wp2_with fail
  refine KM.mono ?_
  rintro e w' ⟨rfl, rfl⟩
  clear KM
  go_wp2_with fail
  go_ret2
  exact ⟨rfl, HB.out⟩
theorem len_no (h : NoK w x) : Calls Try.prog 22 #[.pointer x] w fun e w' => e = .returned (.int .i64 0) ∧ w = w' := by
  have KM : Calls Try.prog 26 #[.pointer x] w fun e w' => e = .returned (.bool false) ∧ w = w' := made_no h
  clear h
  go_enter Try.func22, Try.ntmps22
  go_wp2_with fail
  refine KM.mono ?_
  rintro e w' ⟨rfl, rfl⟩
  clear KM
  go_wp2_with fail
  go_ret
  exact ⟨rfl, rfl⟩
theorem kind_no (h : NoK w x) : Calls Try.prog 23 #[.pointer x] w fun e w' => e = .returned (.int .i64 0) ∧ w = w' := by
  have KM : Calls Try.prog 26 #[.pointer x] w fun e w' => e = .returned (.bool false) ∧ w = w' := made_no h
  clear h
  go_enter Try.func23, Try.ntmps23
  go_wp2_with fail
  refine KM.mono ?_
  rintro e w' ⟨rfl, rfl⟩
  clear KM
  go_wp2_with fail
  go_ret
  exact ⟨rfl, rfl⟩
theorem values_no (h : NoK w x) : Calls Try.prog 24 #[.pointer x] w fun e w' => e = .returned (.slice none 0 0) ∧ w = w' := by
  have KM : Calls Try.prog 26 #[.pointer x] w fun e w' => e = .returned (.bool false) ∧ w = w' := made_no h
  clear h
  go_enter Try.func24, Try.ntmps24
  go_wp2_with fail
  refine KM.mono ?_
  rintro e w' ⟨rfl, rfl⟩
  clear KM
  go_wp2_with fail
  go_ret
  exact ⟨rfl, rfl⟩
theorem room_no (h : NoK w x) : Calls Try.prog 20 #[.pointer x, .slice none 0 0] w fun e w' => e = .returned (.bool false) ∧ w = w' := by
  have KM : Calls Try.prog 26 #[.pointer x] w fun e w' => e = .returned (.bool false) ∧ w = w' := made_no h
  clear h
  go_enter Try.func20, Try.ntmps20
  go_wp2_with fail
  refine KM.mono ?_
  rintro e w' ⟨rfl, rfl⟩
  clear KM
  go_wp2_with fail
  go_ret
  exact ⟨rfl, rfl⟩
theorem copy_no (h : NoK w x) : Calls Try.prog 11 #[.pointer x] w fun e w' => e = .returned (.pointer none) ∧ w = w' := by
  have KM : Calls Try.prog 26 #[.pointer x] w fun e w' => e = .returned (.bool false) ∧ w = w' := made_no h
  clear h
  go_enter Try.func11, Try.ntmps11
  go_wp2_with fail
  refine KM.mono ?_
  rintro e w' ⟨rfl, rfl⟩
  clear KM
  go_wp2_with fail
  go_ret
  exact ⟨rfl, rfl⟩
theorem value_no (h : NoK w x) (id : Int) : Calls Try.prog 17 #[.pointer x, .int .i64 id] w fun e w' => e = .returned (.tuple #[vv 0 0 ⟨#[]⟩, .bool false]) ∧ Below w.heap.size w w' := by
  have hb := (Below.refl w.heap.size w).alloc (Nat.le_refl _) (.cells #[.int .i64 0, .int .i64 0, .string ⟨#[]⟩] 29)
  have KM := len_no (h.below hb)
  have HB := Lib.hid hb
  clear h hb
  by_cases g : id < 0
  · have t0 : decide (id < 0) = true := decide_eq_true g
    clear g KM
    go_enter Try.func17, Try.ntmps17
    go_wp2_with fail
    refine bodyPost_ret (v := .tuple #[vv 0 0 ⟨#[]⟩, .bool false]) ?_ rfl ⟨rfl, HB.out⟩
    simp [results, Try.results17, go_sem]
  · have t0 : decide (id < 0) = false := decide_eq_false g
    have t1 : decide (0 ≤ id) = true := decide_eq_true (by omega)
    clear g
    go_enter Try.func17, Try.ntmps17
    go_wp2_with fail
    refine KM.mono ?_
    rintro e w' ⟨rfl, rfl⟩
    clear KM
    go_wp2_with fail
    refine bodyPost_ret (v := .tuple #[vv 0 0 ⟨#[]⟩, .bool false]) ?_ rfl ⟨rfl, HB.out⟩
    simp [results, Try.results17, go_sem]
end
set_option maxHeartbeats 6400000 in
theorem none_walk (v : VV) (id : Int) (w : World) :
    Calls Try.prog 6 #[v.val, .int .i64 id] w fun e w' => e = .returned (.bool true) ∧ Below w.heap.size w w' := by
  have KL := lives_any
  have KE := neq_val
  have KU := guard_val
  obtain ⟨k, n, s⟩ := v
  obtain ⟨w1, hw1⟩ : ∃ w1, w1 = (w.alloc (.cells #[.int .i64 k, .int .i64 n, .string s] 29)).alloc (.cells #[.int .i64 0, .map none, .slice none 0 0] 50) := ⟨_, rfl⟩
  have hz : (w.alloc (.cells #[.int .i64 k, .int .i64 n, .string s] 29)).heap.size = w.heap.size + 1 := by simp
  have hz1 : w1.heap.size = w.heap.size + 1 + 1 := by rw [hw1]; simp
  have hd : w1.heap[w.heap.size + 1]? = some (.cells #[.int .i64 0, .map none, .slice none 0 0] 50 (0, 0)) := by
    have := heap_alloc_new (w.alloc (.cells #[.int .i64 k, .int .i64 n, .string s] 29)) (.cells #[.int .i64 0, .map none, .slice none 0 0] 50)
    rw [hz] at this
    rw [hw1]; exact this
  have hx : w1.heap[w.heap.size]? = some (.cells #[.int .i64 k, .int .i64 n, .string s] 29 (0, 0)) := by
    rw [hw1, heap_alloc_old _ _ (by rw [hz]; omega)]
    exact heap_alloc_new w _
  have hB : Below w.heap.size w w1 := by
    rw [hw1]
    exact ((Below.refl w.heap.size w).alloc (Nat.le_refl _) _).alloc (by rw [hz]; omega) _
  have HI := Lib.hid (show ∀ W, Below w1.heap.size w1 W → (W.cell? ⟨w.heap.size, 0, none⟩ = some (.int .i64 k) ∧ W.cell? ⟨w.heap.size, 1, none⟩ = some (.int .i64 n) ∧ W.cell? ⟨w.heap.size, 2, none⟩ = some (.string s)) ∧ NoK W (some ⟨w.heap.size + 1, 0, none⟩) ∧ Below w.heap.size w W from fun W hb => by
    have h1 := (hb.block _ (lt_of_heap hx)).trans hx
    have h2 := (hb.block _ (lt_of_heap hd)).trans hd
    exact ⟨⟨by rw [cell_of_row _ _ _ _ _ _ h1]; rfl, by rw [cell_of_row _ _ _ _ _ _ h1]; rfl, by rw [cell_of_row _ _ _ _ _ _ h1]; rfl⟩, .inr ⟨_, rfl, by rw [cell_of_row _ _ _ _ _ _ h2]; rfl⟩, hB.trans (hb.mono (by omega))⟩)
  have i0 : ∀ W, (Instr.index 51 (.agg #[.pointer none, .pointer (some ⟨w.heap.size + 1, 0, none⟩)]) (.int .i64 0)).run Try.prog W = .ok (.pointer none) W := fun _ => by kernel_rfl
  have i1 : ∀ W, (Instr.index 51 (.agg #[.pointer none, .pointer (some ⟨w.heap.size + 1, 0, none⟩)]) (.int .i64 1)).run Try.prog W = .ok (.pointer (some ⟨w.heap.size + 1, 0, none⟩)) W := fun _ => by kernel_rfl
  clear hz hz1 hd hx hB
  go_enter Try.func6, Try.ntmps6
  go_wp2_with fail
  (try rw [← hw1])
  clear hw1
  go_loopw [15] (fun j wr => ∃ r : Nat, j = .int .i64 r ∧ r ≤ 2 ∧ Hid (Below w1.heap.size w1 wr)) (fun j _ => 2 - (RowKit.intOf j).toNat)
  case atStart => exact ⟨0, rfl, by omega, Lib.hid (Below.refl _ _)⟩
  case round =>
    obtain ⟨r, rfl, hr, HR⟩ := hrel
    obtain ⟨⟨a0, a1, a2⟩, hN, _⟩ := HI.out _ HR.out
    rcases (by omega : r = 0 ∨ r = 1 ∨ r = 2) with rfl | rfl | rfl
    · have HNN : Hid (∀ W, Below w1.heap.size w1 W → NoK W none) := Lib.hid (fun W hb => .inl rfl)
      have K1 := add_no (HNN.out _ HR.out) ⟨k, n, s⟩
      have hr : (0 : Nat) ≤ 2 := by omega
      clear hN hr
      go_wp2_with fail
      refine K1.mono ?_
      rintro e w2 ⟨rfl, hb⟩
      have HR2 := Lib.hid (HR.out.trans (hb.mono HR.out.size))
      obtain ⟨⟨b0, b1, b2⟩, _, _⟩ := HI.out _ HR2.out
      have K2 := find_no (HNN.out _ HR2.out) ⟨k, n, s⟩
      clear hb K1 HR a0 a1 a2
      go_wp2_with fail
      refine K2.mono ?_
      rintro e w3 ⟨rfl, hb⟩
      have HR3 := Lib.hid (HR2.out.trans (hb.mono HR2.out.size))
      have K3 := value_no (HNN.out _ HR3.out) id
      clear hb K2 HR2 b0 b1 b2
      go_wp2_with fail
      refine K3.mono ?_
      rintro e w4 ⟨rfl, hb⟩
      have hB4 := (HR3.out.trans (hb.mono HR3.out.size)).alloc (HR3.out.trans (hb.mono HR3.out.size)).size (.cells #[.int .i64 0, .int .i64 0, .string ⟨#[]⟩] 29)
      have HR4 := Lib.hid hB4
      have K4 := len_no (HNN.out _ HR4.out)
      have K5 := kind_no (HNN.out _ HR4.out)
      have K6 := values_no (HNN.out _ HR4.out)
      have K7 := room_no (HNN.out _ HR4.out)
      have K8 := copy_no (HNN.out _ HR4.out)
      clear hb K3 HR3 hB4
      go_wp2_with fail
      refine K4.mono ?_
      rintro e w' ⟨rfl, rfl⟩
      go_wp2_with fail
      refine K5.mono ?_
      rintro e w' ⟨rfl, rfl⟩
      go_wp2_with fail
      refine K6.mono ?_
      rintro e w' ⟨rfl, rfl⟩
      go_wp2_with fail
      refine K7.mono ?_
      rintro e w' ⟨rfl, rfl⟩
      go_wp2_with fail
      refine K8.mono ?_
      rintro e w' ⟨rfl, rfl⟩
      clear K4 K5 K6 K7 K8 HNN
      go_wp2_with fail
      go_roundw
      case rel => exact ⟨1, rfl, by omega, HR4⟩
      case measure => simp [RowKit.intOf]
    · have HNN : Hid (∀ W, Below w1.heap.size w1 W → NoK W (some ⟨w.heap.size + 1, 0, none⟩)) := Lib.hid (fun W hb => (HI.out W hb).2.1)
      have K1 := add_no (HNN.out _ HR.out) ⟨k, n, s⟩
      have hr : (0 : Nat) ≤ 2 := by omega
      clear hN hr
      go_wp2_with fail
      refine K1.mono ?_
      rintro e w2 ⟨rfl, hb⟩
      have HR2 := Lib.hid (HR.out.trans (hb.mono HR.out.size))
      obtain ⟨⟨b0, b1, b2⟩, _, _⟩ := HI.out _ HR2.out
      have K2 := find_no (HNN.out _ HR2.out) ⟨k, n, s⟩
      clear hb K1 HR a0 a1 a2
      go_wp2_with fail
      refine K2.mono ?_
      rintro e w3 ⟨rfl, hb⟩
      have HR3 := Lib.hid (HR2.out.trans (hb.mono HR2.out.size))
      have K3 := value_no (HNN.out _ HR3.out) id
      clear hb K2 HR2 b0 b1 b2
      go_wp2_with fail
      refine K3.mono ?_
      rintro e w4 ⟨rfl, hb⟩
      have hB4 := (HR3.out.trans (hb.mono HR3.out.size)).alloc (HR3.out.trans (hb.mono HR3.out.size)).size (.cells #[.int .i64 0, .int .i64 0, .string ⟨#[]⟩] 29)
      have HR4 := Lib.hid hB4
      have K4 := len_no (HNN.out _ HR4.out)
      have K5 := kind_no (HNN.out _ HR4.out)
      have K6 := values_no (HNN.out _ HR4.out)
      have K7 := room_no (HNN.out _ HR4.out)
      have K8 := copy_no (HNN.out _ HR4.out)
      clear hb K3 HR3 hB4
      go_wp2_with fail
      refine K4.mono ?_
      rintro e w' ⟨rfl, rfl⟩
      go_wp2_with fail
      refine K5.mono ?_
      rintro e w' ⟨rfl, rfl⟩
      go_wp2_with fail
      refine K6.mono ?_
      rintro e w' ⟨rfl, rfl⟩
      go_wp2_with fail
      refine K7.mono ?_
      rintro e w' ⟨rfl, rfl⟩
      go_wp2_with fail
      refine K8.mono ?_
      rintro e w' ⟨rfl, rfl⟩
      clear K4 K5 K6 K7 K8 HNN
      go_wp2_with fail
      go_roundw
      case rel => exact ⟨2, rfl, by omega, HR4⟩
      case measure => simp [RowKit.intOf]
    · have HB := Lib.hid (HI.out _ HR.out).2.2
      clear a0 a1 a2 hN
      go_wp2_with fail
      refine (KL _).mono ?_
      rintro e w5 ⟨rfl, hb⟩
      have HF := Lib.hid (HB.out.trans (hb.mono HB.out.size))
      clear hb
      go_wp2_with fail
      go_ret
      exact ⟨rfl, HF.out⟩
end Go.Proofs.Ytdbaeghhlhkobaa
