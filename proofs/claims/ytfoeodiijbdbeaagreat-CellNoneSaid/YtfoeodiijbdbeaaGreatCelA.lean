/- Package cell: which state an interface value has, its methods, and the calls of a cell that no call made. Conditions: none, or such a cell. -/
import Derived.Test.YtfoeodiijbdbeaaGreatKmvEst
import Derived.Test.YtfoeodiijbdbeaaGreatThings
import Derived.Test.YtfoeodiijbdbeaaGreatSched2
import Derived.Test.YtfoeodiijbdbeaaGreatValC
set_option maxRecDepth 100000
namespace Go.Proofs.YtfoeodiijbdbeaaGreat
open Go.RowKit Go.Maps Go.Sort Go.Lib

theorem as_count_count (v : Value) (w : World) : (Instr.typeAssert (.iface 81 v) 71 81 true).run Tryz.prog w = .ok (.tuple #[v, .bool true]) w := by kernel_rfl
theorem as_count_sum (v : Value) (w : World) : (Instr.typeAssert (.iface 81 v) 71 86 true).run Tryz.prog w = .ok (.tuple #[.pointer none, .bool false]) w := by kernel_rfl
theorem as_count_least (v : Value) (w : World) : (Instr.typeAssert (.iface 81 v) 71 90 true).run Tryz.prog w = .ok (.tuple #[.pointer none, .bool false]) w := by kernel_rfl
theorem as_count_greatest (v : Value) (w : World) : (Instr.typeAssert (.iface 81 v) 71 95 true).run Tryz.prog w = .ok (.tuple #[.pointer none, .bool false]) w := by kernel_rfl
theorem as_count_distinct (v : Value) (w : World) : (Instr.typeAssert (.iface 81 v) 71 98 true).run Tryz.prog w = .ok (.tuple #[.pointer none, .bool false]) w := by kernel_rfl
theorem as_count_quantile (v : Value) (w : World) : (Instr.typeAssert (.iface 81 v) 71 103 true).run Tryz.prog w = .ok (.tuple #[.pointer none, .bool false]) w := by kernel_rfl
theorem as_count_top (v : Value) (w : World) : (Instr.typeAssert (.iface 81 v) 71 106 true).run Tryz.prog w = .ok (.tuple #[.pointer none, .bool false]) w := by kernel_rfl
theorem as_sum_count (v : Value) (w : World) : (Instr.typeAssert (.iface 86 v) 71 81 true).run Tryz.prog w = .ok (.tuple #[.pointer none, .bool false]) w := by kernel_rfl
theorem as_sum_sum (v : Value) (w : World) : (Instr.typeAssert (.iface 86 v) 71 86 true).run Tryz.prog w = .ok (.tuple #[v, .bool true]) w := by kernel_rfl
theorem as_sum_least (v : Value) (w : World) : (Instr.typeAssert (.iface 86 v) 71 90 true).run Tryz.prog w = .ok (.tuple #[.pointer none, .bool false]) w := by kernel_rfl
theorem as_sum_greatest (v : Value) (w : World) : (Instr.typeAssert (.iface 86 v) 71 95 true).run Tryz.prog w = .ok (.tuple #[.pointer none, .bool false]) w := by kernel_rfl
theorem as_sum_distinct (v : Value) (w : World) : (Instr.typeAssert (.iface 86 v) 71 98 true).run Tryz.prog w = .ok (.tuple #[.pointer none, .bool false]) w := by kernel_rfl
theorem as_sum_quantile (v : Value) (w : World) : (Instr.typeAssert (.iface 86 v) 71 103 true).run Tryz.prog w = .ok (.tuple #[.pointer none, .bool false]) w := by kernel_rfl
theorem as_sum_top (v : Value) (w : World) : (Instr.typeAssert (.iface 86 v) 71 106 true).run Tryz.prog w = .ok (.tuple #[.pointer none, .bool false]) w := by kernel_rfl
theorem as_least_count (v : Value) (w : World) : (Instr.typeAssert (.iface 90 v) 71 81 true).run Tryz.prog w = .ok (.tuple #[.pointer none, .bool false]) w := by kernel_rfl
theorem as_least_sum (v : Value) (w : World) : (Instr.typeAssert (.iface 90 v) 71 86 true).run Tryz.prog w = .ok (.tuple #[.pointer none, .bool false]) w := by kernel_rfl
theorem as_least_least (v : Value) (w : World) : (Instr.typeAssert (.iface 90 v) 71 90 true).run Tryz.prog w = .ok (.tuple #[v, .bool true]) w := by kernel_rfl
theorem as_least_greatest (v : Value) (w : World) : (Instr.typeAssert (.iface 90 v) 71 95 true).run Tryz.prog w = .ok (.tuple #[.pointer none, .bool false]) w := by kernel_rfl
theorem as_least_distinct (v : Value) (w : World) : (Instr.typeAssert (.iface 90 v) 71 98 true).run Tryz.prog w = .ok (.tuple #[.pointer none, .bool false]) w := by kernel_rfl
theorem as_least_quantile (v : Value) (w : World) : (Instr.typeAssert (.iface 90 v) 71 103 true).run Tryz.prog w = .ok (.tuple #[.pointer none, .bool false]) w := by kernel_rfl
theorem as_least_top (v : Value) (w : World) : (Instr.typeAssert (.iface 90 v) 71 106 true).run Tryz.prog w = .ok (.tuple #[.pointer none, .bool false]) w := by kernel_rfl
theorem as_greatest_count (v : Value) (w : World) : (Instr.typeAssert (.iface 95 v) 71 81 true).run Tryz.prog w = .ok (.tuple #[.pointer none, .bool false]) w := by kernel_rfl
theorem as_greatest_sum (v : Value) (w : World) : (Instr.typeAssert (.iface 95 v) 71 86 true).run Tryz.prog w = .ok (.tuple #[.pointer none, .bool false]) w := by kernel_rfl
theorem as_greatest_least (v : Value) (w : World) : (Instr.typeAssert (.iface 95 v) 71 90 true).run Tryz.prog w = .ok (.tuple #[.pointer none, .bool false]) w := by kernel_rfl
theorem as_greatest_greatest (v : Value) (w : World) : (Instr.typeAssert (.iface 95 v) 71 95 true).run Tryz.prog w = .ok (.tuple #[v, .bool true]) w := by kernel_rfl
theorem as_greatest_distinct (v : Value) (w : World) : (Instr.typeAssert (.iface 95 v) 71 98 true).run Tryz.prog w = .ok (.tuple #[.pointer none, .bool false]) w := by kernel_rfl
theorem as_greatest_quantile (v : Value) (w : World) : (Instr.typeAssert (.iface 95 v) 71 103 true).run Tryz.prog w = .ok (.tuple #[.pointer none, .bool false]) w := by kernel_rfl
theorem as_greatest_top (v : Value) (w : World) : (Instr.typeAssert (.iface 95 v) 71 106 true).run Tryz.prog w = .ok (.tuple #[.pointer none, .bool false]) w := by kernel_rfl
theorem as_distinct_count (v : Value) (w : World) : (Instr.typeAssert (.iface 98 v) 71 81 true).run Tryz.prog w = .ok (.tuple #[.pointer none, .bool false]) w := by kernel_rfl
theorem as_distinct_sum (v : Value) (w : World) : (Instr.typeAssert (.iface 98 v) 71 86 true).run Tryz.prog w = .ok (.tuple #[.pointer none, .bool false]) w := by kernel_rfl
theorem as_distinct_least (v : Value) (w : World) : (Instr.typeAssert (.iface 98 v) 71 90 true).run Tryz.prog w = .ok (.tuple #[.pointer none, .bool false]) w := by kernel_rfl
theorem as_distinct_greatest (v : Value) (w : World) : (Instr.typeAssert (.iface 98 v) 71 95 true).run Tryz.prog w = .ok (.tuple #[.pointer none, .bool false]) w := by kernel_rfl
theorem as_distinct_distinct (v : Value) (w : World) : (Instr.typeAssert (.iface 98 v) 71 98 true).run Tryz.prog w = .ok (.tuple #[v, .bool true]) w := by kernel_rfl
theorem as_distinct_quantile (v : Value) (w : World) : (Instr.typeAssert (.iface 98 v) 71 103 true).run Tryz.prog w = .ok (.tuple #[.pointer none, .bool false]) w := by kernel_rfl
theorem as_distinct_top (v : Value) (w : World) : (Instr.typeAssert (.iface 98 v) 71 106 true).run Tryz.prog w = .ok (.tuple #[.pointer none, .bool false]) w := by kernel_rfl
theorem as_quantile_count (v : Value) (w : World) : (Instr.typeAssert (.iface 103 v) 71 81 true).run Tryz.prog w = .ok (.tuple #[.pointer none, .bool false]) w := by kernel_rfl
theorem as_quantile_sum (v : Value) (w : World) : (Instr.typeAssert (.iface 103 v) 71 86 true).run Tryz.prog w = .ok (.tuple #[.pointer none, .bool false]) w := by kernel_rfl
theorem as_quantile_least (v : Value) (w : World) : (Instr.typeAssert (.iface 103 v) 71 90 true).run Tryz.prog w = .ok (.tuple #[.pointer none, .bool false]) w := by kernel_rfl
theorem as_quantile_greatest (v : Value) (w : World) : (Instr.typeAssert (.iface 103 v) 71 95 true).run Tryz.prog w = .ok (.tuple #[.pointer none, .bool false]) w := by kernel_rfl
theorem as_quantile_distinct (v : Value) (w : World) : (Instr.typeAssert (.iface 103 v) 71 98 true).run Tryz.prog w = .ok (.tuple #[.pointer none, .bool false]) w := by kernel_rfl
theorem as_quantile_quantile (v : Value) (w : World) : (Instr.typeAssert (.iface 103 v) 71 103 true).run Tryz.prog w = .ok (.tuple #[v, .bool true]) w := by kernel_rfl
theorem as_quantile_top (v : Value) (w : World) : (Instr.typeAssert (.iface 103 v) 71 106 true).run Tryz.prog w = .ok (.tuple #[.pointer none, .bool false]) w := by kernel_rfl
theorem as_top_count (v : Value) (w : World) : (Instr.typeAssert (.iface 106 v) 71 81 true).run Tryz.prog w = .ok (.tuple #[.pointer none, .bool false]) w := by kernel_rfl
theorem as_top_sum (v : Value) (w : World) : (Instr.typeAssert (.iface 106 v) 71 86 true).run Tryz.prog w = .ok (.tuple #[.pointer none, .bool false]) w := by kernel_rfl
theorem as_top_least (v : Value) (w : World) : (Instr.typeAssert (.iface 106 v) 71 90 true).run Tryz.prog w = .ok (.tuple #[.pointer none, .bool false]) w := by kernel_rfl
theorem as_top_greatest (v : Value) (w : World) : (Instr.typeAssert (.iface 106 v) 71 95 true).run Tryz.prog w = .ok (.tuple #[.pointer none, .bool false]) w := by kernel_rfl
theorem as_top_distinct (v : Value) (w : World) : (Instr.typeAssert (.iface 106 v) 71 98 true).run Tryz.prog w = .ok (.tuple #[.pointer none, .bool false]) w := by kernel_rfl
theorem as_top_quantile (v : Value) (w : World) : (Instr.typeAssert (.iface 106 v) 71 103 true).run Tryz.prog w = .ok (.tuple #[.pointer none, .bool false]) w := by kernel_rfl
theorem as_top_top (v : Value) (w : World) : (Instr.typeAssert (.iface 106 v) 71 106 true).run Tryz.prog w = .ok (.tuple #[v, .bool true]) w := by kernel_rfl
theorem as_none_count (w : World) : (Instr.typeAssert .nilIface 71 81 true).run Tryz.prog w = .ok (.tuple #[.pointer none, .bool false]) w := by kernel_rfl
theorem as_none_sum (w : World) : (Instr.typeAssert .nilIface 71 86 true).run Tryz.prog w = .ok (.tuple #[.pointer none, .bool false]) w := by kernel_rfl
theorem as_none_least (w : World) : (Instr.typeAssert .nilIface 71 90 true).run Tryz.prog w = .ok (.tuple #[.pointer none, .bool false]) w := by kernel_rfl
theorem as_none_greatest (w : World) : (Instr.typeAssert .nilIface 71 95 true).run Tryz.prog w = .ok (.tuple #[.pointer none, .bool false]) w := by kernel_rfl
theorem as_none_distinct (w : World) : (Instr.typeAssert .nilIface 71 98 true).run Tryz.prog w = .ok (.tuple #[.pointer none, .bool false]) w := by kernel_rfl
theorem as_none_quantile (w : World) : (Instr.typeAssert .nilIface 71 103 true).run Tryz.prog w = .ok (.tuple #[.pointer none, .bool false]) w := by kernel_rfl
theorem as_none_top (w : World) : (Instr.typeAssert .nilIface 71 106 true).run Tryz.prog w = .ok (.tuple #[.pointer none, .bool false]) w := by kernel_rfl
theorem m_count_take (v : Value) (w : World) : (method 375 81 v "talus/cell.take").run Tryz.prog w = .ok (157, v) w := by kernel_rfl
theorem m_count_merge (v : Value) (w : World) : (method 375 81 v "talus/cell.merge").run Tryz.prog w = .ok (156, v) w := by kernel_rfl
theorem m_sum_take (v : Value) (w : World) : (method 375 86 v "talus/cell.take").run Tryz.prog w = .ok (159, v) w := by kernel_rfl
theorem m_sum_merge (v : Value) (w : World) : (method 375 86 v "talus/cell.merge").run Tryz.prog w = .ok (158, v) w := by kernel_rfl
theorem m_least_take (v : Value) (w : World) : (method 375 90 v "talus/cell.take").run Tryz.prog w = .ok (165, v) w := by kernel_rfl
theorem m_least_merge (v : Value) (w : World) : (method 375 90 v "talus/cell.merge").run Tryz.prog w = .ok (164, v) w := by kernel_rfl
theorem m_greatest_take (v : Value) (w : World) : (method 375 95 v "talus/cell.take").run Tryz.prog w = .ok (173, v) w := by kernel_rfl
theorem m_greatest_merge (v : Value) (w : World) : (method 375 95 v "talus/cell.merge").run Tryz.prog w = .ok (172, v) w := by kernel_rfl
theorem m_distinct_take (v : Value) (w : World) : (method 375 98 v "talus/cell.take").run Tryz.prog w = .ok (175, v) w := by kernel_rfl
theorem m_distinct_merge (v : Value) (w : World) : (method 375 98 v "talus/cell.merge").run Tryz.prog w = .ok (174, v) w := by kernel_rfl
theorem m_quantile_take (v : Value) (w : World) : (method 375 103 v "talus/cell.take").run Tryz.prog w = .ok (192, v) w := by kernel_rfl
theorem m_quantile_merge (v : Value) (w : World) : (method 375 103 v "talus/cell.merge").run Tryz.prog w = .ok (191, v) w := by kernel_rfl
theorem m_top_take (v : Value) (w : World) : (method 375 106 v "talus/cell.take").run Tryz.prog w = .ok (220, v) w := by kernel_rfl
theorem m_top_merge (v : Value) (w : World) : (method 375 106 v "talus/cell.merge").run Tryz.prog w = .ok (219, v) w := by kernel_rfl

theorem below_c (w : World) (o : Obj) : Below w.heap.size w (w.alloc o) := (Below.refl _ _).alloc (Nat.le_refl _) o
/-- a pointer to a cell that no call made -/
def NoC (w : World) (x : Option Addr) : Prop := x = none ∨ ∃ b, x = some ⟨b, 0, none⟩ ∧ w.heap[b]? = some (.cells #[.slice none 0 0, .slice none 0 0, .int .i64 0, .slice none 0 0, .int .i64 0, .int .i64 0, .int .i64 0, .slice none 0 0] 53 (0, 0))
theorem NoC.below {w w' : World} {x : Option Addr} (h : NoC w x) (hb : Below w.heap.size w w') : NoC w' x := by
  rcases h with rfl | ⟨b, rfl, hc⟩
  · exact .inl rfl
  · exact .inr ⟨b, rfl, by rw [hb.block _ (lt_of_heap hc)]; exact hc⟩
theorem cmade_no {w : World} {x : Option Addr} (h : NoC w x) : Calls Tryz.prog 26 #[.pointer x] w fun e w' => e = .returned (.bool false) ∧ w = w' := by
  rcases h with rfl | ⟨b, rfl, hc⟩
  · go_enter Tryz.func26, Tryz.ntmps26
    go_wp2_with fail
    go_ret
    exact ⟨rfl, rfl⟩
  · have c2 : w.cell? ⟨b, 2, none⟩ = some (.int .i64 0) := by rw [cell_of_row _ _ _ _ _ _ hc]; rfl
    clear hc
    go_enter Tryz.func26, Tryz.ntmps26
    go_wp2_with fail
    go_ret
    exact ⟨rfl, rfl⟩
section
variable {w : World} {x : Option Addr}
theorem cstate_no (h : NoC w x) (i : Int) : Calls Tryz.prog 30 #[.pointer x, .int .i64 i] w fun e w' => e = .returned .nilIface ∧ w = w' := by
  have KM := cmade_no h
  clear h
  go_enter Tryz.func30, Tryz.ntmps30
  go_wp2_with fail
  refine KM.mono ?_
  rintro e w' ⟨rfl, rfl⟩
  clear KM
  go_wp2_with fail
  go_ret
  exact ⟨rfl, rfl⟩
theorem crows_no (h : NoC w x) : Calls Tryz.prog 11 #[.pointer x] w fun e w' => e = .returned (.int .i64 0) ∧ w = w' := by
  have KM := cmade_no h
  clear h
  go_enter Tryz.func11, Tryz.ntmps11
  go_wp2_with fail
  refine KM.mono ?_
  rintro e w' ⟨rfl, rfl⟩
  clear KM
  go_wp2_with fail
  go_ret
  exact ⟨rfl, rfl⟩
theorem ccopy_no (h : NoC w x) : Calls Tryz.prog 19 #[.pointer x] w fun e w' => e = .returned (.pointer none) ∧ w = w' := by
  have KM := cmade_no h
  clear h
  go_enter Tryz.func19, Tryz.ntmps19
  go_wp2_with fail
  refine KM.mono ?_
  rintro e w' ⟨rfl, rfl⟩
  clear KM
  go_wp2_with fail
  go_ret
  exact ⟨rfl, rfl⟩
theorem cadd_no (h : NoC w x) (a b : Value) : Calls Tryz.prog 9 #[.pointer x, a, b] w fun e w' => e = .returned (.int .i64 1) ∧ w = w' := by
  have KM := cmade_no h
  clear h
  go_enter Tryz.func9, Tryz.ntmps9
  go_wp2_with fail
  refine KM.mono ?_
  rintro e w' ⟨rfl, rfl⟩
  clear KM
  go_wp2_with fail
  go_ret
  exact ⟨rfl, rfl⟩
theorem cmerge_no (h : NoC w x) (y : Value) : Calls Tryz.prog 10 #[.pointer x, y] w fun e w' => e = .returned (.int .i64 1) ∧ w = w' := by
  have KM := cmade_no h
  clear h
  go_enter Tryz.func10, Tryz.ntmps10
  go_wp2_with fail
  refine KM.mono ?_
  rintro e w' ⟨rfl, rfl⟩
  clear KM
  go_wp2_with fail
  go_ret
  exact ⟨rfl, rfl⟩
theorem ccount_no (h : NoC w x) (i : Int) : Calls Tryz.prog 12 #[.pointer x, .int .i64 i] w fun e w' => e = .returned (.tuple #[.int .i64 0, .bool false]) ∧ Below w.heap.size w w' := by
  have KM := fun W (hb : Below w.heap.size w W) => cstate_no (h.below hb) i
  have KA := as_none_count
  have KM := Lib.hid KM
  clear h
  go_enter Tryz.func12, Tryz.ntmps12
  go_wp2_with fail
  refine (KM.out _ (by first | exact Below.refl _ _ | exact below_c _ _)).mono ?_
  rintro e w' ⟨rfl, rfl⟩
  clear KM
  go_wp2_with fail
  refine bodyPost_ret (v := .tuple #[.int .i64 0, .bool false]) ?_ rfl ⟨rfl, by first | exact Below.refl _ _ | exact below_c _ _⟩
  simp [results, Tryz.results12, go_sem]
theorem cdistinct_no (h : NoC w x) (i : Int) : Calls Tryz.prog 16 #[.pointer x, .int .i64 i] w fun e w' => e = .returned (.tuple #[.int .i64 0, .bool false]) ∧ Below w.heap.size w w' := by
  have KM := fun W (hb : Below w.heap.size w W) => cstate_no (h.below hb) i
  have KA := as_none_distinct
  have KM := Lib.hid KM
  clear h
  go_enter Tryz.func16, Tryz.ntmps16
  go_wp2_with fail
  refine (KM.out _ (by first | exact Below.refl _ _ | exact below_c _ _)).mono ?_
  rintro e w' ⟨rfl, rfl⟩
  clear KM
  go_wp2_with fail
  refine bodyPost_ret (v := .tuple #[.int .i64 0, .bool false]) ?_ rfl ⟨rfl, by first | exact Below.refl _ _ | exact below_c _ _⟩
  simp [results, Tryz.results16, go_sem]
theorem csum_no (h : NoC w x) (i : Int) : Calls Tryz.prog 13 #[.pointer x, .int .i64 i] w fun e w' => e = .returned (.tuple #[.agg #[.int .i64 0, .int .u64 0], .int .i64 0, .bool false]) ∧ Below w.heap.size w w' := by
  have KM := fun W (hb : Below w.heap.size w W) => cstate_no (h.below hb) i
  have KA := as_none_sum
  have KM := Lib.hid KM
  clear h
  go_enter Tryz.func13, Tryz.ntmps13
  go_wp2_with fail
  refine (KM.out _ (by first | exact Below.refl _ _ | exact below_c _ _)).mono ?_
  rintro e w' ⟨rfl, rfl⟩
  clear KM
  go_wp2_with fail
  refine bodyPost_ret (v := .tuple #[.agg #[.int .i64 0, .int .u64 0], .int .i64 0, .bool false]) ?_ rfl ⟨rfl, by first | exact Below.refl _ _ | exact below_c _ _⟩
  simp [results, Tryz.results13, go_sem]
theorem cleast_no (h : NoC w x) (i : Int) : Calls Tryz.prog 14 #[.pointer x, .int .i64 i] w fun e w' => e = .returned (.tuple #[vv 0 0 ⟨#[]⟩, .bool false]) ∧ Below w.heap.size w w' := by
  have KM := fun W (hb : Below w.heap.size w W) => cstate_no (h.below hb) i
  have KA := as_none_least
  have KM := Lib.hid KM
  clear h
  go_enter Tryz.func14, Tryz.ntmps14
  go_wp2_with fail
  refine (KM.out _ (by first | exact Below.refl _ _ | exact below_c _ _)).mono ?_
  rintro e w' ⟨rfl, rfl⟩
  clear KM
  go_wp2_with fail
  refine bodyPost_ret (v := .tuple #[vv 0 0 ⟨#[]⟩, .bool false]) ?_ rfl ⟨rfl, by first | exact Below.refl _ _ | exact below_c _ _⟩
  simp [results, Tryz.results14, go_sem]
theorem cgreatest_no (h : NoC w x) (i : Int) : Calls Tryz.prog 15 #[.pointer x, .int .i64 i] w fun e w' => e = .returned (.tuple #[vv 0 0 ⟨#[]⟩, .bool false]) ∧ Below w.heap.size w w' := by
  have KM := fun W (hb : Below w.heap.size w W) => cstate_no (h.below hb) i
  have KA := as_none_greatest
  have KM := Lib.hid KM
  clear h
  go_enter Tryz.func15, Tryz.ntmps15
  go_wp2_with fail
  refine (KM.out _ (by first | exact Below.refl _ _ | exact below_c _ _)).mono ?_
  rintro e w' ⟨rfl, rfl⟩
  clear KM
  go_wp2_with fail
  refine bodyPost_ret (v := .tuple #[vv 0 0 ⟨#[]⟩, .bool false]) ?_ rfl ⟨rfl, by first | exact Below.refl _ _ | exact below_c _ _⟩
  simp [results, Tryz.results15, go_sem]
theorem cquantile_no (h : NoC w x) (i : Int) (n : Int) : Calls Tryz.prog 17 #[.pointer x, .int .i64 i, .int .i64 n] w fun e w' => e = .returned (.tuple #[vv 0 0 ⟨#[]⟩, .bool false]) ∧ Below w.heap.size w w' := by
  have KM := fun W (hb : Below w.heap.size w W) => cstate_no (h.below hb) i
  have KA := as_none_quantile
  have KM := Lib.hid KM
  clear h
  go_enter Tryz.func17, Tryz.ntmps17
  go_wp2_with fail
  refine (KM.out _ (by first | exact Below.refl _ _ | exact below_c _ _)).mono ?_
  rintro e w' ⟨rfl, rfl⟩
  clear KM
  go_wp2_with fail
  refine bodyPost_ret (v := .tuple #[vv 0 0 ⟨#[]⟩, .bool false]) ?_ rfl ⟨rfl, by first | exact Below.refl _ _ | exact below_c _ _⟩
  simp [results, Tryz.results17, go_sem]
theorem ctop_no (h : NoC w x) (i : Int) (n : Int) : Calls Tryz.prog 18 #[.pointer x, .int .i64 i, .int .i64 n] w fun e w' => e = .returned (.tuple #[.slice none 0 0, .bool false]) ∧ Below w.heap.size w w' := by
  have KM := fun W (hb : Below w.heap.size w W) => cstate_no (h.below hb) i
  have KA := as_none_top
  have KM := Lib.hid KM
  clear h
  go_enter Tryz.func18, Tryz.ntmps18
  go_wp2_with fail
  refine (KM.out _ (by first | exact Below.refl _ _ | exact below_c _ _)).mono ?_
  rintro e w' ⟨rfl, rfl⟩
  clear KM
  go_wp2_with fail
  refine bodyPost_ret (v := .tuple #[.slice none 0 0, .bool false]) ?_ rfl ⟨rfl, by first | exact Below.refl _ _ | exact below_c _ _⟩
  simp [results, Tryz.results18, go_sem]
end
end Go.Proofs.YtfoeodiijbdbeaaGreat
