/- Package cell: which state an interface value has, its methods, and the calls of a cell that no call made. Conditions: none, or such a cell. -/
import Derived.Test.YtlhpbfjelgmkeaaGreatKmvEst
import Derived.Test.YtlhpbfjelgmkeaaGreatThings
import Derived.Test.YtlhpbfjelgmkeaaGreatSched2
import Derived.Test.YtlhpbfjelgmkeaaGreatValC
set_option maxRecDepth 100000
namespace Go.Proofs.YtlhpbfjelgmkeaaGreat
open Go.RowKit Go.Maps Go.Sort Go.Lib

theorem as_count_count (v : Value) (w : World) : (Instr.typeAssert (.iface 107 v) 97 107 true).run Tryz.prog w = .ok (.tuple #[v, .bool true]) w := by kernel_rfl
theorem as_count_sum (v : Value) (w : World) : (Instr.typeAssert (.iface 107 v) 97 112 true).run Tryz.prog w = .ok (.tuple #[.pointer none, .bool false]) w := by kernel_rfl
theorem as_count_least (v : Value) (w : World) : (Instr.typeAssert (.iface 107 v) 97 116 true).run Tryz.prog w = .ok (.tuple #[.pointer none, .bool false]) w := by kernel_rfl
theorem as_count_greatest (v : Value) (w : World) : (Instr.typeAssert (.iface 107 v) 97 121 true).run Tryz.prog w = .ok (.tuple #[.pointer none, .bool false]) w := by kernel_rfl
theorem as_count_distinct (v : Value) (w : World) : (Instr.typeAssert (.iface 107 v) 97 124 true).run Tryz.prog w = .ok (.tuple #[.pointer none, .bool false]) w := by kernel_rfl
theorem as_count_quantile (v : Value) (w : World) : (Instr.typeAssert (.iface 107 v) 97 150 true).run Tryz.prog w = .ok (.tuple #[.pointer none, .bool false]) w := by kernel_rfl
theorem as_count_top (v : Value) (w : World) : (Instr.typeAssert (.iface 107 v) 97 155 true).run Tryz.prog w = .ok (.tuple #[.pointer none, .bool false]) w := by kernel_rfl
theorem as_sum_count (v : Value) (w : World) : (Instr.typeAssert (.iface 112 v) 97 107 true).run Tryz.prog w = .ok (.tuple #[.pointer none, .bool false]) w := by kernel_rfl
theorem as_sum_sum (v : Value) (w : World) : (Instr.typeAssert (.iface 112 v) 97 112 true).run Tryz.prog w = .ok (.tuple #[v, .bool true]) w := by kernel_rfl
theorem as_sum_least (v : Value) (w : World) : (Instr.typeAssert (.iface 112 v) 97 116 true).run Tryz.prog w = .ok (.tuple #[.pointer none, .bool false]) w := by kernel_rfl
theorem as_sum_greatest (v : Value) (w : World) : (Instr.typeAssert (.iface 112 v) 97 121 true).run Tryz.prog w = .ok (.tuple #[.pointer none, .bool false]) w := by kernel_rfl
theorem as_sum_distinct (v : Value) (w : World) : (Instr.typeAssert (.iface 112 v) 97 124 true).run Tryz.prog w = .ok (.tuple #[.pointer none, .bool false]) w := by kernel_rfl
theorem as_sum_quantile (v : Value) (w : World) : (Instr.typeAssert (.iface 112 v) 97 150 true).run Tryz.prog w = .ok (.tuple #[.pointer none, .bool false]) w := by kernel_rfl
theorem as_sum_top (v : Value) (w : World) : (Instr.typeAssert (.iface 112 v) 97 155 true).run Tryz.prog w = .ok (.tuple #[.pointer none, .bool false]) w := by kernel_rfl
theorem as_least_count (v : Value) (w : World) : (Instr.typeAssert (.iface 116 v) 97 107 true).run Tryz.prog w = .ok (.tuple #[.pointer none, .bool false]) w := by kernel_rfl
theorem as_least_sum (v : Value) (w : World) : (Instr.typeAssert (.iface 116 v) 97 112 true).run Tryz.prog w = .ok (.tuple #[.pointer none, .bool false]) w := by kernel_rfl
theorem as_least_least (v : Value) (w : World) : (Instr.typeAssert (.iface 116 v) 97 116 true).run Tryz.prog w = .ok (.tuple #[v, .bool true]) w := by kernel_rfl
theorem as_least_greatest (v : Value) (w : World) : (Instr.typeAssert (.iface 116 v) 97 121 true).run Tryz.prog w = .ok (.tuple #[.pointer none, .bool false]) w := by kernel_rfl
theorem as_least_distinct (v : Value) (w : World) : (Instr.typeAssert (.iface 116 v) 97 124 true).run Tryz.prog w = .ok (.tuple #[.pointer none, .bool false]) w := by kernel_rfl
theorem as_least_quantile (v : Value) (w : World) : (Instr.typeAssert (.iface 116 v) 97 150 true).run Tryz.prog w = .ok (.tuple #[.pointer none, .bool false]) w := by kernel_rfl
theorem as_least_top (v : Value) (w : World) : (Instr.typeAssert (.iface 116 v) 97 155 true).run Tryz.prog w = .ok (.tuple #[.pointer none, .bool false]) w := by kernel_rfl
theorem as_greatest_count (v : Value) (w : World) : (Instr.typeAssert (.iface 121 v) 97 107 true).run Tryz.prog w = .ok (.tuple #[.pointer none, .bool false]) w := by kernel_rfl
theorem as_greatest_sum (v : Value) (w : World) : (Instr.typeAssert (.iface 121 v) 97 112 true).run Tryz.prog w = .ok (.tuple #[.pointer none, .bool false]) w := by kernel_rfl
theorem as_greatest_least (v : Value) (w : World) : (Instr.typeAssert (.iface 121 v) 97 116 true).run Tryz.prog w = .ok (.tuple #[.pointer none, .bool false]) w := by kernel_rfl
theorem as_greatest_greatest (v : Value) (w : World) : (Instr.typeAssert (.iface 121 v) 97 121 true).run Tryz.prog w = .ok (.tuple #[v, .bool true]) w := by kernel_rfl
theorem as_greatest_distinct (v : Value) (w : World) : (Instr.typeAssert (.iface 121 v) 97 124 true).run Tryz.prog w = .ok (.tuple #[.pointer none, .bool false]) w := by kernel_rfl
theorem as_greatest_quantile (v : Value) (w : World) : (Instr.typeAssert (.iface 121 v) 97 150 true).run Tryz.prog w = .ok (.tuple #[.pointer none, .bool false]) w := by kernel_rfl
theorem as_greatest_top (v : Value) (w : World) : (Instr.typeAssert (.iface 121 v) 97 155 true).run Tryz.prog w = .ok (.tuple #[.pointer none, .bool false]) w := by kernel_rfl
theorem as_distinct_count (v : Value) (w : World) : (Instr.typeAssert (.iface 124 v) 97 107 true).run Tryz.prog w = .ok (.tuple #[.pointer none, .bool false]) w := by kernel_rfl
theorem as_distinct_sum (v : Value) (w : World) : (Instr.typeAssert (.iface 124 v) 97 112 true).run Tryz.prog w = .ok (.tuple #[.pointer none, .bool false]) w := by kernel_rfl
theorem as_distinct_least (v : Value) (w : World) : (Instr.typeAssert (.iface 124 v) 97 116 true).run Tryz.prog w = .ok (.tuple #[.pointer none, .bool false]) w := by kernel_rfl
theorem as_distinct_greatest (v : Value) (w : World) : (Instr.typeAssert (.iface 124 v) 97 121 true).run Tryz.prog w = .ok (.tuple #[.pointer none, .bool false]) w := by kernel_rfl
theorem as_distinct_distinct (v : Value) (w : World) : (Instr.typeAssert (.iface 124 v) 97 124 true).run Tryz.prog w = .ok (.tuple #[v, .bool true]) w := by kernel_rfl
theorem as_distinct_quantile (v : Value) (w : World) : (Instr.typeAssert (.iface 124 v) 97 150 true).run Tryz.prog w = .ok (.tuple #[.pointer none, .bool false]) w := by kernel_rfl
theorem as_distinct_top (v : Value) (w : World) : (Instr.typeAssert (.iface 124 v) 97 155 true).run Tryz.prog w = .ok (.tuple #[.pointer none, .bool false]) w := by kernel_rfl
theorem as_quantile_count (v : Value) (w : World) : (Instr.typeAssert (.iface 150 v) 97 107 true).run Tryz.prog w = .ok (.tuple #[.pointer none, .bool false]) w := by kernel_rfl
theorem as_quantile_sum (v : Value) (w : World) : (Instr.typeAssert (.iface 150 v) 97 112 true).run Tryz.prog w = .ok (.tuple #[.pointer none, .bool false]) w := by kernel_rfl
theorem as_quantile_least (v : Value) (w : World) : (Instr.typeAssert (.iface 150 v) 97 116 true).run Tryz.prog w = .ok (.tuple #[.pointer none, .bool false]) w := by kernel_rfl
theorem as_quantile_greatest (v : Value) (w : World) : (Instr.typeAssert (.iface 150 v) 97 121 true).run Tryz.prog w = .ok (.tuple #[.pointer none, .bool false]) w := by kernel_rfl
theorem as_quantile_distinct (v : Value) (w : World) : (Instr.typeAssert (.iface 150 v) 97 124 true).run Tryz.prog w = .ok (.tuple #[.pointer none, .bool false]) w := by kernel_rfl
theorem as_quantile_quantile (v : Value) (w : World) : (Instr.typeAssert (.iface 150 v) 97 150 true).run Tryz.prog w = .ok (.tuple #[v, .bool true]) w := by kernel_rfl
theorem as_quantile_top (v : Value) (w : World) : (Instr.typeAssert (.iface 150 v) 97 155 true).run Tryz.prog w = .ok (.tuple #[.pointer none, .bool false]) w := by kernel_rfl
theorem as_top_count (v : Value) (w : World) : (Instr.typeAssert (.iface 155 v) 97 107 true).run Tryz.prog w = .ok (.tuple #[.pointer none, .bool false]) w := by kernel_rfl
theorem as_top_sum (v : Value) (w : World) : (Instr.typeAssert (.iface 155 v) 97 112 true).run Tryz.prog w = .ok (.tuple #[.pointer none, .bool false]) w := by kernel_rfl
theorem as_top_least (v : Value) (w : World) : (Instr.typeAssert (.iface 155 v) 97 116 true).run Tryz.prog w = .ok (.tuple #[.pointer none, .bool false]) w := by kernel_rfl
theorem as_top_greatest (v : Value) (w : World) : (Instr.typeAssert (.iface 155 v) 97 121 true).run Tryz.prog w = .ok (.tuple #[.pointer none, .bool false]) w := by kernel_rfl
theorem as_top_distinct (v : Value) (w : World) : (Instr.typeAssert (.iface 155 v) 97 124 true).run Tryz.prog w = .ok (.tuple #[.pointer none, .bool false]) w := by kernel_rfl
theorem as_top_quantile (v : Value) (w : World) : (Instr.typeAssert (.iface 155 v) 97 150 true).run Tryz.prog w = .ok (.tuple #[.pointer none, .bool false]) w := by kernel_rfl
theorem as_top_top (v : Value) (w : World) : (Instr.typeAssert (.iface 155 v) 97 155 true).run Tryz.prog w = .ok (.tuple #[v, .bool true]) w := by kernel_rfl
theorem as_none_count (w : World) : (Instr.typeAssert .nilIface 97 107 true).run Tryz.prog w = .ok (.tuple #[.pointer none, .bool false]) w := by kernel_rfl
theorem as_none_sum (w : World) : (Instr.typeAssert .nilIface 97 112 true).run Tryz.prog w = .ok (.tuple #[.pointer none, .bool false]) w := by kernel_rfl
theorem as_none_least (w : World) : (Instr.typeAssert .nilIface 97 116 true).run Tryz.prog w = .ok (.tuple #[.pointer none, .bool false]) w := by kernel_rfl
theorem as_none_greatest (w : World) : (Instr.typeAssert .nilIface 97 121 true).run Tryz.prog w = .ok (.tuple #[.pointer none, .bool false]) w := by kernel_rfl
theorem as_none_distinct (w : World) : (Instr.typeAssert .nilIface 97 124 true).run Tryz.prog w = .ok (.tuple #[.pointer none, .bool false]) w := by kernel_rfl
theorem as_none_quantile (w : World) : (Instr.typeAssert .nilIface 97 150 true).run Tryz.prog w = .ok (.tuple #[.pointer none, .bool false]) w := by kernel_rfl
theorem as_none_top (w : World) : (Instr.typeAssert .nilIface 97 155 true).run Tryz.prog w = .ok (.tuple #[.pointer none, .bool false]) w := by kernel_rfl
theorem m_count_take (v : Value) (w : World) : (method 501 107 v "talus/cell.take").run Tryz.prog w = .ok (194, v) w := by kernel_rfl
theorem m_count_merge (v : Value) (w : World) : (method 501 107 v "talus/cell.merge").run Tryz.prog w = .ok (193, v) w := by kernel_rfl
theorem m_sum_take (v : Value) (w : World) : (method 501 112 v "talus/cell.take").run Tryz.prog w = .ok (196, v) w := by kernel_rfl
theorem m_sum_merge (v : Value) (w : World) : (method 501 112 v "talus/cell.merge").run Tryz.prog w = .ok (195, v) w := by kernel_rfl
theorem m_least_take (v : Value) (w : World) : (method 501 116 v "talus/cell.take").run Tryz.prog w = .ok (202, v) w := by kernel_rfl
theorem m_least_merge (v : Value) (w : World) : (method 501 116 v "talus/cell.merge").run Tryz.prog w = .ok (201, v) w := by kernel_rfl
theorem m_greatest_take (v : Value) (w : World) : (method 501 121 v "talus/cell.take").run Tryz.prog w = .ok (204, v) w := by kernel_rfl
theorem m_greatest_merge (v : Value) (w : World) : (method 501 121 v "talus/cell.merge").run Tryz.prog w = .ok (203, v) w := by kernel_rfl
theorem m_distinct_take (v : Value) (w : World) : (method 501 124 v "talus/cell.take").run Tryz.prog w = .ok (206, v) w := by kernel_rfl
theorem m_distinct_merge (v : Value) (w : World) : (method 501 124 v "talus/cell.merge").run Tryz.prog w = .ok (205, v) w := by kernel_rfl
theorem m_quantile_take (v : Value) (w : World) : (method 501 150 v "talus/cell.take").run Tryz.prog w = .ok (223, v) w := by kernel_rfl
theorem m_quantile_merge (v : Value) (w : World) : (method 501 150 v "talus/cell.merge").run Tryz.prog w = .ok (222, v) w := by kernel_rfl
theorem m_top_take (v : Value) (w : World) : (method 501 155 v "talus/cell.take").run Tryz.prog w = .ok (276, v) w := by kernel_rfl
theorem m_top_merge (v : Value) (w : World) : (method 501 155 v "talus/cell.merge").run Tryz.prog w = .ok (275, v) w := by kernel_rfl

theorem below_c (w : World) (o : Obj) : Below w.heap.size w (w.alloc o) := (Below.refl _ _).alloc (Nat.le_refl _) o
/-- a pointer to a cell that no call made -/
def NoC (w : World) (x : Option Addr) : Prop := x = none ∨ ∃ b, x = some ⟨b, 0, none⟩ ∧ w.heap[b]? = some (.cells #[.slice none 0 0, .slice none 0 0, .int .i64 0, .slice none 0 0, .int .i64 0, .int .i64 0, .int .i64 0, .slice none 0 0] 92 (0, 0))
theorem NoC.below {w w' : World} {x : Option Addr} (h : NoC w x) (hb : Below w.heap.size w w') : NoC w' x := by
  rcases h with rfl | ⟨b, rfl, hc⟩
  · exact .inl rfl
  · exact .inr ⟨b, rfl, by rw [hb.block _ (lt_of_heap hc)]; exact hc⟩
theorem cmade_no {w : World} {x : Option Addr} (h : NoC w x) : Calls Tryz.prog 36 #[.pointer x] w fun e w' => e = .returned (.bool false) ∧ w = w' := by
  rcases h with rfl | ⟨b, rfl, hc⟩
  · go_enter Tryz.func36, Tryz.ntmps36
    go_wp2_with fail
    go_ret
    exact ⟨rfl, rfl⟩
  · have c2 : w.cell? ⟨b, 2, none⟩ = some (.int .i64 0) := by rw [cell_of_row _ _ _ _ _ _ hc]; rfl
    clear hc
    go_enter Tryz.func36, Tryz.ntmps36
    go_wp2_with fail
    go_ret
    exact ⟨rfl, rfl⟩
section
variable {w : World} {x : Option Addr}
theorem cstate_no (h : NoC w x) (i : Int) : Calls Tryz.prog 40 #[.pointer x, .int .i64 i] w fun e w' => e = .returned .nilIface ∧ w = w' := by
  have KM := cmade_no h
  clear h
  go_enter Tryz.func40, Tryz.ntmps40
  go_wp2_with fail
  refine KM.mono ?_
  rintro e w' ⟨rfl, rfl⟩
  clear KM
  go_wp2_with fail
  go_ret
  exact ⟨rfl, rfl⟩
theorem crows_no (h : NoC w x) : Calls Tryz.prog 14 #[.pointer x] w fun e w' => e = .returned (.int .i64 0) ∧ w = w' := by
  have KM := cmade_no h
  clear h
  go_enter Tryz.func14, Tryz.ntmps14
  go_wp2_with fail
  refine KM.mono ?_
  rintro e w' ⟨rfl, rfl⟩
  clear KM
  go_wp2_with fail
  go_ret
  exact ⟨rfl, rfl⟩
theorem ccopy_no (h : NoC w x) : Calls Tryz.prog 20 #[.pointer x] w fun e w' => e = .returned (.pointer none) ∧ w = w' := by
  have KM := cmade_no h
  clear h
  go_enter Tryz.func20, Tryz.ntmps20
  go_wp2_with fail
  refine KM.mono ?_
  rintro e w' ⟨rfl, rfl⟩
  clear KM
  go_wp2_with fail
  go_ret
  exact ⟨rfl, rfl⟩
theorem cadd_no (h : NoC w x) (a b : Value) : Calls Tryz.prog 12 #[.pointer x, a, b] w fun e w' => e = .returned (.int .i64 1) ∧ w = w' := by
  have KM := cmade_no h
  clear h
  go_enter Tryz.func12, Tryz.ntmps12
  go_wp2_with fail
  refine KM.mono ?_
  rintro e w' ⟨rfl, rfl⟩
  clear KM
  go_wp2_with fail
  go_ret
  exact ⟨rfl, rfl⟩
theorem cmerge_no (h : NoC w x) (y : Value) : Calls Tryz.prog 13 #[.pointer x, y] w fun e w' => e = .returned (.int .i64 1) ∧ w = w' := by
  have KM := cmade_no h
  clear h
  go_enter Tryz.func13, Tryz.ntmps13
  go_wp2_with fail
  refine KM.mono ?_
  rintro e w' ⟨rfl, rfl⟩
  clear KM
  go_wp2_with fail
  go_ret
  exact ⟨rfl, rfl⟩
theorem ccount_no (h : NoC w x) (i : Int) : Calls Tryz.prog 15 #[.pointer x, .int .i64 i] w fun e w' => e = .returned (.tuple #[.int .i64 0, .bool false]) ∧ Below w.heap.size w w' := by
  have KM := fun W (hb : Below w.heap.size w W) => cstate_no (h.below hb) i
  have KA := as_none_count
  have KM := Lib.hid KM
  clear h
  go_enter Tryz.func15, Tryz.ntmps15
  go_wp2_with fail
  refine (KM.out _ (by first | exact Below.refl _ _ | exact below_c _ _)).mono ?_
  rintro e w' ⟨rfl, rfl⟩
  clear KM
  go_wp2_with fail
  refine bodyPost_ret (v := .tuple #[.int .i64 0, .bool false]) ?_ rfl ⟨rfl, by first | exact Below.refl _ _ | exact below_c _ _⟩
  simp [results, Tryz.results15, go_sem]
theorem cdistinct_no (h : NoC w x) (i : Int) : Calls Tryz.prog 19 #[.pointer x, .int .i64 i] w fun e w' => e = .returned (.tuple #[.int .i64 0, .bool false]) ∧ Below w.heap.size w w' := by
  have KM := fun W (hb : Below w.heap.size w W) => cstate_no (h.below hb) i
  have KA := as_none_distinct
  have KM := Lib.hid KM
  clear h
  go_enter Tryz.func19, Tryz.ntmps19
  go_wp2_with fail
  refine (KM.out _ (by first | exact Below.refl _ _ | exact below_c _ _)).mono ?_
  rintro e w' ⟨rfl, rfl⟩
  clear KM
  go_wp2_with fail
  refine bodyPost_ret (v := .tuple #[.int .i64 0, .bool false]) ?_ rfl ⟨rfl, by first | exact Below.refl _ _ | exact below_c _ _⟩
  simp [results, Tryz.results19, go_sem]
theorem csum_no (h : NoC w x) (i : Int) : Calls Tryz.prog 16 #[.pointer x, .int .i64 i] w fun e w' => e = .returned (.tuple #[.agg #[.int .i64 0, .int .u64 0], .int .i64 0, .bool false]) ∧ Below w.heap.size w w' := by
  have KM := fun W (hb : Below w.heap.size w W) => cstate_no (h.below hb) i
  have KA := as_none_sum
  have KM := Lib.hid KM
  clear h
  go_enter Tryz.func16, Tryz.ntmps16
  go_wp2_with fail
  refine (KM.out _ (by first | exact Below.refl _ _ | exact below_c _ _)).mono ?_
  rintro e w' ⟨rfl, rfl⟩
  clear KM
  go_wp2_with fail
  refine bodyPost_ret (v := .tuple #[.agg #[.int .i64 0, .int .u64 0], .int .i64 0, .bool false]) ?_ rfl ⟨rfl, by first | exact Below.refl _ _ | exact below_c _ _⟩
  simp [results, Tryz.results16, go_sem]
theorem cleast_no (h : NoC w x) (i : Int) : Calls Tryz.prog 17 #[.pointer x, .int .i64 i] w fun e w' => e = .returned (.tuple #[vv 0 0 ⟨#[]⟩, .bool false]) ∧ Below w.heap.size w w' := by
  have KM := fun W (hb : Below w.heap.size w W) => cstate_no (h.below hb) i
  have KA := as_none_least
  have KM := Lib.hid KM
  clear h
  go_enter Tryz.func17, Tryz.ntmps17
  go_wp2_with fail
  refine (KM.out _ (by first | exact Below.refl _ _ | exact below_c _ _)).mono ?_
  rintro e w' ⟨rfl, rfl⟩
  clear KM
  go_wp2_with fail
  refine bodyPost_ret (v := .tuple #[vv 0 0 ⟨#[]⟩, .bool false]) ?_ rfl ⟨rfl, by first | exact Below.refl _ _ | exact below_c _ _⟩
  simp [results, Tryz.results17, go_sem]
theorem cgreatest_no (h : NoC w x) (i : Int) : Calls Tryz.prog 18 #[.pointer x, .int .i64 i] w fun e w' => e = .returned (.tuple #[vv 0 0 ⟨#[]⟩, .bool false]) ∧ Below w.heap.size w w' := by
  have KM := fun W (hb : Below w.heap.size w W) => cstate_no (h.below hb) i
  have KA := as_none_greatest
  have KM := Lib.hid KM
  clear h
  go_enter Tryz.func18, Tryz.ntmps18
  go_wp2_with fail
  refine (KM.out _ (by first | exact Below.refl _ _ | exact below_c _ _)).mono ?_
  rintro e w' ⟨rfl, rfl⟩
  clear KM
  go_wp2_with fail
  refine bodyPost_ret (v := .tuple #[vv 0 0 ⟨#[]⟩, .bool false]) ?_ rfl ⟨rfl, by first | exact Below.refl _ _ | exact below_c _ _⟩
  simp [results, Tryz.results18, go_sem]
end
end Go.Proofs.YtlhpbfjelgmkeaaGreat
