/- The texts CelA Push CelQt CelB CelC CelCq CelD Hold2 CelE, one behind the other; each one's own comment says what it holds. -/
import Derived.Test.YtlhpbfjelgmkeaaGreatCellCopiesRowGA
import Derived.Test.YtlhpbfjelgmkeaaGreatThings
import Derived.Test.YtlhpbfjelgmkeaaGreatCellCopiesRowGB
import Derived.Test.YtlhpbfjelgmkeaaGreatValC
import Derived.Test.YtlhpbfjelgmkeaaGreatGen
import Derived.Maps.AppendAt
import Derived.Test.YtlhpbfjelgmkeaaGreatCellCopiesRowGG
import Derived.Test.YtlhpbfjelgmkeaaGreatCellCopiesRowGH
import Derived.Test.YtlhpbfjelgmkeaaGreatCellCopiesRowGD
import Derived.Test.YtlhpbfjelgmkeaaGreatOrderB
/- Package cell: which state an interface value has, its methods, and the calls of a cell that no call made. Conditions: none, or such a cell. -/
set_option maxRecDepth 100000
namespace Go.Proofs.YtlhpbfjelgmkeaaGreat
open Go.RowKit Go.Maps Go.Sort Go.Lib

theorem as_count_count (v : Value) (w : World) : (Instr.typeAssert (.iface 107 v) 97 107 true).run Tryz.prog w = .ok (.tuple #[v, .bool true]) w := by kernel_rfl
theorem as_count_sum (v : Value) (w : World) : (Instr.typeAssert (.iface 107 v) 97 112 true).run Tryz.prog w = .ok (.tuple #[.pointer none, .bool false]) w := by kernel_rfl
theorem as_count_least (v : Value) (w : World) : (Instr.typeAssert (.iface 107 v) 97 116 true).run Tryz.prog w = .ok (.tuple #[.pointer none, .bool false]) w := by kernel_rfl
theorem as_count_greatest (v : Value) (w : World) : (Instr.typeAssert (.iface 107 v) 97 121 true).run Tryz.prog w = .ok (.tuple #[.pointer none, .bool false]) w := by kernel_rfl
theorem as_count_distinct (v : Value) (w : World) : (Instr.typeAssert (.iface 107 v) 97 124 true).run Tryz.prog w = .ok (.tuple #[.pointer none, .bool false]) w := by kernel_rfl
theorem as_count_quantile (v : Value) (w : World) : (Instr.typeAssert (.iface 107 v) 97 150 true).run Tryz.prog w = .ok (.tuple #[.pointer none, .bool false]) w := by kernel_rfl
theorem as_count_top (v : Value) (w : World) : (Instr.typeAssert (.iface 107 v) 97 155 true).run Tryz.prog w = .ok (.tuple #[.pointer none, .bool false]) w := by kernel_rfl
theorem as_sum_count (v : Value) (w : World) : (Instr.typeAssert (.iface 112 v) 97 107 true).run Tryz.prog w = .ok (.tuple #[.pointer none, .bool false]) w := by kernel_rfl
theorem as_sum_sum (v : Value) (w : World) : (Instr.typeAssert (.iface 112 v) 97 112 true).run Tryz.prog w = .ok (.tuple #[v, .bool true]) w := by kernel_rfl
theorem as_sum_least (v : Value) (w : World) : (Instr.typeAssert (.iface 112 v) 97 116 true).run Tryz.prog w = .ok (.tuple #[.pointer none, .bool false]) w := by kernel_rfl
theorem as_sum_greatest (v : Value) (w : World) : (Instr.typeAssert (.iface 112 v) 97 121 true).run Tryz.prog w = .ok (.tuple #[.pointer none, .bool false]) w := by kernel_rfl
theorem as_sum_distinct (v : Value) (w : World) : (Instr.typeAssert (.iface 112 v) 97 124 true).run Tryz.prog w = .ok (.tuple #[.pointer none, .bool false]) w := by kernel_rfl
theorem as_sum_quantile (v : Value) (w : World) : (Instr.typeAssert (.iface 112 v) 97 150 true).run Tryz.prog w = .ok (.tuple #[.pointer none, .bool false]) w := by kernel_rfl
theorem as_sum_top (v : Value) (w : World) : (Instr.typeAssert (.iface 112 v) 97 155 true).run Tryz.prog w = .ok (.tuple #[.pointer none, .bool false]) w := by kernel_rfl
theorem as_least_count (v : Value) (w : World) : (Instr.typeAssert (.iface 116 v) 97 107 true).run Tryz.prog w = .ok (.tuple #[.pointer none, .bool false]) w := by kernel_rfl
theorem as_least_sum (v : Value) (w : World) : (Instr.typeAssert (.iface 116 v) 97 112 true).run Tryz.prog w = .ok (.tuple #[.pointer none, .bool false]) w := by kernel_rfl
theorem as_least_least (v : Value) (w : World) : (Instr.typeAssert (.iface 116 v) 97 116 true).run Tryz.prog w = .ok (.tuple #[v, .bool true]) w := by kernel_rfl
theorem as_least_greatest (v : Value) (w : World) : (Instr.typeAssert (.iface 116 v) 97 121 true).run Tryz.prog w = .ok (.tuple #[.pointer none, .bool false]) w := by kernel_rfl
theorem as_least_distinct (v : Value) (w : World) : (Instr.typeAssert (.iface 116 v) 97 124 true).run Tryz.prog w = .ok (.tuple #[.pointer none, .bool false]) w := by kernel_rfl
theorem as_least_quantile (v : Value) (w : World) : (Instr.typeAssert (.iface 116 v) 97 150 true).run Tryz.prog w = .ok (.tuple #[.pointer none, .bool false]) w := by kernel_rfl
theorem as_least_top (v : Value) (w : World) : (Instr.typeAssert (.iface 116 v) 97 155 true).run Tryz.prog w = .ok (.tuple #[.pointer none, .bool false]) w := by kernel_rfl
theorem as_greatest_count (v : Value) (w : World) : (Instr.typeAssert (.iface 121 v) 97 107 true).run Tryz.prog w = .ok (.tuple #[.pointer none, .bool false]) w := by kernel_rfl
theorem as_greatest_sum (v : Value) (w : World) : (Instr.typeAssert (.iface 121 v) 97 112 true).run Tryz.prog w = .ok (.tuple #[.pointer none, .bool false]) w := by kernel_rfl
theorem as_greatest_least (v : Value) (w : World) : (Instr.typeAssert (.iface 121 v) 97 116 true).run Tryz.prog w = .ok (.tuple #[.pointer none, .bool false]) w := by kernel_rfl
theorem as_greatest_greatest (v : Value) (w : World) : (Instr.typeAssert (.iface 121 v) 97 121 true).run Tryz.prog w = .ok (.tuple #[v, .bool true]) w := by kernel_rfl
theorem as_greatest_distinct (v : Value) (w : World) : (Instr.typeAssert (.iface 121 v) 97 124 true).run Tryz.prog w = .ok (.tuple #[.pointer none, .bool false]) w := by kernel_rfl
theorem as_greatest_quantile (v : Value) (w : World) : (Instr.typeAssert (.iface 121 v) 97 150 true).run Tryz.prog w = .ok (.tuple #[.pointer none, .bool false]) w := by kernel_rfl
theorem as_greatest_top (v : Value) (w : World) : (Instr.typeAssert (.iface 121 v) 97 155 true).run Tryz.prog w = .ok (.tuple #[.pointer none, .bool false]) w := by kernel_rfl
theorem as_distinct_count (v : Value) (w : World) : (Instr.typeAssert (.iface 124 v) 97 107 true).run Tryz.prog w = .ok (.tuple #[.pointer none, .bool false]) w := by kernel_rfl
theorem as_distinct_sum (v : Value) (w : World) : (Instr.typeAssert (.iface 124 v) 97 112 true).run Tryz.prog w = .ok (.tuple #[.pointer none, .bool false]) w := by kernel_rfl
theorem as_distinct_least (v : Value) (w : World) : (Instr.typeAssert (.iface 124 v) 97 116 true).run Tryz.prog w = .ok (.tuple #[.pointer none, .bool false]) w := by kernel_rfl
theorem as_distinct_greatest (v : Value) (w : World) : (Instr.typeAssert (.iface 124 v) 97 121 true).run Tryz.prog w = .ok (.tuple #[.pointer none, .bool false]) w := by kernel_rfl
theorem as_distinct_distinct (v : Value) (w : World) : (Instr.typeAssert (.iface 124 v) 97 124 true).run Tryz.prog w = .ok (.tuple #[v, .bool true]) w := by kernel_rfl
theorem as_distinct_quantile (v : Value) (w : World) : (Instr.typeAssert (.iface 124 v) 97 150 true).run Tryz.prog w = .ok (.tuple #[.pointer none, .bool false]) w := by kernel_rfl
theorem as_distinct_top (v : Value) (w : World) : (Instr.typeAssert (.iface 124 v) 97 155 true).run Tryz.prog w = .ok (.tuple #[.pointer none, .bool false]) w := by kernel_rfl
theorem as_quantile_count (v : Value) (w : World) : (Instr.typeAssert (.iface 150 v) 97 107 true).run Tryz.prog w = .ok (.tuple #[.pointer none, .bool false]) w := by kernel_rfl
theorem as_quantile_sum (v : Value) (w : World) : (Instr.typeAssert (.iface 150 v) 97 112 true).run Tryz.prog w = .ok (.tuple #[.pointer none, .bool false]) w := by kernel_rfl
theorem as_quantile_least (v : Value) (w : World) : (Instr.typeAssert (.iface 150 v) 97 116 true).run Tryz.prog w = .ok (.tuple #[.pointer none, .bool false]) w := by kernel_rfl
theorem as_quantile_greatest (v : Value) (w : World) : (Instr.typeAssert (.iface 150 v) 97 121 true).run Tryz.prog w = .ok (.tuple #[.pointer none, .bool false]) w := by kernel_rfl
theorem as_quantile_distinct (v : Value) (w : World) : (Instr.typeAssert (.iface 150 v) 97 124 true).run Tryz.prog w = .ok (.tuple #[.pointer none, .bool false]) w := by kernel_rfl
theorem as_quantile_quantile (v : Value) (w : World) : (Instr.typeAssert (.iface 150 v) 97 150 true).run Tryz.prog w = .ok (.tuple #[v, .bool true]) w := by kernel_rfl
theorem as_quantile_top (v : Value) (w : World) : (Instr.typeAssert (.iface 150 v) 97 155 true).run Tryz.prog w = .ok (.tuple #[.pointer none, .bool false]) w := by kernel_rfl
theorem as_top_count (v : Value) (w : World) : (Instr.typeAssert (.iface 155 v) 97 107 true).run Tryz.prog w = .ok (.tuple #[.pointer none, .bool false]) w := by kernel_rfl
theorem as_top_sum (v : Value) (w : World) : (Instr.typeAssert (.iface 155 v) 97 112 true).run Tryz.prog w = .ok (.tuple #[.pointer none, .bool false]) w := by kernel_rfl
theorem as_top_least (v : Value) (w : World) : (Instr.typeAssert (.iface 155 v) 97 116 true).run Tryz.prog w = .ok (.tuple #[.pointer none, .bool false]) w := by kernel_rfl
theorem as_top_greatest (v : Value) (w : World) : (Instr.typeAssert (.iface 155 v) 97 121 true).run Tryz.prog w = .ok (.tuple #[.pointer none, .bool false]) w := by kernel_rfl
theorem as_top_distinct (v : Value) (w : World) : (Instr.typeAssert (.iface 155 v) 97 124 true).run Tryz.prog w = .ok (.tuple #[.pointer none, .bool false]) w := by kernel_rfl
theorem as_top_quantile (v : Value) (w : World) : (Instr.typeAssert (.iface 155 v) 97 150 true).run Tryz.prog w = .ok (.tuple #[.pointer none, .bool false]) w := by kernel_rfl
theorem as_top_top (v : Value) (w : World) : (Instr.typeAssert (.iface 155 v) 97 155 true).run Tryz.prog w = .ok (.tuple #[v, .bool true]) w := by kernel_rfl
theorem as_none_count (w : World) : (Instr.typeAssert .nilIface 97 107 true).run Tryz.prog w = .ok (.tuple #[.pointer none, .bool false]) w := by kernel_rfl
theorem as_none_sum (w : World) : (Instr.typeAssert .nilIface 97 112 true).run Tryz.prog w = .ok (.tuple #[.pointer none, .bool false]) w := by kernel_rfl
theorem as_none_least (w : World) : (Instr.typeAssert .nilIface 97 116 true).run Tryz.prog w = .ok (.tuple #[.pointer none, .bool false]) w := by kernel_rfl
theorem as_none_greatest (w : World) : (Instr.typeAssert .nilIface 97 121 true).run Tryz.prog w = .ok (.tuple #[.pointer none, .bool false]) w := by kernel_rfl
theorem as_none_distinct (w : World) : (Instr.typeAssert .nilIface 97 124 true).run Tryz.prog w = .ok (.tuple #[.pointer none, .bool false]) w := by kernel_rfl
theorem as_none_quantile (w : World) : (Instr.typeAssert .nilIface 97 150 true).run Tryz.prog w = .ok (.tuple #[.pointer none, .bool false]) w := by kernel_rfl
theorem as_none_top (w : World) : (Instr.typeAssert .nilIface 97 155 true).run Tryz.prog w = .ok (.tuple #[.pointer none, .bool false]) w := by kernel_rfl
theorem m_count_take (v : Value) (w : World) : (method 501 107 v "talus/cell.take").run Tryz.prog w = .ok (194, v) w := by kernel_rfl
theorem m_count_merge (v : Value) (w : World) : (method 501 107 v "talus/cell.merge").run Tryz.prog w = .ok (193, v) w := by kernel_rfl
theorem m_sum_take (v : Value) (w : World) : (method 501 112 v "talus/cell.take").run Tryz.prog w = .ok (196, v) w := by kernel_rfl
theorem m_sum_merge (v : Value) (w : World) : (method 501 112 v "talus/cell.merge").run Tryz.prog w = .ok (195, v) w := by kernel_rfl
theorem m_least_take (v : Value) (w : World) : (method 501 116 v "talus/cell.take").run Tryz.prog w = .ok (202, v) w := by kernel_rfl
theorem m_least_merge (v : Value) (w : World) : (method 501 116 v "talus/cell.merge").run Tryz.prog w = .ok (201, v) w := by kernel_rfl
theorem m_greatest_take (v : Value) (w : World) : (method 501 121 v "talus/cell.take").run Tryz.prog w = .ok (204, v) w := by kernel_rfl
theorem m_greatest_merge (v : Value) (w : World) : (method 501 121 v "talus/cell.merge").run Tryz.prog w = .ok (203, v) w := by kernel_rfl
theorem m_distinct_take (v : Value) (w : World) : (method 501 124 v "talus/cell.take").run Tryz.prog w = .ok (206, v) w := by kernel_rfl
theorem m_distinct_merge (v : Value) (w : World) : (method 501 124 v "talus/cell.merge").run Tryz.prog w = .ok (205, v) w := by kernel_rfl
theorem m_quantile_take (v : Value) (w : World) : (method 501 150 v "talus/cell.take").run Tryz.prog w = .ok (223, v) w := by kernel_rfl
theorem m_quantile_merge (v : Value) (w : World) : (method 501 150 v "talus/cell.merge").run Tryz.prog w = .ok (222, v) w := by kernel_rfl
theorem m_top_take (v : Value) (w : World) : (method 501 155 v "talus/cell.take").run Tryz.prog w = .ok (276, v) w := by kernel_rfl
theorem m_top_merge (v : Value) (w : World) : (method 501 155 v "talus/cell.merge").run Tryz.prog w = .ok (275, v) w := by kernel_rfl

theorem below_c (w : World) (o : Obj) : Below w.heap.size w (w.alloc o) := (Below.refl _ _).alloc (Nat.le_refl _) o
/-- a pointer to a cell that no call made -/
def NoC (w : World) (x : Option Addr) : Prop := x = none ∨ ∃ b, x = some ⟨b, 0, none⟩ ∧ w.heap[b]? = some (.cells #[.slice none 0 0, .slice none 0 0, .int .i64 0, .slice none 0 0, .int .i64 0, .int .i64 0, .int .i64 0, .slice none 0 0] 92 (0, 0))
theorem NoC.below {w w' : World} {x : Option Addr} (h : NoC w x) (hb : Below w.heap.size w w') : NoC w' x := by
  rcases h with rfl | ⟨b, rfl, hc⟩
  · exact .inl rfl
  · exact .inr ⟨b, rfl, by rw [hb.block _ (lt_of_heap hc)]; exact hc⟩
theorem cmade_no {w : World} {x : Option Addr} (h : NoC w x) : Calls Tryz.prog 36 #[.pointer x] w fun e w' => e = .returned (.bool false) ∧ w = w' := by
  rcases h with rfl | ⟨b, rfl, hc⟩
  · go_enter Tryz.func36, Tryz.ntmps36
    go_wp2_with fail
    go_ret
    exact ⟨rfl, rfl⟩
  · have c2 : w.cell? ⟨b, 2, none⟩ = some (.int .i64 0) := by rw [cell_of_row _ _ _ _ _ _ hc]; rfl
    clear hc
    go_enter Tryz.func36, Tryz.ntmps36
    go_wp2_with fail
    go_ret
    exact ⟨rfl, rfl⟩
section
variable {w : World} {x : Option Addr}
theorem cstate_no (h : NoC w x) (i : Int) : Calls Tryz.prog 40 #[.pointer x, .int .i64 i] w fun e w' => e = .returned .nilIface ∧ w = w' := by
  have KM := cmade_no h
  clear h
  go_enter Tryz.func40, Tryz.ntmps40
  go_wp2_with fail
  refine KM.mono ?_
  rintro e w' ⟨rfl, rfl⟩
  clear KM
  go_wp2_with fail
  go_ret
  exact ⟨rfl, rfl⟩
theorem crows_no (h : NoC w x) : Calls Tryz.prog 14 #[.pointer x] w fun e w' => e = .returned (.int .i64 0) ∧ w = w' := by
  have KM := cmade_no h
  clear h
  go_enter Tryz.func14, Tryz.ntmps14
  go_wp2_with fail
  refine KM.mono ?_
  rintro e w' ⟨rfl, rfl⟩
  clear KM
  go_wp2_with fail
  go_ret
  exact ⟨rfl, rfl⟩
theorem ccopy_no (h : NoC w x) : Calls Tryz.prog 20 #[.pointer x] w fun e w' => e = .returned (.pointer none) ∧ w = w' := by
  have KM := cmade_no h
  clear h
  go_enter Tryz.func20, Tryz.ntmps20
  go_wp2_with fail
  refine KM.mono ?_
  rintro e w' ⟨rfl, rfl⟩
  clear KM
  go_wp2_with fail
  go_ret
  exact ⟨rfl, rfl⟩
theorem cadd_no (h : NoC w x) (a b : Value) : Calls Tryz.prog 12 #[.pointer x, a, b] w fun e w' => e = .returned (.int .i64 1) ∧ w = w' := by
  have KM := cmade_no h
  clear h
  go_enter Tryz.func12, Tryz.ntmps12
  go_wp2_with fail
  refine KM.mono ?_
  rintro e w' ⟨rfl, rfl⟩
  clear KM
  go_wp2_with fail
  go_ret
  exact ⟨rfl, rfl⟩
theorem cmerge_no (h : NoC w x) (y : Value) : Calls Tryz.prog 13 #[.pointer x, y] w fun e w' => e = .returned (.int .i64 1) ∧ w = w' := by
  have KM := cmade_no h
  clear h
  go_enter Tryz.func13, Tryz.ntmps13
  go_wp2_with fail
  refine KM.mono ?_
  rintro e w' ⟨rfl, rfl⟩
  clear KM
  go_wp2_with fail
  go_ret
  exact ⟨rfl, rfl⟩
theorem ccount_no (h : NoC w x) (i : Int) : Calls Tryz.prog 15 #[.pointer x, .int .i64 i] w fun e w' => e = .returned (.tuple #[.int .i64 0, .bool false]) ∧ Below w.heap.size w w' := by
  have KM := fun W (hb : Below w.heap.size w W) => cstate_no (h.below hb) i
  have KA := as_none_count
  have KM := Lib.hid KM
  clear h
  go_enter Tryz.func15, Tryz.ntmps15
  go_wp2_with fail
  refine (KM.out _ (by first | exact Below.refl _ _ | exact below_c _ _)).mono ?_
  rintro e w' ⟨rfl, rfl⟩
  clear KM
  go_wp2_with fail
  refine bodyPost_ret (v := .tuple #[.int .i64 0, .bool false]) ?_ rfl ⟨rfl, by first | exact Below.refl _ _ | exact below_c _ _⟩
  simp [results, Tryz.results15, go_sem]
theorem cdistinct_no (h : NoC w x) (i : Int) : Calls Tryz.prog 19 #[.pointer x, .int .i64 i] w fun e w' => e = .returned (.tuple #[.int .i64 0, .bool false]) ∧ Below w.heap.size w w' := by
  have KM := fun W (hb : Below w.heap.size w W) => cstate_no (h.below hb) i
  have KA := as_none_distinct
  have KM := Lib.hid KM
  clear h
  go_enter Tryz.func19, Tryz.ntmps19
  go_wp2_with fail
  refine (KM.out _ (by first | exact Below.refl _ _ | exact below_c _ _)).mono ?_
  rintro e w' ⟨rfl, rfl⟩
  clear KM
  go_wp2_with fail
  refine bodyPost_ret (v := .tuple #[.int .i64 0, .bool false]) ?_ rfl ⟨rfl, by first | exact Below.refl _ _ | exact below_c _ _⟩
  simp [results, Tryz.results19, go_sem]
theorem csum_no (h : NoC w x) (i : Int) : Calls Tryz.prog 16 #[.pointer x, .int .i64 i] w fun e w' => e = .returned (.tuple #[.agg #[.int .i64 0, .int .u64 0], .int .i64 0, .bool false]) ∧ Below w.heap.size w w' := by
  have KM := fun W (hb : Below w.heap.size w W) => cstate_no (h.below hb) i
  have KA := as_none_sum
  have KM := Lib.hid KM
  clear h
  go_enter Tryz.func16, Tryz.ntmps16
  go_wp2_with fail
  refine (KM.out _ (by first | exact Below.refl _ _ | exact below_c _ _)).mono ?_
  rintro e w' ⟨rfl, rfl⟩
  clear KM
  go_wp2_with fail
  refine bodyPost_ret (v := .tuple #[.agg #[.int .i64 0, .int .u64 0], .int .i64 0, .bool false]) ?_ rfl ⟨rfl, by first | exact Below.refl _ _ | exact below_c _ _⟩
  simp [results, Tryz.results16, go_sem]
theorem cleast_no (h : NoC w x) (i : Int) : Calls Tryz.prog 17 #[.pointer x, .int .i64 i] w fun e w' => e = .returned (.tuple #[vv 0 0 ⟨#[]⟩, .bool false]) ∧ Below w.heap.size w w' := by
  have KM := fun W (hb : Below w.heap.size w W) => cstate_no (h.below hb) i
  have KA := as_none_least
  have KM := Lib.hid KM
  clear h
  go_enter Tryz.func17, Tryz.ntmps17
  go_wp2_with fail
  refine (KM.out _ (by first | exact Below.refl _ _ | exact below_c _ _)).mono ?_
  rintro e w' ⟨rfl, rfl⟩
  clear KM
  go_wp2_with fail
  refine bodyPost_ret (v := .tuple #[vv 0 0 ⟨#[]⟩, .bool false]) ?_ rfl ⟨rfl, by first | exact Below.refl _ _ | exact below_c _ _⟩
  simp [results, Tryz.results17, go_sem]
theorem cgreatest_no (h : NoC w x) (i : Int) : Calls Tryz.prog 18 #[.pointer x, .int .i64 i] w fun e w' => e = .returned (.tuple #[vv 0 0 ⟨#[]⟩, .bool false]) ∧ Below w.heap.size w w' := by
  have KM := fun W (hb : Below w.heap.size w W) => cstate_no (h.below hb) i
  have KA := as_none_greatest
  have KM := Lib.hid KM
  clear h
  go_enter Tryz.func18, Tryz.ntmps18
  go_wp2_with fail
  refine (KM.out _ (by first | exact Below.refl _ _ | exact below_c _ _)).mono ?_
  rintro e w' ⟨rfl, rfl⟩
  clear KM
  go_wp2_with fail
  refine bodyPost_ret (v := .tuple #[vv 0 0 ⟨#[]⟩, .bool false]) ?_ rfl ⟨rfl, by first | exact Below.refl _ _ | exact below_c _ _⟩
  simp [results, Tryz.results18, go_sem]
end
end Go.Proofs.YtlhpbfjelgmkeaaGreat
/- One struct more behind a row of the call's own. Conditions: none. -/
set_option maxRecDepth 100000
namespace Go.Proofs.YtlhpbfjelgmkeaaGreat
open Go.RowKit Go.Maps Go.Sort

/-- an append of one element whose cells were laid just ahead -/
theorem push_row {P : Program} {t e : TypeId} {z : Value} {size by' : Nat} (ht : P.underlying t = some (.slice e)) (hinfo : (P.info? e).map (fun i => (i.zero, i.size, i.bytes)) = some (some z, size, by')) (hzs : z.cells.size = size) (hsz : 0 < size)
    {w : World} {B : Nat} {v : Value} {n : Nat} {xs : List Value} (hown : w.ownsRow B e size v n xs) (hB : B ≤ w.heap.size) (news : List Value) (hl : news.length = size) (h1 : ∀ u ∈ news, u.oneCell' = true) (hbytes : (n + 1) * by' ≤ 140737488355328) (hn : n + 1 ≤ 9223372036854775807) :
    ∃ v' w', (∀ ty, (Builtin.append_ #[t, t] ty #[v, .slice (some ⟨w.heap.size, 0, none⟩) 1 1]).run P (w.alloc (.cells news.toArray e)) = .ok v' w') ∧
      w'.ownsRow B e size v' (n + 1) (xs ++ news) ∧ w.grownBy w' v.ownBlock ∧ (v'.ownBlock = v.ownBlock ∨ v'.ownBlock = some (w.heap.size + 1)) := by
  obtain ⟨i, hi, hz0, hz1, hz2⟩ := info_parts hinfo
  have hown' : (w.alloc (.cells news.toArray e)).ownsRow B e size v n xs := hown.alloc _
  have hnew : ∀ j u, news[j]? = some u → (w.alloc (.cells news.toArray e)).cell? ((⟨w.heap.size, 0, none⟩ : Addr).add j) = some u := fun j u hj => by
    rw [Addr.add_at, Nat.zero_add, cell_of_row _ _ _ _ _ _ (heap_alloc_new w _)]
    simpa using hj
  obtain ⟨v', w', hr, h2, h3, _, h5⟩ := run_append_own_at (P := P) (w := w.alloc (.cells news.toArray e)) B t 0 e i z size by' ht hi hz0 hz1 hz2 hzs hsz v n xs hown' ⟨w.heap.size, 0, none⟩ 1 1 news (by omega) hnew h1 (by unfold maxLen; omega) hbytes (by simp; omega)
  refine ⟨v', w', fun ty => hr, h2, (World.grownBy_alloc w _ v.ownBlock).andThen h3 (fun j hj => .inr hj), ?_⟩
  rcases h5 with h5 | h5
  · exact .inl h5
  · exact .inr (by simpa using h5)
end Go.Proofs.YtlhpbfjelgmkeaaGreat
/- A digest at rest and a sketch of counters as things of whatever content: begun, a number more, merged. Conditions: few numbers. -/
set_option maxRecDepth 100000
namespace Go.Proofs.YtlhpbfjelgmkeaaGreat
open Go.RowKit Go.Maps Go.Sort Go.Shelf
open Dig

structure RestQ (k n : Nat) (L : DL) : Prop where
  k1 : 1 ≤ k
  k64 : k ≤ 64
  n50 : n ≤ 1125899906842624
  inv : LInv n L
  len : L.length ≤ 3 * k + 64
/-- a digest of n numbers -/
def Dq (p k n : Nat) : Thing := fun T i w => ∃ L b, DkAt T i w p k n b L ∧ RestQ k n L
theorem Dq.framed (p k n : Nat) : Framed (Dq p k n) := by
  rintro T T' i w w' ⟨L, b, h, hG⟩ hT hw
  exact ⟨L, b, ⟨(hw p (lt_of_heap h.head) (.inr h.tp)).trans h.head, (hT p (lt_of_heap h.head)).trans h.tp, h.map.of_block (hw b h.map.lt (.inr h.tb)), (hT b h.map.lt).trans h.tb⟩, hG⟩
theorem dq_new {w : World} {k : Nat} (h1 : 1 ≤ k) (h2 : k ≤ 64) (T : Tags) (i : Nat) :
    Calls Tryz.prog 63 #[.int .i64 k] w fun e w' => ∃ p, e = .returned (.pointer (some ⟨p, 0, none⟩)) ∧ Below w.heap.size w w' ∧ ∃ T', Next T w T' ∧ Dq p k 0 T' i w' :=
  (Dig.new_yes h1 h2 T i).mono fun e w' ⟨p, he, hb, T', hn, b, hd, _⟩ => ⟨p, he, hb, T', hn, [], b, hd, h1, h2, Nat.zero_le _, ⟨⟨List.Pairwise.nil, (fun q hq => by cases hq), rfl⟩, (fun q hq => by cases hq), Nat.zero_le _⟩, Nat.zero_le _⟩
theorem fitP_dq {T : Tags} {i : Nat} {w w' : World} {p k n : Nat} {L : DL} {e : Ending} (h : FitP T i w p k n L e w') (hI : LInv n L) (h1 : 1 ≤ k) (h2 : k ≤ 64) (h3 : n ≤ 1125899906842624) : e = .returned (.tuple #[]) ∧ Goes T i w (Dq p k n) w' := by
  obtain ⟨rfl, L', f1, f2, f3, T', n1, e1, b, hd⟩ := h
  refine ⟨rfl, T', n1, e1, L', b, hd, h1, h2, h3, f3, ?_⟩
  by_cases hl : L.length ≤ 3 * k + 64
  · rw [f1 hl]
    exact hl
  · have := fit_end (f2 (by omega)) hI
    exact few_nodes this.1 h1 h2 this.2
theorem dq_ins {T : Tags} {i : Nat} {w : World} {p k n : Nat} (h : Dq p k n T i w) {x : Nat} (hx : x < 18446744073709551616) (hn : n < 1125899906842624) :
    Calls Tryz.prog 225 #[.pointer (some ⟨p, 0, none⟩), .int .u64 (x : Int)] w fun e w' => e = .returned (.tuple #[]) ∧ Goes T i w (Dq p k (n + 1)) w' := by
  obtain ⟨L, b, hd, hR⟩ := h
  have hl : L.length < 100000 := by have := hR.len; have := hR.k64; omega
  exact (Dig.ins_at hd hR.k1 hR.k64 hR.inv hn hl x hx).mono fun e w' h => fitP_dq h (hR.inv.ins hx hl) hR.k1 hR.k64 hn
theorem dq_merge {T : Tags} {i j : Nat} {w : World} {p q k n m : Nat} (h : Dq p k n T i w) (h' : Dq q k m T j w) (hn : n + m ≤ 1125899906842624) :
    Calls Tryz.prog 224 #[.pointer (some ⟨p, 0, none⟩), .pointer (some ⟨q, 0, none⟩)] w fun e w' => e = .returned (.int .i64 0) ∧ Goes T i w (Dq p k (n + m)) w' := by
  obtain ⟨L, b, hd, hR⟩ := h
  obtain ⟨N, b2, hd2, hR2⟩ := h'
  obtain ⟨o0, o1, o2, _⟩ := hd2.cells
  have hl : L.length + N.length ≤ 100000 := by have := hR.len; have := hR2.len; have := hR.k64; omega
  exact (Dig.merge_at hd o0 o1 o2 hd2.map hR.k1 hR.k64 hR.inv hR2.inv hn hl).mono fun e w' h => ⟨h.1, (fitP_dq h.2 (hR.inv.addAll hR2.inv hl) hR.k1 hR.k64 hn).2⟩
/-- a sketch of n numbers -/
def Hq (p m n : Nat) : Thing := fun T i w => ∃ V : Hvy.HV, V.m = m ∧ V.n = n ∧ Hvy.Hk p V T i w
theorem Hq.framed (p m n : Nat) : Framed (Hq p m n) := by
  rintro T T' i w w' ⟨V, e1, e2, h⟩ hT hw
  exact ⟨V, e1, e2, Hvy.Hk.framed p V T T' i w w' h hT hw⟩
theorem hq_new {w : World} {m : Nat} (h1 : 1 ≤ m) (h2 : m ≤ 64) (T : Tags) (i : Nat) :
    Calls Tryz.prog 64 #[.int .i64 m] w fun e w' => ∃ p, e = .returned (.pointer (some ⟨p, 0, none⟩)) ∧ Below w.heap.size w w' ∧ ∃ T', Next T w T' ∧ Hq p m 0 T' i w' :=
  (Hvy.new_yes h1 h2 T i).mono fun _ _ ⟨p, he, hb, T', hn, hk⟩ => ⟨p, he, hb, T', hn, _, rfl, rfl, hk⟩
theorem hq_ins {T : Tags} {i : Nat} {w : World} {p m n : Nat} (h : Hq p m n T i w) {x : Int} (hx : Hvy.InI x) (hn : n < 1125899906842624) :
    Calls Tryz.prog 278 #[.pointer (some ⟨p, 0, none⟩), .int .i64 x] w fun e w' => e = .returned (.tuple #[]) ∧ Goes T i w (Hq p m (n + 1)) w' := by
  obtain ⟨V, e1, e2, hk⟩ := h
  have e3 : (V.ins x).m = m := (Hvy.HV.ins_m V x).trans e1
  have e4 : (V.ins x).n = n + 1 := by
    unfold Hvy.HV.ins
    rw [if_neg (by omega)]
    show V.n + 1 = n + 1
    rw [e2]
  exact (Hvy.ins_any hk hx).mono fun e w' h => ⟨h.1, Hvy.goes_map h.2.out fun T' hT' => ⟨_, e3, e4, hT'⟩⟩
theorem hq_merge {T : Tags} {i j : Nat} {w : World} {p q m n n' : Nat} (h : Hq p m n T i w) (h' : Hq q m n' T j w) (hij : i ≠ j) (hn : n + n' ≤ 1125899906842624) :
    Calls Tryz.prog 277 #[.pointer (some ⟨p, 0, none⟩), .pointer (some ⟨q, 0, none⟩)] w fun e w' => e = .returned (.int .i64 0) ∧ Goes T i w (Hq p m (n + n')) w' := by
  obtain ⟨V, e1, e2, hk⟩ := h
  obtain ⟨U, d1, d2, hu⟩ := h'
  exact (Hvy.merge_two hk hu hij (by omega) (by omega)).mono fun e w' h => ⟨h.1, by
    obtain ⟨V', hM, hg⟩ := h.2.out
    exact Hvy.goes_map hg fun T' hT' => ⟨V', hM.1.trans e1, by have := hM.2.1; omega, hT'⟩⟩
end Go.Proofs.YtlhpbfjelgmkeaaGreat
/- What a measure keeps: what each state is in memory, and taking a value. Conditions: counts are small; values of kinds. -/
set_option maxRecDepth 100000
namespace Go.Proofs.YtlhpbfjelgmkeaaGreat
open Go.RowKit Go.Maps Go.Sort Go.Lib
open Wide

/-- what a measure keeps -/
inductive Sv where
  | cnt (n : Nat)
  | sum (N : Int) (n : Nat)
  | low (v : VV)
  | high (v : VV)
  | dis (p : Nat) (V : SkV)
  | qua (kd : Int) (p k n : Nat)
  | top (p m n : Nat)
/-- a pointer's interface value -/
def Sv.val (b : Nat) : Sv → Value
  | .cnt _ => .iface 107 (.pointer (some ⟨b, 0, none⟩))
  | .sum _ _ => .iface 112 (.pointer (some ⟨b, 0, none⟩))
  | .low _ => .iface 116 (.pointer (some ⟨b, 0, none⟩))
  | .high _ => .iface 121 (.pointer (some ⟨b, 0, none⟩))
  | .dis _ _ => .iface 124 (.pointer (some ⟨b, 0, none⟩))
  | .qua _ _ _ _ => .iface 150 (.pointer (some ⟨b, 0, none⟩))
  | .top _ _ _ => .iface 155 (.pointer (some ⟨b, 0, none⟩))
def cntO (n : Nat) : Obj := .cells #[.int .i64 (n : Int)] 111 (0, 0)
def sumO (N : Int) (n : Nat) : Obj := .cells #[.int .i64 (hiW N), .int .u64 (loW N), .int .i64 (n : Int)] 115 (0, 0)
def lowO (v : VV) : Obj := .cells #[.int .i64 v.k, .int .i64 v.n, .string v.s] 120 (0, 0)
def highO (v : VV) : Obj := .cells #[.int .i64 v.k, .int .i64 v.n, .string v.s] 123 (0, 0)
def disO (p : Nat) : Obj := .cells #[.pointer (some ⟨p, 0, none⟩)] 128 (0, 0)
def DisT (b p : Nat) (V : SkV) : Thing := fun T i w => Box b (disO p) T i w ∧ Sk p V T i w
theorem DisT.framed (b p : Nat) (V : SkV) : Framed (DisT b p V) := fun T T' i w w' h hT hw => ⟨Box.framed _ _ T T' i w w' h.1 hT hw, Sk.framed _ _ T T' i w w' h.2 hT hw⟩
def quaO (kd : Int) (p : Nat) : Obj := .cells #[.int .i64 kd, .pointer (some ⟨p, 0, none⟩)] 154 (0, 0)
def topO (p : Nat) : Obj := .cells #[.pointer (some ⟨p, 0, none⟩)] 159 (0, 0)
def QuaT (b : Nat) (kd : Int) (p k n : Nat) : Thing := fun T i w => Box b (quaO kd p) T i w ∧ Dq p k n T i w
theorem QuaT.framed (b : Nat) (kd : Int) (p k n : Nat) : Framed (QuaT b kd p k n) := fun T T' i w w' h hT hw => ⟨Box.framed _ _ T T' i w w' h.1 hT hw, Dq.framed _ _ _ T T' i w w' h.2 hT hw⟩
def TopT (b p m n : Nat) : Thing := fun T i w => Box b (topO p) T i w ∧ Hq p m n T i w
theorem TopT.framed (b p m n : Nat) : Framed (TopT b p m n) := fun T T' i w w' h hT hw => ⟨Box.framed _ _ T T' i w w' h.1 hT hw, Hq.framed _ _ _ T T' i w w' h.2 hT hw⟩
/-- a state in memory -/
def StT (b : Nat) : Sv → Thing
  | .cnt n => OBox b (cntO n)
  | .sum N n => OBox b (sumO N n)
  | .low v => OBox b (lowO v)
  | .high v => OBox b (highO v)
  | .dis p V => DisT b p V
  | .qua kd p k n => QuaT b kd p k n
  | .top p m n => TopT b p m n
theorem StT.framed (b : Nat) (s : Sv) : Framed (StT b s) := by
  cases s
  · exact OBox.framed _ _
  · exact OBox.framed _ _
  · exact OBox.framed _ _
  · exact OBox.framed _ _
  · exact DisT.framed _ _ _
  · exact QuaT.framed _ _ _ _ _
  · exact TopT.framed _ _ _ _
/-- block b has become ob; all else is as it was -/
def Upd (b : Nat) (ob : Obj) (w w' : World) : Prop := Else (fun k => k = b) w w' ∧ w'.heap[b]? = some ob
theorem Upd.start {b : Nat} {ob : Obj} {w w1 : World} (h : w.heap[b]? = some ob) (hb : Below w.heap.size w w1) : Upd b ob w w1 :=
  ⟨(Else.refl _ w).low hb, (hb.block _ (lt_of_heap h)).trans h⟩
theorem Upd.set {b : Nat} {cs : Array Value} {t : TypeId} {w w1 : World} (h : Upd b (.cells cs t (0, 0)) w w1) (j : Nat) (u : Value) : Upd b (.cells (cs.setIfInBounds j u) t (0, 0)) w (w1.setCell ⟨b, j, none⟩ u) :=
  ⟨h.1.setCell (.inl rfl) u, heap_set h.2 u⟩
theorem Upd.below {b : Nat} {ob : Obj} {w w1 w2 : World} (h : Upd b ob w w1) (hb : Below w1.heap.size w1 w2) : Upd b ob w w2 :=
  ⟨h.1.low hb, (hb.block _ (lt_of_heap h.2)).trans h.2⟩
theorem Upd.trans {b : Nat} {o1 o2 : Obj} {w w1 w2 : World} (h : Upd b o1 w w1) (k : Upd b o2 w1 w2) : Upd b o2 w w2 :=
  ⟨h.1.trans k.1 (fun _ hx => .inl hx), k.2⟩
theorem side_upd {w0 w w' : World} {E : List (Nat × Thing)} {i b : Nat} {o o' : Obj} (h : Side w0 ((i, OBox b o) :: E) w) (hi : ∀ e ∈ E, e.1 ≠ i) (hu : Upd b o' w w') : Side w0 ((i, OBox b o') :: E) w' := by
  obtain ⟨T, h⟩ := h
  obtain ⟨_, h1, _⟩ := h.at_ _ (List.mem_cons_self ..)
  have hs : SideT w0 T E w := ⟨h.base, h.old, fun e he => h.at_ e (List.mem_cons_of_mem _ he)⟩
  have hs' := hs.next (T' := T) (fun _ _ => rfl) (hu.1.mono (fun x hx => by rw [hx]; exact h1)) hi
  refine ⟨T, hs'.base, hs'.old, fun e he => ?_⟩
  rcases List.mem_cons.1 he with rfl | he
  · exact ⟨OBox.framed _ _, h1, hu.2⟩
  · exact hs'.at_ e he
theorem cplus_any (a b : Nat) (h : a + b ≤ 4611686018427387904) (w : World) : Calls Tryz.prog 38 #[.int .i64 (a : Int), .int .i64 (b : Int)] w fun e w' => e = .returned (.int .i64 ((a + b : Nat) : Int)) ∧ w = w' := by
  have t0 : decide ((9223372036854775807 : Int) - (b : Int) < (a : Int)) = false := decide_eq_false (by omega)
  have t1 : IntKind.i64.wrap ((9223372036854775807 : Int) - (b : Int)) = (9223372036854775807 : Int) - (b : Int) := by rw [IntKind.wrap_i64]; omega
  have t2 : IntKind.i64.wrap ((a : Int) + (b : Int)) = (a : Int) + (b : Int) := by rw [IntKind.wrap_i64]; omega
  clear h
  go_enter Tryz.func38, Tryz.ntmps38
  go_wp2_with fail
  go_ret
  exact ⟨by simp, rfl⟩
theorem one_val (v : VV) : v.val = .agg #[.int .i64 v.k, .int .i64 v.n, .string v.s] := rfl
theorem take_cnt {w : World} {b n : Nat} (h : w.heap[b]? = some (cntO n)) (hn : n ≤ 1099511627776) (v : VV) (id : Int) :
    Calls Tryz.prog 194 #[.pointer (some ⟨b, 0, none⟩), v.val, .int .i64 id] w fun e w' => e = .returned (.tuple #[]) ∧ Upd b (cntO (n + 1)) w w' := by
  have hb := below_c w (.cells #[.int .i64 v.k, .int .i64 v.n, .string v.s] 36)
  have hu := Upd.start h hb
  obtain ⟨W, hW⟩ : ∃ W, w.alloc (.cells #[.int .i64 v.k, .int .i64 v.n, .string v.s] 36) = W := ⟨_, rfl⟩
  rw [hW] at hu
  have c0 : W.cell? ⟨b, 0, none⟩ = some (.int .i64 (n : Int)) := by rw [cell_of_row _ _ _ _ _ _ hu.2]; rfl
  have f0 := free_of_row hu.2 0
  have KP : Calls Tryz.prog 38 #[.int .i64 (n : Int), .int .i64 1] W fun e w' => e = .returned (.int .i64 ((n + 1 : Nat) : Int)) ∧ W = w' := cplus_any n 1 (by omega) W
  have FIN := Lib.hid (show Upd b (cntO (n + 1)) w (W.setCell ⟨b, 0, none⟩ (.int .i64 ((n + 1 : Nat) : Int))) from hu.set 0 _)
  rw [one_val]
  clear h hb hu hn
  go_enter Tryz.func194, Tryz.ntmps194
  go_wp2_with fail
  refine KP.mono ?_
  rintro e w' ⟨rfl, rfl⟩
  clear KP hW
  go_wp2_with fail
  go_end0
  exact ⟨rfl, FIN.out⟩
theorem vsetC {w : World} {B G j : Nat} (hB : B ≤ G) (v : Value) : Below B w (w.setCell ⟨G, j, none⟩ v) :=
  (Below.refl _ _).setCell hB v
theorem undrewC {G : Nat} {w w' : World} (h : Below G w.drew w') : Below G w w' := ⟨h.os, h.tape, h.output, h.size, h.block⟩
theorem set2C {w : World} {S : Nat} {t : TypeId} {x0 x1 y0 y1 : Value} (h : w.heap[S]? = some (.cells #[x0, x1] t (0, 0))) :
    (w.cell? ⟨S, 0, none⟩ = some x0 ∧ w.cell? ⟨S, 1, none⟩ = some x1 ∧ w.frozen? ⟨S, 0, none⟩ = false ∧ w.frozen? ⟨S, 1, none⟩ = false) ∧
    ((w.setCell ⟨S, 0, none⟩ y0).setCell ⟨S, 1, none⟩ y1).heap[S]? = some (.cells #[y0, y1] t (0, 0)) ∧ Below S w ((w.setCell ⟨S, 0, none⟩ y0).setCell ⟨S, 1, none⟩ y1) := by
  refine ⟨⟨?_, ?_, free_of_row h 0, free_of_row h 1⟩, heap_set (heap_set h y0) y1, (vsetC (Nat.le_refl _) _).trans (vsetC (Nat.le_refl _) _)⟩
  · rw [cell_of_row _ _ _ _ _ _ h]; rfl
  · rw [cell_of_row _ _ _ _ _ _ h]; rfl
theorem below_cd (w : World) (o : Obj) : Below w.heap.size w (w.alloc o).drew := (below_c w o).trans ((below_drew1 _).mono (below_c w o).size)
theorem heap_boxC {w w7 : World} {o : Obj} (hb : Below (w.alloc o).drew.heap.size (w.alloc o).drew w7) : w7.heap[w.heap.size]? = (w.alloc o).heap[w.heap.size]? := hb.block _ (by show w.heap.size < (w.alloc o).heap.size; simp)
/-- a box of two cells, wherever it lies -/
def Box2 (lo : Nat) (t : TypeId) (x y : Value) (W0 : World) (u : Value) (W : World) : Prop :=
  ∃ B, u = .pointer (some ⟨B, 0, none⟩) ∧ lo ≤ B ∧ W.heap[B]? = some (.cells #[x, y] t (0, 0)) ∧ Below lo W0 W
theorem box2_after {w6 w7 : World} {t : TypeId} {x y : Value} (hb : Below w6.heap.size w6 w7) : Box2 w6.heap.size t x y w6 (.pointer (some ⟨w7.heap.size, 0, none⟩)) (w7.alloc (.cells #[x, y] t)) :=
  ⟨_, rfl, hb.size, heap_alloc_new _ _, hb.trans ((below_c _ _).mono hb.size)⟩
theorem box2_ahead {w6 w7 : World} {t : TypeId} {x y x0 x1 : Value} (h0 : w7.heap[w6.heap.size]? = some (.cells #[x0, x1] t (0, 0))) (hb : Below w6.heap.size w6 w7) :
    Box2 w6.heap.size t x y w6 (.pointer (some ⟨w6.heap.size, 0, none⟩)) ((w7.setCell ⟨w6.heap.size, 0, none⟩ x).setCell ⟨w6.heap.size, 1, none⟩ y) :=
  ⟨_, rfl, Nat.le_refl _, (set2C (y0 := x) (y1 := y) h0).2.1, hb.trans (set2C (y0 := x) (y1 := y) h0).2.2⟩
theorem fit_small {N M : Int} (h : -4611686018427387904 * 4611686018427387904 ≤ N ∧ N ≤ 4611686018427387904 * 4611686018427387904) (hM : -9223372036854775808 ≤ M ∧ M < 9223372036854775808) : fitW (N + M) = true := by
  rw [fit_iff]; omega
/-- adding to a sum -/
theorem add_sum {w : World} {b n : Nat} {N : Int} (h : w.heap[b]? = some (sumO N n)) (hN : fitW N = true) {M : Int} (hM : fitW M = true) (hs : fitW (N + M) = true) (m : Nat) (hn : n + m ≤ 4611686018427387904) :
    Calls Tryz.prog 197 #[.pointer (some ⟨b, 0, none⟩), wv M, .int .i64 (m : Int)] w fun e w' => e = .returned (.tuple #[]) ∧ Upd b (sumO (N + M) (n + m)) w w' := by
  obtain ⟨n1, n2, n3⟩ := w_split N
  obtain ⟨m1, m2, m3⟩ := w_split M
  have nh := fit_hi hN
  have mh := fit_hi hM
  have hb := below_c w (.cells #[.int .i64 (hiW M), .int .u64 (loW M)] 45)
  have hu := Upd.start h hb
  have KA := fun W => Wide.add_any (hiW N) (loW N) (hiW M) (loW M) W nh.1 nh.2 n2 n3 mh.1 mh.2 m2 m3
  rw [n1, m1] at KA
  have ea : ansW (N + M) = N + M := by unfold ansW; rw [if_pos hs]
  rw [ea, hs] at KA
  have KP := fun W => cplus_any n m hn W
  obtain ⟨W, hW⟩ : ∃ W, w.alloc (.cells #[.int .i64 (hiW M), .int .u64 (loW M)] 45) = W := ⟨_, rfl⟩
  have hW0 : W.heap[w.heap.size]? = some (.cells #[.int .i64 (hiW M), .int .u64 (loW M)] 45 (0, 0)) := by rw [← hW]; exact heap_alloc_new w _
  rw [hW] at hu
  have HS := Lib.hid (fun (V : World) (hv : Below W.heap.size W V) => (show V.cell? ⟨b, 0, none⟩ = some (.int .i64 (hiW N)) ∧ V.cell? ⟨b, 1, none⟩ = some (.int .u64 (loW N)) ∧ V.cell? ⟨w.heap.size, 0, none⟩ = some (.int .i64 (hiW M)) ∧ V.cell? ⟨w.heap.size, 1, none⟩ = some (.int .u64 (loW M)) from by
    have g1 := (hv.block _ (lt_of_heap hu.2)).trans hu.2
    have g2 := (hv.block _ (lt_of_heap hW0)).trans hW0
    exact ⟨by rw [cell_of_row _ _ _ _ _ _ g1]; rfl, by rw [cell_of_row _ _ _ _ _ _ g1]; rfl, by rw [cell_of_row _ _ _ _ _ _ g2]; rfl, by rw [cell_of_row _ _ _ _ _ _ g2]; rfl⟩))
  have HU := Lib.hid hu
  have HN := Lib.hid (show Upd b (sumO N n) w W → True from fun _ => trivial)
  obtain ⟨x0, y0, x1, y1, eh, el, gh, gl⟩ : ∃ x0 y0 x1 y1, hiW N = x0 ∧ loW N = y0 ∧ hiW M = x1 ∧ loW M = y1 := ⟨_, _, _, _, rfl, rfl, rfl, rfl⟩
  obtain ⟨x2, y2, fh, fl⟩ : ∃ x2 y2, hiW (N + M) = x2 ∧ loW (N + M) = y2 := ⟨_, _, rfl, rfl⟩
  unfold wv at KA ⊢
  rw [eh, el, gh, gl, fh, fl] at KA
  rw [eh, el, gh, gl] at HS
  rw [gh, gl] at hW ⊢
  have c2 : ∀ (V : World) (o' : Obj), V.heap[b]? = some (sumO N n) → True := fun _ _ _ => trivial
  have HFH := Lib.hid fh
  have HFL := Lib.hid fl
  have HPP := Lib.hid KP
  clear h hb hu hN hM hs n1 n2 n3 m1 m2 m3 nh mh ea eh el gh gl fh fl hW0 HN c2 hn KP
  go_enter Tryz.func197, Tryz.ntmps197
  go_upto_region 1 with (fail)
  clear hW
  go_cut [6, 7] from 8 to 16 (fun u6 u7 wx => u7 = .bool true ∧ Hid (Box2 W.heap.size 45 (.int .i64 x2) (.int .u64 y2) W u6 wx))
  case first =>
    go_region_held3 (fun V => V.cell? ⟨b, 0, none⟩ = some (.int .i64 x0) ∧ V.cell? ⟨b, 1, none⟩ = some (.int .u64 y0) ∧ V.cell? ⟨w.heap.size, 0, none⟩ = some (.int .i64 x1) ∧ V.cell? ⟨w.heap.size, 1, none⟩ = some (.int .u64 y1)) (first | assumption | exact HS.out _ (by first | assumption | exact Below.refl _ _ | exact below_drew1 _ | exact below_c _ _ | exact below_cd _ _) | exact HS.out _ (Below.trans hb67 (hc7 _ _).2.2) | exact HS.out _ (Below.trans (by assumption) (by first | exact Below.mono (below_c _ _) (Below.size (by assumption)) | exact Below.mono (below_drew1 _) (Below.size (by assumption)) | exact Below.mono (below_cd _ _) (Below.size (by assumption))))) (first | (go_at_call 198; refine (KA W.drew).mono ?_; rintro e w7 ⟨rfl, hb7⟩; have hb67 := undrewC hb7; have hc7 := fun (y0 y1 : Value) => set2C (y0 := y0) (y1 := y1) (heap_alloc_new w7 (.cells #[.int .i64 0, .int .u64 0] 45)); obtain ⟨hq0, hq1, hf0, hf1⟩ := (hc7 (.bool true) (.bool true)).1) | (go_at_call 198; refine (KA (W.alloc _).drew).mono ?_; rintro e w7 ⟨rfl, hb7⟩; have hb67 := (below_c W _).trans ((undrewC hb7).mono (below_c W _).size); have hc7 := fun (y0 y1 : Value) => set2C (y0 := y0) (y1 := y1) ((heap_boxC hb7).trans (heap_alloc_new _ _)); obtain ⟨hq0, hq1, hf0, hf1⟩ := (hc7 (.bool true) (.bool true)).1))
    all_goals (go_wp2_with fail; go_meet)
    case _ => exact ⟨rfl, Lib.hid (box2_after hb67)⟩
    case _ => exact ⟨rfl, Lib.hid (box2_ahead ((heap_boxC hb7).trans (heap_alloc_new _ _)) hb67)⟩
  case rest =>
    obtain ⟨rfl, hcut⟩ := hcut
    obtain ⟨B, rfl, hB, hbx, hbl⟩ := hcut.out
    have hu := HU.out.below hbl
    have u2 := (hu.set 0 (.int .i64 x2)).set 1 (.int .u64 y2)
    have c0 : wc.cell? ⟨b, 0, none⟩ = some (.int .i64 x0) := (HS.out _ hbl).1
    have c1 : wc.cell? ⟨b, 1, none⟩ = some (.int .u64 y0) := (HS.out _ hbl).2.1
    have d0 : wc.cell? ⟨B, 0, none⟩ = some (.int .i64 x2) := by rw [cell_of_row _ _ _ _ _ _ hbx]; rfl
    have d1 : wc.cell? ⟨B, 1, none⟩ = some (.int .u64 y2) := by rw [cell_of_row _ _ _ _ _ _ hbx]; rfl
    have f0 := free_of_row hu.2 0
    have f1 := free_of_row hu.2 1
    have c2 : ((wc.setCell ⟨b, 0, none⟩ (.int .i64 x2)).setCell ⟨b, 1, none⟩ (.int .u64 y2)).cell? ⟨b, 2, none⟩ = some (.int .i64 (n : Int)) := by rw [cell_of_row _ _ _ _ _ _ u2.2]; rfl
    have f2 := free_of_row u2.2 2
    have FIN := Lib.hid (show Upd b (sumO (N + M) (n + m)) w _ from by have := u2.set 2 (.int .i64 ((n + m : Nat) : Int)); unfold sumO; rw [HFH.out, HFL.out]; exact this)
    have KP := HPP.out
    clear hu u2 hbx hB hcut HS HU hbl KA HFH HFL HPP
    go_wp2_with fail
    refine (KP _).mono ?_
    rintro e w8 ⟨rfl, rfl⟩
    clear KP
    go_wp2_with fail
    go_end0
    exact ⟨rfl, FIN.out⟩
theorem take_sum {w : World} {b n : Nat} {N : Int} (h : w.heap[b]? = some (sumO N n)) (hN : fitW N = true) (v : VV) (hv : -9223372036854775808 ≤ v.n ∧ v.n < 9223372036854775808) (hs : fitW (N + v.n) = true) (hn : n ≤ 1099511627776) (id : Int) :
    Calls Tryz.prog 196 #[.pointer (some ⟨b, 0, none⟩), v.val, .int .i64 id] w fun e w' => e = .returned (.tuple #[]) ∧ Upd b (sumO (N + v.n) (n + 1)) w w' := by
  have hb := below_c w (.cells #[.int .i64 v.k, .int .i64 v.n, .string v.s] 36)
  have hu := Upd.start h hb
  have KO := fun W => Wide.of_any v.n W hv.1 hv.2
  have HA := Lib.hid (fun (W : World) (hW : Upd b (sumO N n) w W) => add_sum hW.2 hN (M := v.n) (by rw [fit_iff]; omega) hs 1 (by omega))
  have HU := Lib.hid hu
  obtain ⟨vk, vn, vs⟩ := v
  simp only at KO HA HU ⊢
  obtain ⟨x, y, ex, ey⟩ : ∃ x y, hiW vn = x ∧ loW vn = y := ⟨_, _, rfl, rfl⟩
  unfold wv at KO HA
  rw [ex, ey] at KO HA
  rw [one_val]
  simp only
  clear h hb hu hn hN hs ex ey hv
  go_enter Tryz.func196, Tryz.ntmps196
  go_wp2_with fail
  refine (KO _).mono ?_
  rintro e w1 ⟨rfl, hb1⟩
  have hu1 := HU.out.below hb1
  have KA := HA.out _ hu1
  have HU1 := Lib.hid hu1
  clear hb1 hu1 HA HU KO
  go_wp2_with fail
  refine KA.mono ?_
  rintro e w2 ⟨rfl, hu2⟩
  have FIN := Lib.hid (HU1.out.trans hu2)
  clear hu2 KA HU1
  go_wp2_with fail
  go_end0
  exact ⟨rfl, FIN.out⟩
theorem ccopied_any (v : VV) (hv : v.s.size ≤ 1000000) (w : World) : Calls Tryz.prog 41 #[v.val] w fun e w' => e = .returned v.val ∧ Below w.heap.size w w' := by
  obtain ⟨k, n, s⟩ := v
  have KS := Lib.hid (fun W => strClone_any s hv W)
  have hb := (Below.refl w.heap.size w).alloc (Nat.le_refl _) (.cells #[.int .i64 k, .int .i64 n, .string s] 36)
  have hb2 := hb.alloc (by simp) (.cells #[.int .i64 0, .int .i64 0, .string ⟨#[]⟩] 36)
  rw [one_val]
  simp only
  have HB := Lib.hid hb2
  have HX : Hid (((w.alloc (.cells #[.int .i64 k, .int .i64 n, .string s] 36)).alloc (.cells #[.int .i64 0, .int .i64 0, .string ⟨#[]⟩] 36)).heap[w.heap.size]? = some (.cells #[.int .i64 k, .int .i64 n, .string s] 36 (0, 0)) ∧ ((w.alloc (.cells #[.int .i64 k, .int .i64 n, .string s] 36)).alloc (.cells #[.int .i64 0, .int .i64 0, .string ⟨#[]⟩] 36)).heap[w.heap.size + 1]? = some (.cells #[.int .i64 0, .int .i64 0, .string ⟨#[]⟩] 36 (0, 0))) := Lib.hid (by
    have hz : (w.alloc (.cells #[.int .i64 k, .int .i64 n, .string s] 36)).heap.size = w.heap.size + 1 := by simp
    have h2 := heap_alloc_new (w.alloc (.cells #[.int .i64 k, .int .i64 n, .string s] 36)) (.cells #[.int .i64 0, .int .i64 0, .string ⟨#[]⟩] 36)
    rw [hz] at h2
    exact ⟨((below_c (w.alloc _) _).block _ (by rw [hz]; omega)).trans (heap_alloc_new w _), h2⟩)
  clear hv hb hb2
  go_enter Tryz.func41, Tryz.ntmps41
  go_wp2_with fail
  refine (KS.out _).mono ?_
  rintro e w1 ⟨rfl, hb1⟩
  have hx1 := (hb1.block _ (lt_of_heap HX.out.1)).trans HX.out.1
  have hy1 := (hb1.block _ (lt_of_heap HX.out.2)).trans HX.out.2
  have HB1 := Lib.hid (HB.out.trans (hb1.mono HB.out.size))
  have hx2 := heap_set (j := 2) hx1 (.string s)
  have hy2 : (w1.setCell ⟨w.heap.size, 2, none⟩ (.string s)).heap[w.heap.size + 1]? = _ := (Below.heap_setCell _ ⟨w.heap.size, 2, none⟩ _ (w.heap.size + 1) (by simp)).trans hy1
  have hz2 := heap_set (j := 2) (heap_set (j := 1) (heap_set (j := 0) hy2 (.int .i64 k)) (.int .i64 n)) (.string s)
  have c0 : w1.cell? ⟨w.heap.size, 0, none⟩ = some (.int .i64 k) := by rw [cell_of_row _ _ _ _ _ _ hx1]; rfl
  have c1 : w1.cell? ⟨w.heap.size, 1, none⟩ = some (.int .i64 n) := by rw [cell_of_row _ _ _ _ _ _ hx1]; rfl
  have c2 : w1.cell? ⟨w.heap.size, 2, none⟩ = some (.string s) := by rw [cell_of_row _ _ _ _ _ _ hx1]; rfl
  have f2 := free_of_row hx1 2
  have e0 : (w1.setCell ⟨w.heap.size, 2, none⟩ (.string s)).cell? ⟨w.heap.size, 0, none⟩ = some (.int .i64 k) := by rw [cell_of_row _ _ _ _ _ _ hx2]; rfl
  have e1 : (w1.setCell ⟨w.heap.size, 2, none⟩ (.string s)).cell? ⟨w.heap.size, 1, none⟩ = some (.int .i64 n) := by rw [cell_of_row _ _ _ _ _ _ hx2]; rfl
  have e2 : (w1.setCell ⟨w.heap.size, 2, none⟩ (.string s)).cell? ⟨w.heap.size, 2, none⟩ = some (.string s) := by rw [cell_of_row _ _ _ _ _ _ hx2]; rfl
  have y0 : (w1.setCell ⟨w.heap.size, 2, none⟩ (.string s)).cell? ⟨w.heap.size + 1, 0, none⟩ = some (.int .i64 0) := by rw [cell_of_row _ _ _ _ _ _ hy2]; rfl
  have y1 : (w1.setCell ⟨w.heap.size, 2, none⟩ (.string s)).cell? ⟨w.heap.size + 1, 1, none⟩ = some (.int .i64 0) := by rw [cell_of_row _ _ _ _ _ _ hy2]; rfl
  have y2 : (w1.setCell ⟨w.heap.size, 2, none⟩ (.string s)).cell? ⟨w.heap.size + 1, 2, none⟩ = some (.string ⟨#[]⟩) := by rw [cell_of_row _ _ _ _ _ _ hy2]; rfl
  have g0 := free_of_row hy2 0
  have g1 := free_of_row hy2 1
  have g2 := free_of_row hy2 2
  have r0 : ((((w1.setCell ⟨w.heap.size, 2, none⟩ (.string s)).setCell ⟨w.heap.size + 1, 0, none⟩ (.int .i64 k)).setCell ⟨w.heap.size + 1, 1, none⟩ (.int .i64 n)).setCell ⟨w.heap.size + 1, 2, none⟩ (.string s)).cell? ⟨w.heap.size + 1, 0, none⟩ = some (.int .i64 k) := by rw [cell_of_row _ _ _ _ _ _ hz2]; rfl
  have r1 : ((((w1.setCell ⟨w.heap.size, 2, none⟩ (.string s)).setCell ⟨w.heap.size + 1, 0, none⟩ (.int .i64 k)).setCell ⟨w.heap.size + 1, 1, none⟩ (.int .i64 n)).setCell ⟨w.heap.size + 1, 2, none⟩ (.string s)).cell? ⟨w.heap.size + 1, 1, none⟩ = some (.int .i64 n) := by rw [cell_of_row _ _ _ _ _ _ hz2]; rfl
  have r2 : ((((w1.setCell ⟨w.heap.size, 2, none⟩ (.string s)).setCell ⟨w.heap.size + 1, 0, none⟩ (.int .i64 k)).setCell ⟨w.heap.size + 1, 1, none⟩ (.int .i64 n)).setCell ⟨w.heap.size + 1, 2, none⟩ (.string s)).cell? ⟨w.heap.size + 1, 2, none⟩ = some (.string s) := by rw [cell_of_row _ _ _ _ _ _ hz2]; rfl
  have FIN := Lib.hid ((((HB1.out.setCell (p := ⟨w.heap.size, 2, none⟩) (Nat.le_refl _) (.string s)).setCell (p := ⟨w.heap.size + 1, 0, none⟩) (Nat.le_succ _) (.int .i64 k)).setCell (p := ⟨w.heap.size + 1, 1, none⟩) (Nat.le_succ _) (.int .i64 n)).setCell (p := ⟨w.heap.size + 1, 2, none⟩) (Nat.le_succ _) (.string s))
  clear hb1 hx1 hy1 hx2 hy2 hz2 HB1 HB HX KS
  go_wp2_with fail
  refine bodyPost_ret (v := .agg #[.int .i64 k, .int .i64 n, .string s]) ?_ rfl ⟨rfl, FIN.out⟩
  simp [results, Tryz.results41, go_sem, r0, r1, r2]
end Go.Proofs.YtlhpbfjelgmkeaaGreat
/- What a measure keeps: taking a value: leasts, greatests, distinct sketches. Conditions: values of kinds, short texts. -/
set_option maxRecDepth 100000
namespace Go.Proofs.YtlhpbfjelgmkeaaGreat
open Go.RowKit Go.Maps Go.Sort Go.Lib

def cmpVV (a b : VV) : Int := cmpV a.k a.n a.s b.k b.n b.s
/-- the least of both; a Null is none -/
def lowV (o v : VV) : VV := if (o.k == 0) = true then v else if decide (cmpVV v o < 0) = true then v else o
def highV (o v : VV) : VV := if decide (0 < cmpVV v o) = true then v else o
theorem low_null {o v : VV} (h : (o.k == 0) = true) : lowV o v = v := by unfold lowV; rw [if_pos h]
theorem low_less {o v : VV} (h : (o.k == 0) = false) (h2 : decide (cmpVV v o < 0) = true) : lowV o v = v := by unfold lowV; rw [if_neg (by rw [h]; simp), if_pos h2]
theorem low_stay {o v : VV} (h : (o.k == 0) = false) (h2 : decide (cmpVV v o < 0) = false) : lowV o v = o := by unfold lowV; rw [if_neg (by rw [h]; simp), if_neg (by rw [h2]; simp)]
theorem high_more {o v : VV} (h2 : decide (0 < cmpVV v o) = true) : highV o v = v := by unfold highV; rw [if_pos h2]
theorem high_stay {o v : VV} (h2 : decide (0 < cmpVV v o) = false) : highV o v = o := by unfold highV; rw [if_neg (by rw [h2]; simp)]
/-- short enough to be copied, of a number that is an int -/
def VV.fine (v : VV) : Prop := v.s.size ≤ 1000000 ∧ -9223372036854775808 ≤ v.n ∧ v.n < 9223372036854775808
def C3v (b : Nat) (v : VV) (V : World) : Prop := V.cell? ⟨b, 0, none⟩ = some (.int .i64 v.k) ∧ V.cell? ⟨b, 1, none⟩ = some (.int .i64 v.n) ∧ V.cell? ⟨b, 2, none⟩ = some (.string v.s)
theorem c3v_of {b : Nat} {v : VV} {V : World} {t : TypeId} (h : V.heap[b]? = some (.cells #[.int .i64 v.k, .int .i64 v.n, .string v.s] t (0, 0))) : C3v b v V :=
  ⟨by rw [cell_of_row _ _ _ _ _ _ h]; rfl, by rw [cell_of_row _ _ _ _ _ _ h]; rfl, by rw [cell_of_row _ _ _ _ _ _ h]; rfl⟩

set_option maxHeartbeats 3200000 in
theorem take_low {w : World} {b : Nat} {o : VV} (h : w.heap[b]? = some (lowO o)) (ho : o.fine) (v : VV) (hv : v.fine) (id : Int) :
    Calls Tryz.prog 202 #[.pointer (some ⟨b, 0, none⟩), v.val, .int .i64 id] w fun e w' => e = .returned (.tuple #[]) ∧ Upd b (lowO (lowV o v)) w w' := by
  have hb := below_c w (.cells #[.int .i64 v.k, .int .i64 v.n, .string v.s] 36)
  have hx := heap_alloc_new w (.cells #[.int .i64 v.k, .int .i64 v.n, .string v.s] 36)
  have hu := Upd.start h hb
  obtain ⟨W, hW⟩ : ∃ W, w.alloc (.cells #[.int .i64 v.k, .int .i64 v.n, .string v.s] 36) = W := ⟨_, rfl⟩
  rw [hW] at hb hx hu
  have KCM := Lib.hid (fun V => vcmp_any v.k v.n v.s o.k o.n o.s hv.2.1 hv.2.2 ho.2.1 ho.2.2 V)
  have HC := Lib.hid (fun V => ccopied_any v hv.1 V)
  have HU := Lib.hid (fun (V : World) (hV : Below W.heap.size W V) => hu.below hV)
  have HS := Lib.hid (fun (V : World) (hV : Below W.heap.size W V) => And.intro (c3v_of ((hV.block _ (lt_of_heap hx)).trans hx)) (c3v_of ((hV.block _ (lt_of_heap hu.2)).trans hu.2)))
  have HX := Lib.hid hx
  obtain ⟨R, hR⟩ : ∃ R, lowV o v = R := ⟨_, rfl⟩
  rw [hR]
  have HRR := Lib.hid hR
  have hbd := below_drew1 W

  obtain ⟨bc, hbc⟩ : ∃ bc, decide (cmpV v.k v.n v.s o.k o.n o.s < 0) = bc := ⟨_, rfl⟩
  obtain ⟨cc, hcc⟩ : ∃ cc, cmpV v.k v.n v.s o.k o.n o.s = cc := ⟨_, rfl⟩
  rw [hcc] at KCM
  rw [hcc] at hbc
  have HCC : Hid (cmpVV v o = cc) := Lib.hid hcc
  obtain ⟨vk, vn, vs⟩ := v
  obtain ⟨ok, on, os⟩ := o
  unfold C3v at HS
  rw [one_val]
  simp only at KCM HC HU HS hW HRR HCC ⊢
  clear h hb hx hu ho hv hcc HX hR

  have c0 := HS.out _ hbd
  by_cases hk : ok = 0
  · have hk1 : (ok == 0) = true := by simpa using hk
    have HK1 := Lib.hid hk1
    obtain ⟨bk, hbk⟩ : ∃ bk, bk = true := ⟨_, rfl⟩
    rw [← hbk] at hk1
    have HBK := Lib.hid hbk
    clear hk hbk c0 hbc
    go_enter Tryz.func202, Tryz.ntmps202
    go_upto_region 1 with (fail)
    clear hW
    refine wp_region_mix (fun V => (V.cell? ⟨w.heap.size, 0, none⟩ = some (.int .i64 vk) ∧ V.cell? ⟨w.heap.size, 1, none⟩ = some (.int .i64 vn) ∧ V.cell? ⟨w.heap.size, 2, none⟩ = some (.string vs)) ∧ V.cell? ⟨b, 0, none⟩ = some (.int .i64 ok) ∧ V.cell? ⟨b, 1, none⟩ = some (.int .i64 on) ∧ V.cell? ⟨b, 2, none⟩ = some (.string os)) 15 [(true, 0), (true, 1), (true, 2), (true, 3), (true, 4), (true, 5), (true, 6), (true, 7), (true, 8), (true, 9), (true, 10), (true, 11), (true, 12), (true, 13), (true, 14)] (by kernel_rfl) (by decide +kernel) rfl (by decide +kernel) (HS.out _ hbd) ?_
    iterate 7
      refine wpMix_take (v := ?_) rfl rfl ?_ ?_
      rotate_left
      · (intro W hW; (try dsimp only at hW); go_simp) <;> with_reducible rfl
      simp only [Act.put, List.setIfInBounds_toArray, List.set_cons_zero, List.set_cons_succ]
    obtain rfl := HBK.out
    iterate 7
      refine wpMix_skip rfl rfl ?_
      simp only [Act.put, List.setIfInBounds_toArray, List.set_cons_zero, List.set_cons_succ]
    iterate 1
      refine wpMix_take (v := ?_) rfl rfl ?_ ?_
      rotate_left
      · (intro W hW; (try dsimp only at hW); go_simp) <;> with_reducible rfl
      simp only [Act.put, List.setIfInBounds_toArray, List.set_cons_zero, List.set_cons_succ]
    refine wpMix_nil ?_
    clear KCM
    have HB2 := Lib.hid hbd
    have hu2 := HU.out _ HB2.out
    have hs2 := (HS.out _ HB2.out).1
    have KC := HC.out
    clear HS HU HC hbd
    obtain ⟨q0, q1, q2⟩ := hs2
    go_wp2_with fail
    refine (KC _).mono ?_
    rintro e w3 ⟨rfl, hb3⟩
    have hu3 := hu2.below hb3
    have f0 := free_of_row hu3.2 0
    have f1 := free_of_row hu3.2 1
    have f2 := free_of_row hu3.2 2
    have p0 : w3.cell? ⟨b, 0, none⟩ = some (.int .i64 ok) := by rw [cell_of_row _ _ _ _ _ _ hu3.2]; rfl
    have p1 : w3.cell? ⟨b, 1, none⟩ = some (.int .i64 on) := by rw [cell_of_row _ _ _ _ _ _ hu3.2]; rfl
    have p2 : w3.cell? ⟨b, 2, none⟩ = some (.string os) := by rw [cell_of_row _ _ _ _ _ _ hu3.2]; rfl
    have FIN := Lib.hid (show Upd b (lowO R) w _ from by rw [show R = ⟨vk, vn, vs⟩ from HRR.out.symm.trans (low_null HK1.out)]; exact (((hu3.set 0 (.int .i64 vk)).set 1 (.int .i64 vn)).set 2 (.string vs)))
    clear hb3 hu3 hu2 KC HB2 q0 q1 q2
    go_wp2_with fail
    go_end0
    exact ⟨rfl, FIN.out⟩
  have hk1 : (ok == 0) = false := by simpa using hk
  have HK1 := Lib.hid hk1
  clear hk c0
  go_enter Tryz.func202, Tryz.ntmps202
  go_upto_region 1 with (fail)
  clear hW
  refine wp_region_mix (fun V => (V.cell? ⟨w.heap.size, 0, none⟩ = some (.int .i64 vk) ∧ V.cell? ⟨w.heap.size, 1, none⟩ = some (.int .i64 vn) ∧ V.cell? ⟨w.heap.size, 2, none⟩ = some (.string vs)) ∧ V.cell? ⟨b, 0, none⟩ = some (.int .i64 ok) ∧ V.cell? ⟨b, 1, none⟩ = some (.int .i64 on) ∧ V.cell? ⟨b, 2, none⟩ = some (.string os)) 15 [(true, 0), (true, 1), (true, 2), (true, 3), (true, 4), (true, 5), (true, 6), (true, 7), (true, 8), (true, 9), (true, 10), (true, 11), (false, 12), (true, 13), (true, 14)] (by kernel_rfl) (by decide +kernel) rfl (by decide +kernel) (HS.out _ hbd) ?_
  iterate 12
    refine wpMix_take (v := ?_) rfl rfl ?_ ?_
    rotate_left
    · (intro W hW; (try dsimp only at hW); go_simp) <;> with_reducible rfl
    simp only [Act.put, List.setIfInBounds_toArray, List.set_cons_zero, List.set_cons_succ]
  refine wpMix_run rfl ?_
  intro K hK
  go_wp2_with fail
  refine (KCM.out _).mono ?_
  rintro e w2 ⟨rfl, hb2⟩
  have hb2 : Below W.heap.size W w2 := hbd.trans (hb2.mono hbd.size)
  go_wp2_with fail
  refine hK.out _ _ (fun _ => HS.out _ hb2) ?_
  clear hK K KCM
  iterate 2
    refine wpMix_take (v := ?_) rfl rfl ?_ ?_
    rotate_left
    · (intro W hW; (try dsimp only at hW); go_simp) <;> with_reducible rfl
    simp only [Act.put, List.setIfInBounds_toArray, List.set_cons_zero, List.set_cons_succ]
  refine wpMix_nil ?_
  have HBC := Lib.hid hbc
  clear hbc
  cases bc
  · have hu2 := HU.out _ hb2
    have FIN := Lib.hid (show Upd b (lowO R) w _ from by rw [show R = ⟨ok, on, os⟩ from HRR.out.symm.trans (low_stay HK1.out (by rw [HCC.out]; exact HBC.out))]; exact hu2)
    clear HS HU HC hbd hu2
    go_wp2_with fail
    go_end0
    exact ⟨rfl, FIN.out⟩
  · have HB2 := Lib.hid hb2
    have hu2 := HU.out _ HB2.out
    have hs2 := (HS.out _ HB2.out).1
    have KC := HC.out
    clear HS HU HC hbd
    obtain ⟨q0, q1, q2⟩ := hs2
    go_wp2_with fail
    refine (KC _).mono ?_
    rintro e w3 ⟨rfl, hb3⟩
    have hu3 := hu2.below hb3
    have f0 := free_of_row hu3.2 0
    have f1 := free_of_row hu3.2 1
    have f2 := free_of_row hu3.2 2
    have p0 : w3.cell? ⟨b, 0, none⟩ = some (.int .i64 ok) := by rw [cell_of_row _ _ _ _ _ _ hu3.2]; rfl
    have p1 : w3.cell? ⟨b, 1, none⟩ = some (.int .i64 on) := by rw [cell_of_row _ _ _ _ _ _ hu3.2]; rfl
    have p2 : w3.cell? ⟨b, 2, none⟩ = some (.string os) := by rw [cell_of_row _ _ _ _ _ _ hu3.2]; rfl
    have FIN := Lib.hid (show Upd b (lowO R) w _ from by rw [show R = ⟨vk, vn, vs⟩ from HRR.out.symm.trans (low_less HK1.out (by rw [HCC.out]; exact HBC.out))]; exact (((hu3.set 0 (.int .i64 vk)).set 1 (.int .i64 vn)).set 2 (.string vs)))
    clear hb3 hu3 hu2 KC HB2 q0 q1 q2
    go_wp2_with fail
    go_end0
    exact ⟨rfl, FIN.out⟩

set_option maxHeartbeats 3200000 in
theorem take_high {w : World} {b : Nat} {o : VV} (h : w.heap[b]? = some (highO o)) (ho : o.fine) (v : VV) (hv : v.fine) (id : Int) :
    Calls Tryz.prog 204 #[.pointer (some ⟨b, 0, none⟩), v.val, .int .i64 id] w fun e w' => e = .returned (.tuple #[]) ∧ Upd b (highO (highV o v)) w w' := by
  have hb := below_c w (.cells #[.int .i64 v.k, .int .i64 v.n, .string v.s] 36)
  have hx := heap_alloc_new w (.cells #[.int .i64 v.k, .int .i64 v.n, .string v.s] 36)
  have hu := Upd.start h hb
  obtain ⟨W, hW⟩ : ∃ W, w.alloc (.cells #[.int .i64 v.k, .int .i64 v.n, .string v.s] 36) = W := ⟨_, rfl⟩
  rw [hW] at hb hx hu
  have KCM := Lib.hid (fun V => vcmp_any v.k v.n v.s o.k o.n o.s hv.2.1 hv.2.2 ho.2.1 ho.2.2 V)
  have HC := Lib.hid (fun V => ccopied_any v hv.1 V)
  have HU := Lib.hid (fun (V : World) (hV : Below W.heap.size W V) => hu.below hV)
  have HS := Lib.hid (fun (V : World) (hV : Below W.heap.size W V) => And.intro (c3v_of ((hV.block _ (lt_of_heap hx)).trans hx)) (c3v_of ((hV.block _ (lt_of_heap hu.2)).trans hu.2)))
  have HX := Lib.hid hx
  obtain ⟨R, hR⟩ : ∃ R, highV o v = R := ⟨_, rfl⟩
  rw [hR]
  have HRR := Lib.hid hR
  have hbd := below_drew1 W

  obtain ⟨bc, hbc⟩ : ∃ bc, decide (0 < cmpV v.k v.n v.s o.k o.n o.s) = bc := ⟨_, rfl⟩
  obtain ⟨cc, hcc⟩ : ∃ cc, cmpV v.k v.n v.s o.k o.n o.s = cc := ⟨_, rfl⟩
  rw [hcc] at KCM
  rw [hcc] at hbc
  have HCC : Hid (cmpVV v o = cc) := Lib.hid hcc
  obtain ⟨vk, vn, vs⟩ := v
  obtain ⟨ok, on, os⟩ := o
  unfold C3v at HS
  rw [one_val]
  simp only at KCM HC HU HS hW HRR HCC ⊢
  clear h hb hx hu ho hv hcc HX hR
  go_enter Tryz.func204, Tryz.ntmps204
  go_upto_region 1 with (fail)
  clear hW
  refine wp_region_mix (fun V => (V.cell? ⟨w.heap.size, 0, none⟩ = some (.int .i64 vk) ∧ V.cell? ⟨w.heap.size, 1, none⟩ = some (.int .i64 vn) ∧ V.cell? ⟨w.heap.size, 2, none⟩ = some (.string vs)) ∧ V.cell? ⟨b, 0, none⟩ = some (.int .i64 ok) ∧ V.cell? ⟨b, 1, none⟩ = some (.int .i64 on) ∧ V.cell? ⟨b, 2, none⟩ = some (.string os)) 7 [(true, 0), (true, 1), (true, 2), (true, 3), (true, 4), (false, 5), (true, 6)] (by kernel_rfl) (by decide +kernel) rfl (by decide +kernel) (HS.out _ hbd) ?_
  iterate 5
    refine wpMix_take (v := ?_) rfl rfl ?_ ?_
    rotate_left
    · (intro W hW; (try dsimp only at hW); go_simp) <;> with_reducible rfl
    simp only [Act.put, List.setIfInBounds_toArray, List.set_cons_zero, List.set_cons_succ]
  refine wpMix_run rfl ?_
  intro K hK
  go_wp2_with fail
  refine (KCM.out _).mono ?_
  rintro e w2 ⟨rfl, hb2⟩
  have hb2 : Below W.heap.size W w2 := hbd.trans (hb2.mono hbd.size)
  go_wp2_with fail
  refine hK.out _ _ (fun _ => HS.out _ hb2) ?_
  clear hK K KCM
  iterate 1
    refine wpMix_take (v := ?_) rfl rfl ?_ ?_
    rotate_left
    · (intro W hW; (try dsimp only at hW); go_simp) <;> with_reducible rfl
    simp only [Act.put, List.setIfInBounds_toArray, List.set_cons_zero, List.set_cons_succ]
  refine wpMix_nil ?_
  have HBC := Lib.hid hbc
  clear hbc
  cases bc
  · have hu2 := HU.out _ hb2
    have FIN := Lib.hid (show Upd b (highO R) w _ from by rw [show R = ⟨ok, on, os⟩ from HRR.out.symm.trans (high_stay (by rw [HCC.out]; exact HBC.out))]; exact hu2)
    clear HS HU HC hbd hu2
    go_wp2_with fail
    go_end0
    exact ⟨rfl, FIN.out⟩
  · have HB2 := Lib.hid hb2
    have hu2 := HU.out _ HB2.out
    have hs2 := (HS.out _ HB2.out).1
    have KC := HC.out
    clear HS HU HC hbd
    obtain ⟨q0, q1, q2⟩ := hs2
    go_wp2_with fail
    refine (KC _).mono ?_
    rintro e w3 ⟨rfl, hb3⟩
    have hu3 := hu2.below hb3
    have f0 := free_of_row hu3.2 0
    have f1 := free_of_row hu3.2 1
    have f2 := free_of_row hu3.2 2
    have p0 : w3.cell? ⟨b, 0, none⟩ = some (.int .i64 ok) := by rw [cell_of_row _ _ _ _ _ _ hu3.2]; rfl
    have p1 : w3.cell? ⟨b, 1, none⟩ = some (.int .i64 on) := by rw [cell_of_row _ _ _ _ _ _ hu3.2]; rfl
    have p2 : w3.cell? ⟨b, 2, none⟩ = some (.string os) := by rw [cell_of_row _ _ _ _ _ _ hu3.2]; rfl
    have FIN := Lib.hid (show Upd b (highO R) w _ from by rw [show R = ⟨vk, vn, vs⟩ from HRR.out.symm.trans (high_more (by rw [HCC.out]; exact HBC.out))]; exact (((hu3.set 0 (.int .i64 vk)).set 1 (.int .i64 vn)).set 2 (.string vs)))
    clear hb3 hu3 hu2 KC HB2 q0 q1 q2
    go_wp2_with fail
    go_end0
    exact ⟨rfl, FIN.out⟩

/-- a distinct sketch takes an id -/
theorem take_dis {T : Tags} {i : Nat} {w : World} {b p : Nat} {V : SkV} (h : DisT b p V T i w) (v : VV) (id : Int) :
    Calls Tryz.prog 206 #[.pointer (some ⟨b, 0, none⟩), v.val, .int .i64 id] w fun e w' => e = .returned (.tuple #[]) ∧ Goes T i w (DisT b p (V.ins (wi id))) w' := by
  have hb := below_c w (.cells #[.int .i64 v.k, .int .i64 v.n, .string v.s] 36)
  have h2 := (DisT.framed b p V).below h hb
  have KI := ins_any h2.2 (x := wi id) (wi_lt id)
  have hc : IntKind.u64.wrap id = ((wi id : Nat) : Int) := by unfold wi; rw [IntKind.wrap_u64]; omega
  obtain ⟨u, hu⟩ : ∃ u, wi id = u := ⟨_, rfl⟩
  rw [hu] at KI hc
  rw [hu]
  obtain ⟨W, hW⟩ : ∃ W, w.alloc (.cells #[.int .i64 v.k, .int .i64 v.n, .string v.s] 36) = W := ⟨_, rfl⟩
  rw [hW] at KI h2 hb
  have c0 : W.cell? ⟨b, 0, none⟩ = some (.pointer (some ⟨p, 0, none⟩)) := by rw [cell_of_row _ _ _ _ _ _ h2.1.2]; rfl
  have FIN : Hid (∀ w', Goes T i W (Sk p (V.ins u)) w' → Goes T i w (DisT b p (V.ins u)) w') := Lib.hid fun w' hg => by
    obtain ⟨T', n1, e1, s1⟩ := hg
    refine ⟨T', fun k hk => n1 k (Nat.lt_of_lt_of_le hk hb.size), (Else.of_below hb).trans e1 (fun x hx => .inl hx), ?_, s1⟩
    have hlt := lt_of_heap h2.1.2
    refine ⟨(n1 b hlt).trans h2.1.1, (e1.block b hlt (by rw [h2.1.1]; simp)).trans h2.1.2⟩
  rw [one_val]
  clear h h2 hb hu
  go_enter Tryz.func206, Tryz.ntmps206
  go_wp2_with fail
  refine KI.mono ?_
  rintro e w1 ⟨rfl, hg⟩
  have FI := FIN.out w1 hg
  clear KI hg FIN
  go_wp2_with fail
  go_end0
  exact ⟨rfl, FI⟩
end Go.Proofs.YtlhpbfjelgmkeaaGreat
/- Quantiles and tops: a value is taken. Conditions: few values; numbers that are ints. -/
set_option maxRecDepth 100000
namespace Go.Proofs.YtlhpbfjelgmkeaaGreat
open Go.RowKit Go.Maps Go.Sort Go.Lib
open Wide

theorem qua_goes {T : Tags} {i : Nat} {w W : World} {b : Nat} {kd : Int} {p k m : Nat} (hb : Below w.heap.size w W) (h : Box b (quaO kd p) T i W) {w' : World} (hg : Goes T i W (Dq p k m) w') : Goes T i w (QuaT b kd p k m) w' := by
  obtain ⟨T', n1, e1, s1⟩ := hg
  refine ⟨T', fun k hk => n1 k (Nat.lt_of_lt_of_le hk hb.size), (Else.of_below hb).trans e1 (fun x hx => .inl hx), ?_, s1⟩
  have hlt := lt_of_heap h.2
  exact ⟨(n1 b hlt).trans h.1, (e1.block b hlt (by rw [h.1]; simp)).trans h.2⟩
theorem top_goes {T : Tags} {i : Nat} {w W : World} {b p k m : Nat} (hb : Below w.heap.size w W) (h : Box b (topO p) T i W) {w' : World} (hg : Goes T i W (Hq p k m) w') : Goes T i w (TopT b p k m) w' := by
  obtain ⟨T', n1, e1, s1⟩ := hg
  refine ⟨T', fun k hk => n1 k (Nat.lt_of_lt_of_le hk hb.size), (Else.of_below hb).trans e1 (fun x hx => .inl hx), ?_, s1⟩
  have hlt := lt_of_heap h.2
  exact ⟨(n1 b hlt).trans h.1, (e1.block b hlt (by rw [h.1]; simp)).trans h.2⟩
theorem take_qua {T : Tags} {i : Nat} {w : World} {b : Nat} {kd : Int} {p k n : Nat} (h : QuaT b kd p k n T i w) (hkd : kd = 1 ∨ kd = 2) (hn : n ≤ 1000000) (v : VV) (hv : -9223372036854775808 ≤ v.n ∧ v.n < 9223372036854775808) (id : Int) :
    Calls Tryz.prog 223 #[.pointer (some ⟨b, 0, none⟩), v.val, .int .i64 id] w fun e w' => e = .returned (.tuple #[]) ∧ Goes T i w (QuaT b kd p k (n + 1)) w' := by
  have hb := below_c w (.cells #[.int .i64 v.k, .int .i64 v.n, .string v.s] 36)
  have h2 := (QuaT.framed b kd p k n).below h hb
  have hx := heap_alloc_new w (.cells #[.int .i64 v.k, .int .i64 v.n, .string v.s] 36)
  have KX := fun x (hx : x < 18446744073709551616) => dq_ins ((Dq.framed p k n).below h2.2 (below_drew1 _)) hx (by omega)
  have KI := fun W => intKey_any (wi v.n) (wi_lt v.n) W
  have KK := fun W => key_any (wi v.n) (wi_lt v.n) W
  rw [iw_wi v.n hv.1 hv.2] at KI KK
  have KX1 := KX _ (xorS_lt _ (wi_lt v.n))
  have KX2 := KX _ (key_bound _ (wi_lt v.n))
  obtain ⟨y1, hy1⟩ : ∃ y, xorS (wi v.n) = y := ⟨_, rfl⟩
  obtain ⟨y2, hy2⟩ : ∃ y, keyW (wi v.n) = y := ⟨_, rfl⟩
  rw [hy1] at KI KX1
  rw [hy2] at KK KX2
  obtain ⟨W, hW⟩ : ∃ W, w.alloc (.cells #[.int .i64 v.k, .int .i64 v.n, .string v.s] 36) = W := ⟨_, rfl⟩
  rw [hW] at KX1 KX2 h2 hb hx
  have c0 : W.cell? ⟨b, 0, none⟩ = some (.int .i64 kd) := by rw [cell_of_row _ _ _ _ _ _ h2.1.2]; rfl
  have C1 : W.drew.cell? ⟨b, 1, none⟩ = some (.pointer (some ⟨p, 0, none⟩)) ∧ W.drew.cell? ⟨w.heap.size, 1, none⟩ = some (.int .i64 v.n) := ⟨by show W.cell? _ = _; rw [cell_of_row _ _ _ _ _ _ h2.1.2]; rfl, by show W.cell? _ = _; rw [cell_of_row _ _ _ _ _ _ hx]; rfl⟩
  have hbx : Box b (quaO kd p) T i W.drew := h2.1
  have FIN := Lib.hid (fun w' (hg : Goes T i W.drew (Dq p k (n + 1)) w') => qua_goes (hb.trans ((below_drew1 W).mono hb.size)) hbx hg)
  obtain ⟨vk, vn, vs⟩ := v
  rw [one_val]
  simp only at hW KI KK C1 ⊢
  clear h h2 hb hx KX hy1 hy2 hbx hv hn
  rcases hkd with rfl | rfl
  · clear KK KX2
    go_enter Tryz.func223, Tryz.ntmps223
    go_upto_region 2 with (fail)
    clear hW c0
    refine wp_region_mix (fun V => V.cell? ⟨b, 1, none⟩ = some (.pointer (some ⟨p, 0, none⟩)) ∧ V.cell? ⟨w.heap.size, 1, none⟩ = some (.int .i64 vn)) 7 [(true, 0), (true, 1), (true, 2), (true, 3), (true, 4), (true, 5), (false, 6), (false, 7)] (by kernel_rfl) (by decide +kernel) rfl (by decide +kernel) C1 ?_
    iterate 6
      refine wpMix_take (v := ?_) rfl rfl ?_ ?_
      rotate_left
      · (intro W hW; (try dsimp only at hW); go_simp) <;> with_reducible rfl
      simp only [Act.put, List.setIfInBounds_toArray, List.set_cons_zero, List.set_cons_succ]
    refine wpMix_run rfl ?_
    intro K' hK'
    go_wp2_with fail
    refine (KI _).mono ?_
    rintro e w' ⟨rfl, rfl⟩
    clear KI
    go_wp2_with fail
    refine hK'.out _ _ (fun _ => C1) ?_
    clear hK' K'
    refine wpMix_run rfl ?_
    intro K' hK'
    go_wp2_with fail
    refine KX1.mono ?_
    rintro e w' ⟨rfl, hg⟩
    have FI := Lib.hid (FIN.out w' hg)
    clear hg KX1 FIN
    go_wp2_with fail
    refine hK'.out _ _ (fun h => absurd rfl h) ?_
    clear hK' K' C1
    refine wpMix_nil ?_
    go_wp2_with fail
    go_end0
    exact ⟨rfl, FI.out⟩
  · clear KI KX1
    go_enter Tryz.func223, Tryz.ntmps223
    go_upto_region 3 with (fail)
    clear hW c0
    refine wp_region_mix (fun V => V.cell? ⟨b, 1, none⟩ = some (.pointer (some ⟨p, 0, none⟩)) ∧ V.cell? ⟨w.heap.size, 1, none⟩ = some (.int .i64 vn)) 7 [(true, 0), (true, 1), (true, 2), (true, 3), (true, 4), (true, 5), (false, 6), (false, 7)] (by kernel_rfl) (by decide +kernel) rfl (by decide +kernel) C1 ?_
    iterate 6
      refine wpMix_take (v := ?_) rfl rfl ?_ ?_
      rotate_left
      · (intro W hW; (try dsimp only at hW); go_simp) <;> with_reducible rfl
      simp only [Act.put, List.setIfInBounds_toArray, List.set_cons_zero, List.set_cons_succ]
    refine wpMix_run rfl ?_
    intro K' hK'
    go_wp2_with fail
    refine (KK _).mono ?_
    rintro e w' ⟨rfl, rfl⟩
    clear KK
    go_wp2_with fail
    refine hK'.out _ _ (fun _ => C1) ?_
    clear hK' K'
    refine wpMix_run rfl ?_
    intro K' hK'
    go_wp2_with fail
    refine KX2.mono ?_
    rintro e w' ⟨rfl, hg⟩
    have FI := Lib.hid (FIN.out w' hg)
    clear hg KX2 FIN
    go_wp2_with fail
    refine hK'.out _ _ (fun h => absurd rfl h) ?_
    clear hK' K' C1
    refine wpMix_nil ?_
    go_wp2_with fail
    go_end0
    exact ⟨rfl, FI.out⟩
theorem take_top {T : Tags} {i : Nat} {w : World} {b p m n : Nat} (h : TopT b p m n T i w) (hn : n ≤ 1000000) (v : VV) (id : Int) (hid : -9223372036854775808 ≤ id ∧ id < 9223372036854775808) :
    Calls Tryz.prog 276 #[.pointer (some ⟨b, 0, none⟩), v.val, .int .i64 id] w fun e w' => e = .returned (.tuple #[]) ∧ Goes T i w (TopT b p m (n + 1)) w' := by
  have hb := below_c w (.cells #[.int .i64 v.k, .int .i64 v.n, .string v.s] 36)
  have h2 := (TopT.framed b p m n).below h hb
  have KI := hq_ins h2.2 (x := id) ⟨hid.1, by omega⟩ (by omega)
  obtain ⟨W, hW⟩ : ∃ W, w.alloc (.cells #[.int .i64 v.k, .int .i64 v.n, .string v.s] 36) = W := ⟨_, rfl⟩
  rw [hW] at KI h2 hb
  have c0 : W.cell? ⟨b, 0, none⟩ = some (.pointer (some ⟨p, 0, none⟩)) := by rw [cell_of_row _ _ _ _ _ _ h2.1.2]; rfl
  have FIN := Lib.hid (fun w' (hg : Goes T i W (Hq p m (n + 1)) w') => top_goes hb h2.1 hg)
  rw [one_val]
  clear h h2 hb hid hn
  go_enter Tryz.func276, Tryz.ntmps276
  go_wp2_with fail
  refine KI.mono ?_
  rintro e w1 ⟨rfl, hg⟩
  have FI := FIN.out w1 hg
  clear KI hg FIN
  go_wp2_with fail
  go_end0
  exact ⟨rfl, FI⟩
theorem mrg_qua {T : Tags} {i j : Nat} {w : World} {b c : Nat} {kd : Int} {p q k n m : Nat} (h : QuaT b kd p k n T i w) (g : QuaT c kd q k m T j w) (_ : i ≠ j) (hn : n + m ≤ 1000000) :
    Calls Tryz.prog 222 #[.pointer (some ⟨b, 0, none⟩), Sv.val c (.qua kd q k m)] w fun e w' => e = .returned (.tuple #[]) ∧ Goes T i w (QuaT b kd p k (n + m)) w' := by
  have hb := below_drew1 w
  have h2 := (QuaT.framed b kd p k n).below h hb
  have g2 := (QuaT.framed c kd q k m).below g hb
  have KM := dq_merge h2.2 g2.2 (by omega)
  have C1 : w.drew.cell? ⟨b, 1, none⟩ = some (.pointer (some ⟨p, 0, none⟩)) ∧ w.drew.cell? ⟨c, 1, none⟩ = some (.pointer (some ⟨q, 0, none⟩)) := ⟨by rw [cell_of_row _ _ _ _ _ _ h2.1.2]; rfl, by rw [cell_of_row _ _ _ _ _ _ g2.1.2]; rfl⟩
  have FIN := Lib.hid (fun w' (hg : Goes T i w.drew (Dq p k (n + m)) w') => qua_goes (below_drew1 w) h2.1 hg)
  have KA := as_quantile_quantile
  unfold Sv.val
  simp only
  clear h g h2 g2 hb hn
  go_enter Tryz.func222, Tryz.ntmps222
  go_upto_region 2 with (fail)
  refine wp_region_mix (fun V => V.cell? ⟨b, 1, none⟩ = some (.pointer (some ⟨p, 0, none⟩)) ∧ V.cell? ⟨c, 1, none⟩ = some (.pointer (some ⟨q, 0, none⟩))) 8 [(true, 0), (true, 1), (true, 2), (true, 3), (true, 4), (true, 5), (true, 6), (true, 7), (false, 8)] (by kernel_rfl) (by decide +kernel) rfl (by decide +kernel) C1 ?_
  iterate 8
    refine wpMix_take (v := ?_) rfl rfl ?_ ?_
    rotate_left
    · (intro W hW; (try dsimp only at hW); go_simp) <;> with_reducible rfl
    simp only [Act.put, List.setIfInBounds_toArray, List.set_cons_zero, List.set_cons_succ]
  refine wpMix_run rfl ?_
  intro K' hK'
  go_wp2_with fail
  refine KM.mono ?_
  rintro e w' ⟨rfl, hg⟩
  have FI := Lib.hid (FIN.out w' hg)
  clear hg KM FIN
  go_wp2_with fail
  refine hK'.out _ _ (fun h => absurd rfl h) ?_
  clear hK' K' C1
  refine wpMix_nil ?_
  go_wp2_with fail
  go_end0
  exact ⟨rfl, FI.out⟩
theorem mrg_top {T : Tags} {i j : Nat} {w : World} {b c : Nat} {p q k n m : Nat} (h : TopT b p k n T i w) (g : TopT c q k m T j w) (hij : i ≠ j) (hn : n + m ≤ 1000000) :
    Calls Tryz.prog 275 #[.pointer (some ⟨b, 0, none⟩), Sv.val c (.top q k m)] w fun e w' => e = .returned (.tuple #[]) ∧ Goes T i w (TopT b p k (n + m)) w' := by
  have hb := below_drew1 w
  have h2 := (TopT.framed b p k n).below h hb
  have g2 := (TopT.framed c q k m).below g hb
  have KM := hq_merge h2.2 g2.2 hij (by omega)
  have C1 : w.drew.cell? ⟨b, 0, none⟩ = some (.pointer (some ⟨p, 0, none⟩)) ∧ w.drew.cell? ⟨c, 0, none⟩ = some (.pointer (some ⟨q, 0, none⟩)) := ⟨by rw [cell_of_row _ _ _ _ _ _ h2.1.2]; rfl, by rw [cell_of_row _ _ _ _ _ _ g2.1.2]; rfl⟩
  have FIN := Lib.hid (fun w' (hg : Goes T i w.drew (Hq p k (n + m)) w') => top_goes (below_drew1 w) h2.1 hg)
  have KA := as_top_top
  unfold Sv.val
  simp only
  clear h g h2 g2 hb hij hn
  go_enter Tryz.func275, Tryz.ntmps275
  go_upto_region 2 with (fail)
  refine wp_region_mix (fun V => V.cell? ⟨b, 0, none⟩ = some (.pointer (some ⟨p, 0, none⟩)) ∧ V.cell? ⟨c, 0, none⟩ = some (.pointer (some ⟨q, 0, none⟩))) 8 [(true, 0), (true, 1), (true, 2), (true, 3), (true, 4), (true, 5), (true, 6), (true, 7), (false, 8)] (by kernel_rfl) (by decide +kernel) rfl (by decide +kernel) C1 ?_
  iterate 8
    refine wpMix_take (v := ?_) rfl rfl ?_ ?_
    rotate_left
    · (intro W hW; (try dsimp only at hW); go_simp) <;> with_reducible rfl
    simp only [Act.put, List.setIfInBounds_toArray, List.set_cons_zero, List.set_cons_succ]
  refine wpMix_run rfl ?_
  intro K' hK'
  go_wp2_with fail
  refine KM.mono ?_
  rintro e w' ⟨rfl, hg⟩
  have FI := Lib.hid (FIN.out w' hg)
  clear hg KM FIN
  go_wp2_with fail
  refine hK'.out _ _ (fun h => absurd rfl h) ?_
  clear hK' K' C1
  refine wpMix_nil ?_
  go_wp2_with fail
  go_end0
  exact ⟨rfl, FI.out⟩
end Go.Proofs.YtlhpbfjelgmkeaaGreat
/- What a measure begins with. Conditions: a measure of kind 1 to 5 of a column that it may be of; good settings. -/
set_option maxRecDepth 100000
namespace Go.Proofs.YtlhpbfjelgmkeaaGreat
open Go.RowKit Go.Maps Go.Sort Go.Lib
open Wide

/-- may a measure be of a column of this kind? (kinds 1 to 7) -/
def okM (mk k : Int) : Prop := (1 ≤ k ∧ k ≤ 4) ∧ (mk = 1 ∨ (mk = 2 ∧ k = 1) ∨ mk = 3 ∨ mk = 4 ∨ mk = 5 ∨ (mk = 6 ∧ (k = 1 ∨ k = 2)) ∨ mk = 7)
/-- what it keeps of no values -/
def Begun (t : Nat) (S : List (Nat × Nat)) (K M : Int) (mk k : Int) (s : Sv) : Prop :=
  (mk = 1 ∧ s = .cnt 0) ∨ (mk = 2 ∧ s = .sum 0 0) ∨ (mk = 3 ∧ s = .low VV.none_) ∨ (mk = 4 ∧ s = .high VV.none_) ∨ (mk = 5 ∧ ∃ p, s = .dis p (SkV.empty t S)) ∨ (mk = 6 ∧ ∃ p, s = .qua k p K.toNat 0) ∨ (mk = 7 ∧ ∃ p, s = .top p M.toNat 0)
theorem good_km {t K M : Int} {S : List (Nat × Nat)} (h : goodB t S K M = true) : 1 ≤ K ∧ K ≤ 64 ∧ 1 ≤ M ∧ M ≤ 64 := by
  unfold goodB restB at h
  rw [Bool.and_eq_true, decide_eq_true_eq] at h
  obtain ⟨_, _, _, _, ⟨h4, h5⟩, h6, h7⟩ := h
  exact ⟨h4, h5, h6, h7⟩
section
variable {w0 w : World} {E : List (Nat × Thing)} {j : Nat} {A B : Thing}
theorem side_pair (h : Side w0 ((j, A) :: (j, B) :: E) w) : Side w0 ((j, fun T i w => A T i w ∧ B T i w) :: E) w := by
  obtain ⟨T, h⟩ := h
  have h1 := h.at_ (j, A) (List.mem_cons_self ..)
  have h2 := h.at_ (j, B) (List.mem_cons_of_mem _ (List.mem_cons_self ..))
  refine ⟨T, h.base, h.old, fun e he => ?_⟩
  rcases List.mem_cons.1 he with rfl | he
  · exact ⟨fun T T' i w w' g hT hw => ⟨h1.1 T T' i w w' g.1 hT hw, h2.1 T T' i w w' g.2 hT hw⟩, h1.2, h2.2⟩
  · exact h.at_ e (List.mem_cons_of_mem _ (List.mem_cons_of_mem _ he))
def BegP (w0 : World) (E : List (Nat × Thing)) (j t : Nat) (S : List (Nat × Nat)) (K M : Int) (mk k : Int) (e : Ending) (w' : World) : Prop := ∃ b s, e = .returned (Sv.val b s) ∧ Begun t S K M mk k s ∧ Hid (Side w0 ((j, StT b s) :: E) w')
set_option maxHeartbeats 1600000 in
theorem begin_any (h : Side w0 E w) (j : Nat) {sa : Option Addr} {n sc : Nat} {S : List (Nat × Nat)} (hs : SetAt w sa n sc S) (t : Nat) (K M : Int) (hg : goodB t S K M = true) (mk k : Int) (hok : okM mk k) :
    Calls Tryz.prog 33 #[.int .i64 mk, .int .i64 k, setV t sa n sc K M] w (BegP w0 E j t S K M mk k) := by
  have hb := below_c w (setO t sa n sc K M)
  have h1 := h.below hb
  have HS := Lib.hid (side_new h1 j (hs.below hb) t K M hg)
  obtain ⟨k1', k64', m1', m64'⟩ := good_km hg
  have HQ := Lib.hid (h1.make j (fun p => Dq p K.toNat 0) (fun p => Dq.framed p _ _) (R := fun p e => e = .returned (.pointer (some ⟨p, 0, none⟩))) fun T _ => dq_new (by omega) (by omega) T j)
  have HT := Lib.hid (h1.make j (fun p => Hq p M.toNat 0) (fun p => Hq.framed p _ _) (R := fun p e => e = .returned (.pointer (some ⟨p, 0, none⟩))) fun T _ => hq_new (by omega) (by omega) T j)
  have hKK : ((K.toNat : Nat) : Int) = K := by omega
  have hMM : ((M.toNat : Nat) : Int) = M := by omega
  rw [hKK] at HQ
  rw [hMM] at HT
  have HO := Lib.hid (fun (ob : Obj) => h1.own j ob)
  have hz : (w.alloc (setO t sa n sc K M)).heap.size = w.heap.size + 1 := by simp
  obtain ⟨P, hP⟩ : ∃ P, BegP w0 E j t S K M mk k = P := ⟨_, rfl⟩
  have F := Lib.hid (fun (b : Nat) (s : Sv) (w' : World) (hB : Begun t S K M mk k s) (hS : Side w0 ((j, StT b s) :: E) w') => (by rw [← hP]; exact ⟨b, s, rfl, hB, Lib.hid hS⟩ : P (.returned (Sv.val b s)) w'))
  rw [hP]
  obtain ⟨⟨k1, k4⟩, hmk⟩ := hok
  have t1 : decide (k < 1) = false := decide_eq_false (by omega)
  have t2 : decide (4 < k) = false := decide_eq_false (by omega)
  unfold setV setO at *
  rw [hz] at HO
  clear h h1 hs hg hz hP hb
  clear hKK hMM k1' k64' m1' m64'
  rcases hmk with rfl | ⟨rfl, rfl⟩ | rfl | rfl | rfl | ⟨rfl, hkk⟩ | rfl
  · have FI := F.out _ (.cnt 0) _ (.inl ⟨rfl, rfl⟩) (HO.out (cntO 0))
    clear F HS HO HQ HT
    unfold Sv.val cntO at FI
    go_enter Tryz.func33, Tryz.ntmps33
    go_wp2_with fail
    exact FI
  · have FI := F.out _ (.sum 0 0) _ (.inr (.inl ⟨rfl, rfl⟩)) (HO.out (sumO 0 0))
    clear F HS HO HQ HT
    unfold Sv.val sumO at FI
    rw [show hiW 0 = 0 from rfl, show loW 0 = 0 from rfl] at FI
    go_enter Tryz.func33, Tryz.ntmps33
    go_wp2_with fail
    exact FI
  · have FI := F.out _ (.low VV.none_) _ (.inr (.inr (.inl ⟨rfl, rfl⟩))) (HO.out (lowO VV.none_))
    clear F HS HO HQ HT
    unfold Sv.val lowO VV.none_ at FI
    go_enter Tryz.func33, Tryz.ntmps33
    go_wp2_with fail
    exact FI
  · have FI := F.out _ (.high VV.none_) _ (.inr (.inr (.inr (.inl ⟨rfl, rfl⟩)))) (HO.out (highO VV.none_))
    clear F HS HO HQ HT
    unfold Sv.val highO VV.none_ at FI
    go_enter Tryz.func33, Tryz.ntmps33
    go_wp2_with fail
    exact FI
  · clear HO HQ HT
    go_enter Tryz.func33, Tryz.ntmps33
    go_wp2_with fail
    refine HS.out.mono ?_
    rintro e w1 ⟨p, rfl, hS⟩
    have FI := F.out _ (.dis p (SkV.empty t S)) _ (.inr (.inr (.inr (.inr (.inl ⟨rfl, p, rfl⟩))))) (side_pair (hS.out.alloc j (disO p)))
    clear F HS hS
    unfold Sv.val disO at FI
    go_wp2_with fail
    exact FI
  · clear HO HS HT
    rcases hkk with rfl | rfl
    · go_enter Tryz.func33, Tryz.ntmps33
      go_wp2_with fail
      refine HQ.out.mono ?_
      rintro e w1 ⟨p, rfl, hS⟩
      have FI := F.out _ (.qua 1 p K.toNat 0) _ (.inr (.inr (.inr (.inr (.inr (.inl ⟨rfl, p, rfl⟩)))))) (side_pair (hS.out.alloc j (quaO 1 p)))
      clear F HQ hS
      unfold Sv.val quaO at FI
      go_wp2_with fail
      exact FI
    · go_enter Tryz.func33, Tryz.ntmps33
      go_wp2_with fail
      refine HQ.out.mono ?_
      rintro e w1 ⟨p, rfl, hS⟩
      have FI := F.out _ (.qua 2 p K.toNat 0) _ (.inr (.inr (.inr (.inr (.inr (.inl ⟨rfl, p, rfl⟩)))))) (side_pair (hS.out.alloc j (quaO 2 p)))
      clear F HQ hS
      unfold Sv.val quaO at FI
      go_wp2_with fail
      exact FI
  · clear HO HS HQ
    go_enter Tryz.func33, Tryz.ntmps33
    go_wp2_with fail
    refine HT.out.mono ?_
    rintro e w1 ⟨p, rfl, hS⟩
    have FI := F.out _ (.top p M.toNat 0) _ (.inr (.inr (.inr (.inr (.inr (.inr ⟨rfl, p, rfl⟩)))))) (side_pair (hS.out.alloc j (topO p)))
    clear F HT hS
    unfold Sv.val topO at FI
    go_wp2_with fail
    exact FI
/-- no such measure -/
theorem begin_no {w : World} {sa : Option Addr} {n sc : Nat} (t K M : Int) (mk k : Int) (hok : ¬ okM mk k) :
    Calls Tryz.prog 33 #[.int .i64 mk, .int .i64 k, setV t sa n sc K M] w fun e w' => e = .returned .nilIface ∧ Below w.heap.size w w' := by
  have hb := below_c w (setO t sa n sc K M)
  have HB := Lib.hid hb
  unfold okM at hok
  unfold setV setO at *
  clear hb
  by_cases h1 : k < 1
  · go_enter Tryz.func33, Tryz.ntmps33
    go_wp2_with fail
    go_ret
    exact ⟨rfl, HB.out⟩
  by_cases h4 : 4 < k
  · go_enter Tryz.func33, Tryz.ntmps33
    go_wp2_with fail
    go_ret
    exact ⟨rfl, HB.out⟩
  by_cases e2 : mk = 2
  · have hk : ¬ k = 1 := by omega
    clear hok
    subst e2
    go_enter Tryz.func33, Tryz.ntmps33
    go_wp2_with fail
    go_ret
    exact ⟨rfl, HB.out⟩
  by_cases e6 : mk = 6
  · have hk : ¬ k = 1 := by omega
    have hk2 : ¬ k = 2 := by omega
    have hk3 : (k == 1) = false := by simpa using hk
    have hk4 : (k == 2) = false := by simpa using hk2
    clear hok hk hk2
    subst e6
    go_enter Tryz.func33, Tryz.ntmps33
    go_wp2_with fail
    go_ret
    exact ⟨rfl, HB.out⟩
  have n1 : ¬ mk = 1 := by omega
  have n3 : ¬ mk = 3 := by omega
  have n4 : ¬ mk = 4 := by omega
  have n5 : ¬ mk = 5 := by omega
  have n7 : ¬ mk = 7 := by omega
  clear hok
  go_enter Tryz.func33, Tryz.ntmps33
  go_wp2_with fail
  go_ret
  exact ⟨rfl, HB.out⟩
end
end Go.Proofs.YtlhpbfjelgmkeaaGreat
/- Slices of structs of two cells, of texts, of columns and measures, in memory. Conditions: none. -/
set_option maxRecDepth 100000
namespace Go.Proofs.YtlhpbfjelgmkeaaGreat
open Go.RowKit Go.Maps Go.Sort

def colC (c : ByteArray × Int) : Value × Value := (.string c.1, .int .i64 c.2)
def meaC (m : Int × ByteArray) : Value × Value := (.int .i64 m.1, .string m.2)
def strs (l : List ByteArray) : List Value := l.map Value.string
theorem strs_len (l : List ByteArray) : (strs l).length = l.length := by simp [strs]
/-- a slice of structs of two cells holds these -/
def Holds2 (w : World) (v : Value) (l : List (Value × Value)) : Prop :=
  ∃ a c, v = .slice a l.length c ∧ l.length ≤ c ∧ ((a = none ∧ l = [] ∧ c = 0) ∨ ∃ ad : Addr, a = some ad ∧ ∀ i x, l[i]? = some x →
    w.cell? (ad.add (i * 2)) = some x.1 ∧ w.cell? ⟨(ad.add (i * 2)).block, (ad.add (i * 2)).off + 1, none⟩ = some x.2)
theorem Holds2.kept {w w' : World} {v : Value} {l : List (Value × Value)} (h : Holds2 w v l) (hc : ∀ (a : Addr) u, w.cell? a = some u → w'.cell? a = some u) : Holds2 w' v l := by
  obtain ⟨a, c, h1, h2, h3⟩ := h
  refine ⟨a, c, h1, h2, ?_⟩
  rcases h3 with h3 | ⟨ad, h3, h4⟩
  · exact .inl h3
  · exact .inr ⟨ad, h3, fun i x hx => ⟨hc _ _ (h4 i x hx).1, hc _ _ (h4 i x hx).2⟩⟩
theorem Holds2.form {w : World} {v : Value} {l : List (Value × Value)} (h : Holds2 w v l) : ∃ a c, v = .slice a l.length c ∧ l.length ≤ c := by
  obtain ⟨a, c, h1, h2, _⟩ := h
  exact ⟨a, c, h1, h2⟩
theorem Holds2.at_ {w : World} {a : Option Addr} {n c : Nat} {l : List (Value × Value)} (h : Holds2 w (.slice a n c) l) {i : Nat} {x : Value × Value} (hx : l[i]? = some x) : ∃ ad : Addr, a = some ad ∧ w.cell? (ad.add (i * 2)) = some x.1 ∧ w.cell? ⟨(ad.add (i * 2)).block, (ad.add (i * 2)).off + 1, none⟩ = some x.2 := by
  obtain ⟨a', c', h1, _, h3⟩ := h
  cases h1
  rcases h3 with ⟨_, e, _⟩ | ⟨ad, h3, h4⟩
  · subst e; simp at hx
  · exact ⟨ad, h3, h4 i x hx⟩
theorem kept_of_below {w w' : World} (hb : Below w.heap.size w w') : ∀ (p : Addr) u, w.cell? p = some u → w'.cell? p = some u := fun p u hp => by rw [hb.cell (World.block_lt_of_cell? w p hp)]; exact hp
theorem Holds2.below {w w' : World} {v : Value} {l : List (Value × Value)} (h : Holds2 w v l) (hb : Below w.heap.size w w') : Holds2 w' v l := h.kept (kept_of_below hb)
/-- cells of structs of two cells -/
def fl2 (ps : List (Value × Value)) : List Value := ps.flatMap fun x => [x.1, x.2]
theorem fl2_at : ∀ (l : List (Value × Value)) (i : Nat) (x : Value × Value), l[i]? = some x → (fl2 l)[i * 2]? = some x.1 ∧ (fl2 l)[i * 2 + 1]? = some x.2
  | [], i, x, h => by simp at h
  | q :: r, 0, x, h => by
    simp at h
    subst h
    simp [fl2]
  | q :: r, i + 1, x, h => by
    have := fl2_at r i x (by simpa using h)
    unfold fl2 at this ⊢
    rw [List.flatMap_cons, show (i + 1) * 2 = i * 2 + 2 by omega, show i * 2 + 2 + 1 = (i * 2 + 1) + 2 by omega]
    exact this
/-- a new block of structs of two cells -/
theorem holds2_new (w : World) (T : TypeId) (l : List (Value × Value)) (n : Nat) (hn : l.length = n) (cs : Array Value) (hc : cs.toList = fl2 l) : Holds2 (w.alloc (.cells cs T)) (.slice (some ⟨w.heap.size, 0, none⟩) n n) l := by
  subst hn
  refine ⟨_, _, rfl, Nat.le_refl _, .inr ⟨_, rfl, fun i x hx => ?_⟩⟩
  obtain ⟨a0, a1⟩ := fl2_at l i x hx
  have hb : (w.alloc (.cells cs T)).heap[w.heap.size]? = some (.cells cs T (0, 0)) := heap_alloc_new w _
  rw [Addr.add_at, Nat.zero_add, cell_of_row _ _ _ _ _ _ hb, cell_of_row _ _ _ _ _ _ hb, ← Array.getElem?_toList, ← Array.getElem?_toList, hc]
  exact ⟨a0, a1⟩
end Go.Proofs.YtlhpbfjelgmkeaaGreat
/- A cell in memory: rows as things, a copy of kinds, the cell's parts. Conditions: none. -/
set_option maxRecDepth 100000
namespace Go.Proofs.YtlhpbfjelgmkeaaGreat
open Go.RowKit Go.Maps Go.Sort Go.Lib

/-- a copy of numbers -/
def ICloneOf (w : World) (l : List Int) (e : Ending) (w' : World) : Prop := ∃ v, e = .returned v ∧ w'.ownsRow w.heap.size 3 1 v l.length (i64s l) ∧ Below w.heap.size w w'

set_option maxHeartbeats 800000 in
theorem clone_ints {w : World} {a : Option Addr} {n c : Nat} {l : List Int} (h : Holds w (.slice a n c) (i64s l)) (hl : l.length ≤ 1000000) :
    Calls Tryz.prog 31 #[.slice a n c] w (ICloneOf w l) := by
  cases a with
  | none =>
    have hn : l = [] := by
      obtain ⟨_, _, e, _, h3 | ⟨_, h3, _⟩⟩ := h
      · have := congrArg List.length h3.2.1
        rw [i64s_len] at this
        exact List.eq_nil_of_length_eq_zero this
      · cases e; cases h3
    subst hn
    have hn0 : n = 0 := by have := h.len.1; simpa [i64s] using this.symm
    have hc0 : c = 0 := by
      obtain ⟨_, _, e, _, h3 | ⟨_, h3, _⟩⟩ := h
      · cases e; exact h3.2.2
      · cases e; cases h3
    subst hn0 hc0
    have HP : Hid (ICloneOf w [] (.returned (.slice none 0 0)) w) := Lib.hid ⟨_, rfl, World.ownsRow_nil _ _ _ _, Below.refl _ _⟩
    have hnil := fun W => Lib.run_eql_slice_nil (P := Tryz.prog) W 27 3 none 0 0 0 0 Tryz.underlying27
    clear h hl
    go_enter Tryz.func31, Tryz.ntmps31
    go_wp2_with fail
    go_ret
    exact HP.out
  | some ad =>
    have hb1 := (Below.refl w.heap.size w).alloc (Nat.le_refl _) (.cells #[] 3)
    have hr1 := World.ownsRow_made w (base := w.heap.size) (e := 3) (size := 1) #[] 0 (Nat.le_refl _) (by unfold maxLen; omega) (by simp)
    obtain ⟨v2, w2, r, o, g, b⟩ := app_any (P := Tryz.prog) (xs := []) Tryz.underlying27 info64 (by omega) rfl hr1 hb1.size (h.below hb1) (i64s_one l) (by rw [i64s_len]; simp; omega)
    have R := Lib.hid r
    have HP : Hid (ICloneOf w l (.returned v2) w2) := Lib.hid ⟨_, rfl, by simpa [i64s_len] using o, hb1.trans (below_grown g hb1.size (fun k e => by simp [Value.ownBlock] at e; omega))⟩
    have hnil := fun W => Lib.run_eql_slice_nil (P := Tryz.prog) W 27 3 (some ad) n c 0 0 Tryz.underlying27
    clear h r o g b hb1 hr1 hl
    go_enter Tryz.func31, Tryz.ntmps31
    go_wp2_with (at_builtin; refine wpList_append_run rfl _ _ 27 rfl rfl rfl (R.out _) ?_)
    go_ret
    exact HP.out


/-- a row of one's own -/
def RowT (e k : Nat) (v : Value) (n : Nat) (xs : List Value) : Thing := fun T i w => w.ownsRow 0 e k v n xs ∧ ∀ g, v.ownBlock = some g → T g = some i
theorem RowT.framed (e k : Nat) (v : Value) (n : Nat) (xs : List Value) : Framed (RowT e k v n xs) := fun _ _ _ _ _ h hT hw =>
  ⟨ownsRow_of_block h.1 (fun g hg => hw g (h.1.lt g hg).2 (.inr (h.2 g hg))), fun g hg => (hT g (h.1.lt g hg).2).trans (h.2 g hg)⟩
/-- seeds that nobody changes -/
def SeedT (g : Nat) (S : List (Nat × Nat)) : Thing := fun T _ w => T g = none ∧ g < w.heap.size ∧ SeedsIn w ⟨g, 0, none⟩ S
theorem SeedT.framed (g : Nat) (S : List (Nat × Nat)) : Framed (SeedT g S) := fun _ _ _ _ w' h hT hw => by
  have h1 := hw g h.2.1 (.inl h.1)
  have h2 : g < w'.heap.size := by
    rw [Array.getElem?_eq_getElem h.2.1] at h1
    exact (Array.getElem?_eq_some_iff.1 h1).1
  exact ⟨(hT g h.2.1).trans h.1, h2, h.2.2.keep (hw g h.2.1 (.inl h.1))⟩
section
variable {w0 w : World} {E : List (Nat × Thing)} {i j : Nat} {A : Thing} {e k : Nat} {v : Value} {n : Nat} {xs : List Value}
theorem side_row (h : Side w0 E w) (i : Nat) {w' : World} (ho : w'.ownsRow w.heap.size e k v n xs) (hb : Below w.heap.size w w') : Side w0 ((i, RowT e k v n xs) :: E) w' := by
  obtain ⟨T, h⟩ := h
  refine Side.add h (T.one_next w (some i)) hb (RowT.framed _ _ _ _ _) ⟨ownsRow_rebase3 ho (fun _ _ => Nat.zero_le _), fun g hg => ?_⟩
  have := (ho.lt g hg).1
  unfold Tags.one
  rw [if_neg (by omega)]
theorem side_nil (h : Side w0 E w) (i e k : Nat) : Side w0 ((i, RowT e k (.slice none 0 0) 0 []) :: E) w := by
  obtain ⟨T, h⟩ := h
  exact Side.add h (fun _ _ => rfl) (Below.refl _ _) (RowT.framed _ _ _ _ _) ⟨World.ownsRow_nil _ _ _ _, fun g hg => by simp [Value.ownBlock] at hg⟩
theorem side_seed (h : Side w0 E w) (i : Nat) {w' : World} {g : Nat} {S : List (Nat × Nat)} (hg : w.heap.size ≤ g) (hg2 : g < w'.heap.size) (hs : SeedsIn w' ⟨g, 0, none⟩ S) (hb : Below w.heap.size w w') : Side w0 ((i, SeedT g S) :: E) w' := by
  obtain ⟨T, h⟩ := h
  refine Side.add h (T.one_next w none) hb (SeedT.framed _ _) ⟨?_, hg2, hs⟩
  unfold Tags.one
  rw [if_neg (by omega)]
/-- an element more behind a row -/
theorem side_push {t : Nat} {z : Value} {by' : Nat} (ht : Tryz.prog.underlying t = some (.slice e)) (hinfo : (Tryz.prog.info? e).map (fun i => (i.zero, i.size, i.bytes)) = some (some z, k, by')) (hzs : z.cells.size = k) (hk : 0 < k)
    (h : Side w0 ((i, RowT e k v n xs) :: E) w) (hi : ∀ x ∈ E, x.1 ≠ i) (news : List Value) (hl : news.length = k) (h1 : ∀ u ∈ news, u.oneCell' = true) (hbytes : (n + 1) * by' ≤ 140737488355328) (hn : n ≤ 1000000) :
    ∃ v' X, Hid (∀ ty, (Builtin.append_ #[t, t] ty #[v, .slice (some ⟨w.heap.size, 0, none⟩) 1 1]).run Tryz.prog (w.alloc (.cells news.toArray e)) = .ok v' X) ∧ Hid (Side w0 ((i, RowT e k v' (n + 1) (xs ++ news)) :: E) X) := by
  obtain ⟨T, h⟩ := h
  obtain ⟨_, h2⟩ := h.at_ _ (List.mem_cons_self ..)
  obtain ⟨v', X, hr, ho, hg, hv⟩ := push_row ht hinfo hzs hk h2.1 (Nat.zero_le _) news hl h1 hbytes (by omega)
  refine ⟨v', X, Lib.hid hr, ?_⟩
  have hs : SideT w0 T E w := ⟨h.base, h.old, fun e he => h.at_ e (List.mem_cons_of_mem _ he)⟩
  have he : Else (fun k => T k = some i) w X := (Else.of_grown hg).mono (fun x hx => h2.2 x hx)
  have hs' := hs.next (T.one_next w (some i)) he hi
  refine ⟨T.one w.heap.size (some i), hs'.base, hs'.old, fun q hq => ?_⟩
  rcases List.mem_cons.1 hq with rfl | hq
  · refine ⟨RowT.framed _ _ _ _ _, ho, fun g hg => ?_⟩
    rcases hv with hv | hv
    · rw [hv] at hg
      unfold Tags.one
      rw [if_pos (h2.1.lt g hg).2]
      exact h2.2 g hg
    · rw [hv] at hg
      have : g = w.heap.size + 1 := (Option.some.inj hg).symm
      unfold Tags.one
      rw [if_neg (by omega)]
  · exact hs'.at_ q hq
end
theorem infoMea : (Tryz.prog.info? 25).map (fun i => (i.zero, i.size, i.bytes)) = some (some (.agg #[.int .i64 0, .string ⟨#[]⟩]), 2, 24) := by kernel_rfl
theorem infoSta : (Tryz.prog.info? 97).map (fun i => (i.zero, i.size, i.bytes)) = some (some .nilIface, 1, 16) := by kernel_rfl
/-- a cell, plain -/
structure Cv where
  ms : List (Int × ByteArray)
  ks : List Int
  t : Nat
  S : List (Nat × Nat)
  K : Int
  M : Int
  rows : Nat
  st : List (Nat × Sv)
/-- where its parts lie -/
structure Lay where
  mv : Value
  kv : Value
  g : Nat
  c : Nat
  sv : Value
def vals (st : List (Nat × Sv)) : List Value := st.map fun s => Sv.val s.1 s.2
def celO (L : Lay) (C : Cv) : Obj := .cells #[L.mv, L.kv, .int .i64 (C.t : Int), .slice (some ⟨L.g, 0, none⟩) C.S.length L.c, .int .i64 C.K, .int .i64 C.M, .int .i64 (C.rows : Int), L.sv] 92 (0, 0)
def stE : Nat → List (Nat × Sv) → List (Nat × Thing)
  | _, [] => []
  | j, s :: r => (j, StT s.1 s.2) :: stE (j + 1) r
/-- the things that a cell is -/
def cellE (i q : Nat) (L : Lay) (C : Cv) : List (Nat × Thing) :=
  (i, OBox q (celO L C)) :: (i + 1, RowT 25 2 L.mv C.ms.length (fl2 (C.ms.map meaC))) :: (i + 2, RowT 97 1 L.sv C.st.length (vals C.st)) :: (i + 3, RowT 3 1 L.kv C.ks.length (i64s C.ks)) :: (i + 4, SeedT L.g C.S) :: stE (i + 5) C.st
theorem stE_mem : ∀ (j : Nat) (st : List (Nat × Sv)) (x : Nat × Thing), x ∈ stE j st → j ≤ x.1 ∧ x.1 < j + st.length
  | _, [], x, h => by cases h
  | j, s :: r, x, h => by
    rcases List.mem_cons.1 h with rfl | h
    · exact ⟨Nat.le_refl _, by simp⟩
    · have := stE_mem (j + 1) r x h
      simp only [List.length_cons]
      omega
theorem stE_snoc : ∀ (j : Nat) (st : List (Nat × Sv)) (s : Nat × Sv), stE j (st ++ [s]) = stE j st ++ [(j + st.length, StT s.1 s.2)]
  | j, [], s => by simp [stE]
  | j, a :: r, s => by
    rw [List.cons_append, stE, stE_snoc (j + 1) r s, stE]
    simp only [List.length_cons, List.cons_append]
    rw [show j + 1 + r.length = j + (r.length + 1) by omega]
theorem stE_at : ∀ (j : Nat) (st : List (Nat × Sv)) (m : Nat) (s : Nat × Sv), st[m]? = some s → (j + m, StT s.1 s.2) ∈ stE j st
  | _, [], m, s, h => by simp at h
  | j, a :: r, 0, s, h => by
    simp only [List.getElem?_cons_zero, Option.some.injEq] at h
    subst h
    exact List.mem_cons_self ..
  | j, a :: r, m + 1, s, h => by
    simp only [List.getElem?_cons_succ] at h
    have := stE_at (j + 1) r m s h
    rw [show j + 1 + m = j + (m + 1) by omega] at this
    exact List.mem_cons_of_mem _ this
end Go.Proofs.YtlhpbfjelgmkeaaGreat
