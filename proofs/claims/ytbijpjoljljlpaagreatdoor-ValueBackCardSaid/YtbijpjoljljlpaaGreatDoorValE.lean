/- The document's examples of values hold in any world whose search bound is some number; logic of three truths. Conditions: as stated. -/
import Derived.Test.YtbijpjoljljlpaaGreatDoorValD
import Derived.ProofKit
import Derived.OpenShut
import Derived.ChangeOld
import Derived.Shelf.Vars
set_option maxRecDepth 100000
namespace Go.Proofs.YtbijpjoljljlpaaGreatDoor
open Go.RowKit Go.Lib

theorem own : ownKnob Tryz.prog.godebug = none := by kernel_rfl
theorem laidOut : laidOutB Tryz.prog = true := by kernel_rfl
theorem valueCells : Tryz.prog.cellsOf 25 = 3 := by kernel_rfl
theorem maxOk {w : World} (h : w.ShapedOpen Tryz.prog) : MaxOk w :=
  Go.Proofs.cell_of_shapedOpen_int (zero := #[.int .i64 0]) (t := 3) h (of_decide_eq_true (by kernel_rfl)) (by kernel_rfl) rfl (by kernel_rfl) (by kernel_rfl) Tryz.underlying3

theorem quote_its : quoteB ⟨#[105, 116, 39, 115]⟩ = ⟨#[39, 105, 116, 39, 39, 115, 39]⟩ := by kernel_rfl
set_option maxHeartbeats 1000000 in
theorem lives_any (w : World) (h : MaxOk w) : Calls Tryz.prog 4 #[] w fun e w' => e = .returned (.bool true) ∧ Below w.heap.size w w' := by
  have KT := text_str 0 ⟨#[105, 116, 39, 115]⟩ (by decide)
  rw [quote_its] at KT
  have KA : ∀ w, Calls Tryz.prog 11 #[.int .i64 (-1), .int .i64 0] w fun e w' => e = .returned (.int .i64 0) ∧ w' = w := and_any (-1) 0
  have KO : ∀ w, Calls Tryz.prog 12 #[.int .i64 (-1), .int .i64 0] w fun e w' => e = .returned (.int .i64 (-1)) ∧ w' = w := or_any (-1) 0
  have KC : ∀ w, Calls Tryz.prog 13 #[vv 0 0 ⟨#[]⟩, vv 1 0 ⟨#[]⟩] w fun e w' => e = .returned (.int .i64 (-1)) ∧ Below w.heap.size w w' := vcmp_any 0 0 ⟨#[]⟩ 1 0 ⟨#[]⟩ (by decide) (by decide) (by decide) (by decide)
  have KG : ∀ w, Calls Tryz.prog 5 #[vv 0 0 ⟨#[]⟩] w fun e w' => e = .returned (.bool true) ∧ Below w.heap.size w w' := fun w => by
    have := vgood_any 0 0 ⟨#[]⟩ (by decide) (by decide) w
    have e : goodV 0 0 ⟨#[]⟩ = true := by unfold goodV; simp [Lib.toList_data]
    rwa [e] at this
  go_enter Tryz.func4, Tryz.ntmps4
  go_wp2_with fail
  refine (KT _ h).mono ?_
  rintro e w2 ⟨rfl, hb0⟩
  clear h KT
  go_wp2_with fail
  refine (KA _).mono ?_
  rintro e w3 ⟨rfl, rfl⟩
  go_wp2_with fail
  refine (KO _).mono ?_
  rintro e w4 ⟨rfl, rfl⟩
  go_wp2_with fail
  refine (KC _).mono ?_
  rintro e w5 ⟨rfl, hb⟩
  replace hb0 := hb0.trans (hb.mono hb0.size)
  clear hb
  go_wp2_with fail
  refine (KG _).mono ?_
  rintro e w6 ⟨rfl, hb⟩
  replace hb0 := hb0.trans (hb.mono hb0.size)
  clear hb
  go_wp2_with fail
  go_ret
  exact ⟨rfl, hb0⟩
theorem three_state {w w' : World} {k n : Int} {s : ByteArray} {k' n' : Int} {s' : ByteArray} {q m : Int} {r : ByteArray}
    (hb : Below (w.heap.size + 3) (((w.alloc (.cells #[.int .i64 k, .int .i64 n, .string s] 25)).alloc (.cells #[.int .i64 k', .int .i64 n', .string s'] 25)).alloc (.cells #[.int .i64 q, .int .i64 m, .string r] 25)) w') :
    (w'.cell? ⟨w.heap.size, 0, none⟩ = some (.int .i64 k) ∧ w'.cell? ⟨w.heap.size, 1, none⟩ = some (.int .i64 n) ∧ w'.cell? ⟨w.heap.size, 2, none⟩ = some (.string s) ∧
      w'.cell? ⟨w.heap.size + 1, 0, none⟩ = some (.int .i64 k') ∧ w'.cell? ⟨w.heap.size + 1, 1, none⟩ = some (.int .i64 n') ∧ w'.cell? ⟨w.heap.size + 1, 2, none⟩ = some (.string s') ∧
      w'.cell? ⟨w.heap.size + 1 + 1, 0, none⟩ = some (.int .i64 q) ∧ w'.cell? ⟨w.heap.size + 1 + 1, 1, none⟩ = some (.int .i64 m) ∧ w'.cell? ⟨w.heap.size + 1 + 1, 2, none⟩ = some (.string r)) ∧ Below w.heap.size w w' := by
  have b1 := (Below.refl w.heap.size w).alloc (Nat.le_refl _) (.cells #[.int .i64 k, .int .i64 n, .string s] 25)
  have c1 := C3.new w (.int .i64 k) (.int .i64 n) (.string s) 25
  have z1 : (w.alloc (.cells #[.int .i64 k, .int .i64 n, .string s] 25)).heap.size = w.heap.size + 1 := by simp
  generalize (w.alloc (.cells #[.int .i64 k, .int .i64 n, .string s] 25)) = w1 at *
  have b2 := (Below.refl w1.heap.size w1).alloc (Nat.le_refl _) (.cells #[.int .i64 k', .int .i64 n', .string s'] 25)
  have c2 := C3.new w1 (.int .i64 k') (.int .i64 n') (.string s') 25
  have z2 : (w1.alloc (.cells #[.int .i64 k', .int .i64 n', .string s'] 25)).heap.size = w1.heap.size + 1 := by simp
  generalize (w1.alloc (.cells #[.int .i64 k', .int .i64 n', .string s'] 25)) = w2 at *
  have b3 := (Below.refl w2.heap.size w2).alloc (Nat.le_refl _) (.cells #[.int .i64 q, .int .i64 m, .string r] 25)
  have c3 := C3.new w2 (.int .i64 q) (.int .i64 m) (.string r) 25
  have z3 : (w2.alloc (.cells #[.int .i64 q, .int .i64 m, .string r] 25)).heap.size = w2.heap.size + 1 := by simp
  generalize (w2.alloc (.cells #[.int .i64 q, .int .i64 m, .string r] 25)) = w3 at *
  have d1 := ((c1.keep b2 (by omega)).keep b3 (by omega)).keep hb (by omega)
  have d2 := (c2.keep b3 (by omega)).keep hb (by omega)
  have d3 := c3.keep hb (by omega)
  rw [z1] at d2
  rw [z2, z1] at d3
  exact ⟨⟨d1.1, d1.2.1, d1.2.2, d2.1, d2.2.1, d2.2.2, d3.1, d3.2.1, d3.2.2⟩, ((b1.trans (b2.mono (by omega))).trans (b3.mono (by omega))).trans (hb.mono (by omega))⟩
theorem three_next {w w1 w2 : World} {o o1 o2 : Obj} (hb : Below (w.heap.size + 3) (((w.alloc o).alloc o1).alloc o2) w1) (hk : Below w1.heap.size w1 w2) : Below (w.heap.size + 3) (((w.alloc o).alloc o1).alloc o2) w2 := by
  have hz : (((w.alloc o).alloc o1).alloc o2).heap.size = w.heap.size + 3 := by simp
  have := hb.size
  exact hb.trans (hk.mono (by omega))
end Go.Proofs.YtbijpjoljljlpaaGreatDoor
