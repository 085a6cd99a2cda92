/- What the calls read of the program's tables; TrailingZeros at 16. Conditions: the tables as the program's text lays them. -/
import Derived.Test.YtbijpjoljljlpaaGreatDoorOrderC
set_option maxRecDepth 100000
namespace Go.Proofs.YtbijpjoljljlpaaGreatDoor
open Go.RowKit

/-- an error's variable -/
def IsErr (v : Value) : Prop := v = .nilIface ∨ ∃ te pe, v = .iface te pe
/-- what is read of the table of bits -/
def Tab (w : World) : Prop := w.cell? ⟨8, 15, none⟩ = some (.int .u8 4)
theorem Tab.below {w w' : World} (h : Tab w) (hb : Below w.heap.size w w') : Tab w' := by
  unfold Tab at h ⊢
  rw [hb.cell (World.block_lt_of_cell? w _ h)]; exact h
/-- what is read of the program's variables -/
def Vars (w : World) : Prop := Tab w ∧ (∃ v, w.cell? ⟨4, 0, none⟩ = some v ∧ IsErr v) ∧ ∃ v, w.cell? ⟨5, 0, none⟩ = some v ∧ IsErr v
theorem Vars.tab {w : World} (h : Vars w) : Tab w := h.1
theorem Vars.below {w w' : World} (h : Vars w) (hb : Below w.heap.size w w') : Vars w' := by
  obtain ⟨h1, ⟨v, h2, h3⟩, u, h4, h5⟩ := h
  exact ⟨h1.below hb, ⟨v, by rw [hb.cell (World.block_lt_of_cell? w _ h2)]; exact h2, h3⟩, u, by rw [hb.cell (World.block_lt_of_cell? w _ h4)]; exact h4, h5⟩
theorem tz64_16 {w : World} (hv : Tab w) : Calls Tryz.prog 111 #[.int .u64 16] w fun e w' => e = .returned (.int .i64 4) ∧ w = w' := by
  have hc : w.cell? ⟨8, 15, none⟩ = some (.int .u8 4) := hv
  have h1 : bits .and .u64 16 (IntKind.u64.wrap (-16)) = 16 := by decide
  have h2 : IntKind.u64.wrap 4573923408821661840 = 4573923408821661840 := by decide
  clear hv
  go_enter Tryz.func111, Tryz.ntmps111
  go_wp2_with fail
  go_ret
  exact ⟨rfl, rfl⟩
theorem tz_16 {w : World} (hv : Tab w) : Calls Tryz.prog 106 #[.int .u64 16] w fun e w' => e = .returned (.int .i64 4) ∧ w = w' := by
  have K := tz64_16 hv
  clear hv
  go_enter Tryz.func106, Tryz.ntmps106
  go_wp2_with fail
  refine K.mono ?_; rintro e w' ⟨rfl, rfl⟩; go_wp2_with fail
  go_ret
  exact ⟨rfl, rfl⟩
theorem pow2_16 (w : World) : Calls Tryz.prog 105 #[.int .i64 16] w fun e w' => e = .returned (.bool true) ∧ w = w' := by
  have h1 : bits .and .i64 16 15 = 0 := by decide
  go_enter Tryz.func105, Tryz.ntmps105
  go_wp2_with fail
  go_ret
  exact ⟨rfl, rfl⟩
end Go.Proofs.YtbijpjoljljlpaaGreatDoor
