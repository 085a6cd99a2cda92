/- slices.Sort at []uint64, first half: what a sort's world is (only: the row's numbers in another order), cmp.Less, the insertion sort, the turned range. Conditions: none but the places. -/
import Derived.Test.YtlhpbfjelgmkeaaGreatStablePlain
import Derived.Test.YtlhpbfjelgmkeaaGreatRows
import Derived.Test.YtlhpbfjelgmkeaaGreatGen
import Derived.Shelf.SlSortCmp.KitK
import Derived.Deep.LoopGhost
import Derived.WalkKit
import Derived.BigRegion
import Derived.BigGuard
import Derived.BigCall
import Derived.CellFam
import Derived.Deep.Draws
import Derived.Deep.QuietTactic
import Derived.BigQuiet
import Derived.Lib.Hide
import Derived.Outline
set_option maxRecDepth 1000000
namespace Go.Proofs.YtlhpbfjelgmkeaaGreat.Dig
open Go.Shelf Go.RowKit Go.Lib Go.Sort

def encW (c : UInt64) : List Value := [.int .u64 (c.toNat : Int)]
/-- a world of the sort's: the row holds its numbers in some order, all else is as it was or laid since -/
def Srt (w0 : World) (blk off : Nat) (d0 : Array UInt64) (W : World) : Prop := ∃ dk, SWK encW 1 w0 blk off dk W ∧ PermIn 0 d0.size d0 dk
abbrev RowW (w0 : World) (blk off : Nat) (d0 : Array UInt64) : Prop := RowK encW 1 w0 blk off d0

section
variable {w0 W : World} {blk off : Nat} {d0 : Array UInt64}
theorem Srt.grown (h : Srt w0 blk off d0 W) (n : Nat) (os : Array Obj) : Srt w0 blk off d0 (grow (W.drewN n) os) := by
  obtain ⟨dk, h1, h2⟩ := h
  exact ⟨dk, h1.grown n os, h2⟩
theorem Srt.alloc (h : Srt w0 blk off d0 W) (o : Obj) : Srt w0 blk off d0 (W.alloc o) := by
  obtain ⟨dk, h1, h2⟩ := h
  exact ⟨dk, h1.alloc o, h2⟩
theorem Srt.setNew (h : Srt w0 blk off d0 W) (b o : Nat) (v : Value) (hb : w0.heap.size ≤ b) : Srt w0 blk off d0 (W.setCell ⟨b, o, none⟩ v) := by
  obtain ⟨dk, h1, h2⟩ := h
  exact ⟨dk, h1.setCell_new b o v hb, h2⟩
theorem Srt.le (h : Srt w0 blk off d0 W) : w0.heap.size ≤ W.heap.size := by
  obtain ⟨dk, h1, h2⟩ := h
  exact h1.le
theorem Srt.drewN (h : Srt w0 blk off d0 W) (n : Nat) : Srt w0 blk off d0 (W.drewN n) := by
  obtain ⟨dk, h1, h2⟩ := h
  exact ⟨dk, h1.drewN n, h2⟩
/-- the row's cells, and what two stores that exchange two of them leave -/
theorem Srt.fam (h : Srt w0 blk off d0 W) (R : RowW w0 blk off d0) : ∃ G : Nat → Int, (∀ t, t < d0.size → W.cell? ⟨blk, off + t, none⟩ = some (.int .u64 (G t))) ∧ (∀ t, t < d0.size → W.frozen? ⟨blk, off + t, none⟩ = false) ∧
    Hid (∀ q i j, i < d0.size → j < d0.size → Srt w0 blk off d0 (((W.drewN q).setCell ⟨blk, off + i, none⟩ (.int .u64 (G j))).setCell ⟨blk, off + j, none⟩ (.int .u64 (G i)))) := by
  obtain ⟨dk, h1, h2⟩ := h
  have hs := h2.1
  have hH := h1.holds R.hblk R.hH hs
  refine ⟨fun t => (dk[t]!.toNat : Int), fun t ht => ?_, fun t ht => ?_, fun q i j hi hj => ⟨swp dk i j, ?_, perm_swp h2 (Nat.zero_le _) hi (Nat.zero_le _) hj (Nat.le_refl _)⟩⟩
  · obtain ⟨a0, b0⟩ := hH.cell (show t < dk.size by omega) (c := 0) (by omega)
    simpa [Nat.mul_one, encW] using a0
  · obtain ⟨a0, b0⟩ := hH.cell (show t < dk.size by omega) (c := 0) (by omega)
    simpa [Nat.mul_one, encW] using b0
  · have := (h1.drewN q).swap R.hk R.hblk i j (show i < dk.size by omega) (show j < dk.size by omega)
    simpa [Nat.mul_one, encW, World.setCells] using this
end
/-- a cell that is there is there behind a store -/
theorem cell_set_some {W : World} {blk i j : Nat} {u : Value} (v : Value) (h : W.cell? ⟨blk, j, none⟩ = some u) : ∃ u', (W.setCell ⟨blk, i, none⟩ v).cell? ⟨blk, j, none⟩ = some u' := by
  by_cases e : i = j
  · subst e
    exact ⟨v, World.cell?_setCell_same' _ _ _ (by rw [h]; rfl)⟩
  · exact ⟨u, by rw [World.cell?_setCell_other _ _ _ _ (fun q => e (Addr.mk.inj q).2.1)]; exact h⟩

set_option maxHeartbeats 4000000 in
theorem isNaN_w (x : Int) (W : World) : Calls Tryz.prog 243 #[.int .u64 x] W fun e w' => e = .returned (.bool false) ∧ w' = W := by
  go_enter Tryz.func243, Tryz.ntmps243
  go_wp2
  refine bodyPost_ret (results_tmp rfl _ _ _) rfl ?_
  exact ⟨rfl, rfl⟩

set_option maxHeartbeats 8000000 in
theorem less_w (x y : Int) (W : World) : Calls Tryz.prog 268 #[.int .u64 x, .int .u64 y] W fun e w' => e = .returned (.bool (decide (x < y))) ∧ w' = W := by
  have N := isNaN_w x W
  go_enter Tryz.func268, Tryz.ntmps268
  by_cases h : x < y
  · go_wp2_with fail
    refine N.mono ?_
    rintro e w' ⟨rfl, rfl⟩
    go_wp2
    refine bodyPost_ret (results_tmp rfl _ _ _) rfl ?_
    exact ⟨by simp [h], rfl⟩
  · go_wp2_with fail
    refine N.mono ?_
    rintro e w' ⟨rfl, rfl⟩
    go_wp2
    refine bodyPost_ret (results_tmp rfl _ _ _) rfl ?_
    exact ⟨by simp, rfl⟩

end Go.Proofs.YtlhpbfjelgmkeaaGreat.Dig
