/- Contracts of slices.Clone at numbers and at seeds. Conditions: small slices. -/
import Derived.Test.YtlhpbfjelgmkeaaGreatKmvIns
import Derived.Lib.SliceRun
set_option maxRecDepth 100000
namespace Go.Proofs.YtlhpbfjelgmkeaaGreat
open Go.RowKit Go.Maps Go.Sort

/-- a copy of numbers -/
def CloneOf (w : World) (l : List Nat) (e : Ending) (w' : World) : Prop := ∃ v, e = .returned v ∧ w'.ownsRow w.heap.size 43 1 v l.length (nats l) ∧ Below w.heap.size w w'

theorem flat_one (S : List (Nat × Nat)) : ∀ u ∈ flat S, u.oneCell' = true := fun u hu => by
  obtain ⟨s, _, hs⟩ := List.mem_flatMap.1 hu
  simp at hs
  rcases hs with rfl | rfl <;> rfl
theorem infoSeed : (Tryz.prog.info? 95).map (fun i => (i.zero.map (·.cells.size), i.size, i.bytes)) = some (some 2, 2, 16) := by kernel_rfl

/-- a copy of seeds: a block of its own -/
def SeedsOf (w : World) (S : List (Nat × Nat)) (e : Ending) (w' : World) : Prop :=
  ∃ g c, e = .returned (.slice (some ⟨g, 0, none⟩) S.length c) ∧ w.heap.size ≤ g ∧ g < w'.heap.size ∧ S.length ≤ c ∧ c ≤ maxLen ∧ SeedsIn w' ⟨g, 0, none⟩ S ∧ Below w.heap.size w w'

set_option maxHeartbeats 800000 in
theorem clone_seeds {w : World} {ad : Addr} {c : Nat} {S : List (Nat × Nat)} (h : SeedsIn w ad S) (h0 : 1 ≤ S.length) (hl : S.length ≤ 1000000) :
    Calls Tryz.prog 32 #[.slice (some ad) S.length c] w (SeedsOf w S) := by
  have hb1 := (Below.refl w.heap.size w).alloc (Nat.le_refl _) (.cells #[] 95)
  have hr1 := World.ownsRow_made w (base := w.heap.size) (e := 95) (size := 2) #[] 0 (Nat.le_refl _) (by unfold maxLen; omega) (by simp)
  obtain ⟨i, hi, hz, hs, hby⟩ : ∃ i, Tryz.prog.info? 95 = some i ∧ (∃ z, i.zero = some z ∧ z.cells.size = 2) ∧ i.size = 2 ∧ i.bytes = 16 := by
    have := infoSeed
    cases hi : Tryz.prog.info? 95 with
    | none => rw [hi] at this; cases this
    | some i =>
      rw [hi] at this
      simp only [Option.map_some, Option.some.injEq, Prod.mk.injEq] at this
      obtain ⟨h1, h2, h3⟩ := this
      cases hz : i.zero with
      | none => rw [hz] at h1; cases h1
      | some z => rw [hz] at h1; exact ⟨i, rfl, ⟨z, hz, by simpa using h1⟩, h2, h3⟩
  obtain ⟨z, hz, hzs⟩ := hz
  have hcell : ∀ j u, (flat S)[j]? = some u → (w.alloc (.cells #[] 95)).cell? (ad.add j) = some u := fun j u hj => by
    rw [hb1.cell (World.block_lt_of_cell? w _ (h j u hj))]; exact h j u hj
  obtain ⟨v2, w2, r, o, g, _⟩ := run_append_own (P := Tryz.prog) (w.alloc (.cells #[] 95)) w.heap.size 30 0 95 i z 2 16 Tryz.underlying30 hi hz hs hby hzs (by omega) _ 0 [] hr1 ad S.length c (flat S) (by rw [flat_len]; omega) hcell (flat_one S) (by unfold maxLen; omega) (by omega) hb1.size
  have R : Hid (∀ ty, (Builtin.append_ #[30, 30] ty #[.slice (some ⟨w.heap.size, 0, none⟩) 0 0, .slice (some ad) S.length c]).run Tryz.prog (w.alloc (.cells #[] 95)) = .ok v2 w2) := Lib.hid fun ty => r
  rw [Nat.zero_add, List.nil_append] at o
  have HP : Hid (SeedsOf w S (.returned v2) w2) := Lib.hid (by
    rcases o.2 with ⟨_, e⟩ | ⟨b, cap, cur, rfl, hbb, hg, h1, h2, _⟩
    · omega
    · exact ⟨b, cap, rfl, hbb, lt_of_heap hg, h1, h2, fun j u hj => o.cells (g := b) rfl j u hj, hb1.trans (below_grown g hb1.size (fun k e => by simp [Value.ownBlock] at e; omega))⟩)
  clear h r o g hb1 hr1 hl h0 hcell
  generalize S.length = n at *
  have hnil := fun W => Lib.run_eql_slice_nil (P := Tryz.prog) W 30 95 (some ad) n c 0 0 Tryz.underlying30
  go_enter Tryz.func32, Tryz.ntmps32
  go_wp2_with (at_builtin; refine wpList_append_run rfl _ _ 30 rfl rfl rfl (R.out _) ?_)
  go_ret
  exact HP.out
end Go.Proofs.YtlhpbfjelgmkeaaGreat
