/- Contracts of slices.Clone at numbers and at seeds. Conditions: small slices. -/
import Derived.Test.YtadlfmdliinnnaaKmvIns
import Derived.Lib.SliceRun
set_option maxRecDepth 100000
namespace Go.Proofs.Ytadlfmdliinnnaa
open Go.RowKit Go.Maps Go.Sort

/-- a copy of numbers -/
def CloneOf (w : World) (l : List Nat) (e : Ending) (w' : World) : Prop := ∃ v, e = .returned v ∧ w'.ownsRow w.heap.size 32 1 v l.length (nats l) ∧ Below w.heap.size w w'

set_option maxHeartbeats 800000 in
theorem clone_nats {w : World} {a : Option Addr} {n c : Nat} {l : List Nat} (h : Holds w (.slice a n c) (nats l)) (hl : l.length ≤ 1000000) :
    Calls Try.prog 44 #[.slice a n c] w (CloneOf w l) := by
  cases a with
  | none =>
    have hn : l = [] := by
      obtain ⟨_, _, e, _, h3 | ⟨_, h3, _⟩⟩ := h
      · have := congrArg List.length h3.2.1
        rw [nats_len] at this
        exact List.eq_nil_of_length_eq_zero this
      · cases e; cases h3
    subst hn
    have hn0 : n = 0 := by have := h.len.1; simpa [nats] using this.symm
    have hc0 : c = 0 := by
      obtain ⟨_, _, e, _, h3 | ⟨_, h3, _⟩⟩ := h
      · cases e; exact h3.2.2
      · cases e; cases h3
    subst hn0 hc0
    have HP : Hid (CloneOf w [] (.returned (.slice none 0 0)) w) := Lib.hid ⟨_, rfl, World.ownsRow_nil _ _ _ _, Below.refl _ _⟩
    have hnil := fun W => Lib.run_eql_slice_nil (P := Try.prog) W 43 32 none 0 0 0 0 Try.underlying43
    clear h hl
    go_enter Try.func44, Try.ntmps44
    go_wp2_with fail
    go_ret
    exact HP.out
  | some ad =>
    have hb1 := (Below.refl w.heap.size w).alloc (Nat.le_refl _) (.cells #[] 32)
    have hr1 := World.ownsRow_made w (base := w.heap.size) (e := 32) (size := 1) #[] 0 (Nat.le_refl _) (by unfold maxLen; omega) (by simp)
    obtain ⟨v2, w2, r, o, g, b⟩ := app_any (P := Try.prog) (xs := []) Try.underlying43 infoU64 (by omega) rfl hr1 hb1.size (h.below hb1) (nats_one l) (by rw [nats_len]; simp; omega)
    have R := Lib.hid r
    have HP : Hid (CloneOf w l (.returned v2) w2) := Lib.hid ⟨_, rfl, by simpa [nats_len] using o, hb1.trans (below_grown g hb1.size (fun k e => by simp [Value.ownBlock] at e; omega))⟩
    have hnil := fun W => Lib.run_eql_slice_nil (P := Try.prog) W 43 32 (some ad) n c 0 0 Try.underlying43
    clear h r o g b hb1 hr1 hl
    go_enter Try.func44, Try.ntmps44
    go_wp2_with (at_builtin; refine wpList_append_run rfl _ _ 43 rfl rfl rfl (R.out _) ?_)
    go_ret
    exact HP.out

theorem flat_one (S : List (Nat × Nat)) : ∀ u ∈ flat S, u.oneCell' = true := fun u hu => by
  obtain ⟨s, _, hs⟩ := List.mem_flatMap.1 hu
  simp at hs
  rcases hs with rfl | rfl <;> rfl
theorem infoSeed : (Try.prog.info? 65).map (fun i => (i.zero.map (·.cells.size), i.size, i.bytes)) = some (some 2, 2, 16) := by kernel_rfl

/-- a copy of seeds: a block of its own -/
def SeedsOf (w : World) (S : List (Nat × Nat)) (e : Ending) (w' : World) : Prop :=
  ∃ g c, e = .returned (.slice (some ⟨g, 0, none⟩) S.length c) ∧ w.heap.size ≤ g ∧ g < w'.heap.size ∧ S.length ≤ c ∧ c ≤ maxLen ∧ SeedsIn w' ⟨g, 0, none⟩ S ∧ Below w.heap.size w w'

set_option maxHeartbeats 800000 in
theorem clone_seeds {w : World} {ad : Addr} {c : Nat} {S : List (Nat × Nat)} (h : SeedsIn w ad S) (h0 : 1 ≤ S.length) (hl : S.length ≤ 1000000) :
    Calls Try.prog 28 #[.slice (some ad) S.length c] w (SeedsOf w S) := by
  have hb1 := (Below.refl w.heap.size w).alloc (Nat.le_refl _) (.cells #[] 65)
  have hr1 := World.ownsRow_made w (base := w.heap.size) (e := 65) (size := 2) #[] 0 (Nat.le_refl _) (by unfold maxLen; omega) (by simp)
  obtain ⟨i, hi, hz, hs, hby⟩ : ∃ i, Try.prog.info? 65 = some i ∧ (∃ z, i.zero = some z ∧ z.cells.size = 2) ∧ i.size = 2 ∧ i.bytes = 16 := by
    have := infoSeed
    cases hi : Try.prog.info? 65 with
    | none => rw [hi] at this; cases this
    | some i =>
      rw [hi] at this
      simp only [Option.map_some, Option.some.injEq, Prod.mk.injEq] at this
      obtain ⟨h1, h2, h3⟩ := this
      cases hz : i.zero with
      | none => rw [hz] at h1; cases h1
      | some z => rw [hz] at h1; exact ⟨i, rfl, ⟨z, hz, by simpa using h1⟩, h2, h3⟩
  obtain ⟨z, hz, hzs⟩ := hz
  have hcell : ∀ j u, (flat S)[j]? = some u → (w.alloc (.cells #[] 65)).cell? (ad.add j) = some u := fun j u hj => by
    rw [hb1.cell (World.block_lt_of_cell? w _ (h j u hj))]; exact h j u hj
  obtain ⟨v2, w2, r, o, g, _⟩ := run_append_own (P := Try.prog) (w.alloc (.cells #[] 65)) w.heap.size 22 0 65 i z 2 16 Try.underlying22 hi hz hs hby hzs (by omega) _ 0 [] hr1 ad S.length c (flat S) (by rw [flat_len]; omega) hcell (flat_one S) (by unfold maxLen; omega) (by omega) hb1.size
  have R : Hid (∀ ty, (Builtin.append_ #[22, 22] ty #[.slice (some ⟨w.heap.size, 0, none⟩) 0 0, .slice (some ad) S.length c]).run Try.prog (w.alloc (.cells #[] 65)) = .ok v2 w2) := Lib.hid fun ty => r
  rw [Nat.zero_add, List.nil_append] at o
  have HP : Hid (SeedsOf w S (.returned v2) w2) := Lib.hid (by
    rcases o.2 with ⟨_, e⟩ | ⟨b, cap, cur, rfl, hbb, hg, h1, h2, _⟩
    · omega
    · exact ⟨b, cap, rfl, hbb, lt_of_heap hg, h1, h2, fun j u hj => o.cells (g := b) rfl j u hj, hb1.trans (below_grown g hb1.size (fun k e => by simp [Value.ownBlock] at e; omega))⟩)
  clear h r o g hb1 hr1 hl h0 hcell
  generalize S.length = n at *
  have hnil := fun W => Lib.run_eql_slice_nil (P := Try.prog) W 22 65 (some ad) n c 0 0 Try.underlying22
  go_enter Try.func28, Try.ntmps28
  go_wp2_with (at_builtin; refine wpList_append_run rfl _ _ 22 rfl rfl rfl (R.out _) ?_)
  go_ret
  exact HP.out
end Go.Proofs.Ytadlfmdliinnnaa
