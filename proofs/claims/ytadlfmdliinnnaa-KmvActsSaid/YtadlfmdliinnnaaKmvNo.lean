/- Contracts of kmv's calls of a sketch that no call made. Conditions: a nil or a zero sketch. -/
import Derived.Test.YtadlfmdliinnnaaKmvMerged
set_option maxRecDepth 100000
namespace Go.Proofs.Ytadlfmdliinnnaa
open Go.RowKit Go.Maps Go.Sort

/-- no call made it -/
def NoK (w : World) (x : Option Addr) : Prop := x = none ∨ ∃ b, x = some ⟨b, 0, none⟩ ∧ w.cell? ⟨b, 0, none⟩ = some (.int .i64 0)
theorem NoK.below {w w' : World} {x : Option Addr} (h : NoK w x) (hb : Below w.heap.size w w') : NoK w' x := by
  rcases h with rfl | ⟨b, rfl, hc⟩
  · exact .inl rfl
  · exact .inr ⟨b, rfl, by rw [hb.cell (World.block_lt_of_cell? w _ hc)]; exact hc⟩
def MadeNo (w : World) (x : Option Addr) : Prop := Calls Try.prog 32 #[.pointer x] w fun e w' => e = .returned (.bool false) ∧ w = w'
theorem made_no {w : World} {x : Option Addr} (h : NoK w x) : MadeNo w x := by
  rcases h with rfl | ⟨b, rfl, hc⟩
  · unfold MadeNo
    go_enter Try.func32, Try.ntmps32
    go_wp2_with fail
    go_ret
    exact ⟨rfl, rfl⟩
  · unfold MadeNo
    go_enter Try.func32, Try.ntmps32
    go_wp2_with fail
    go_ret
    exact ⟨rfl, rfl⟩

section
variable {w : World} {x : Option Addr} (h : NoK w x)
include h
theorem ins_no (n : Nat) : Calls Try.prog 14 #[.pointer x, .int .u64 (n : Int)] w fun e w' => e = .returned (.tuple #[]) ∧ w = w' := by
  have K := made_no h
  unfold MadeNo at K
  clear h
  go_enter Try.func14, Try.ntmps14
  go_wp2_with fail
  refine K.mono ?_
  rintro e w' ⟨rfl, rfl⟩
  clear K
  go_wp2_with fail
  refine bodyPost_ret (results_none rfl _ _ _) rfl ?_
  exact ⟨rfl, rfl⟩
theorem merge_no (y : Option Addr) : Calls Try.prog 16 #[.pointer x, .pointer y] w fun e w' => e = .returned (.int .i64 1) ∧ w = w' := by
  have K := made_no h
  unfold MadeNo at K
  clear h
  go_enter Try.func16, Try.ntmps16
  go_wp2_with fail
  refine K.mono ?_
  rintro e w' ⟨rfl, rfl⟩
  clear K
  go_wp2_with fail
  go_ret
  exact ⟨rfl, rfl⟩
theorem copies_no : Calls Try.prog 24 #[.pointer x] w fun e w' => e = .returned (.slice none 0 0) ∧ w = w' := by
  have K := made_no h
  unfold MadeNo at K
  clear h
  go_enter Try.func24, Try.ntmps24
  go_wp2_with fail
  refine K.mono ?_
  rintro e w' ⟨rfl, rfl⟩
  clear K
  go_wp2_with fail
  go_ret
  exact ⟨rfl, rfl⟩
theorem answers_no : Calls Try.prog 25 #[.pointer x] w fun e w' => e = .returned (.slice none 0 0) ∧ w = w' := by
  have K := made_no h
  unfold MadeNo at K
  clear h
  go_enter Try.func25, Try.ntmps25
  go_wp2_with fail
  refine K.mono ?_
  rintro e w' ⟨rfl, rfl⟩
  clear K
  go_wp2_with fail
  go_ret
  exact ⟨rfl, rfl⟩
theorem bytes_no : Calls Try.prog 22 #[.pointer x] w fun e w' => e = .returned (.slice none 0 0) ∧ w = w' := by
  have K := made_no h
  unfold MadeNo at K
  clear h
  go_enter Try.func22, Try.ntmps22
  go_wp2_with fail
  refine K.mono ?_
  rintro e w' ⟨rfl, rfl⟩
  clear K
  go_wp2_with fail
  go_ret
  exact ⟨rfl, rfl⟩
theorem copy_no : Calls Try.prog 19 #[.pointer x] w fun e w' => e = .returned (.pointer none) ∧ w = w' := by
  have K := made_no h
  unfold MadeNo at K
  clear h
  go_enter Try.func19, Try.ntmps19
  go_wp2_with fail
  refine K.mono ?_
  rintro e w' ⟨rfl, rfl⟩
  clear K
  go_wp2_with fail
  go_ret
  exact ⟨rfl, rfl⟩
theorem estimate_no : Calls Try.prog 26 #[.pointer x] w fun e w' => e = .returned (.int .i64 0) ∧ w = w' := by
  have K := answers_no h
  clear h
  go_enter Try.func26, Try.ntmps26
  go_wp2_with fail
  refine K.mono ?_
  rintro e w' ⟨rfl, rfl⟩
  clear K
  go_wp2_with fail
  go_ret
  exact ⟨rfl, rfl⟩
end
/-- of a made one with one that no call made -/
theorem merge_arg {T : Tags} {i : Nat} {w : World} {p : Nat} {V : SkV} (h : Sk p V T i w) {y : Option Addr} (g : NoK w y) :
    Calls Try.prog 16 #[.pointer (some ⟨p, 0, none⟩), .pointer y] w fun e w' => e = .returned (.int .i64 2) ∧ Below w.heap.size w w' := by
  obtain ⟨sa, sc, cb, rows, g1⟩ := h
  obtain ⟨c0, c1, c2⟩ := g1.cells
  have KP := made_yes c0 g1.good.set.t2
  have KN := Lib.hid (fun n => made_no (g.below (below_drewN w n)))
  unfold MadeNo at KN
  clear g1 g c1 c2
  go_enter Try.func16, Try.ntmps16
  go_wp2_with fail
  refine KP.mono ?_
  rintro e w' ⟨rfl, rfl⟩
  clear KP
  go_wp2_with fail
  go_quiet ((exact Calls.quiet_of_same ((KN.out _).mono fun _ _ ⟨h, hw⟩ => ⟨h, hw.symm⟩)))
  go_wp2_with fail
  go_ret
  exact ⟨rfl, below_drewN _ _⟩
end Go.Proofs.Ytadlfmdliinnnaa
