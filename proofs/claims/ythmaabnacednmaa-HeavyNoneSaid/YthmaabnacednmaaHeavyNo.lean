/- Contracts of heavy's calls at a sketch that no call made. Conditions: such a sketch. -/
import Derived.Test.YthmaabnacednmaaHeavyTop
import Derived.Shelf.SlSortCmp.NoneTotal
set_option maxRecDepth 100000
namespace Go.Proofs.Ythmaabnacednmaa
open Go.RowKit Go.Maps Go.Sort Go.Shelf

/-- a pointer to a sketch that no call made -/
def NoK (w : World) (x : Option Addr) : Prop := x = none ∨ ∃ b, x = some ⟨b, 0, none⟩ ∧ w.cell? ⟨b, 0, none⟩ = some (.int .i64 0)
theorem NoK.below {w w' : World} {x : Option Addr} (h : NoK w x) (hb : Below w.heap.size w w') : NoK w' x := by
  rcases h with rfl | ⟨b, rfl, hc⟩
  · exact .inl rfl
  · exact .inr ⟨b, rfl, by rw [hb.cell (World.block_lt_of_cell? w _ hc)]; exact hc⟩
def MadeNo (w : World) (x : Option Addr) : Prop := Calls Try.prog 68 #[.pointer x] w fun e w' => e = .returned (.bool false) ∧ w = w'
theorem made_no {w : World} {x : Option Addr} (h : NoK w x) : MadeNo w x := by
  rcases h with rfl | ⟨b, rfl, hc⟩
  · unfold MadeNo
    go_enter Try.func68, Try.ntmps68
    go_wp2_with fail
    go_ret
    exact ⟨rfl, rfl⟩
  · unfold MadeNo
    go_enter Try.func68, Try.ntmps68
    go_wp2_with fail
    go_ret
    exact ⟨rfl, rfl⟩

/-- a sort of nothing -/
theorem stable_none (p : Option Addr) (c g : Nat) (w : World) :
    Calls Try.prog 83 #[.slice p 0 c, .func (.func g) #[] #[]] w fun e w' => e = .returned (.tuple #[]) ∧ w = w' := by
  have L : SlLaysF0.n20 Try.prog Try.sortCounter_ren := { Try.sortCounter with }
  have KI : ∀ W, Calls Try.prog 121 #[.slice p 0 c, .int .i64 0, .int .i64 0, .func (.func g) #[] #[]] W fun e w' => e = .returned (.tuple #[]) ∧ W = w' := fun W =>
    (AnyF.insertionSortCmpFunc_none L p c (.func (.func g) #[] #[]) W).mono fun _ _ ⟨a, b⟩ => ⟨a, b.symm⟩
  have KS : Calls Try.prog 107 #[.slice p 0 c, .int .i64 0, .func (.func g) #[] #[]] w fun e w' => e = .returned (.tuple #[]) ∧ w = w' := by
    clear L
    go_enter Try.func107, Try.ntmps107
    go_wp2_with fail
    refine wp_loop_rounds 1 ?_
    rw [rounds_succ]
    go_wp2_with fail
    refine (KI _).mono ?_
    rintro e w' ⟨rfl, rfl⟩
    go_wp2_with fail
    refine wp_loop_rounds 1 ?_
    rw [rounds_succ]
    go_wp2_with fail
    go_end0
    exact ⟨rfl, rfl⟩
  clear L KI
  go_enter Try.func83, Try.ntmps83
  go_wp2_with fail
  refine KS.mono ?_
  rintro e w' ⟨rfl, rfl⟩
  clear KS
  go_wp2_with fail
  go_end0
  exact ⟨rfl, rfl⟩

section
variable {w : World} {x : Option Addr} (h : NoK w x)
include h
theorem ins_no (n : Int) : Calls Try.prog 34 #[.pointer x, .int .i64 n] w fun e w' => e = .returned (.tuple #[]) ∧ w = w' := by
  have K := made_no h
  unfold MadeNo at K
  clear h
  go_enter Try.func34, Try.ntmps34
  go_wp2_with fail
  refine K.mono ?_
  rintro e w' ⟨rfl, rfl⟩
  clear K
  go_wp2_with fail
  refine bodyPost_ret (results_none rfl _ _ _) rfl ?_
  exact ⟨rfl, rfl⟩
theorem merge_no (y : Option Addr) : Calls Try.prog 36 #[.pointer x, .pointer y] w fun e w' => e = .returned (.int .i64 1) ∧ w = w' := by
  have K := made_no h
  unfold MadeNo at K
  clear h
  go_enter Try.func36, Try.ntmps36
  go_wp2_with fail
  refine K.mono ?_
  rintro e w' ⟨rfl, rfl⟩
  clear K
  go_wp2_with fail
  go_ret
  exact ⟨rfl, rfl⟩
theorem counters_no : Calls Try.prog 44 #[.pointer x] w fun e w' => e = .returned (.slice none 0 0) ∧ w = w' := by
  have K := made_no h
  unfold MadeNo at K
  clear h
  go_enter Try.func44, Try.ntmps44
  go_wp2_with fail
  refine K.mono ?_
  rintro e w' ⟨rfl, rfl⟩
  clear K
  go_wp2_with fail
  go_ret
  exact ⟨rfl, rfl⟩
theorem top_no : Calls Try.prog 45 #[.pointer x, .int .i64 3] w fun e w' => e = .returned (.slice none 0 0) ∧ w = w' := by
  have K := counters_no h
  have KS := stable_none none 0 84 w
  clear h
  go_enter Try.func45, Try.ntmps45
  go_wp2_with fail
  refine K.mono ?_
  rintro e w' ⟨rfl, rfl⟩
  clear K
  go_wp2_with fail
  refine KS.mono ?_
  rintro e w' ⟨rfl, rfl⟩
  clear KS
  go_wp2_with fail
  go_ret
  exact ⟨rfl, rfl⟩
theorem total_no : Calls Try.prog 43 #[.pointer x] w fun e w' => e = .returned (.int .i64 0) ∧ w = w' := by
  have K := made_no h
  unfold MadeNo at K
  clear h
  go_enter Try.func43, Try.ntmps43
  go_wp2_with fail
  refine K.mono ?_
  rintro e w' ⟨rfl, rfl⟩
  clear K
  go_wp2_with fail
  go_ret
  exact ⟨rfl, rfl⟩
theorem bytes_no : Calls Try.prog 46 #[.pointer x] w fun e w' => e = .returned (.slice none 0 0) ∧ w = w' := by
  have K := made_no h
  unfold MadeNo at K
  clear h
  go_enter Try.func46, Try.ntmps46
  go_wp2_with fail
  refine K.mono ?_
  rintro e w' ⟨rfl, rfl⟩
  clear K
  go_wp2_with fail
  go_ret
  exact ⟨rfl, rfl⟩
theorem copy_no : Calls Try.prog 39 #[.pointer x] w fun e w' => e = .returned (.pointer none) ∧ w = w' := by
  have K := made_no h
  unfold MadeNo at K
  clear h
  go_enter Try.func39, Try.ntmps39
  go_wp2_with fail
  refine K.mono ?_
  rintro e w' ⟨rfl, rfl⟩
  clear K
  go_wp2_with fail
  go_ret
  exact ⟨rfl, rfl⟩
end
/-- of a made one with one that no call made -/
theorem merge_arg {T : Tags} {i : Nat} {w : World} {p : Nat} {V : HV} (h : Hk p V T i w) {y : Option Addr} (g : NoK w y) :
    Calls Try.prog 36 #[.pointer (some ⟨p, 0, none⟩), .pointer y] w fun e w' => e = .returned (.int .i64 2) ∧ Below w.heap.size w w' := by
  obtain ⟨b, h, hG⟩ := h
  obtain ⟨c0, _⟩ := h.cells
  have KP := made_yes c0 hG.m1
  have KN := Lib.hid (fun n => made_no (g.below (below_drewN w n)))
  unfold MadeNo at KN
  clear g hG h
  go_enter Try.func36, Try.ntmps36
  go_wp2_with fail
  refine KP.mono ?_
  rintro e w' ⟨rfl, rfl⟩
  clear KP
  go_wp2_with fail
  go_quiet ((exact Calls.quiet_of_same ((KN.out _).mono fun _ _ ⟨h, hw⟩ => ⟨h, hw.symm⟩)))
  go_wp2_with fail
  go_ret
  exact ⟨rfl, below_drewN _ _⟩
end Go.Proofs.Ythmaabnacednmaa
