/- Contracts of digest's calls at a digest that no call made. Conditions: such a digest. -/
import Derived.Test.YtaaphkjimlfgoaaDigFew
set_option maxRecDepth 100000
namespace Go.Proofs.Ytaaphkjimlfgoaa
open Go.RowKit Go.Maps Go.Sort

/-- a pointer to a digest that no call made -/
def NoD (w : World) (x : Option Addr) : Prop := x = none ∨ ∃ b, x = some ⟨b, 0, none⟩ ∧ w.cell? ⟨b, 0, none⟩ = some (.int .i64 0)
theorem NoD.below {w w' : World} {x : Option Addr} (h : NoD w x) (hb : Below w.heap.size w w') : NoD w' x := by
  rcases h with rfl | ⟨b, rfl, hc⟩
  · exact .inl rfl
  · exact .inr ⟨b, rfl, by rw [hb.cell (World.block_lt_of_cell? w _ hc)]; exact hc⟩
def MadeNoD (w : World) (x : Option Addr) : Prop := Calls Try.prog 26 #[.pointer x] w fun e w' => e = .returned (.bool false) ∧ w = w'
theorem made_noD {w : World} {x : Option Addr} (h : NoD w x) : MadeNoD w x := by
  rcases h with rfl | ⟨b, rfl, hc⟩
  · unfold MadeNoD
    go_enter Try.func26, Try.ntmps26
    go_wp2_with fail
    go_ret
    exact ⟨rfl, rfl⟩
  · unfold MadeNoD
    go_enter Try.func26, Try.ntmps26
    go_wp2_with fail
    go_ret
    exact ⟨rfl, rfl⟩

section
variable {w : World} {x : Option Addr} (h : NoD w x)
include h
theorem ins_noD (u : Int) : Calls Try.prog 12 #[.pointer x, .int .u64 u] w fun e w' => e = .returned (.tuple #[]) ∧ w = w' := by
  have K := made_noD h
  unfold MadeNoD at K
  clear h
  go_enter Try.func12, Try.ntmps12
  go_wp2_with fail
  refine K.mono ?_
  rintro e w' ⟨rfl, rfl⟩
  clear K
  go_wp2_with fail
  refine bodyPost_ret (results_none rfl _ _ _) rfl ?_
  exact ⟨rfl, rfl⟩
theorem merge_noD (y : Option Addr) : Calls Try.prog 14 #[.pointer x, .pointer y] w fun e w' => e = .returned (.int .i64 1) ∧ w = w' := by
  have K := made_noD h
  unfold MadeNoD at K
  clear h
  go_enter Try.func14, Try.ntmps14
  go_wp2_with fail
  refine K.mono ?_
  rintro e w' ⟨rfl, rfl⟩
  clear K
  go_wp2_with fail
  go_ret
  exact ⟨rfl, rfl⟩
theorem count_noD : Calls Try.prog 19 #[.pointer x] w fun e w' => e = .returned (.int .i64 0) ∧ w = w' := by
  have K := made_noD h
  unfold MadeNoD at K
  clear h
  go_enter Try.func19, Try.ntmps19
  go_wp2_with fail
  refine K.mono ?_
  rintro e w' ⟨rfl, rfl⟩
  clear K
  go_wp2_with fail
  go_ret
  exact ⟨rfl, rfl⟩
theorem nodes_noD : Calls Try.prog 20 #[.pointer x] w fun e w' => e = .returned (.slice none 0 0) ∧ w = w' := by
  have K := made_noD h
  unfold MadeNoD at K
  clear h
  go_enter Try.func20, Try.ntmps20
  go_wp2_with fail
  refine K.mono ?_
  rintro e w' ⟨rfl, rfl⟩
  clear K
  go_wp2_with fail
  go_ret
  exact ⟨rfl, rfl⟩
theorem copy_noD : Calls Try.prog 17 #[.pointer x] w fun e w' => e = .returned (.pointer none) ∧ w = w' := by
  have K := made_noD h
  unfold MadeNoD at K
  clear h
  go_enter Try.func17, Try.ntmps17
  go_wp2_with fail
  refine K.mono ?_
  rintro e w' ⟨rfl, rfl⟩
  clear K
  go_wp2_with fail
  go_ret
  exact ⟨rfl, rfl⟩
theorem bytes_noD : Calls Try.prog 22 #[.pointer x] w fun e w' => e = .returned (.slice none 0 0) ∧ w = w' := by
  have K := made_noD h
  unfold MadeNoD at K
  clear h
  go_enter Try.func22, Try.ntmps22
  go_wp2_with fail
  refine K.mono ?_
  rintro e w' ⟨rfl, rfl⟩
  clear K
  go_wp2_with fail
  go_ret
  exact ⟨rfl, rfl⟩
theorem rank_noD (r : Int) : Calls Try.prog 21 #[.pointer x, .int .i64 r] w fun e w' => e = .returned (.tuple #[.int .u64 0, .bool false]) ∧ w = w' := by
  have K := count_noD h
  clear h
  by_cases hr : r < 1
  · go_enter Try.func21, Try.ntmps21
    go_wp2_with fail
    refine bodyPost_ret (results_tmp2 rfl _ _ _) rfl ?_
    exact ⟨rfl, rfl⟩
  · have h2 : (0 : Int) < r := by omega
    go_enter Try.func21, Try.ntmps21
    go_wp2_with fail
    refine K.mono ?_
    rintro e w' ⟨rfl, rfl⟩
    clear K
    go_wp2_with fail
    refine bodyPost_ret (results_tmp2 rfl _ _ _) rfl ?_
    exact ⟨rfl, rfl⟩
end
end Go.Proofs.Ytaaphkjimlfgoaa
