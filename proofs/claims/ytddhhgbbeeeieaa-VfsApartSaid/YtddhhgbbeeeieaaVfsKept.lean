/- Contract of talusref01.Kept on what Lend handed out. Conditions: the block is as Lend made it. -/
import Derived.Test.YtddhhgbbeeeieaaVfsLend
import Derived.Test.YtddhhgbbeeeieaaVfsOne
set_option maxRecDepth 100000
namespace Go.Proofs.Ytddhhgbbeeeieaa
open Go.RowKit Go.Maps Go.Sort

theorem lendL_full (l : List UInt8) : lendL l l.length = 165 :: l ++ [90] := by
  unfold lendL; simp

/-- the middle of the block that Lend made -/
theorem lend_mid {w : World} {g : Nat} {l : List UInt8} (h : w.heap[g]? = some (.cells (u8s (lendL l l.length)).toArray 5 (0, 0))) : Holds8 w (.slice (some ⟨g, 1, none⟩) l.length (l.length + 1)) l := by
  refine ⟨some ⟨g, 1, none⟩, _, rfl, by omega, .inr ⟨_, rfl, fun j u hj => ?_⟩⟩
  have hjl : j < l.length := by
    have := (List.getElem?_eq_some_iff.1 hj).1
    simpa [u8s] using this
  have hc := cell_u8s (j := 1 + j) h (by rw [lendL_len l (Nat.le_refl _)]; omega)
  have e : (lendL l l.length)[1 + j]'(by rw [lendL_len l (Nat.le_refl _)]; omega) = l[j] := by
    simp only [lendL_full]
    simp [Nat.add_comm 1 j, hjl]
  rw [e] at hc
  simp [u8s, hjl] at hj
  rw [← hj]
  rw [show (Addr.add ⟨g, 1, none⟩ j : Addr) = ⟨g, 1 + j, none⟩ by simp [Addr.add]]
  exact hc

set_option maxHeartbeats 3200000 in
theorem Kept_any {w : World} {g : Nat} {a : Option Addr} {c : Nat} {l : List UInt8} (h : w.heap[g]? = some (.cells (u8s (lendL l l.length)).toArray 5 (0, 0))) (hd : Holds8 w (.slice a l.length c) l) (hl : l.length ≤ 100000) :
    Calls Try.prog 32 #[.slice (some ⟨g, 0, none⟩) (l.length + 2) (l.length + 2), .slice a l.length c] w fun e w' => e = .returned (.bool true) ∧ Below w.heap.size w w' := by
  have s1 := fun n => str_of_holds (w := w.drewN n) (v := .slice (some ⟨g, 1, none⟩) l.length (l.length + 1)) (l := l) (lend_mid h)
  have s2 := fun n => str_of_holds (w := w.drewN n) (v := .slice a l.length c) (l := l) hd
  have c0 := cell_u8s (j := 0) h (by rw [lendL_len l (Nat.le_refl _)]; omega)
  have c1 := cell_u8s (j := l.length + 1) h (by rw [lendL_len l (Nat.le_refl _)]; omega)
  have e0 : (lendL l l.length)[0]'(by rw [lendL_len l (Nat.le_refl _)]; omega) = 165 := by simp only [lendL_full]; rfl
  have e1 : (lendL l l.length)[l.length + 1]'(by rw [lendL_len l (Nat.le_refl _)]; omega) = 90 := by simp only [lendL_full]; simp
  rw [e0] at c0
  rw [e1] at c1
  have c0' : w.cell? ⟨g, 0, none⟩ = some (.int .u8 165) := c0
  have c1' : w.cell? ⟨g, l.length + 1, none⟩ = some (.int .u8 90) := c1
  clear h hd c0 c1 e0 e1
  generalize hx : (Value.string ⟨l.toArray⟩) = sv at *
  generalize hn : l.length = n at *
  obtain ⟨s, rfl⟩ : ∃ s, sv = .string s := ⟨_, hx.symm⟩
  clear hx hn
  go_enter Try.func32, Try.ntmps32
  go_wp2_with fail
  go_quiet (fail)
  go_wp2_with fail
  go_ret
  exact ⟨rfl, rfl, rfl, rfl, Nat.le_refl _, fun _ _ => rfl⟩
end Go.Proofs.Ytddhhgbbeeeieaa
