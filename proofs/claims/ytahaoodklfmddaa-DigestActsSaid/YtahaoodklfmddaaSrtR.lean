/- slices.Sort at []uint64: the row holds its numbers in another order. Conditions: none but the row. -/
import Derived.Test.YtahaoodklfmddaaSrtK
set_option maxRecDepth 1000000
namespace Go.Proofs.Ytahaoodklfmddaa
open Go.Shelf Go.RowKit Go.Lib Go.Sort

theorem pdq_w (blk off cap : Nat) (d0 : Array UInt64) (w0 : World) (R : RowW w0 blk off d0) (hsz : d0.size < 1152921504606846976) :
    ∀ (n a b : Nat) (l : Int) (W : World), b - a ≤ n → a ≤ b → b ≤ d0.size → Srt w0 blk off d0 W → Calls Try.prog 81 #[.slice (some ⟨blk, off, none⟩) d0.size cap, .int .i64 a, .int .i64 b, .int .i64 l] W fun e w' => e = .returned (.tuple #[]) ∧ Srt w0 blk off d0 w'
  | 0, a, b, l, W, hn, hab, hb, S => pdq_step blk off cap 0 a b l d0 w0 W R S hn hab hb hsz (fun a b l W h => absurd h (Nat.not_lt_zero _))
  | n + 1, a, b, l, W, hn, hab, hb, S => pdq_step blk off cap (n + 1) a b l d0 w0 W R S hn hab hb hsz (fun a b l W h h1 h2 h3 => pdq_w blk off cap d0 w0 R hsz n a b l W (by omega) h1 h2 h3)

theorem len_w (n : Nat) (hn : n < 4611686018427387904) (W : World) : Calls Try.prog 52 #[.int .u64 (n : Int)] W fun e w' => (∃ l : Int, e = .returned (.int .i64 l)) ∧ w' = W := by
  have L : SlLaysF0.n15 Try.prog Try.sortNode_ren := { Try.sortNode with }
  have h := Any.bits_Len (SlLaysF0.n15.bits L) (n : Int) W (by omega) (by omega)
  exact h.mono fun e w' ⟨h1, h2⟩ => ⟨⟨_, h1⟩, h2⟩

set_option maxHeartbeats 4000000 in
theorem sort_w (blk off cap : Nat) (d0 : Array UInt64) (w : World) (R : RowW w blk off d0) (hsz : d0.size < 1152921504606846976) :
    Calls Try.prog 72 #[.slice (some ⟨blk, off, none⟩) d0.size cap] w fun e w' => e = .returned (.tuple #[]) ∧ Srt w blk off d0 w' := by
  obtain ⟨n, hn⟩ : ∃ n, d0.size = n := ⟨_, rfl⟩
  have K1 := len_w n (by omega) w
  have KP := Lib.hid (fun (l : Int) => pdq_w blk off cap d0 w R hsz n 0 n l w (by omega) (by omega) (by omega) ⟨d0, SWK.start R.hH, permIn_refl d0 0 _⟩)
  rw [hn] at KP ⊢
  have wn : IntKind.u64.wrap (n : Int) = (n : Int) := by rw [IntKind.wrap_u64]; omega
  clear R
  go_enter Try.func72, Try.ntmps72
  go_wp2_with fail
  refine K1.mono ?_
  rintro e w' ⟨⟨l, rfl⟩, rfl⟩
  have K2 := KP.out l
  clear K1 KP
  go_wp2_with fail
  refine K2.mono ?_
  rintro e w1 ⟨rfl, S1⟩
  have S2 : Aside (Srt w' blk off d0 w1) := S1
  clear K2 S1
  go_wp2_with fail
  go_end0
  exact ⟨rfl, S2.out⟩
#print axioms sort_w

theorem encW_len (x : UInt64) : (encW x).length = 1 := rfl
theorem encW_one (x : UInt64) : ∀ v ∈ encW x, v.oneCell' = true := fun v hv => by
  unfold encW at hv
  rw [List.mem_singleton] at hv
  subst hv
  rfl
/-- a row of the heap that holds numbers -/
def RowU (w : World) (g : Nat) (l : List UInt64) : Prop := ∀ j, j < l.length → w.cell? ⟨g, j, none⟩ = some (.int .u64 ((l[j]!).toNat : Int)) ∧ w.frozen? ⟨g, j, none⟩ = false
theorem rowU_holds {w : World} {g : Nat} {l : List UInt64} (h : RowU w g l) : HoldsK encW 1 w g 0 l.toArray := by
  intro j hj
  rw [size_flatK] at hj
  have hj' : j < l.length := by simpa using hj
  have h1 := h j hj'
  refine ⟨?_, by simpa using h1.2⟩
  have e : (encW l.toArray[j / 1]!)[j % 1]! = .int .u64 ((l[j]!).toNat : Int) := by
    rw [Nat.div_one, Nat.mod_one]
    simp [encW, hj']
  rw [get_flatK _ _ _ _ hj, e]
  simpa using h1.1
theorem holds_rowU {w : World} {g : Nat} {d : Array UInt64} (h : HoldsK encW 1 w g 0 d) : RowU w g d.toList := by
  intro j hj
  have hj' : j < d.size := by simpa using hj
  obtain ⟨a0, b0⟩ := h.cell hj' (c := 0) (by omega)
  refine ⟨?_, by simpa [Nat.mul_one] using b0⟩
  simpa [Nat.mul_one, encW, hj'] using a0
theorem sort_words {w : World} {g c : Nat} {l : List UInt64} (h : RowU w g l) (hg : g < w.heap.size) (hl : l.length < 1152921504606846976) :
    Calls Try.prog 72 #[.slice (some ⟨g, 0, none⟩) l.length c] w fun e w' => e = .returned (.tuple #[]) ∧ ∃ l' : List UInt64, l'.Perm l ∧ RowU w' g l' ∧ g < w'.heap.size ∧ w.grownBy w' (some g) := by
  have R : RowW w g 0 l.toArray := ⟨encW_len, encW_one, rowU_holds h, hg⟩
  have K := sort_w g 0 c l.toArray w R (by simpa using hl)
  rw [show l.toArray.size = l.length by simp] at K
  refine K.mono ?_
  rintro e w' ⟨rfl, dk, hS, hP⟩
  refine ⟨rfl, dk.toList, ?_, holds_rowU (hS.holds hg R.hH hP.1), hS.lt hg, ?_⟩
  · have := hP.2.2
    rw [show dk.extract 0 l.toArray.size = dk by rw [← hP.1]; simp, show l.toArray.extract 0 l.toArray.size = l.toArray by simp] at this
    simpa using this
  · obtain ⟨n, os, rfl⟩ := hS
    refine ⟨rfl, rfl, rfl, by unfold sortWorldK; rw [size_grow, size_putRowK]; exact Nat.le_add_right _ _, fun k hk hne => ?_⟩
    unfold sortWorldK
    rw [heap_grow_old _ _ (by rw [size_putRowK]; exact hk)]
    have : g ≠ k := fun e => hne (by rw [e])
    simp [putRowK, putRow, mapBlock, Sort.ahead, Array.getElem?_modify, this]
end Go.Proofs.Ytahaoodklfmddaa
