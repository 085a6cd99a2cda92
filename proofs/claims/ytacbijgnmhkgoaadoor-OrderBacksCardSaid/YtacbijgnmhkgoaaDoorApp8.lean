/- Appends onto rows of bytes. Conditions: at most 2^43 bytes. -/
import Derived.Test.YtacbijgnmhkgoaaDoorGen
set_option maxRecDepth 100000
namespace Go.Proofs.YtacbijgnmhkgoaaDoor
open Go.RowKit Go.Maps Go.Sort

theorem info8 : (Tryd.prog.info? 5).map (fun i => (i.zero, i.size, i.bytes)) = some (some (.int .u8 0), 1, 1) := by kernel_rfl

theorem app8 {w : World} {B : Nat} {v : Value} {xs : List UInt8} (hown : w.ownsRow B 5 1 v xs.length (u8s xs)) (hB : B ≤ w.heap.size) {sv : Value} {l : List UInt8} (hs : Holds w sv (u8s l)) (hlen : xs.length + l.length ≤ 17592186044416) :
    ∃ v' w', (∀ ty, (Builtin.append_ #[42, 42] ty #[v, sv]).run Tryd.prog w = .ok v' w') ∧ w'.ownsRow B 5 1 v' (xs ++ l).length (u8s (xs ++ l)) ∧ w.grownBy w' v.ownBlock ∧ (v'.ownBlock = v.ownBlock ∨ v'.ownBlock = some w.heap.size) := by
  have := app_any (P := Tryd.prog) Tryd.underlying42 info8 (by omega) rfl (by rw [u8s_len]; exact hown) hB hs (u8s_one l) (by rw [u8s_len, u8s_len]; exact hlen)
  rw [← u8s_append, u8s_len] at this
  exact this
/-- a new block of one byte -/
theorem holds_one8 (w : World) (c : UInt8) (n : Int) (hn : n = (c.toNat : Int)) : Holds (w.alloc (.cells #[.int .u8 n] 5)) (.slice (some ⟨w.heap.size, 0, none⟩) 1 1) (u8s [c]) :=
  Holds.of_heap (alloc1 _ _) (by rw [hn]; rfl) 1 1 rfl (Nat.le_refl _)

theorem addr_add0 (a : Addr) : a.add 0 = a := by unfold Addr.add; simp
/-- a row of bytes that is the call's own, or a full one -/
def Mine (w : World) (B : Nat) (v : Value) (xs : List UInt8) : Prop :=
  w.ownsRow B 5 1 v xs.length (u8s xs) ∨ (Holds w v (u8s xs) ∧ ∃ a n, v = .slice (some a) n n)
theorem Mine.alloc {w : World} {B : Nat} {v : Value} {xs : List UInt8} (h : Mine w B v xs) (o : Obj) : Mine (w.alloc o) B v xs := by
  rcases h with h | ⟨h1, h2⟩
  · exact .inl (h.alloc o)
  · exact .inr ⟨h1.below ((Below.refl _ _).alloc (Nat.le_refl _) _), h2⟩
theorem Mine.holds {w : World} {B : Nat} {v : Value} {xs : List UInt8} (h : Mine w B v xs) : Holds w v (u8s xs) := by
  rcases h with h | ⟨h1, h2⟩
  · exact Holds.of_row (by rw [u8s_len]; exact h)
  · exact h1
theorem app_full {w : World} {B : Nat} {v : Value} {xs : List UInt8} (h1 : Holds w v (u8s xs)) (h2 : ∃ a n, v = .slice (some a) n n) (hB : B ≤ w.heap.size) {c : UInt8} {a : Addr} (hs : w.cell? a = some (.int .u8 (c.toNat : Int))) (hlen : xs.length + 1 ≤ 17592186044416) :
    ∃ v' w', (∀ ty, (Builtin.append_ #[42, 42] ty #[v, .slice (some a) 1 1]).run Tryd.prog w = .ok v' w') ∧ w'.ownsRow B 5 1 v' (xs ++ [c]).length (u8s (xs ++ [c])) ∧ Below w.heap.size w w' := by
  obtain ⟨ad, n, rfl⟩ := h2
  obtain ⟨hl, _⟩ := h1.len
  rw [u8s_len] at hl
  subst hl
  obtain ⟨i, hi, hz0, hz1, hz2⟩ := info_parts info8
  have hr := fun ty => run_append_grow (P := Tryd.prog) w 42 ty 5 i (.int .u8 0) Tryd.underlying42 hi hz0 ad xs.length xs.length (u8s xs) (by rw [u8s_len, hz1, Nat.mul_one]) (fun j u hj => h1.cell hj) a 1 1 [.int .u8 (c.toNat : Int)] (by rw [hz1]; rfl) (fun j u hj => by
    cases j with
    | zero => rw [List.getElem?_cons_zero] at hj; rw [← Option.some.inj hj, addr_add0]; exact hs
    | succ j => simp at hj) (by omega) (by omega) (growslice_fits (by omega) (by rw [hz2]; omega))
  refine ⟨_, _, hr, ?_, ?_⟩
  · have hge := grownCap_ge w (xs.length + 1) xs.length 5
    have hcm : grownCap w (xs.length + 1) xs.length 5 ≤ maxLen := grownCap_le_maxLen w (xs.length + 1) xs.length 5 (by unfold maxLen; omega)
    have e1 : (u8s (xs ++ [c])) = u8s xs ++ [.int .u8 (c.toNat : Int)] := u8s_append _ _
    refine ⟨by rw [u8s_len, Nat.mul_one], .inr ⟨w.heap.size, _, _, by rw [List.length_append]; rfl, hB, heap_alloc_new w.drew _, by rw [List.length_append]; exact hge, hcm, ?_, ?_⟩⟩
    · simp only [Array.size_append, List.size_toArray, size_zeroCells, u8s_len]
      show xs.length + 1 + _ * 1 = _
      omega
    · simp only [Array.toList_append, List.append_assoc]
      rw [← List.append_assoc, ← e1]
      rw [show (xs ++ [c]).length * 1 = (u8s (xs ++ [c])).length by rw [u8s_len, Nat.mul_one]]
      exact List.take_left
  · exact (Below.refl _ _).drew.alloc (Nat.le_refl _) _
theorem app_mine {w : World} {B : Nat} {v : Value} {xs : List UInt8} (h : Mine w B v xs) (hB : B ≤ w.heap.size) {c : UInt8} {a : Addr} (hs : w.cell? a = some (.int .u8 (c.toNat : Int))) (hlen : xs.length + 1 ≤ 17592186044416) :
    ∃ v' w', (∀ ty, (Builtin.append_ #[42, 42] ty #[v, .slice (some a) 1 1]).run Tryd.prog w = .ok v' w') ∧ w'.ownsRow B 5 1 v' (xs ++ [c]).length (u8s (xs ++ [c])) ∧ Below B w w' := by
  rcases h with h | ⟨h1, h2⟩
  · have hh : Holds w (.slice (some a) 1 1) (u8s [c]) := ⟨some a, 1, rfl, Nat.le_refl _, .inr ⟨a, rfl, fun j u hj => by
      cases j with
      | zero =>
        have e : u = .int .u8 (c.toNat : Int) := (Option.some.inj hj).symm
        rw [e, addr_add0]; exact hs
      | succ j => simp [u8s] at hj⟩⟩
    obtain ⟨v', w', r, o, g, b⟩ := app8 h hB hh (by simpa using hlen)
    exact ⟨v', w', r, o, below_grown g hB (ownsRow_ge h)⟩
  · obtain ⟨v', w', r, o, g⟩ := app_full h1 h2 hB hs hlen
    exact ⟨v', w', r, o, g.mono hB⟩
/-- a byte behind a row, the byte in a new block -/
theorem app_step {w wr : World} {v : Value} {xs : List UInt8} (h : Mine wr w.heap.size v xs ∧ Below w.heap.size w wr) (c : UInt8) (hlen : xs.length + 1 ≤ 17592186044416) :
    ∃ v' w', Hid (∀ ty, (Builtin.append_ #[42, 42] ty #[v, .slice (some ⟨wr.heap.size, 0, none⟩) 1 1]).run Tryd.prog (wr.alloc (.cells #[.int .u8 (c.toNat : Int)] 5)) = .ok v' w') ∧ Hid (Mine w' w.heap.size v' (xs ++ [c]) ∧ Below w.heap.size w w') := by
  have hz := h.2.size
  obtain ⟨v', w', r, o, g⟩ := app_mine (h.1.alloc (.cells #[.int .u8 (c.toNat : Int)] 5)) (by simp; omega) (c := c) (a := ⟨wr.heap.size, 0, none⟩) (by rw [cell_of_row _ _ _ _ _ _ (alloc1 _ _)]; rfl) hlen
  exact ⟨v', w', Lib.hid r, Lib.hid ⟨.inl o, h.2.trans (((Below.refl _ _).alloc hz _).trans g)⟩⟩
end Go.Proofs.YtacbijgnmhkgoaaDoor
