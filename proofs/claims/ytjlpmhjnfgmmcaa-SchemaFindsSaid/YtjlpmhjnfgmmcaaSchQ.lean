/- Tables and rollups, plain: which may be, where a column is. Conditions: none. -/
import Derived.Test.YtjlpmhjnfgmmcaaSchP
import Derived.Test.YtjlpmhjnfgmmcaaHold2
set_option maxRecDepth 100000
namespace Go.Proofs.Ytjlpmhjnfgmmcaa
open Go.RowKit

abbrev Cl := List (ByteArray × Int)
abbrev Ml := List (Int × ByteArray)
def nmB (s : ByteArray) : Bool := nameL s.data.toList
def misB (c : ByteArray × Int) : Bool := !nmB c.1
def oddB (c : ByteArray × Int) : Bool := decide (c.2 < 1 ∨ 4 < c.2)
def strB (m : Int × ByteArray) : Bool := decide (m.1 < 1 ∨ 7 < m.1)
def dupL {α : Type} [DecidableEq α] (l : List α) : Bool := !decide l.Nodup
def fewN (n most : Nat) : Bool := decide (1 ≤ n ∧ n ≤ most)
/-- may the table be? -/
def tabE (nm : ByteArray) (cs : Cl) : Int :=
  if (!nmB nm || cs.any misB) = true then 3 else if (!fewN cs.length 8 || cs.any oddB) = true then 2 else if dupL (cs.map (·.1)) = true then 5 else 0
/-- where a column is, and its kind -/
def colAt (cs : Cl) (s : ByteArray) : Option (Nat × Int) := (cs.findIdx? fun c => c.1 == s).bind fun i => (cs[i]?).map fun c => (i, c.2)
def lacksB (cs : Cl) (s : ByteArray) : Bool := (colAt cs s).isNone
def kindAt (cs : Cl) (s : ByteArray) : Int := ((colAt cs s).map (·.2)).getD 0
def noMea (m k : Int) : Bool := (m == 2 && k != 1) || (m == 6 && (k != 1 && k != 2))
/-- may the rollup be one of the table? -/
def rolE (rn rt : ByteArray) (ds : List ByteArray) (ms : Ml) (tn : ByteArray) (cs : Cl) : Int :=
  if (!nmB rn) = true then 3 else if (!(rt == tn)) = true then 14 else if (decide (8 < ds.length) || (decide (16 < ms.length) || ms.any strB)) = true then 2
  else if (ds.any (lacksB cs) || ms.any fun m => lacksB cs m.2) = true then 13 else if (dupL ds || dupL ms) = true then 5
  else if (ms.any fun m => noMea m.1 (kindAt cs m.2)) = true then 12 else 0

theorem col_none {cs : Cl} {s : ByteArray} (h : ∀ (i : Nat) (c : ByteArray × Int), cs[i]? = some c → (c.1 == s) = false) : colAt cs s = none := by
  unfold colAt
  have : cs.findIdx? (fun c => c.1 == s) = none := by
    rw [List.findIdx?_eq_none_iff]
    intro x hx
    obtain ⟨i, hi⟩ := List.getElem?_of_mem hx
    exact h i x hi
  rw [this]; rfl
theorem col_some {cs : Cl} {s : ByteArray} {i : Nat} {c : ByteArray × Int} (hc : cs[i]? = some c) (he : (c.1 == s) = true) (h : ∀ (j : Nat) (d : ByteArray × Int), j < i → cs[j]? = some d → (d.1 == s) = false) : colAt cs s = some (i, c.2) := by
  unfold colAt
  obtain ⟨hi, rfl⟩ := List.getElem?_eq_some_iff.1 hc
  have : cs.findIdx? (fun c => c.1 == s) = some i := by
    rw [List.findIdx?_eq_some_iff_getElem]
    refine ⟨hi, he, fun j hj => ?_⟩
    have := h j cs[j] hj (List.getElem?_eq_getElem (by omega))
    simp [this]
  rw [this]
  simp [List.getElem?_eq_getElem hi]
theorem nodup_snoc {α : Type} [DecidableEq α] {l : List α} {i : Nat} {x : α} (hx : l[i]? = some x) (h : (l.take i).Nodup) (hn : ∀ j, j < i → l[j]? ≠ some x) : (l.take (i + 1)).Nodup := by
  rw [List.take_add_one, hx, Option.toList_some, List.nodup_append]
  refine ⟨h, by simp, fun a ha b hb => ?_⟩
  rw [List.mem_singleton] at hb
  subst hb
  rintro rfl
  obtain ⟨j, hj⟩ := List.getElem?_of_mem ha
  rw [List.getElem?_take] at hj
  split at hj
  · rename_i hji; exact hn j hji hj
  · cases hj
theorem dup_yes {α : Type} [DecidableEq α] {l : List α} {i j : Nat} {x : α} (hj : j < i) (h1 : l[j]? = some x) (h2 : l[i]? = some x) : dupL l = true := by
  unfold dupL
  rw [Bool.not_eq_true', decide_eq_false_iff_not]
  intro hn
  have h3 := List.getElem?_eq_some_iff.1 h1
  have h4 := List.getElem?_eq_some_iff.1 h2
  obtain ⟨a, ha⟩ := h3
  obtain ⟨b, hb⟩ := h4
  have := (List.pairwise_iff_getElem.1 hn) j i a b hj
  rw [ha, hb] at this
  exact this rfl
theorem dup_no {α : Type} [DecidableEq α] {l : List α} (h : (l.take l.length).Nodup) : dupL l = false := by
  rw [List.take_length] at h
  unfold dupL
  rw [decide_eq_true h]; rfl
end Go.Proofs.Ytjlpmhjnfgmmcaa
