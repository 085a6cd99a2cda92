/- What the document's Load makes of bytes; its ids. Conditions: at most 300000 bytes. -/
import Derived.Test.YtknghmcdnlkfcaaPackBC
import Derived.Test.YtknghmcdnlkfcaaMColKR
import Derived.Test.YtknghmcdnlkfcaaMRefUnruns
set_option maxRecDepth 100000
namespace Go.Proofs.Ytknghmcdnlkfcaa
open Go.RowKit Go.Maps Go.Sort

/-- numbers as ids -/
def finI (p : List UInt64 × Int) : List Int × Bool := if p.1.all (fun u => decide (u.toNat < 512)) then (p.1.map sgnU, p.2 == 0) else ([], false)
/-- what bytes tell as ids, by the byte ahead -/
def rdec (N : Nat) : List UInt8 → List Int × Bool
  | [] => ([], false)
  | x :: r => if x.toNat = 0 then (match r with | [] => ([], false) | y :: r' => finI (unpackAns (y.toNat : Int) (N : Int) r')) else
    if x.toNat = 1 then finI (unrAns r) else if x.toNat = 2 then ((undAns r).1, (undAns r).2 == 0) else ([], false)
/-- the vector that the document's Load tries -/
def refV (bs : List UInt8) : Option CV :=
  if (getN bs).2 = 0 ∨ 1000 < (getN bs).1 then none else
  if bs.length < (getN bs).2 + ((getN bs).1 + 7) / 8 then none else
  if (unpackAns 1 ((getN bs).1 : Int) ((bs.take ((getN bs).2 + ((getN bs).1 + 7) / 8)).drop (getN bs).2)).2 ≠ 0 then none else
  if (rdec (getN bs).1 (bs.drop ((getN bs).2 + ((getN bs).1 + 7) / 8))).2 = false then none else
  some ⟨(unpackAns 1 ((getN bs).1 : Int) ((bs.take ((getN bs).2 + ((getN bs).1 + 7) / 8)).drop (getN bs).2)).1.map unmU, (rdec (getN bs).1 (bs.drop ((getN bs).2 + ((getN bs).1 + 7) / 8))).1⟩
theorem fin_ids {l : List Int} (h : ∀ x ∈ l, 0 ≤ x ∧ x < 512) : finI (idsU l, 0) = (l, true) := by
  have ha : (idsU l).all (fun u => decide (u.toNat < 512)) = true := List.all_eq_true.2 fun u hu => by
    obtain ⟨x, hx, rfl⟩ := List.mem_map.1 hu
    obtain ⟨h0, h1⟩ := h x hx
    rw [idU_small h0 h1]
    exact decide_eq_true (by omega)
  unfold finI
  simp only [ha, if_true, sgn_id h]
  rfl
theorem rdec_short {c : CV} (hg : goodC c = true) : rdec c.il.length (shortL c.il) = (c.il, true) := by
  obtain ⟨hn, hl, _⟩ := good_iff.1 hg
  have hsm := good_small hg
  have e2 : (idsU c.il).length = c.il.length := by simp [idsU]
  rcases short_cases c.il with h | h | h
  · rw [h]
    have hw := wdU_small hsm
    have e : (UInt8.ofNat (wdU (idsU c.il))).toNat = wdU (idsU c.il) := by rw [UInt8.toNat_ofNat']; omega
    show finI (unpackAns ((UInt8.ofNat (wdU (idsU c.il))).toNat : Int) (c.il.length : Int) (packAns (wdU (idsU c.il) : Int) (idsU c.il)).1) = _
    rw [e, ← e2, unpack_of_pack (by omega) (ids_fit _) (by omega)]
    exact fin_ids hsm
  · rw [h]
    show finI (unrAns (runsB (runsOf (idsU c.il)))) = _
    rw [unruns_runs _ (by omega)]
    exact fin_ids hsm
  · rw [h]
    show ((undAns (deltaL 0 c.il)).1, (undAns (deltaL 0 c.il)).2 == 0) = _
    rw [undeltas_deltas c.il (fun n hn => by have := hsm n hn; omega)]
    rfl
theorem refV_bytes {c : CV} (hg : goodC c = true) : refV (bytesC c) = some c := by
  obtain ⟨hn, hl, _⟩ := good_iff.1 hg
  have key : ∀ (x : UInt8) (r : List UInt8), shortL c.il = x :: r → refV (bytesC c) = some c := fun x r hs => by
    obtain ⟨p1, p2, p3, p4, p5, p6, p7, p8, p9⟩ := bytes_parts hg hs
    have hu : unpackAns 1 (c.il.length : Int) (packAns 1 (c.nl.map markU)).1 = (c.nl.map markU, 0) := by
      have := unpack_of_pack (wd := 1) (by omega) (marks_fit c.nl) (by rw [List.length_map]; omega)
      rw [List.length_map, hn] at this
      exact this
    have hd := rdec_short hg
    rw [hs] at hd
    unfold refV
    rw [p1, if_neg (by omega), if_neg (by omega), p8, hu, p9, hd]
    simp only [unm_mark]
    rfl
  rcases short_cases c.il with h | h | h
  · exact key _ _ h
  · exact key _ _ h
  · exact key _ _ h
/-- what is not taken -/
theorem load_no {bs : List UInt8} (h : ∀ V, refV bs = some V → ¬ (goodC V = true ∧ bytesC V = bs)) : loadV bs = ⟨[], []⟩ ∧ loadE bs = 8 := by
  have hok : okL bs = false := by
    rw [Bool.eq_false_iff]
    intro g
    simp only [okL, Bool.and_eq_true, decide_eq_true_eq] at g
    have := refV_bytes g.1
    rw [g.2] at this
    exact h _ this g
  exact ⟨by simp [loadV, hok], by simp [loadE, hok]⟩
theorem load_yes {bs : List UInt8} {V : CV} (hg : goodC V = true) (hb : bytesC V = bs) : loadV bs = V ∧ loadE bs = 0 := by
  have := load_bytes hg
  rw [hb] at this
  exact this
theorem sgn_small {u : UInt64} (h : u.toNat < 512) : sgnU u = (u.toNat : Int) := by unfold sgnU; rw [IntKind.wrap_i64]; omega
end Go.Proofs.Ytknghmcdnlkfcaa
