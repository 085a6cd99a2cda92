/- Plain mathematics: liftAll lessens a measure where it changes anything. Conditions: as stated. -/
import Derived.Test.YtahaoodklfmddaaDigLiftA
set_option maxRecDepth 100000
namespace Go.Proofs.Ytahaoodklfmddaa
open Go.RowKit Go.Maps Go.Sort Go.Shelf

/-- each prefix that is still to come is a node's -/
def Here (L : DL) (lv : Nat) (us : List UInt64) : Prop := ∀ u ∈ us, ∃ q ∈ L, q.1 = cd lv u.toNat
theorem here_start {L xs : DL} {lv : Nat} {us : List UInt64} (hx : ∀ p, p ∈ xs ↔ p ∈ L) (hp : us.Perm (preL lv xs)) : Here L lv us := fun u hu => by
  have h1 := hp.mem_iff.1 hu
  unfold preL at h1
  obtain ⟨p, h2, rfl⟩ := List.mem_map.1 h1
  obtain ⟨h3, h4⟩ := List.mem_filter.1 h2
  have h5 : p.1 / 18446744073709551616 = lv := by
    have := of_decide_eq_true h4
    omega
  have h6 : (UInt64.ofNat (p.1 % 18446744073709551616)).toNat = p.1 % 18446744073709551616 := by simp
  exact ⟨p, (hx p).1 h3, by rw [h6, ← h5]; exact (cd_self p.1).symm⟩
/-- what going on means: still one's nodes, no more to go, less if changed, the same if not -/
structure Onto (n : Nat) (L : DL) (ch : Bool) (L' : DL) (ch' : Bool) : Prop where
  inv : LInv n L'
  le : meas L' ≤ meas L
  less : ch' = true → ch = true ∨ meas L' < meas L
  same : ch' = false → ch = false ∧ L' = L
theorem Onto.refl {n : Nat} {L : DL} (h : LInv n L) (ch : Bool) : Onto n L ch L ch := ⟨h, Int.le_refl _, fun e => .inl e, fun e => ⟨e, rfl⟩⟩
theorem Onto.trans {n : Nat} {L L1 L2 : DL} {ch ch1 ch2 : Bool} (h : Onto n L ch L1 ch1) (k : Onto n L1 ch1 L2 ch2) : Onto n L ch L2 ch2 where
  inv := k.inv
  le := Int.le_trans k.le h.le
  less e := by
    have := h.le
    have := k.le
    rcases k.less e with e1 | e1
    · rcases h.less e1 with e2 | e2
      · exact .inl e2
      · exact .inr (by omega)
    · exact .inr (by omega)
  same e := by
    obtain ⟨e1, rfl⟩ := k.same e
    exact h.same e1
theorem inner_onto {n : Nat} {most : Int} {lv : Nat} (hlv : lv < 64) : ∀ (us : List UInt64) (L : DL) (ch : Bool) (st : Nat), LInv n L → Pend L lv us → (ch = true ∨ Here L lv us) → ∀ (L' : DL) (ch' : Bool) (st' : Nat) (b : Bool), innerL most lv us L ch st = (L', ch', st', b) → Onto n L ch L' ch'
  | [], L, ch, st, hI, _, _, L', ch', st', b, e => by
    cases e
    exact Onto.refl hI ch
  | u :: us, L, ch, st, hI, hP, hH, L', ch', st', b, e => by
    have hP2 : Pend L lv us := fun v hv => hP v (List.mem_cons_of_mem _ hv)
    have hH2 : ch = true ∨ Here L lv us := hH.imp id (fun h v hv => h v (List.mem_cons_of_mem _ hv))
    have hc := low_cd (lv := lv) (u := u)
    unfold innerL at e
    split at e
    · have hI1 := hI.lift hP hlv (List.mem_cons_self ..)
      have k := inner_onto hlv us (liftL L (cd lv u.toNat)) true st hI1 (pend_step hP2 hc) (.inl rfl) L' ch' st' b e
      have hm := lift_meas hI.inv.asc (c := cd lv u.toNat) (by omega)
      have hle : meas (liftL L (cd lv u.toNat)) ≤ meas L := by
        rcases (hP u (List.mem_cons_self ..)).2 with h | h
        · have := hm.2 h; omega
        · exact hm.1 h
      refine Onto.trans ⟨hI1, hle, fun _ => ?_, fun e => by cases e⟩ k
      rcases hH with h | h
      · exact .inl h
      · exact .inr (hm.2 (h u (List.mem_cons_self ..)))
    · split at e
      · cases e
        exact Onto.refl hI ch
      · exact inner_onto hlv us L ch (st + 1) hI hP2 hH2 L' ch' st' b e
theorem outer_onto {n : Nat} {most : Int} {lv st : Nat} {L L' : DL} {ch ch' : Bool} (h : OuterL most lv L ch st L' ch') (hI : LInv n L) : Onto n L ch L' ch' := by
  induction h with
  | top L ch st => exact Onto.refl hI ch
  | stop hl hx hn hp e => exact inner_onto hl _ _ _ _ hI (pend_start hI hx hp) (.inr (here_start hx hp)) _ _ _ _ e
  | next hl hx hn hp e k ih =>
    have h1 := inner_onto hl _ _ _ _ hI (pend_start hI hx hp) (.inr (here_start hx hp)) _ _ _ _ e
    exact h1.trans (ih h1.inv)
theorem meas_low : ∀ {L : DL}, (∀ q ∈ L, LowC q.1) → 0 ≤ meas L
  | [], _ => Int.le_refl _
  | p :: r, h => by
    have h1 := (h p (List.mem_cons_self ..)).1
    have h2 := meas_low fun q hq => h q (List.mem_cons_of_mem _ hq)
    show 0 ≤ wgt p.1 + meas r
    unfold wgt
    omega
/-- the levels gone through till nothing changes -/
inductive FitL (most : Int) : DL → DL → Prop
  | last {L L' : DL} (h : OuterL most 0 L false 0 L' false) : FitL most L L'
  | again {L L1 L2 : DL} (h : OuterL most 0 L false 0 L1 true) (k : FitL most L1 L2) : FitL most L L2
end Go.Proofs.Ytahaoodklfmddaa
