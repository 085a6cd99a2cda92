/- The texts DigLiftA DigFitA DigBound2, one behind the other; each one's own comment says what it holds. -/
import Derived.Test.YtahaoodklfmddaaDigestActsRowGC
/- What liftAll does, in plain words: its loops as functions of the lists that it goes through. Conditions: as stated. -/
set_option maxRecDepth 100000
namespace Go.Proofs.Ytahaoodklfmddaa
open Go.RowKit Go.Maps Go.Sort Go.Shelf

/-- a level's prefixes gone through: what is left, whether anything changed, how many stayed, whether that ended it all -/
def innerL (most : Int) (lv : Nat) : List UInt64 → DL → Bool → Nat → DL × Bool × Nat × Bool
  | [], L, ch, st => (L, ch, st, false)
  | u :: us, L, ch, st => if allC L (cd lv u.toNat) ≤ most then innerL most lv us (liftL L (cd lv u.toNat)) true st
      else if st + 1 = L.length then (L, ch, st + 1, true) else innerL most lv us L ch (st + 1)
/-- the levels from lv on -/
inductive OuterL (most : Int) : Nat → DL → Bool → Nat → DL → Bool → Prop
  | top (L : DL) (ch : Bool) (st : Nat) : OuterL most 64 L ch st L ch
  | stop {lv st st' : Nat} {L L' xs : DL} {ch ch' : Bool} {us : List UInt64} (hl : lv < 64) (hx : ∀ p, p ∈ xs ↔ p ∈ L) (hn : xs.Nodup) (hp : us.Perm (preL lv xs)) (h : innerL most lv us L ch st = (L', ch', st', true)) : OuterL most lv L ch st L' ch'
  | next {lv st st1 : Nat} {L L1 L2 xs : DL} {ch ch1 ch2 : Bool} {us : List UInt64} (hl : lv < 64) (hx : ∀ p, p ∈ xs ↔ p ∈ L) (hn : xs.Nodup) (hp : us.Perm (preL lv xs)) (h : innerL most lv us L ch st = (L1, ch1, st1, false)) (k : OuterL most (lv + 1) L1 ch1 st1 L2 ch2) : OuterL most lv L ch st L2 ch2

/-- what a digest's nodes are at any time -/
structure LInv (n : Nat) (L : DL) : Prop where
  inv : DInv n L
  low : ∀ q ∈ L, LowC q.1
  short : L.length ≤ 100000
/-- each prefix that is still to come is a node's, or its parent is a node -/
def Pend (L : DL) (lv : Nat) (us : List UInt64) : Prop := ∀ u ∈ us, LowC (cd lv u.toNat) ∧ ((∃ q ∈ L, q.1 = cd lv u.toNat) ∨ ∃ q ∈ L, q.1 = upC (cd lv u.toNat))

theorem LInv.len {n : Nat} {L : DL} (h : LInv n L) : L.length ≤ 100000 := h.short
/-- a lift makes no more nodes -/
theorem lift_len {L : DL} (hA : DAsc L) {c : Nat} (hc : (∃ q ∈ L, q.1 = c) ∨ ∃ q ∈ L, q.1 = upC c) : (liftL L c).length ≤ L.length := by
  have h1 : (liftL L c).length ≤ (delD c (putD (upC c) (allC L c) L)).length := List.length_filter_le _ _
  have h2 : (delD c (putD (upC c) (allC L c) L)).length ≤ (putD (upC c) (allC L c) L).length := List.length_filter_le _ _
  by_cases hu : ∃ q ∈ L, q.1 = upC c
  · have h3 := putD_len_mem hA (c := allC L c) hu
    omega
  · rcases hc with hc | hc
    · have h3 := putD_len L (upC c) (allC L c)
      obtain ⟨q, hq, e⟩ := (has_putD (L := L) (upC c) c (allC L c)).2 (.inr hc)
      have h4 : (delD c (putD (upC c) (allC L c) L)).length < (putD (upC c) (allC L c) L).length := by
        unfold delD
        exact List.length_filter_lt_length_iff_exists.2 ⟨q, hq, by simp [e]⟩
      omega
    · exact absurd hc hu
theorem kin_of_low {c : Nat} (h : LowC c) : KIn c := by
  have h1 := h.1
  have h2 := cd_self c
  unfold KIn cd at *
  omega
theorem low_cd {lv : Nat} {u : UInt64} : cd lv u.toNat / 18446744073709551616 = lv := (cd_lev u.toNat_lt).1
theorem kV_cd (lv : Nat) (u : UInt64) : kV (cd lv u.toNat) = .agg #[.int .i64 (lv : Int), .int .u64 (u.toNat : Int)] := by
  rw [kV_at, (cd_lev u.toNat_lt).1, (cd_lev u.toNat_lt).2]
theorem pend_start {n : Nat} {L xs : DL} (h : LInv n L) {lv : Nat} {us : List UInt64} (hx : ∀ p, p ∈ xs ↔ p ∈ L) (hp : us.Perm (preL lv xs)) : Pend L lv us := fun u hu => by
  have h1 := hp.mem_iff.1 hu
  unfold preL at h1
  obtain ⟨p, h2, rfl⟩ := List.mem_map.1 h1
  obtain ⟨h3, h4⟩ := List.mem_filter.1 h2
  have h5 : p.1 / 18446744073709551616 = lv := by
    have := of_decide_eq_true h4
    omega
  have h6 : (UInt64.ofNat (p.1 % 18446744073709551616)).toNat = p.1 % 18446744073709551616 := by simp
  have e : cd lv (UInt64.ofNat (p.1 % 18446744073709551616)).toNat = p.1 := by rw [h6, ← h5]; exact cd_self p.1
  rw [e]
  exact ⟨h.low p ((hx p).1 h3), .inl ⟨p, (hx p).1 h3, rfl⟩⟩
theorem pend_step {L : DL} {lv : Nat} {us : List UInt64} (h : Pend L lv us) {c : Nat} (hc : c / 18446744073709551616 = lv) : Pend (liftL L c) lv us := fun u hu => by
  obtain ⟨h1, h2⟩ := h u hu
  refine ⟨h1, ?_⟩
  have l1 : cd lv u.toNat / 18446744073709551616 = lv := low_cd
  have hs := (sib_lev c).1
  have hup := (up_lev (cd lv u.toNat)).1
  have n1 : upC (cd lv u.toNat) ≠ c := fun e => by rw [e] at hup; omega
  have n2 : upC (cd lv u.toNat) ≠ sibC c := fun e => by rw [e] at hup; omega
  by_cases e1 : cd lv u.toNat = c
  · refine .inr ((lift_has c _).2 ⟨.inl (by rw [e1]), n1, n2⟩)
  · by_cases e2 : cd lv u.toNat = sibC c
    · refine .inr ((lift_has c _).2 ⟨.inl (by rw [e2, up_sib]), n1, n2⟩)
    · rcases h2 with h2 | h2
      · exact .inl ((lift_has c _).2 ⟨.inr h2, e1, e2⟩)
      · exact .inr ((lift_has c _).2 ⟨.inr h2, n1, n2⟩)
theorem LInv.lift {n : Nat} {L : DL} (h : LInv n L) {lv : Nat} {us : List UInt64} (hP : Pend L lv us) (hlv : lv < 64) {u : UInt64} (hu : u ∈ us) : LInv n (liftL L (cd lv u.toNat)) :=
  ⟨lift_inv h.inv (hP u hu).2, lift_codes h.low (by rw [low_cd]; omega) (hP u hu).1, Nat.le_trans (lift_len h.inv.asc (hP u hu).2) h.short⟩
theorem LInv.sums {n : Nat} {L : DL} (h : LInv n L) (hn : n ≤ 1125899906842624) (c : Nat) : InI (dcnt L c + dcnt L (sibC c)) ∧ InI (allC L c) := by
  have h1 := all_le h.inv c
  have h2 := dcnt_nonneg h.inv.pos c
  have h3 := dcnt_nonneg h.inv.pos (sibC c)
  have h4 := dcnt_nonneg h.inv.pos (upC c)
  unfold allC at *
  unfold InI
  omega
end Go.Proofs.Ytahaoodklfmddaa
/- Plain mathematics: liftAll lessens a measure where it changes anything. Conditions: as stated. -/
set_option maxRecDepth 100000
namespace Go.Proofs.Ytahaoodklfmddaa
open Go.RowKit Go.Maps Go.Sort Go.Shelf

/-- each prefix that is still to come is a node's -/
def Here (L : DL) (lv : Nat) (us : List UInt64) : Prop := ∀ u ∈ us, ∃ q ∈ L, q.1 = cd lv u.toNat
theorem here_start {L xs : DL} {lv : Nat} {us : List UInt64} (hx : ∀ p, p ∈ xs ↔ p ∈ L) (hp : us.Perm (preL lv xs)) : Here L lv us := fun u hu => by
  have h1 := hp.mem_iff.1 hu
  unfold preL at h1
  obtain ⟨p, h2, rfl⟩ := List.mem_map.1 h1
  obtain ⟨h3, h4⟩ := List.mem_filter.1 h2
  have h5 : p.1 / 18446744073709551616 = lv := by
    have := of_decide_eq_true h4
    omega
  have h6 : (UInt64.ofNat (p.1 % 18446744073709551616)).toNat = p.1 % 18446744073709551616 := by simp
  exact ⟨p, (hx p).1 h3, by rw [h6, ← h5]; exact (cd_self p.1).symm⟩
/-- what going on means: still one's nodes, no more to go, less if changed, the same if not -/
structure Onto (n : Nat) (L : DL) (ch : Bool) (L' : DL) (ch' : Bool) : Prop where
  inv : LInv n L'
  le : meas L' ≤ meas L
  less : ch' = true → ch = true ∨ meas L' < meas L
  same : ch' = false → ch = false ∧ L' = L
theorem Onto.refl {n : Nat} {L : DL} (h : LInv n L) (ch : Bool) : Onto n L ch L ch := ⟨h, Int.le_refl _, fun e => .inl e, fun e => ⟨e, rfl⟩⟩
theorem Onto.trans {n : Nat} {L L1 L2 : DL} {ch ch1 ch2 : Bool} (h : Onto n L ch L1 ch1) (k : Onto n L1 ch1 L2 ch2) : Onto n L ch L2 ch2 where
  inv := k.inv
  le := Int.le_trans k.le h.le
  less e := by
    have := h.le
    have := k.le
    rcases k.less e with e1 | e1
    · rcases h.less e1 with e2 | e2
      · exact .inl e2
      · exact .inr (by omega)
    · exact .inr (by omega)
  same e := by
    obtain ⟨e1, rfl⟩ := k.same e
    exact h.same e1
theorem inner_onto {n : Nat} {most : Int} {lv : Nat} (hlv : lv < 64) : ∀ (us : List UInt64) (L : DL) (ch : Bool) (st : Nat), LInv n L → Pend L lv us → (ch = true ∨ Here L lv us) → ∀ (L' : DL) (ch' : Bool) (st' : Nat) (b : Bool), innerL most lv us L ch st = (L', ch', st', b) → Onto n L ch L' ch'
  | [], L, ch, st, hI, _, _, L', ch', st', b, e => by
    cases e
    exact Onto.refl hI ch
  | u :: us, L, ch, st, hI, hP, hH, L', ch', st', b, e => by
    have hP2 : Pend L lv us := fun v hv => hP v (List.mem_cons_of_mem _ hv)
    have hH2 : ch = true ∨ Here L lv us := hH.imp id (fun h v hv => h v (List.mem_cons_of_mem _ hv))
    have hc := low_cd (lv := lv) (u := u)
    unfold innerL at e
    split at e
    · have hI1 := hI.lift hP hlv (List.mem_cons_self ..)
      have k := inner_onto hlv us (liftL L (cd lv u.toNat)) true st hI1 (pend_step hP2 hc) (.inl rfl) L' ch' st' b e
      have hm := lift_meas hI.inv.asc (c := cd lv u.toNat) (by omega)
      have hle : meas (liftL L (cd lv u.toNat)) ≤ meas L := by
        rcases (hP u (List.mem_cons_self ..)).2 with h | h
        · have := hm.2 h; omega
        · exact hm.1 h
      refine Onto.trans ⟨hI1, hle, fun _ => ?_, fun e => by cases e⟩ k
      rcases hH with h | h
      · exact .inl h
      · exact .inr (hm.2 (h u (List.mem_cons_self ..)))
    · split at e
      · cases e
        exact Onto.refl hI ch
      · exact inner_onto hlv us L ch (st + 1) hI hP2 hH2 L' ch' st' b e
theorem outer_onto {n : Nat} {most : Int} {lv st : Nat} {L L' : DL} {ch ch' : Bool} (h : OuterL most lv L ch st L' ch') (hI : LInv n L) : Onto n L ch L' ch' := by
  induction h with
  | top L ch st => exact Onto.refl hI ch
  | stop hl hx hn hp e => exact inner_onto hl _ _ _ _ hI (pend_start hI hx hp) (.inr (here_start hx hp)) _ _ _ _ e
  | next hl hx hn hp e k ih =>
    have h1 := inner_onto hl _ _ _ _ hI (pend_start hI hx hp) (.inr (here_start hx hp)) _ _ _ _ e
    exact h1.trans (ih h1.inv)
theorem meas_low : ∀ {L : DL}, (∀ q ∈ L, LowC q.1) → 0 ≤ meas L
  | [], _ => Int.le_refl _
  | p :: r, h => by
    have h1 := (h p (List.mem_cons_self ..)).1
    have h2 := meas_low fun q hq => h q (List.mem_cons_of_mem _ hq)
    show 0 ≤ wgt p.1 + meas r
    unfold wgt
    omega
/-- the levels gone through till nothing changes -/
inductive FitL (most : Int) : DL → DL → Prop
  | last {L L' : DL} (h : OuterL most 0 L false 0 L' false) : FitL most L L'
  | again {L L1 L2 : DL} (h : OuterL most 0 L false 0 L1 true) (k : FitL most L1 L2) : FitL most L L2
end Go.Proofs.Ytahaoodklfmddaa
/- Plain mathematics: where liftAll changes nothing nothing can be lifted, and few nodes are left. Conditions: as stated. -/
set_option maxRecDepth 100000
namespace Go.Proofs.Ytahaoodklfmddaa
open Go.RowKit Go.Maps Go.Sort Go.Shelf

theorem inner_true {most : Int} {lv : Nat} : ∀ (us : List UInt64) (L : DL) (st : Nat) (L' : DL) (ch' : Bool) (st' : Nat) (b : Bool), innerL most lv us L true st = (L', ch', st', b) → ch' = true
  | [], L, st, L', ch', st', b, e => by
    cases e
    rfl
  | u :: us, L, st, L', ch', st', b, e => by
    unfold innerL at e
    split at e
    · exact inner_true us _ _ _ _ _ _ e
    · split at e
      · cases e
        rfl
      · exact inner_true us _ _ _ _ _ _ e
theorem outer_true {most : Int} {lv st : Nat} {L L' : DL} {ch ch' : Bool} (h : OuterL most lv L ch st L' ch') : ch = true → ch' = true := by
  induction h with
  | top L ch st => exact id
  | stop hl hx hn hp e => exact fun hc => by subst hc; exact inner_true _ _ _ _ _ _ _ e
  | next hl hx hn hp e k ih => exact fun hc => by subst hc; exact ih (inner_true _ _ _ _ _ _ _ e)
/-- a level where nothing changed -/
theorem inner_same {most : Int} {lv : Nat} : ∀ (us : List UInt64) (L : DL) (st : Nat) (L' : DL) (st' : Nat) (b : Bool), innerL most lv us L false st = (L', false, st', b) →
    L' = L ∧ ∃ us1 us2, us = us1 ++ us2 ∧ (∀ u ∈ us1, most < allC L (cd lv u.toNat)) ∧ st' = st + us1.length ∧ (b = false → us2 = []) ∧ (b = true → st' = L.length)
  | [], L, st, L', st', b, e => by
    cases e
    exact ⟨rfl, [], [], rfl, (fun u hu => by cases hu), rfl, (fun _ => rfl), fun e => by cases e⟩
  | u :: us, L, st, L', st', b, e => by
    unfold innerL at e
    split at e
    · exact absurd (inner_true us _ _ _ _ _ _ e) (by decide)
    · rename_i hm
      split at e
      · rename_i hq
        cases e
        refine ⟨rfl, [u], us, rfl, fun v hv => ?_, rfl, (fun e => by cases e), fun _ => hq⟩
        rw [List.mem_singleton] at hv
        subst hv
        omega
      · obtain ⟨rfl, us1, us2, h1, h2, h3, h4, h5⟩ := inner_same us L (st + 1) L' st' b e
        refine ⟨rfl, u :: us1, us2, by rw [h1]; rfl, fun v hv => ?_, by rw [List.length_cons]; omega, h4, h5⟩
        rcases List.mem_cons.1 hv with rfl | hv
        · omega
        · exact h2 v hv
/-- how many nodes are below level lv -/
def below (lv : Nat) (L : DL) : Nat := L.countP fun q => decide (q.1 / 18446744073709551616 < lv)
theorem below_next (lv : Nat) (L : DL) : below (lv + 1) L = below lv L + (L.filter fun q => decide (((q.1 / 18446744073709551616 : Nat) : Int) = (lv : Int))).length := by
  unfold below
  induction L with
  | nil => rfl
  | cons q r ih =>
    rw [List.countP_cons, List.countP_cons, ih, List.filter_cons]
    by_cases h1 : q.1 / 18446744073709551616 < lv
    · rw [if_pos (by simp; omega), if_pos (by simpa using h1), if_neg (by simp; omega)]
      omega
    · by_cases h2 : q.1 / 18446744073709551616 = lv
      · rw [if_pos (by simp; omega), if_neg (by simpa using h1), if_pos (by simp [h2]), List.length_cons]
        omega
      · rw [if_neg (by simp; omega), if_neg (by simpa using h1), if_neg (by simp; omega)]
        omega
theorem below_le (lv : Nat) (L : DL) : below lv L ≤ L.length := List.countP_le_length
theorem level_len {L xs : DL} {lv : Nat} {us : List UInt64} (hL : L.Nodup) (hx : ∀ p, p ∈ xs ↔ p ∈ L) (hn : xs.Nodup) (hp : us.Perm (preL lv xs)) : us.length = below (lv + 1) L - below lv L := by
  have h1 : xs.Perm L := (List.perm_ext_iff_of_nodup hn hL).2 hx
  rw [hp.length_eq, below_next]
  unfold preL
  rw [List.length_map, (h1.filter _).length_eq]
  omega
/-- a level's node is among its prefixes -/
theorem level_mem {L xs : DL} {lv : Nat} {us : List UInt64} (hx : ∀ p, p ∈ xs ↔ p ∈ L) (hp : us.Perm (preL lv xs)) {q : Nat × Int} (hq : q ∈ L) (hl : q.1 / 18446744073709551616 = lv) : ∃ u ∈ us, cd lv u.toNat = q.1 := by
  refine ⟨UInt64.ofNat (q.1 % 18446744073709551616), hp.mem_iff.2 ?_, ?_⟩
  · unfold preL
    exact List.mem_map.2 ⟨q, List.mem_filter.2 ⟨(hx q).2 hq, by simp [hl]⟩, rfl⟩
  · have h6 : (UInt64.ofNat (q.1 % 18446744073709551616)).toNat = q.1 % 18446744073709551616 := by simp
    rw [h6, ← hl]
    exact cd_self q.1
theorem nodup_of_asc {L : DL} (h : DAsc L) : L.Nodup := by
  refine h.imp fun {a b} hab e => ?_
  subst e
  omega
/-- nothing changed: no node from level lv on, below the top, can be lifted -/
theorem outer_same {most : Int} {lv st : Nat} {L L' : DL} {ch ch' : Bool} (h : OuterL most lv L ch st L' ch') (hA : DAsc L) (hc : ch = false) (hc' : ch' = false) (hst : st = below lv L) :
    ∀ q ∈ L, lv ≤ q.1 / 18446744073709551616 → q.1 / 18446744073709551616 < 64 → most < allC L q.1 := by
  induction h with
  | top L ch st => exact fun q hq h1 h2 => absurd h1 (by omega)
  | @stop lv st st' L L' xs ch ch' us hl hx hn hp e =>
    subst hc hc'
    obtain ⟨_, us1, us2, h1, h2, h3, _, h5⟩ := inner_same us L st L' st' true e
    have h6 := level_len (nodup_of_asc hA) hx hn hp
    have h7 := below_le (lv + 1) L
    have h8 := below_next lv L
    have h9 := h5 rfl
    have h10 : us.length = us1.length + us2.length := by rw [h1, List.length_append]
    have h11 : us2 = [] := List.length_eq_zero_iff.1 (by omega)
    rw [h11, List.append_nil] at h1
    intro q hq g1 g2
    rcases Nat.lt_or_ge lv (q.1 / 18446744073709551616) with g | g
    · exfalso
      have h12 : below (lv + 1) L < L.length := by
        unfold below
        refine Nat.lt_of_le_of_ne List.countP_le_length fun e => ?_
        have := List.countP_eq_length.1 e q hq
        have := of_decide_eq_true this
        omega
      omega
    · obtain ⟨u, hu, e2⟩ := level_mem hx hp hq (by omega)
      rw [← e2]
      exact h2 u (h1 ▸ hu)
  | @next lv st st1 L L1 L2 xs ch ch1 ch2 us hl hx hn hp e k ih =>
    subst hc hc'
    have hc1 : ch1 = false := by
      cases ch1 with
      | false => rfl
      | true => exact absurd (outer_true k rfl) (by decide)
    subst hc1
    obtain ⟨rfl, us1, us2, h1, h2, h3, h4, _⟩ := inner_same us L st L1 st1 false e
    rw [h4 rfl, List.append_nil] at h1
    have h6 := level_len (nodup_of_asc hA) hx hn hp
    have h8 := below_next lv L1
    intro q hq g1 g2
    rcases Nat.lt_or_ge lv (q.1 / 18446744073709551616) with g | g
    · exact ih hA rfl rfl (by rw [h3, hst, ← h1]; omega) q hq (by omega) g2
    · obtain ⟨u, hu, e2⟩ := level_mem hx hp hq (by omega)
      rw [← e2]
      exact h2 u (h1 ▸ hu)
/-- where fit ends, nothing more can be lifted -/
theorem fit_end {n : Nat} {most : Int} {L L' : DL} (h : FitL most L L') (hI : LInv n L) : LInv n L' ∧ ∀ q ∈ L', q.1 / 18446744073709551616 < 64 → most < allC L' q.1 := by
  induction h with
  | last h =>
    have ho := outer_onto h hI
    obtain ⟨_, rfl⟩ := ho.same rfl
    exact ⟨hI, fun q hq g => outer_same h hI.inv.asc rfl rfl (by unfold below; exact (List.countP_eq_zero.2 (fun q _ => by simp)).symm) q hq (Nat.zero_le _) g⟩
  | again h k ih => exact ih (outer_onto h hI).inv

/-- the sum over A of what L counts at f -/
def sumAt (f : Nat → Nat) (L : DL) : DL → Int
  | [] => 0
  | q :: r => dcnt L (f q.1) + sumAt f L r
theorem sumAt_nil (f : Nat → Nat) : ∀ A : DL, sumAt f [] A = 0
  | [] => rfl
  | q :: r => by
    show dcnt [] (f q.1) + sumAt f [] r = 0
    rw [sumAt_nil f r]
    rfl
theorem sumAt_cons (f : Nat → Nat) {p : Nat × Int} {L : DL} (hp : 0 ≤ p.2) (hL : ∀ q ∈ L, 1 ≤ q.2) : ∀ A : DL, sumAt f (p :: L) A ≤ p.2 * (A.countP fun q => decide (f q.1 = p.1) : Nat) + sumAt f L A
  | [] => by simp [sumAt]
  | q :: r => by
    have ih := sumAt_cons f hp hL r
    have h0 := dcnt_nonneg hL (f q.1)
    show (if p.1 = f q.1 then p.2 else dcnt L (f q.1)) + sumAt f (p :: L) r ≤ _ + (dcnt L (f q.1) + sumAt f L r)
    rw [List.countP_cons]
    by_cases e : f q.1 = p.1
    · rw [if_pos e.symm, if_pos (by simpa using e), Int.natCast_add, Int.mul_add]
      simp
      omega
    · rw [if_neg (fun h => e h.symm), if_neg (by simpa using e), Nat.add_zero]
      omega
theorem sumAt_le (f : Nat → Nat) (m : Nat) (A : DL) : ∀ {L : DL}, (∀ q ∈ L, 1 ≤ q.2) → (∀ p ∈ L, (A.countP fun q => decide (f q.1 = p.1)) ≤ m) → sumAt f L A ≤ m * total L
  | [], _, _ => by rw [sumAt_nil]; simp [total, csum]
  | p :: L, hp, hm => by
    have h1 := hp p (List.mem_cons_self ..)
    have h2 := fun q hq => hp q (List.mem_cons_of_mem _ hq)
    have ih := sumAt_le f m A h2 fun q hq => hm q (List.mem_cons_of_mem _ hq)
    have h3 := sumAt_cons f (by omega : 0 ≤ p.2) h2 A
    have h4 : p.2 * ((A.countP fun q => decide (f q.1 = p.1) : Nat) : Int) ≤ p.2 * (m : Int) := Int.mul_le_mul_of_nonneg_left (by have := hm p (List.mem_cons_self ..); omega) (by omega)
    rw [total_cons, Int.mul_add, Int.mul_comm (m : Int) p.2]
    omega
theorem count_one {A : DL} (hA : DAsc A) (x : Nat) : (A.countP fun q => decide (q.1 = x)) ≤ 1 := by
  induction A with
  | nil => simp
  | cons q r ih =>
    rw [List.countP_cons]
    have := ih (dasc_tail hA)
    by_cases e : q.1 = x
    · have h0 : (r.countP fun q => decide (q.1 = x)) = 0 := List.countP_eq_zero.2 fun p hp => by
        have := dasc_head hA p hp
        simp
        omega
      rw [h0]
      split <;> omega
    · rw [if_neg (by simpa using e)]
      omega
theorem sib_sib (c : Nat) : sibC (sibC c) = c := by
  have h1 := sib_lev c
  have h2 : sibC (sibC c) = cd (sibC c / 18446744073709551616) (sibC c % 18446744073709551616 ^^^ 1) := rfl
  rw [h2, h1.1, h1.2, Nat.xor_assoc, Nat.xor_self, Nat.xor_zero]
  exact cd_self c
theorem count_mono {A : DL} {f g : Nat × Int → Bool} (h : ∀ q ∈ A, f q = true → g q = true) : A.countP f ≤ A.countP g := List.countP_mono_left h
theorem count_or (A : DL) (f g : Nat × Int → Bool) : (A.countP fun q => f q || g q) ≤ A.countP f + A.countP g := by
  induction A with
  | nil => simp
  | cons q r ih =>
    rw [List.countP_cons, List.countP_cons, List.countP_cons]
    cases f q <;> cases g q <;> simp <;> omega
theorem count_sib {A : DL} (hA : DAsc A) (x : Nat) : (A.countP fun q => decide (sibC q.1 = x)) ≤ 1 := by
  refine Nat.le_trans (count_mono (g := fun q => decide (q.1 = sibC x)) fun q _ h => ?_) (count_one hA (sibC x))
  have := of_decide_eq_true h
  exact decide_eq_true (by rw [← this, sib_sib])
theorem count_up {A : DL} (hA : DAsc A) (x : Nat) : (A.countP fun q => decide (upC q.1 = x)) ≤ 2 := by
  refine Nat.le_trans (count_mono (g := fun q => decide (q.1 = cd (x / 18446744073709551616 - 1) (x % 18446744073709551616 * 2)) || decide (q.1 = cd (x / 18446744073709551616 - 1) (x % 18446744073709551616 * 2 + 1))) fun q _ h => ?_)
    (Nat.le_trans (count_or A _ _) (Nat.add_le_add (count_one hA _) (count_one hA _)))
  have h1 := of_decide_eq_true h
  have h2 := up_lev q.1
  rw [h1] at h2
  have h3 := cd_self q.1
  simp only [Bool.or_eq_true, decide_eq_true_eq]
  rw [h2.1, h2.2]
  unfold cd at *
  omega
theorem sumAt_all {L : DL} {m : Int} : ∀ A : DL, (∀ q ∈ A, m ≤ allC L q.1) → m * A.length ≤ sumAt id L A + sumAt sibC L A + sumAt upC L A
  | [], _ => by simp [sumAt]
  | q :: r, h => by
    have ih := sumAt_all r fun p hp => h p (List.mem_cons_of_mem _ hp)
    have h1 := h q (List.mem_cons_self ..)
    unfold allC at h1
    show m * ((r.length + 1 : Nat) : Int) ≤ dcnt L (id q.1) + sumAt id L r + (dcnt L (sibC q.1) + sumAt sibC L r) + (dcnt L (upC q.1) + sumAt upC L r)
    rw [Int.natCast_add, Int.mul_add]
    simp only [id]
    omega
theorem len_split (f : Nat × Int → Bool) : ∀ L : DL, L.length = (L.filter f).length + (L.filter fun q => !f q).length
  | [] => rfl
  | q :: r => by
    have ih := len_split f r
    rw [List.filter_cons, List.filter_cons, List.length_cons]
    cases f q <;> simp <;> omega
/-- few nodes are left -/
theorem few_nodes {n k : Nat} {L : DL} (h : LInv n L) (hk1 : 1 ≤ k) (hk : k ≤ 64) (hm : ∀ q ∈ L, q.1 / 18446744073709551616 < 64 → ((n / k : Nat) : Int) < allC L q.1) : L.length ≤ 3 * k + 64 := by
  obtain ⟨A, hA⟩ : ∃ A, A = L.filter fun q => decide (q.1 / 18446744073709551616 < 64) := ⟨_, rfl⟩
  have hAA : DAsc A := by rw [hA]; exact h.inv.asc.filter _
  have h1 := sumAt_all (L := L) (m := ((n / k : Nat) : Int) + 1) A fun q hq => by
    rw [hA] at hq
    obtain ⟨g1, g2⟩ := List.mem_filter.1 hq
    have := hm q g1 (of_decide_eq_true g2)
    omega
  have h2 := sumAt_le id 1 A h.inv.pos fun p _ => count_one hAA p.1
  have h3 := sumAt_le sibC 1 A h.inv.pos fun p _ => count_sib hAA p.1
  have h4 := sumAt_le upC 2 A h.inv.pos fun p _ => count_up hAA p.1
  rw [h.inv.sum] at h2 h3 h4
  have h5 : L.length ≤ A.length + 1 := by
    have e : L.length = A.length + (L.filter fun q => !decide (q.1 / 18446744073709551616 < 64)).length := by
      rw [hA]
      exact len_split (fun q => decide (q.1 / 18446744073709551616 < 64)) L
    have e2 : (L.filter fun q => !decide (q.1 / 18446744073709551616 < 64)).length ≤ 1 := by
      rw [← List.countP_eq_length_filter]
      refine Nat.le_trans (count_mono (g := fun q => decide (q.1 = cd 64 0)) fun q hq g => ?_) (count_one h.inv.asc (cd 64 0))
      have g1 := h.low q hq
      have g2 : ¬ q.1 / 18446744073709551616 < 64 := by simpa using g
      have g3 : q.1 / 18446744073709551616 = 64 := by have := g1.1; omega
      have g4 := g1.2
      rw [g3] at g4
      have g5 := cd_self q.1
      rw [g3, show q.1 % 18446744073709551616 = 0 by simpa using g4] at g5
      exact decide_eq_true g5.symm
    omega
  -- A.length * (n / k + 1) ≤ 4 * n < 4 * k * (n / k + 1)
  have h7 : (((n / k : Nat) : Int) + 1) * (A.length : Int) ≤ 4 * (n : Int) := by omega
  have h8 : (n / k + 1) * A.length ≤ 4 * n := by exact_mod_cast h7
  have h9 : n < k * (n / k + 1) := by
    have := Nat.div_add_mod n k
    have := Nat.mod_lt n (show 0 < k by omega)
    rw [Nat.mul_add, Nat.mul_one]
    omega
  have h10 : A.length < 4 * k := by
    refine Nat.lt_of_not_le fun hge => ?_
    have h11 : (n / k + 1) * (4 * k) ≤ (n / k + 1) * A.length := Nat.mul_le_mul_left _ hge
    have h12 : (n / k + 1) * (4 * k) = 4 * (k * (n / k + 1)) := by rw [Nat.mul_comm, Nat.mul_assoc]
    omega
  omega
end Go.Proofs.Ytahaoodklfmddaa
