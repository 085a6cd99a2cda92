/- The texts DigLiftA DigFitA DigLiftAll DigFit DigIns DigBound2 DigCov DigMerge, one behind the other; each one's own comment says what it holds. -/
import Derived.Test.YtlhpbfjelgmkeaaGreatCellCopiesRowGF
import Derived.WalkMore
import Derived.Deep.LoopGhost
/- What liftAll does, in plain words: its loops as functions of the lists that it goes through. Conditions: as stated. -/
set_option maxRecDepth 100000
namespace Go.Proofs.YtlhpbfjelgmkeaaGreat.Dig
open Go.RowKit Go.Maps Go.Sort Go.Shelf

/-- a level's prefixes gone through: what is left, whether anything changed, how many stayed, whether that ended it all -/
def innerL (most : Int) (lv : Nat) : List UInt64 → DL → Bool → Nat → DL × Bool × Nat × Bool
  | [], L, ch, st => (L, ch, st, false)
  | u :: us, L, ch, st => if allC L (cd lv u.toNat) ≤ most then innerL most lv us (liftL L (cd lv u.toNat)) true st
      else if st + 1 = L.length then (L, ch, st + 1, true) else innerL most lv us L ch (st + 1)
/-- the levels from lv on -/
inductive OuterL (most : Int) : Nat → DL → Bool → Nat → DL → Bool → Prop
  | top (L : DL) (ch : Bool) (st : Nat) : OuterL most 64 L ch st L ch
  | stop {lv st st' : Nat} {L L' xs : DL} {ch ch' : Bool} {us : List UInt64} (hl : lv < 64) (hx : ∀ p, p ∈ xs ↔ p ∈ L) (hn : xs.Nodup) (hp : us.Perm (preL lv xs)) (h : innerL most lv us L ch st = (L', ch', st', true)) : OuterL most lv L ch st L' ch'
  | next {lv st st1 : Nat} {L L1 L2 xs : DL} {ch ch1 ch2 : Bool} {us : List UInt64} (hl : lv < 64) (hx : ∀ p, p ∈ xs ↔ p ∈ L) (hn : xs.Nodup) (hp : us.Perm (preL lv xs)) (h : innerL most lv us L ch st = (L1, ch1, st1, false)) (k : OuterL most (lv + 1) L1 ch1 st1 L2 ch2) : OuterL most lv L ch st L2 ch2

/-- what a digest's nodes are at any time -/
structure LInv (n : Nat) (L : DL) : Prop where
  inv : DInv n L
  low : ∀ q ∈ L, LowC q.1
  short : L.length ≤ 100000
/-- each prefix that is still to come is a node's, or its parent is a node -/
def Pend (L : DL) (lv : Nat) (us : List UInt64) : Prop := ∀ u ∈ us, LowC (cd lv u.toNat) ∧ ((∃ q ∈ L, q.1 = cd lv u.toNat) ∨ ∃ q ∈ L, q.1 = upC (cd lv u.toNat))

theorem LInv.len {n : Nat} {L : DL} (h : LInv n L) : L.length ≤ 100000 := h.short
/-- a lift makes no more nodes -/
theorem lift_len {L : DL} (hA : DAsc L) {c : Nat} (hc : (∃ q ∈ L, q.1 = c) ∨ ∃ q ∈ L, q.1 = upC c) : (liftL L c).length ≤ L.length := by
  have h1 : (liftL L c).length ≤ (delD c (putD (upC c) (allC L c) L)).length := List.length_filter_le _ _
  have h2 : (delD c (putD (upC c) (allC L c) L)).length ≤ (putD (upC c) (allC L c) L).length := List.length_filter_le _ _
  by_cases hu : ∃ q ∈ L, q.1 = upC c
  · have h3 := putD_len_mem hA (c := allC L c) hu
    omega
  · rcases hc with hc | hc
    · have h3 := putD_len L (upC c) (allC L c)
      obtain ⟨q, hq, e⟩ := (has_putD (L := L) (upC c) c (allC L c)).2 (.inr hc)
      have h4 : (delD c (putD (upC c) (allC L c) L)).length < (putD (upC c) (allC L c) L).length := by
        unfold delD
        exact List.length_filter_lt_length_iff_exists.2 ⟨q, hq, by simp [e]⟩
      omega
    · exact absurd hc hu
theorem kin_of_low {c : Nat} (h : LowC c) : KIn c := by
  have h1 := h.1
  have h2 := cd_self c
  unfold KIn cd at *
  omega
theorem low_cd {lv : Nat} {u : UInt64} : cd lv u.toNat / 18446744073709551616 = lv := (cd_lev u.toNat_lt).1
theorem kV_cd (lv : Nat) (u : UInt64) : kV (cd lv u.toNat) = .agg #[.int .i64 (lv : Int), .int .u64 (u.toNat : Int)] := by
  rw [kV_at, (cd_lev u.toNat_lt).1, (cd_lev u.toNat_lt).2]
theorem pend_start {n : Nat} {L xs : DL} (h : LInv n L) {lv : Nat} {us : List UInt64} (hx : ∀ p, p ∈ xs ↔ p ∈ L) (hp : us.Perm (preL lv xs)) : Pend L lv us := fun u hu => by
  have h1 := hp.mem_iff.1 hu
  unfold preL at h1
  obtain ⟨p, h2, rfl⟩ := List.mem_map.1 h1
  obtain ⟨h3, h4⟩ := List.mem_filter.1 h2
  have h5 : p.1 / 18446744073709551616 = lv := by
    have := of_decide_eq_true h4
    omega
  have h6 : (UInt64.ofNat (p.1 % 18446744073709551616)).toNat = p.1 % 18446744073709551616 := by simp
  have e : cd lv (UInt64.ofNat (p.1 % 18446744073709551616)).toNat = p.1 := by rw [h6, ← h5]; exact cd_self p.1
  rw [e]
  exact ⟨h.low p ((hx p).1 h3), .inl ⟨p, (hx p).1 h3, rfl⟩⟩
theorem pend_step {L : DL} {lv : Nat} {us : List UInt64} (h : Pend L lv us) {c : Nat} (hc : c / 18446744073709551616 = lv) : Pend (liftL L c) lv us := fun u hu => by
  obtain ⟨h1, h2⟩ := h u hu
  refine ⟨h1, ?_⟩
  have l1 : cd lv u.toNat / 18446744073709551616 = lv := low_cd
  have hs := (sib_lev c).1
  have hup := (up_lev (cd lv u.toNat)).1
  have n1 : upC (cd lv u.toNat) ≠ c := fun e => by rw [e] at hup; omega
  have n2 : upC (cd lv u.toNat) ≠ sibC c := fun e => by rw [e] at hup; omega
  by_cases e1 : cd lv u.toNat = c
  · refine .inr ((lift_has c _).2 ⟨.inl (by rw [e1]), n1, n2⟩)
  · by_cases e2 : cd lv u.toNat = sibC c
    · refine .inr ((lift_has c _).2 ⟨.inl (by rw [e2, up_sib]), n1, n2⟩)
    · rcases h2 with h2 | h2
      · exact .inl ((lift_has c _).2 ⟨.inr h2, e1, e2⟩)
      · exact .inr ((lift_has c _).2 ⟨.inr h2, n1, n2⟩)
theorem LInv.lift {n : Nat} {L : DL} (h : LInv n L) {lv : Nat} {us : List UInt64} (hP : Pend L lv us) (hlv : lv < 64) {u : UInt64} (hu : u ∈ us) : LInv n (liftL L (cd lv u.toNat)) :=
  ⟨lift_inv h.inv (hP u hu).2, lift_codes h.low (by rw [low_cd]; omega) (hP u hu).1, Nat.le_trans (lift_len h.inv.asc (hP u hu).2) h.short⟩
theorem LInv.sums {n : Nat} {L : DL} (h : LInv n L) (hn : n ≤ 1125899906842624) (c : Nat) : InI (dcnt L c + dcnt L (sibC c)) ∧ InI (allC L c) := by
  have h1 := all_le h.inv c
  have h2 := dcnt_nonneg h.inv.pos c
  have h3 := dcnt_nonneg h.inv.pos (sibC c)
  have h4 := dcnt_nonneg h.inv.pos (upC c)
  unfold allC at *
  unfold InI
  omega
end Go.Proofs.YtlhpbfjelgmkeaaGreat.Dig
/- Plain mathematics: liftAll lessens a measure where it changes anything. Conditions: as stated. -/
set_option maxRecDepth 100000
namespace Go.Proofs.YtlhpbfjelgmkeaaGreat.Dig
open Go.RowKit Go.Maps Go.Sort Go.Shelf

/-- each prefix that is still to come is a node's -/
def Here (L : DL) (lv : Nat) (us : List UInt64) : Prop := ∀ u ∈ us, ∃ q ∈ L, q.1 = cd lv u.toNat
theorem here_start {L xs : DL} {lv : Nat} {us : List UInt64} (hx : ∀ p, p ∈ xs ↔ p ∈ L) (hp : us.Perm (preL lv xs)) : Here L lv us := fun u hu => by
  have h1 := hp.mem_iff.1 hu
  unfold preL at h1
  obtain ⟨p, h2, rfl⟩ := List.mem_map.1 h1
  obtain ⟨h3, h4⟩ := List.mem_filter.1 h2
  have h5 : p.1 / 18446744073709551616 = lv := by
    have := of_decide_eq_true h4
    omega
  have h6 : (UInt64.ofNat (p.1 % 18446744073709551616)).toNat = p.1 % 18446744073709551616 := by simp
  exact ⟨p, (hx p).1 h3, by rw [h6, ← h5]; exact (cd_self p.1).symm⟩
/-- what going on means: still one's nodes, no more to go, less if changed, the same if not -/
structure Onto (n : Nat) (L : DL) (ch : Bool) (L' : DL) (ch' : Bool) : Prop where
  inv : LInv n L'
  le : meas L' ≤ meas L
  less : ch' = true → ch = true ∨ meas L' < meas L
  same : ch' = false → ch = false ∧ L' = L
theorem Onto.refl {n : Nat} {L : DL} (h : LInv n L) (ch : Bool) : Onto n L ch L ch := ⟨h, Int.le_refl _, fun e => .inl e, fun e => ⟨e, rfl⟩⟩
theorem Onto.trans {n : Nat} {L L1 L2 : DL} {ch ch1 ch2 : Bool} (h : Onto n L ch L1 ch1) (k : Onto n L1 ch1 L2 ch2) : Onto n L ch L2 ch2 where
  inv := k.inv
  le := Int.le_trans k.le h.le
  less e := by
    have := h.le
    have := k.le
    rcases k.less e with e1 | e1
    · rcases h.less e1 with e2 | e2
      · exact .inl e2
      · exact .inr (by omega)
    · exact .inr (by omega)
  same e := by
    obtain ⟨e1, rfl⟩ := k.same e
    exact h.same e1
theorem inner_onto {n : Nat} {most : Int} {lv : Nat} (hlv : lv < 64) : ∀ (us : List UInt64) (L : DL) (ch : Bool) (st : Nat), LInv n L → Pend L lv us → (ch = true ∨ Here L lv us) → ∀ (L' : DL) (ch' : Bool) (st' : Nat) (b : Bool), innerL most lv us L ch st = (L', ch', st', b) → Onto n L ch L' ch'
  | [], L, ch, st, hI, _, _, L', ch', st', b, e => by
    cases e
    exact Onto.refl hI ch
  | u :: us, L, ch, st, hI, hP, hH, L', ch', st', b, e => by
    have hP2 : Pend L lv us := fun v hv => hP v (List.mem_cons_of_mem _ hv)
    have hH2 : ch = true ∨ Here L lv us := hH.imp id (fun h v hv => h v (List.mem_cons_of_mem _ hv))
    have hc := low_cd (lv := lv) (u := u)
    unfold innerL at e
    split at e
    · have hI1 := hI.lift hP hlv (List.mem_cons_self ..)
      have k := inner_onto hlv us (liftL L (cd lv u.toNat)) true st hI1 (pend_step hP2 hc) (.inl rfl) L' ch' st' b e
      have hm := lift_meas hI.inv.asc (c := cd lv u.toNat) (by omega)
      have hle : meas (liftL L (cd lv u.toNat)) ≤ meas L := by
        rcases (hP u (List.mem_cons_self ..)).2 with h | h
        · have := hm.2 h; omega
        · exact hm.1 h
      refine Onto.trans ⟨hI1, hle, fun _ => ?_, fun e => by cases e⟩ k
      rcases hH with h | h
      · exact .inl h
      · exact .inr (hm.2 (h u (List.mem_cons_self ..)))
    · split at e
      · cases e
        exact Onto.refl hI ch
      · exact inner_onto hlv us L ch (st + 1) hI hP2 hH2 L' ch' st' b e
theorem outer_onto {n : Nat} {most : Int} {lv st : Nat} {L L' : DL} {ch ch' : Bool} (h : OuterL most lv L ch st L' ch') (hI : LInv n L) : Onto n L ch L' ch' := by
  induction h with
  | top L ch st => exact Onto.refl hI ch
  | stop hl hx hn hp e => exact inner_onto hl _ _ _ _ hI (pend_start hI hx hp) (.inr (here_start hx hp)) _ _ _ _ e
  | next hl hx hn hp e k ih =>
    have h1 := inner_onto hl _ _ _ _ hI (pend_start hI hx hp) (.inr (here_start hx hp)) _ _ _ _ e
    exact h1.trans (ih h1.inv)
theorem meas_low : ∀ {L : DL}, (∀ q ∈ L, LowC q.1) → 0 ≤ meas L
  | [], _ => Int.le_refl _
  | p :: r, h => by
    have h1 := (h p (List.mem_cons_self ..)).1
    have h2 := meas_low fun q hq => h q (List.mem_cons_of_mem _ hq)
    show 0 ≤ wgt p.1 + meas r
    unfold wgt
    omega
/-- the levels gone through till nothing changes -/
inductive FitL (most : Int) : DL → DL → Prop
  | last {L L' : DL} (h : OuterL most 0 L false 0 L' false) : FitL most L L'
  | again {L L1 L2 : DL} (h : OuterL most 0 L false 0 L1 true) (k : FitL most L1 L2) : FitL most L L2
end Go.Proofs.YtlhpbfjelgmkeaaGreat.Dig
/- Contract of digest's liftAll: the levels gone through once. Conditions: a digest that was made, of at most 100000 nodes. -/
set_option maxRecDepth 100000
namespace Go.Proofs.YtlhpbfjelgmkeaaGreat.Dig
open Go.RowKit Go.Maps Go.Sort Go.Shelf

/-- what liftAll leaves -/
def AllP (T : Tags) (i : Nat) (w : World) (p k n : Nat) (most : Int) (L : DL) (e : Ending) (w' : World) : Prop :=
  ∃ (L' : DL) (ch : Bool), e = .returned (.bool ch) ∧ OuterL most 0 L false 0 L' ch ∧ LInv n L' ∧ Goes T i w (Dl p k n L') w'

/-- tags that are nobody's from a world's end on -/
theorem DkAt.rebase {T : Tags} {i : Nat} {w : World} {p k b : Nat} {n : Int} {L : DL} (h : DkAt T i w p k n b L) : DkAt (fun x => if x < w.heap.size then T x else none) i w p k n b L :=
  ⟨h.head, by rw [if_pos (lt_of_heap h.head)]; exact h.tp, h.map, by rw [if_pos h.map.lt]; exact h.tb⟩

set_option maxHeartbeats 8000000 in
theorem liftAll_at {T : Tags} {i : Nat} {w : World} {p k n : Nat} {most : Int} {L : DL} (h : Dl p k n L T i w) (hL : LInv n L) (hn : n ≤ 1125899906842624) :
    Calls Tryz.prog 241 #[.pointer (some ⟨p, 0, none⟩), .int .i64 most] w (AllP T i w p k n most L) := by
  have S0 := Lib.hid (And.intro (Goes.start h) hL)
  clear h hL
  go_enter Tryz.func241, Tryz.ntmps241
  go_wp2_with fail
  go_step3
  go_wp2_with fail
  go_step3
  go_wp2_with fail
  go_loopg [5, 6, 10] 64 (fun kx sc ss sl wr => ∃ (L1 : DL) (ch : Bool) (st lv : Nat), sc = .bool ch ∧ ss = .int .i64 st ∧ sl = .int .i64 lv ∧ lv ≤ 64 ∧ 64 - lv ≤ kx ∧ st ≤ lv * 100000 ∧ Hid (Goes T i w (Dl p k n L1) wr ∧ LInv n L1) ∧ Hid (∀ L2 ch2, OuterL most lv L1 ch st L2 ch2 → OuterL most 0 L false 0 L2 ch2))
  case atStart => exact ⟨L, false, 0, 0, rfl, rfl, rfl, by omega, by omega, by omega, S0, fun _ _ h => h⟩
  case round =>
    clear S0
    obtain ⟨L1, ch, st, lv, rfl, rfl, rfl, hlv, hkx, hst, HS, HO⟩ := hrel
    by_cases hl64 : lv < 64
    · have hlz : (lv : Int) < 64 := by omega
      have hx := HS.out
      obtain ⟨⟨T1, n1, e1, b, hd⟩, hI⟩ := hx
      have KP := prefixes_at (lv : Int) hd.cells.2.2.1 hd.map (by have := hI.len; omega)
      have HD := Lib.hid (And.intro n1 (And.intro e1 hd.rebase))
      have HI := Lib.hid hI
      clear hd hI n1 e1 hlv
      go_wp2_with fail
      refine KP.mono ?_
      rintro e w3 ⟨xs, us, hxs, hnd, hperm, hb3, hcase⟩
      clear KP
      have HU := Lib.hid (And.intro hxs (And.intro hnd hperm))
      have hul : us.length ≤ 100000 := by
        have h1 := HU.out.2.2.length_eq
        have h2 := preL_len (lv : Int) xs
        have h3 := nodup_len xs L1 HU.out.2.1 (fun p hp => (HU.out.1 p).1 hp)
        have h4 := HI.out.len
        omega
      have HP := Lib.hid (pend_start HI.out HU.out.1 HU.out.2.2)
      obtain ⟨T2, hT2⟩ : ∃ T2 : Tags, T2 = fun x => if x < wr.heap.size then T1 x else none := ⟨_, rfl⟩
      have G0 : Goes T2 i w3 (Dl p k n L1) w3 := by
        refine Goes.start (Framed.below (Dl.framed p k n L1) ⟨b, ?_⟩ hb3)
        rw [hT2]
        exact HD.out.2.2
      have HT2 : Hid (∀ x, wr.heap.size ≤ x → T2 x ≠ some i) := Lib.hid fun x hx e => by
        rw [hT2] at e
        simp only at e
        rw [if_neg (by omega)] at e
        cases e
      have HCH : Hid (∀ (A : Thing) (wz : World), Goes T2 i w3 A wz → Goes T i w A wz) := Lib.hid fun A wz hz => by
        refine Goes.after (T1 := T2) (fun x hx => ?_) (HD.out.2.1.low hb3) hz
        rw [hT2]
        simp only
        rw [if_pos (Nat.lt_of_lt_of_le hx HD.out.2.1.size)]
        exact HD.out.1 x hx
      obtain ⟨ao, cp, rfl, hrow⟩ : ∃ ao cp, e = .returned (.slice ao us.length cp) ∧ (us = [] ∨ ∃ g, ao = some ⟨g, 0, none⟩ ∧ us.length ≤ cp ∧ wr.heap.size ≤ g ∧ g < w3.heap.size ∧ RowU w3 g us) := by
        rcases hcase with ⟨h1, h2⟩ | ⟨g, cp, h1, h2, h3, h4, h5⟩
        · exact ⟨none, 0, by rw [h2, h1]; rfl, .inl h1⟩
        · exact ⟨_, cp, h1, .inr ⟨g, rfl, h2, h3, h4, h5⟩⟩
      have HROW := Lib.hid hrow
      have S1 := Lib.hid (And.intro G0 (And.intro HI.out HP.out))
      clear hT2 G0 hcase hrow hb3 hxs hnd hperm HP HD
      go_wp2_with fail
      go_loopg [5, 6, 17] us.length (fun kx sc ss sj wv => ∃ (L2 : DL) (ch2 : Bool) (st2 j : Nat), sc = .bool ch2 ∧ ss = .int .i64 st2 ∧ sj = .int .i64 j ∧ j ≤ us.length ∧ us.length - j ≤ kx ∧ st2 ≤ lv * 100000 + j ∧ Hid (Goes T2 i w3 (Dl p k n L2) wv ∧ LInv n L2 ∧ Pend L2 lv (us.drop j)) ∧ Hid (innerL most lv (us.drop j) L2 ch2 st2 = innerL most lv us L1 ch st))
      case atStart => exact ⟨L1, ch, st, 0, rfl, rfl, rfl, Nat.zero_le _, Nat.sub_le _ _, Nat.le_trans hst (Nat.le_add_right _ _), Lib.hid ⟨S1.out.1, S1.out.2.1, by rw [List.drop_zero]; exact S1.out.2.2⟩, Lib.hid (by rw [List.drop_zero])⟩
      case round =>
        clear S1
        obtain ⟨L2, ch2, st2, j, rfl, rfl, rfl, hj, hkj, hst2, HS2, HE⟩ := hrel
        by_cases hjl : j < us.length
        · have hjz : (j : Int) < (us.length : Int) := by omega
          rcases HROW.out with h0 | ⟨g, rfl, hcp, hg1, hg2, hR⟩
          · exfalso
            rw [h0] at hjl
            exact absurd hjl (Nat.not_lt_zero _)
          obtain ⟨u, hu⟩ : ∃ u, us[j] = u := ⟨_, rfl⟩
          have hdr : us.drop j = u :: us.drop (j + 1) := by rw [List.drop_eq_getElem_cons hjl, hu]
          obtain ⟨⟨T3, n3, e3, b3, hd3⟩, hI2, hP2⟩ := HS2.out
          rw [hdr] at hP2
          have hum := hP2 u (List.mem_cons_self ..)
          have hcell : wr.cell? ⟨g, j, none⟩ = some (.int .u64 (u.toNat : Int)) := by
            have h1 := (hR j hjl).1
            rw [show us[j]! = u by rw [getElem!_pos us j hjl, hu]] at h1
            rw [World.cell?_of_block (e3.block g hg2 (HT2.out g hg1))]
            exact h1
          obtain ⟨uz, huz⟩ : ∃ uz : Int, (u.toNat : Int) = uz := ⟨_, rfl⟩
          have ekv : kV (cd lv u.toNat) = .agg #[.int .i64 lv, .int .u64 uz] := by rw [kV_cd, huz]
          have hsum := hI2.sums hn (cd lv u.toNat)
          have K := lift_at (most := most) hd3 (kin_of_low hum.1) (by rw [low_cd]; omega) hsum.1 hsum.2 (by have := hI2.len; unfold maxLen; omega)
          rw [ekv] at K
          rw [huz] at hcell
          have H3 := Lib.hid (And.intro n3 e3)
          have HP2 := Lib.hid hP2
          have HI2 := Lib.hid hI2
          have HDR := Lib.hid hdr
          clear hd3 hI2 hP2 hum hsum ekv hu hdr n3 e3 HS2 hR
          go_wp2_with fail
          refine K.mono ?_
          clear K
          rintro e w5 (⟨hm, rfl, hG⟩ | ⟨hm, rfl, hG⟩)
          · have HG5 : Hid (Goes T2 i w3 (Dl p k n L2) w5) := Lib.hid (Goes.after H3.out.1 H3.out.2 hG.out)
            obtain ⟨T5, n5, e5, b5, hd5⟩ := hG.out
            have c5 := hd5.cells.2.2.1
            have l5 := hd5.map.len
            have ws : IntKind.i64.wrap ((st2 : Int) + 1) = (st2 : Int) + 1 := by rw [IntKind.wrap_i64]; omega
            by_cases hq : st2 + 1 = L2.length
            · have hqz : ((st2 : Int) + 1 == (L2.length : Int)) = true := by simp; omega
              have HF : Hid (OuterL most 0 L false 0 L2 ch2) := Lib.hid (HO.out _ _ (.stop hl64 HU.out.1 HU.out.2.1 HU.out.2.2 (st' := st2 + 1) (by
                rw [← HE.out, HDR.out]
                show (if allC L2 (cd lv u.toNat) ≤ most then _ else if st2 + 1 = L2.length then _ else _) = _
                rw [if_neg (by omega), if_pos hq])))
              clear hd5 n5 e5 hm hG hq
              go_wp2_with fail
              refine bodyPost_ret (results_tmp rfl _ _ _) rfl ?_
              exact ⟨L2, ch2, rfl, HF.out, HI2.out, HCH.out _ _ HG5.out⟩
            · have hqz : ((st2 : Int) + 1 == (L2.length : Int)) = false := by simp; omega
              have HN : Hid (innerL most lv (us.drop (j + 1)) L2 ch2 (st2 + 1) = innerL most lv us L1 ch st) := Lib.hid (by
                rw [← HE.out, HDR.out]
                show _ = if allC L2 (cd lv u.toNat) ≤ most then _ else if st2 + 1 = L2.length then _ else _
                rw [if_neg (by omega), if_neg hq])
              have HS3 : Hid (Goes T2 i w3 (Dl p k n L2) w5 ∧ LInv n L2 ∧ Pend L2 lv (us.drop (j + 1))) := Lib.hid ⟨HG5.out, HI2.out, fun v hv => HP2.out v (List.mem_cons_of_mem _ hv)⟩
              clear hd5 n5 e5 hm hG hq HE H3 HP2 HI2 HDR HG5
              go_wp2_with fail
              go_roundg (us.length - (j + 1))
              case measure => omega
              case rel => exact ⟨L2, ch2, st2 + 1, j + 1, rfl, by go_num, by go_num, by omega, by omega, by omega, HS3, HN⟩
          · have HN : Hid (innerL most lv (us.drop (j + 1)) (liftL L2 (cd lv u.toNat)) true st2 = innerL most lv us L1 ch st) := Lib.hid (by
              rw [← HE.out, HDR.out]
              show _ = if allC L2 (cd lv u.toNat) ≤ most then _ else _
              rw [if_pos hm])
            have HS3 : Hid (Goes T2 i w3 (Dl p k n (liftL L2 (cd lv u.toNat))) w5 ∧ LInv n (liftL L2 (cd lv u.toNat)) ∧ Pend (liftL L2 (cd lv u.toNat)) lv (us.drop (j + 1))) :=
              Lib.hid ⟨Goes.after H3.out.1 H3.out.2 hG.out, HI2.out.lift HP2.out hl64 (List.mem_cons_self ..), pend_step (fun v hv => HP2.out v (List.mem_cons_of_mem _ hv)) low_cd⟩
            clear hm hG HE H3 HP2 HI2 HDR
            go_wp2_with fail
            go_roundg (us.length - (j + 1))
            case measure => omega
            case rel => exact ⟨_, true, st2, j + 1, rfl, rfl, by go_num, by omega, by omega, by omega, HS3, HN⟩
        · have hjz : ¬ (j : Int) < (us.length : Int) := by omega
          obtain rfl : j = us.length := by omega
          have HN : Hid (∀ L3 ch3, OuterL most (lv + 1) L2 ch2 st2 L3 ch3 → OuterL most 0 L false 0 L3 ch3) := Lib.hid fun L3 ch3 h3 => HO.out L3 ch3 (.next hl64 HU.out.1 HU.out.2.1 HU.out.2.2 (by rw [← HE.out, List.drop_length]; rfl) h3)
          have HS3 : Hid (Goes T i w (Dl p k n L2) wr ∧ LInv n L2) := Lib.hid ⟨HCH.out _ _ HS2.out.1, HS2.out.2.1⟩
          clear HE HS2
          go_wp2_with fail
          go_roundg (64 - (lv + 1))
          case measure => omega
          case rel => exact ⟨L2, ch2, st2, lv + 1, rfl, rfl, by go_num, by omega, by omega, by omega, HS3, HN⟩
    · have hlz : ¬ (lv : Int) < 64 := by omega
      obtain rfl : lv = 64 := by omega
      go_wp2_with fail
      refine bodyPost_ret (results_tmp rfl _ _ _) rfl ?_
      exact ⟨L1, ch, rfl, HO.out _ _ (.top L1 ch st), HS.out.2, HS.out.1⟩
end Go.Proofs.YtlhpbfjelgmkeaaGreat.Dig
/- Contract of digest's fit: the levels gone through till nothing changes, where there are too many nodes. Conditions: a digest that was made, of at most 100000 nodes. -/
set_option maxRecDepth 100000
namespace Go.Proofs.YtlhpbfjelgmkeaaGreat.Dig
open Go.RowKit Go.Maps Go.Sort Go.Shelf

/-- what fit leaves -/
def FitP (T : Tags) (i : Nat) (w : World) (p k n : Nat) (L : DL) (e : Ending) (w' : World) : Prop :=
  e = .returned (.tuple #[]) ∧ ∃ L' : DL, (L.length ≤ 3 * k + 64 → L' = L) ∧ (3 * k + 64 < L.length → FitL ((n / k : Nat) : Int) L L') ∧ LInv n L' ∧ Goes T i w (Dl p k n L') w'

set_option maxHeartbeats 1000000 in
theorem fit_at {T : Tags} {i : Nat} {w : World} {p k n b : Nat} {L : DL} (h : DkAt T i w p k n b L) (hk1 : 1 ≤ k) (hk : k ≤ 64) (hI : LInv n L) (hn : n ≤ 1125899906842624) :
    Calls Tryz.prog 232 #[.pointer (some ⟨p, 0, none⟩)] w (FitP T i w p k n L) := by
  by_cases hl : L.length ≤ 3 * k + 64
  · refine (fit_few h hk hl).mono ?_
    rintro e w' ⟨rfl, rfl⟩
    exact ⟨rfl, L, fun _ => rfl, fun h2 => absurd hl (by omega), hI, Goes.start ⟨b, h⟩⟩
  · obtain ⟨c0, c1, c2, _⟩ := h.cells
    have K := room_at hk c0
    have hlen := h.map.len
    have t0 : decide ((L.length : Int) ≤ ((3 * k + 64 : Nat) : Int)) = false := decide_eq_false (by omega)
    obtain ⟨R, hR⟩ : ∃ R : Int, ((3 * k + 64 : Nat) : Int) = R := ⟨_, rfl⟩
    rw [hR] at t0 K
    obtain ⟨M, hM⟩ : ∃ M, n / k = M := ⟨_, rfl⟩
    have hMn : M ≤ n := by rw [← hM]; exact Nat.div_le_self n k
    have tM : (n : Int) / (k : Int) = (M : Int) := by rw [← hM]; simp
    have tM2 : (n : Int).tdiv (k : Int) = (M : Int) := by rw [Int.tdiv_eq_ediv_of_nonneg (by omega)]; exact tM
    have wM : IntKind.i64.wrap (M : Int) = (M : Int) := by rw [IntKind.wrap_i64]; omega
    have k0 : ¬ k = 0 := by omega
    have mixed : Tryz.prog.follows .mixedOrders = true := by kernel_rfl
    have S0 : Hid (Goes T i w (Dl p k n L) w ∧ LInv n L) := Lib.hid ⟨Goes.start ⟨b, h⟩, hI⟩
    have HL := Lib.hid (And.intro hl hM)
    clear h hI hR hl hk hk1 hM hMn c0 c1
    go_enter Tryz.func232, Tryz.ntmps232
    go_wp2_with fail
    refine K.mono ?_
    rintro e w' ⟨rfl, rfl⟩
    clear K
    go_wp2_with fail
    clear hlen t0 c2
    go_loopg [] (meas L).toNat (fun kx wr => ∃ L1 : DL, (meas L1).toNat ≤ kx ∧ Hid (Goes T i w (Dl p k n L1) wr ∧ LInv n L1) ∧ Hid (∀ L2, FitL (M : Int) L1 L2 → FitL (M : Int) L L2))
    case atStart => exact ⟨L, Nat.le_refl _, S0, fun _ h => h⟩
    case round =>
      clear S0
      obtain ⟨L1, hkx, HS, HF⟩ := hrel
      obtain ⟨⟨T1, n1, e1, b1, hd⟩, hI1⟩ := HS.out
      have d0 := hd.cells.1
      have d1 := hd.cells.2.1
      have K := liftAll_at (most := (M : Int)) (Framed.below (Dl.framed p k n L1) ⟨b1, hd⟩ (⟨rfl, rfl, rfl, Nat.le_refl _, fun _ _ => rfl⟩ : Below wr.heap.size wr wr.drew)) hI1 hn
      have HG := Lib.hid (And.intro n1 e1)
      have HI1 := Lib.hid hI1
      clear hd n1 e1 hI1 HS
      go_wp2_with fail
      refine wp_region_mix (fun V => V.cell? ⟨p, 0, none⟩ = some (.int .i64 k) ∧ V.cell? ⟨p, 1, none⟩ = some (.int .i64 n)) 10 [(true, 0), (true, 1), (true, 2), (true, 3), (true, 4), (true, 5), (true, 6), (true, 7), (true, 8), (true, 9), (false, 10)] (by kernel_rfl) (by decide +kernel) rfl (by decide +kernel) ⟨d0, d1⟩ ?_
      iterate 10
        refine wpMix_take (v := ?_) rfl rfl ?_ ?_
        rotate_left
        · (intro W hW; (try dsimp only at hW); go_simp) <;> with_reducible rfl
        simp only [Act.put, List.setIfInBounds_toArray, List.set_cons_zero, List.set_cons_succ]
      refine wpMix_run rfl ?_
      intro K2 hK
      go_wp2_with fail
      refine K.mono ?_
      rintro e w5 ⟨L2, ch, rfl, hO, hI2, hG2⟩
      clear K
      have hon := outer_onto hO HI1.out
      have HG2 : Hid (Goes T i w (Dl p k n L2) w5 ∧ LInv n L2) := Lib.hid ⟨Goes.after HG.out.1 (HG.out.2.drew) hG2, hI2⟩
      cases ch with
      | true =>
        have hlt : meas L2 < meas L1 := by
          rcases hon.less rfl with h | h
          · cases h
          · exact h
        have h0 := meas_low hI2.low
        have HF2 : Hid (∀ L3, FitL (M : Int) L2 L3 → FitL (M : Int) L L3) := Lib.hid fun L3 h3 => HF.out L3 (.again hO h3)
        clear hon hO hI2 hG2 HF
        go_wp2_with fail
        refine hK.out _ _ (fun h => absurd rfl h) ?_
        clear hK K2
        refine wpMix_nil ?_
        go_wp2_with fail
        go_roundg (meas L2).toNat
        case measure => omega
        case rel => exact ⟨L2, Nat.le_refl _, HG2, HF2⟩
      | false =>
        have HF2 : Hid (FitL (M : Int) L L2) := Lib.hid (HF.out L2 (.last hO))
        clear hon hO hI2 hG2 HF
        go_wp2_with fail
        refine hK.out _ _ (fun h => absurd rfl h) ?_
        clear hK K2
        refine wpMix_nil ?_
        go_wp2_with fail
        go_end0
        exact ⟨rfl, L2, fun h2 => absurd h2 HL.out.1, fun _ => by rw [HL.out.2]; exact HF2.out, HG2.out.2, HG2.out.1⟩
end Go.Proofs.YtlhpbfjelgmkeaaGreat.Dig
/- Contract of digest's Insert, compressing or not. Conditions: a digest that was made, not full. -/
set_option maxRecDepth 100000
namespace Go.Proofs.YtlhpbfjelgmkeaaGreat.Dig
open Go.RowKit Go.Maps Go.Sort Go.Shelf

/-- one number more keeps what nodes are -/
theorem LInv.ins {n : Nat} {L : DL} (h : LInv n L) {x : Nat} (hx : x < 18446744073709551616) (hl : L.length < 100000) : LInv (n + 1) (putD x (dcnt L x + 1) L) where
  inv :=
    { asc := dasc_putD h.inv.asc _ _
      pos := fun q hq => by
        rcases putD_sub hq with rfl | hq
        · have := dcnt_nonneg h.inv.pos x
          show 1 ≤ dcnt L x + 1
          omega
        · exact h.inv.pos q hq
      sum := by
        have h1 := h.inv.sum
        unfold total at *
        rw [csum_putD (fun _ => true) h.inv.asc, h1, if_pos rfl]
        omega }
  low q hq := by
    rcases putD_sub hq with rfl | hq
    · show LowC x
      unfold LowC
      have e1 : x / 18446744073709551616 = 0 := by omega
      have e2 : x % 18446744073709551616 = x := by omega
      rw [e1, e2]
      exact ⟨by omega, hx⟩
    · exact h.low q hq
  short := by
    have := putD_len L x (dcnt L x + 1)
    omega

set_option maxHeartbeats 1600000 in
theorem ins_at {T : Tags} {i : Nat} {w : World} {p k n b : Nat} {L : DL} (h : DkAt T i w p k n b L) (hk1 : 1 ≤ k) (hk : k ≤ 64) (hI : LInv n L) (hn : n < 1125899906842624) (hl : L.length < 100000) (x : Nat) (hx : x < 18446744073709551616) :
    Calls Tryz.prog 225 #[.pointer (some ⟨p, 0, none⟩), .int .u64 (x : Int)] w (FitP T i w p k (n + 1) (putD x (dcnt L x + 1) L)) := by
  obtain ⟨c0, c1, _, _⟩ := h.cells
  have KM := made_at hk1 c0
  have hid : KIn x := by unfold KIn; omega
  have hI2 := hI.ins hx hl
  have hcn : 0 ≤ dcnt L x ∧ dcnt L x ≤ 1125899906842624 := by
    refine ⟨dcnt_nonneg hI.inv.pos x, ?_⟩
    have h1 := all_le hI.inv x
    have h2 := dcnt_nonneg hI.inv.pos (sibC x)
    have h3 := dcnt_nonneg hI.inv.pos (upC x)
    unfold allC at h1
    omega
  have hc : InI (dcnt L x + 1) := by unfold InI; omega
  have hni : InI ((n : Int) + 1) := by unfold InI; omega
  have e : kV x = .agg #[.int .i64 0, .int .u64 (x : Int)] := by
    have d1 : x / 18446744073709551616 = 0 := by omega
    have d2 : x % 18446744073709551616 = x := by omega
    unfold kV plV pk
    rw [d1, d2]
    rfl
  have K := add_at h (c := 1) hid hc hni (by unfold maxLen; omega)
  rw [e] at K
  have KF := Lib.hid fun (T' : Tags) (W : World) (hW : Dl p k ((n : Int) + 1) (putD x (dcnt L x + 1) L) T' i W) => hW.elim fun b' (hb' : DkAt T' i W p k ((n + 1 : Nat) : Int) b' (putD x (dcnt L x + 1) L)) => fit_at hb' hk1 hk hI2 hn
  have t0 : ¬ (n : Int) = 1125899906842624 := by omega
  have t1 : ((n : Int) == 1125899906842624) = false := by simpa using t0
  clear h hid hk hk1 hcn hc hni e c0 hn hl hI hI2
  go_enter Tryz.func225, Tryz.ntmps225
  go_wp2_with fail
  refine KM.mono ?_
  rintro e w' ⟨rfl, rfl⟩
  clear KM
  go_wp2_with fail
  refine K.mono ?_
  rintro e w1 ⟨rfl, HG⟩
  clear K
  obtain ⟨T1, n1, e1, hd⟩ := HG.out
  have K2 := KF.out T1 w1 hd
  have HE := Lib.hid (And.intro n1 e1)
  clear HG hd n1 e1
  go_wp2_with fail
  refine K2.mono ?_
  rintro e w2 ⟨rfl, L', h1, h2, h3, h4⟩
  have HF : Hid (FitP T i w p k (n + 1) (putD x (dcnt L x + 1) L) (.returned (.tuple #[])) w2) := Lib.hid ⟨rfl, L', h1, h2, h3, Goes.after HE.out.1 HE.out.2 h4⟩
  clear K2 h1 h2 h3 h4
  go_wp2_with fail
  refine bodyPost_ret (results_none rfl _ _ _) rfl ?_
  exact HF.out
end Go.Proofs.YtlhpbfjelgmkeaaGreat.Dig
/- Plain mathematics: where liftAll changes nothing nothing can be lifted, and few nodes are left. Conditions: as stated. -/
set_option maxRecDepth 100000
namespace Go.Proofs.YtlhpbfjelgmkeaaGreat.Dig
open Go.RowKit Go.Maps Go.Sort Go.Shelf

theorem inner_true {most : Int} {lv : Nat} : ∀ (us : List UInt64) (L : DL) (st : Nat) (L' : DL) (ch' : Bool) (st' : Nat) (b : Bool), innerL most lv us L true st = (L', ch', st', b) → ch' = true
  | [], L, st, L', ch', st', b, e => by
    cases e
    rfl
  | u :: us, L, st, L', ch', st', b, e => by
    unfold innerL at e
    split at e
    · exact inner_true us _ _ _ _ _ _ e
    · split at e
      · cases e
        rfl
      · exact inner_true us _ _ _ _ _ _ e
theorem outer_true {most : Int} {lv st : Nat} {L L' : DL} {ch ch' : Bool} (h : OuterL most lv L ch st L' ch') : ch = true → ch' = true := by
  induction h with
  | top L ch st => exact id
  | stop hl hx hn hp e => exact fun hc => by subst hc; exact inner_true _ _ _ _ _ _ _ e
  | next hl hx hn hp e k ih => exact fun hc => by subst hc; exact ih (inner_true _ _ _ _ _ _ _ e)
/-- a level where nothing changed -/
theorem inner_same {most : Int} {lv : Nat} : ∀ (us : List UInt64) (L : DL) (st : Nat) (L' : DL) (st' : Nat) (b : Bool), innerL most lv us L false st = (L', false, st', b) →
    L' = L ∧ ∃ us1 us2, us = us1 ++ us2 ∧ (∀ u ∈ us1, most < allC L (cd lv u.toNat)) ∧ st' = st + us1.length ∧ (b = false → us2 = []) ∧ (b = true → st' = L.length)
  | [], L, st, L', st', b, e => by
    cases e
    exact ⟨rfl, [], [], rfl, (fun u hu => by cases hu), rfl, (fun _ => rfl), fun e => by cases e⟩
  | u :: us, L, st, L', st', b, e => by
    unfold innerL at e
    split at e
    · exact absurd (inner_true us _ _ _ _ _ _ e) (by decide)
    · rename_i hm
      split at e
      · rename_i hq
        cases e
        refine ⟨rfl, [u], us, rfl, fun v hv => ?_, rfl, (fun e => by cases e), fun _ => hq⟩
        rw [List.mem_singleton] at hv
        subst hv
        omega
      · obtain ⟨rfl, us1, us2, h1, h2, h3, h4, h5⟩ := inner_same us L (st + 1) L' st' b e
        refine ⟨rfl, u :: us1, us2, by rw [h1]; rfl, fun v hv => ?_, by rw [List.length_cons]; omega, h4, h5⟩
        rcases List.mem_cons.1 hv with rfl | hv
        · omega
        · exact h2 v hv
/-- how many nodes are below level lv -/
def below (lv : Nat) (L : DL) : Nat := L.countP fun q => decide (q.1 / 18446744073709551616 < lv)
theorem below_next (lv : Nat) (L : DL) : below (lv + 1) L = below lv L + (L.filter fun q => decide (((q.1 / 18446744073709551616 : Nat) : Int) = (lv : Int))).length := by
  unfold below
  induction L with
  | nil => rfl
  | cons q r ih =>
    rw [List.countP_cons, List.countP_cons, ih, List.filter_cons]
    by_cases h1 : q.1 / 18446744073709551616 < lv
    · rw [if_pos (by simp; omega), if_pos (by simpa using h1), if_neg (by simp; omega)]
      omega
    · by_cases h2 : q.1 / 18446744073709551616 = lv
      · rw [if_pos (by simp; omega), if_neg (by simpa using h1), if_pos (by simp [h2]), List.length_cons]
        omega
      · rw [if_neg (by simp; omega), if_neg (by simpa using h1), if_neg (by simp; omega)]
        omega
theorem below_le (lv : Nat) (L : DL) : below lv L ≤ L.length := List.countP_le_length
theorem level_len {L xs : DL} {lv : Nat} {us : List UInt64} (hL : L.Nodup) (hx : ∀ p, p ∈ xs ↔ p ∈ L) (hn : xs.Nodup) (hp : us.Perm (preL lv xs)) : us.length = below (lv + 1) L - below lv L := by
  have h1 : xs.Perm L := (List.perm_ext_iff_of_nodup hn hL).2 hx
  rw [hp.length_eq, below_next]
  unfold preL
  rw [List.length_map, (h1.filter _).length_eq]
  omega
/-- a level's node is among its prefixes -/
theorem level_mem {L xs : DL} {lv : Nat} {us : List UInt64} (hx : ∀ p, p ∈ xs ↔ p ∈ L) (hp : us.Perm (preL lv xs)) {q : Nat × Int} (hq : q ∈ L) (hl : q.1 / 18446744073709551616 = lv) : ∃ u ∈ us, cd lv u.toNat = q.1 := by
  refine ⟨UInt64.ofNat (q.1 % 18446744073709551616), hp.mem_iff.2 ?_, ?_⟩
  · unfold preL
    exact List.mem_map.2 ⟨q, List.mem_filter.2 ⟨(hx q).2 hq, by simp [hl]⟩, rfl⟩
  · have h6 : (UInt64.ofNat (q.1 % 18446744073709551616)).toNat = q.1 % 18446744073709551616 := by simp
    rw [h6, ← hl]
    exact cd_self q.1
theorem nodup_of_asc {L : DL} (h : DAsc L) : L.Nodup := by
  refine h.imp fun {a b} hab e => ?_
  subst e
  omega
/-- nothing changed: no node from level lv on, below the top, can be lifted -/
theorem outer_same {most : Int} {lv st : Nat} {L L' : DL} {ch ch' : Bool} (h : OuterL most lv L ch st L' ch') (hA : DAsc L) (hc : ch = false) (hc' : ch' = false) (hst : st = below lv L) :
    ∀ q ∈ L, lv ≤ q.1 / 18446744073709551616 → q.1 / 18446744073709551616 < 64 → most < allC L q.1 := by
  induction h with
  | top L ch st => exact fun q hq h1 h2 => absurd h1 (by omega)
  | @stop lv st st' L L' xs ch ch' us hl hx hn hp e =>
    subst hc hc'
    obtain ⟨_, us1, us2, h1, h2, h3, _, h5⟩ := inner_same us L st L' st' true e
    have h6 := level_len (nodup_of_asc hA) hx hn hp
    have h7 := below_le (lv + 1) L
    have h8 := below_next lv L
    have h9 := h5 rfl
    have h10 : us.length = us1.length + us2.length := by rw [h1, List.length_append]
    have h11 : us2 = [] := List.length_eq_zero_iff.1 (by omega)
    rw [h11, List.append_nil] at h1
    intro q hq g1 g2
    rcases Nat.lt_or_ge lv (q.1 / 18446744073709551616) with g | g
    · exfalso
      have h12 : below (lv + 1) L < L.length := by
        unfold below
        refine Nat.lt_of_le_of_ne List.countP_le_length fun e => ?_
        have := List.countP_eq_length.1 e q hq
        have := of_decide_eq_true this
        omega
      omega
    · obtain ⟨u, hu, e2⟩ := level_mem hx hp hq (by omega)
      rw [← e2]
      exact h2 u (h1 ▸ hu)
  | @next lv st st1 L L1 L2 xs ch ch1 ch2 us hl hx hn hp e k ih =>
    subst hc hc'
    have hc1 : ch1 = false := by
      cases ch1 with
      | false => rfl
      | true => exact absurd (outer_true k rfl) (by decide)
    subst hc1
    obtain ⟨rfl, us1, us2, h1, h2, h3, h4, _⟩ := inner_same us L st L1 st1 false e
    rw [h4 rfl, List.append_nil] at h1
    have h6 := level_len (nodup_of_asc hA) hx hn hp
    have h8 := below_next lv L1
    intro q hq g1 g2
    rcases Nat.lt_or_ge lv (q.1 / 18446744073709551616) with g | g
    · exact ih hA rfl rfl (by rw [h3, hst, ← h1]; omega) q hq (by omega) g2
    · obtain ⟨u, hu, e2⟩ := level_mem hx hp hq (by omega)
      rw [← e2]
      exact h2 u (h1 ▸ hu)
/-- where fit ends, nothing more can be lifted -/
theorem fit_end {n : Nat} {most : Int} {L L' : DL} (h : FitL most L L') (hI : LInv n L) : LInv n L' ∧ ∀ q ∈ L', q.1 / 18446744073709551616 < 64 → most < allC L' q.1 := by
  induction h with
  | last h =>
    have ho := outer_onto h hI
    obtain ⟨_, rfl⟩ := ho.same rfl
    exact ⟨hI, fun q hq g => outer_same h hI.inv.asc rfl rfl (by unfold below; exact (List.countP_eq_zero.2 (fun q _ => by simp)).symm) q hq (Nat.zero_le _) g⟩
  | again h k ih => exact ih (outer_onto h hI).inv

/-- the sum over A of what L counts at f -/
def sumAt (f : Nat → Nat) (L : DL) : DL → Int
  | [] => 0
  | q :: r => dcnt L (f q.1) + sumAt f L r
theorem sumAt_nil (f : Nat → Nat) : ∀ A : DL, sumAt f [] A = 0
  | [] => rfl
  | q :: r => by
    show dcnt [] (f q.1) + sumAt f [] r = 0
    rw [sumAt_nil f r]
    rfl
theorem sumAt_cons (f : Nat → Nat) {p : Nat × Int} {L : DL} (hp : 0 ≤ p.2) (hL : ∀ q ∈ L, 1 ≤ q.2) : ∀ A : DL, sumAt f (p :: L) A ≤ p.2 * (A.countP fun q => decide (f q.1 = p.1) : Nat) + sumAt f L A
  | [] => by simp [sumAt]
  | q :: r => by
    have ih := sumAt_cons f hp hL r
    have h0 := dcnt_nonneg hL (f q.1)
    show (if p.1 = f q.1 then p.2 else dcnt L (f q.1)) + sumAt f (p :: L) r ≤ _ + (dcnt L (f q.1) + sumAt f L r)
    rw [List.countP_cons]
    by_cases e : f q.1 = p.1
    · rw [if_pos e.symm, if_pos (by simpa using e), Int.natCast_add, Int.mul_add]
      simp
      omega
    · rw [if_neg (fun h => e h.symm), if_neg (by simpa using e), Nat.add_zero]
      omega
theorem sumAt_le (f : Nat → Nat) (m : Nat) (A : DL) : ∀ {L : DL}, (∀ q ∈ L, 1 ≤ q.2) → (∀ p ∈ L, (A.countP fun q => decide (f q.1 = p.1)) ≤ m) → sumAt f L A ≤ m * total L
  | [], _, _ => by rw [sumAt_nil]; simp [total, csum]
  | p :: L, hp, hm => by
    have h1 := hp p (List.mem_cons_self ..)
    have h2 := fun q hq => hp q (List.mem_cons_of_mem _ hq)
    have ih := sumAt_le f m A h2 fun q hq => hm q (List.mem_cons_of_mem _ hq)
    have h3 := sumAt_cons f (by omega : 0 ≤ p.2) h2 A
    have h4 : p.2 * ((A.countP fun q => decide (f q.1 = p.1) : Nat) : Int) ≤ p.2 * (m : Int) := Int.mul_le_mul_of_nonneg_left (by have := hm p (List.mem_cons_self ..); omega) (by omega)
    rw [total_cons, Int.mul_add, Int.mul_comm (m : Int) p.2]
    omega
theorem count_one {A : DL} (hA : DAsc A) (x : Nat) : (A.countP fun q => decide (q.1 = x)) ≤ 1 := by
  induction A with
  | nil => simp
  | cons q r ih =>
    rw [List.countP_cons]
    have := ih (dasc_tail hA)
    by_cases e : q.1 = x
    · have h0 : (r.countP fun q => decide (q.1 = x)) = 0 := List.countP_eq_zero.2 fun p hp => by
        have := dasc_head hA p hp
        simp
        omega
      rw [h0]
      split <;> omega
    · rw [if_neg (by simpa using e)]
      omega
theorem sib_sib (c : Nat) : sibC (sibC c) = c := by
  have h1 := sib_lev c
  have h2 : sibC (sibC c) = cd (sibC c / 18446744073709551616) (sibC c % 18446744073709551616 ^^^ 1) := rfl
  rw [h2, h1.1, h1.2, Nat.xor_assoc, Nat.xor_self, Nat.xor_zero]
  exact cd_self c
theorem count_mono {A : DL} {f g : Nat × Int → Bool} (h : ∀ q ∈ A, f q = true → g q = true) : A.countP f ≤ A.countP g := List.countP_mono_left h
theorem count_or (A : DL) (f g : Nat × Int → Bool) : (A.countP fun q => f q || g q) ≤ A.countP f + A.countP g := by
  induction A with
  | nil => simp
  | cons q r ih =>
    rw [List.countP_cons, List.countP_cons, List.countP_cons]
    cases f q <;> cases g q <;> simp <;> omega
theorem count_sib {A : DL} (hA : DAsc A) (x : Nat) : (A.countP fun q => decide (sibC q.1 = x)) ≤ 1 := by
  refine Nat.le_trans (count_mono (g := fun q => decide (q.1 = sibC x)) fun q _ h => ?_) (count_one hA (sibC x))
  have := of_decide_eq_true h
  exact decide_eq_true (by rw [← this, sib_sib])
theorem count_up {A : DL} (hA : DAsc A) (x : Nat) : (A.countP fun q => decide (upC q.1 = x)) ≤ 2 := by
  refine Nat.le_trans (count_mono (g := fun q => decide (q.1 = cd (x / 18446744073709551616 - 1) (x % 18446744073709551616 * 2)) || decide (q.1 = cd (x / 18446744073709551616 - 1) (x % 18446744073709551616 * 2 + 1))) fun q _ h => ?_)
    (Nat.le_trans (count_or A _ _) (Nat.add_le_add (count_one hA _) (count_one hA _)))
  have h1 := of_decide_eq_true h
  have h2 := up_lev q.1
  rw [h1] at h2
  have h3 := cd_self q.1
  simp only [Bool.or_eq_true, decide_eq_true_eq]
  rw [h2.1, h2.2]
  unfold cd at *
  omega
theorem sumAt_all {L : DL} {m : Int} : ∀ A : DL, (∀ q ∈ A, m ≤ allC L q.1) → m * A.length ≤ sumAt id L A + sumAt sibC L A + sumAt upC L A
  | [], _ => by simp [sumAt]
  | q :: r, h => by
    have ih := sumAt_all r fun p hp => h p (List.mem_cons_of_mem _ hp)
    have h1 := h q (List.mem_cons_self ..)
    unfold allC at h1
    show m * ((r.length + 1 : Nat) : Int) ≤ dcnt L (id q.1) + sumAt id L r + (dcnt L (sibC q.1) + sumAt sibC L r) + (dcnt L (upC q.1) + sumAt upC L r)
    rw [Int.natCast_add, Int.mul_add]
    simp only [id]
    omega
theorem len_split (f : Nat × Int → Bool) : ∀ L : DL, L.length = (L.filter f).length + (L.filter fun q => !f q).length
  | [] => rfl
  | q :: r => by
    have ih := len_split f r
    rw [List.filter_cons, List.filter_cons, List.length_cons]
    cases f q <;> simp <;> omega
/-- few nodes are left -/
theorem few_nodes {n k : Nat} {L : DL} (h : LInv n L) (hk1 : 1 ≤ k) (hk : k ≤ 64) (hm : ∀ q ∈ L, q.1 / 18446744073709551616 < 64 → ((n / k : Nat) : Int) < allC L q.1) : L.length ≤ 3 * k + 64 := by
  obtain ⟨A, hA⟩ : ∃ A, A = L.filter fun q => decide (q.1 / 18446744073709551616 < 64) := ⟨_, rfl⟩
  have hAA : DAsc A := by rw [hA]; exact h.inv.asc.filter _
  have h1 := sumAt_all (L := L) (m := ((n / k : Nat) : Int) + 1) A fun q hq => by
    rw [hA] at hq
    obtain ⟨g1, g2⟩ := List.mem_filter.1 hq
    have := hm q g1 (of_decide_eq_true g2)
    omega
  have h2 := sumAt_le id 1 A h.inv.pos fun p _ => count_one hAA p.1
  have h3 := sumAt_le sibC 1 A h.inv.pos fun p _ => count_sib hAA p.1
  have h4 := sumAt_le upC 2 A h.inv.pos fun p _ => count_up hAA p.1
  rw [h.inv.sum] at h2 h3 h4
  have h5 : L.length ≤ A.length + 1 := by
    have e : L.length = A.length + (L.filter fun q => !decide (q.1 / 18446744073709551616 < 64)).length := by
      rw [hA]
      exact len_split (fun q => decide (q.1 / 18446744073709551616 < 64)) L
    have e2 : (L.filter fun q => !decide (q.1 / 18446744073709551616 < 64)).length ≤ 1 := by
      rw [← List.countP_eq_length_filter]
      refine Nat.le_trans (count_mono (g := fun q => decide (q.1 = cd 64 0)) fun q hq g => ?_) (count_one h.inv.asc (cd 64 0))
      have g1 := h.low q hq
      have g2 : ¬ q.1 / 18446744073709551616 < 64 := by simpa using g
      have g3 : q.1 / 18446744073709551616 = 64 := by have := g1.1; omega
      have g4 := g1.2
      rw [g3] at g4
      have g5 := cd_self q.1
      rw [g3, show q.1 % 18446744073709551616 = 0 by simpa using g4] at g5
      exact decide_eq_true g5.symm
    omega
  -- A.length * (n / k + 1) ≤ 4 * n < 4 * k * (n / k + 1)
  have h7 : (((n / k : Nat) : Int) + 1) * (A.length : Int) ≤ 4 * (n : Int) := by omega
  have h8 : (n / k + 1) * A.length ≤ 4 * n := by exact_mod_cast h7
  have h9 : n < k * (n / k + 1) := by
    have := Nat.div_add_mod n k
    have := Nat.mod_lt n (show 0 < k by omega)
    rw [Nat.mul_add, Nat.mul_one]
    omega
  have h10 : A.length < 4 * k := by
    refine Nat.lt_of_not_le fun hge => ?_
    have h11 : (n / k + 1) * (4 * k) ≤ (n / k + 1) * A.length := Nat.mul_le_mul_left _ hge
    have h12 : (n / k + 1) * (4 * k) = 4 * (k * (n / k + 1)) := by rw [Nat.mul_comm, Nat.mul_assoc]
    omega
  omega
end Go.Proofs.YtlhpbfjelgmkeaaGreat.Dig
/- What a digest's nodes tell of the numbers that went in: none is counted below its place nor above it; no node above the first level counts more than n / k. Plain mathematics. Conditions: as stated. -/
set_option maxRecDepth 100000
namespace Go.Proofs.YtlhpbfjelgmkeaaGreat.Dig
open Go.RowKit Go.Maps Go.Sort Go.Shelf

/-- the greatest and the least number of a code's interval -/
def gR (c : Nat) : Nat := c % 18446744073709551616 * 2 ^ (c / 18446744073709551616) + (2 ^ (c / 18446744073709551616) - 1)
def lR (c : Nat) : Nat := c % 18446744073709551616 * 2 ^ (c / 18446744073709551616)
theorem half_up (u P : Nat) (hP : 1 ≤ P) : u * P + (P - 1) ≤ u / 2 * (P * 2) + (P * 2 - 1) ∧ u / 2 * (P * 2) ≤ u * P := by
  have h1 : u * P ≤ (2 * (u / 2) + 1) * P := Nat.mul_le_mul_right _ (by omega)
  have h2 : 2 * (u / 2) * P ≤ u * P := Nat.mul_le_mul_right _ (by omega)
  have e1 : (2 * (u / 2) + 1) * P = u / 2 * (P * 2) + P := by rw [Nat.add_mul, Nat.one_mul, Nat.mul_comm 2 (u / 2), Nat.mul_assoc, Nat.mul_comm 2 P]
  have e2 : 2 * (u / 2) * P = u / 2 * (P * 2) := by rw [Nat.mul_comm 2 (u / 2), Nat.mul_assoc, Nat.mul_comm 2 P]
  omega
theorem gR_up (c : Nat) : gR c ≤ gR (upC c) := by
  unfold gR
  rw [(up_lev c).1, (up_lev c).2, Nat.pow_succ]
  exact (half_up _ _ Nat.one_le_two_pow).1
theorem lR_up (c : Nat) : lR (upC c) ≤ lR c := by
  unfold lR
  rw [(up_lev c).1, (up_lev c).2, Nat.pow_succ]
  exact (half_up _ _ Nat.one_le_two_pow).2
theorem gR_sib (c : Nat) : gR (sibC c) ≤ gR (upC c) := by rw [← up_sib c]; exact gR_up _
theorem lR_sib (c : Nat) : lR (upC c) ≤ lR (sibC c) := by rw [← up_sib c]; exact lR_up _
theorem gr_gR {c : Nat} (h : NodeC c) : gr c = gR c := by unfold gr gR; rw [show asN c = c from if_pos h]
/-- the nodes cover the numbers -/
structure Cov (k n : Nat) (xs : List Nat) (L : DL) : Prop where
  upto : ∀ t, csum (fun c => decide (gR c ≤ t)) L ≤ (xs.countP (fun x => decide (x ≤ t)) : Nat)
  low : ∀ t, ((xs.countP (fun x => decide (x < t)) : Nat) : Int) ≤ csum (fun c => decide (lR c < t)) L
  few : ∀ c, 18446744073709551616 ≤ c → dcnt L c * k ≤ n
theorem cov_none (k : Nat) : Cov k 0 [] [] := ⟨fun t => by simp [csum], fun t => by simp [csum], fun c _ => by simp [dcnt]⟩
theorem Cov.lift {k n : Nat} {xs : List Nat} {L : DL} (h : Cov k n xs L) (hA : DAsc L) (hp : ∀ q ∈ L, 1 ≤ q.2) {c : Nat} (hc : allC L c * k ≤ n) : Cov k n xs (liftL L c) where
  upto t := by
    have h1 := h.upto t
    have d1 := dcnt_nonneg hp c
    have d2 := dcnt_nonneg hp (sibC c)
    have g1 := gR_up c
    have g2 := gR_sib c
    rw [lift_sum _ hA]
    unfold allC
    by_cases hu : gR (upC c) ≤ t
    · rw [if_pos (by simpa using hu), if_pos (by simp; omega), if_pos (by simp; omega)]
      omega
    · rw [if_neg (by simpa using hu)]
      split <;> split <;> omega
  low t := by
    have h1 := h.low t
    have d1 := dcnt_nonneg hp c
    have d2 := dcnt_nonneg hp (sibC c)
    have g1 := lR_up c
    have g2 := lR_sib c
    rw [lift_sum _ hA]
    unfold allC
    by_cases hu : lR (upC c) < t
    · rw [if_pos (by simpa using hu)]
      split <;> split <;> omega
    · rw [if_neg (by simpa using hu), if_neg (by simp; omega), if_neg (by simp; omega)]
      omega
  few y hy := by
    have h1 := dasc_putD hA (upC c) (allC L c)
    unfold liftL
    rw [dcnt_delD (dasc_delD h1 c), dcnt_delD h1, dcnt_putD hA]
    split
    · simp
    · split
      · simp
      · split
        · exact hc
        · exact h.few y hy
/-- what each lift keeps, all of them keep -/
theorem inner_keep {n : Nat} {most : Int} {lv : Nat} (hlv : lv < 64) {Q : DL → Prop} (hQ : ∀ L c, LInv n L → allC L c ≤ most → Q L → Q (liftL L c)) :
    ∀ (us : List UInt64) (L : DL) (ch : Bool) (st : Nat), LInv n L → Pend L lv us → Q L → ∀ (L' : DL) (ch' : Bool) (st' : Nat) (b : Bool), innerL most lv us L ch st = (L', ch', st', b) → Q L' ∧ LInv n L'
  | [], L, ch, st, hI, _, hq, L', ch', st', b, e => by
    cases e
    exact ⟨hq, hI⟩
  | u :: us, L, ch, st, hI, hP, hq, L', ch', st', b, e => by
    have hP2 : Pend L lv us := fun v hv => hP v (List.mem_cons_of_mem _ hv)
    unfold innerL at e
    split at e
    · rename_i hle
      exact inner_keep hlv hQ us _ true st (hI.lift hP hlv (List.mem_cons_self ..)) (pend_step hP2 (low_cd (lv := lv) (u := u))) (hQ _ _ hI hle hq) L' ch' st' b e
    · split at e
      · cases e
        exact ⟨hq, hI⟩
      · exact inner_keep hlv hQ us L ch (st + 1) hI hP2 hq L' ch' st' b e
theorem outer_keep {n : Nat} {most : Int} {Q : DL → Prop} (hQ : ∀ L c, LInv n L → allC L c ≤ most → Q L → Q (liftL L c)) {lv st : Nat} {L L' : DL} {ch ch' : Bool} (h : OuterL most lv L ch st L' ch') (hI : LInv n L) (hq : Q L) : Q L' ∧ LInv n L' := by
  induction h with
  | top L ch st => exact ⟨hq, hI⟩
  | stop hl hx hn hp e => exact inner_keep hl hQ _ _ _ _ hI (pend_start hI hx hp) hq _ _ _ _ e
  | next hl hx hn hp e k ih =>
    have h1 := inner_keep hl hQ _ _ _ _ hI (pend_start hI hx hp) hq _ _ _ _ e
    exact ih h1.2 h1.1
theorem fit_keep {n : Nat} {most : Int} {Q : DL → Prop} (hQ : ∀ L c, LInv n L → allC L c ≤ most → Q L → Q (liftL L c)) {L L' : DL} (h : FitL most L L') (hI : LInv n L) (hq : Q L) : Q L' ∧ LInv n L' := by
  induction h with
  | last h => exact outer_keep hQ h hI hq
  | again h _ ih =>
    have h1 := outer_keep hQ h hI hq
    exact ih h1.2 h1.1
theorem Cov.fit {k n : Nat} {xs : List Nat} {L L' : DL} (hk : 1 ≤ k) (h : Cov k n xs L) (hI : LInv n L) (hf : FitL ((n / k : Nat) : Int) L L') : Cov k n xs L' :=
  (fit_keep (Q := Cov k n xs) (fun A c hA hle hq => hq.lift hA.inv.asc hA.inv.pos (by
    have h1 : allC A c * k ≤ ((n / k : Nat) : Int) * k := Int.mul_le_mul_of_nonneg_right hle (by omega)
    have h2 : n / k * k ≤ n := Nat.div_mul_le_self n k
    have h3 : ((n / k * k : Nat) : Int) ≤ n := Int.ofNat_le.2 h2
    rw [Int.natCast_mul] at h3
    omega)) hf hI h).1
/-- a number more -/
theorem Cov.ins {k n : Nat} {xs : List Nat} {L : DL} (h : Cov k n xs L) (hA : DAsc L) {x : Nat} (hx : x < 18446744073709551616) : Cov k (n + 1) (xs ++ [x]) (putD x (dcnt L x + 1) L) where
  upto t := by
    have h1 := h.upto t
    have e : gR x = x := by unfold gR; rw [Nat.div_eq_of_lt hx, Nat.mod_eq_of_lt hx]; simp
    rw [csum_putD _ hA, e, List.countP_append, List.countP_singleton]
    split <;> omega
  low t := by
    have h1 := h.low t
    have e : lR x = x := by unfold lR; rw [Nat.div_eq_of_lt hx, Nat.mod_eq_of_lt hx]; simp
    rw [csum_putD _ hA, e, List.countP_append, List.countP_singleton]
    split <;> omega
  few y hy := by
    have h1 := h.few y hy
    rw [dcnt_putD hA, if_neg (by omega)]
    omega
/-- nodes of another digest added, one after the other -/
def addAll : DL → DL → DL
  | A, [] => A
  | A, p :: r => addAll (putD p.1 (dcnt A p.1 + p.2) A) r
theorem addAll_snoc : ∀ (N A : DL) (p : Nat × Int), addAll A (N ++ [p]) = putD p.1 (dcnt (addAll A N) p.1 + p.2) (addAll A N)
  | [], _, _ => rfl
  | _ :: r, _, p => addAll_snoc r _ p
theorem addAll_asc : ∀ (N A : DL), DAsc A → DAsc (addAll A N)
  | [], _, h => h
  | _ :: r, _, h => addAll_asc r _ (dasc_putD h _ _)
theorem addAll_csum (f : Nat → Bool) : ∀ (N A : DL), DAsc A → csum f (addAll A N) = csum f A + csum f N
  | [], A, h => by simp [addAll, csum]
  | p :: r, A, h => by
    have e : csum f (p :: r) = (if f p.1 then p.2 else 0) + csum f r := rfl
    unfold addAll
    rw [addAll_csum f r _ (dasc_putD h _ _), csum_putD f h, e]
    split <;> omega
theorem csum_at : ∀ {L : DL}, DAsc L → ∀ x, csum (fun c => decide (c = x)) L = dcnt L x
  | [], _, x => rfl
  | p :: r, h, x => by
    have e : csum (fun c => decide (c = x)) (p :: r) = (if decide (p.1 = x) then p.2 else 0) + csum (fun c => decide (c = x)) r := rfl
    have hr := (List.pairwise_cons.1 h)
    rw [e]
    by_cases hp : p.1 = x
    · have h0 : csum (fun c => decide (c = x)) r = 0 := csum_no fun q hq => by
        have := hr.1 q hq
        simp
        omega
      rw [h0]
      simp [dcnt, hp]
    · have ih := csum_at hr.2 x
      rw [ih]
      simp [dcnt, hp]
theorem addAll_dcnt (N A : DL) (hA : DAsc A) (hN : DAsc N) (x : Nat) : dcnt (addAll A N) x = dcnt A x + dcnt N x := by
  have h := addAll_csum (fun c => decide (c = x)) N A hA
  rw [csum_at (addAll_asc N A hA), csum_at hA, csum_at hN] at h
  exact h
theorem addAll_pos : ∀ (N A : DL), (∀ q ∈ A, 1 ≤ q.2) → (∀ q ∈ N, 1 ≤ q.2) → ∀ q ∈ addAll A N, 1 ≤ q.2
  | [], A, h, _ => h
  | p :: r, A, h, hN => addAll_pos r _ (fun q hq => by
      rcases putD_sub hq with rfl | hq
      · have := dcnt_nonneg h p.1
        have := hN p (List.mem_cons_self ..)
        show 1 ≤ dcnt A p.1 + p.2
        omega
      · exact h q hq) (fun q hq => hN q (List.mem_cons_of_mem _ hq))
theorem addAll_low : ∀ (N A : DL), (∀ q ∈ A, LowC q.1) → (∀ q ∈ N, LowC q.1) → ∀ q ∈ addAll A N, LowC q.1
  | [], A, h, _ => h
  | p :: r, A, h, hN => addAll_low r _ (fun q hq => by
      rcases putD_sub hq with rfl | hq
      · exact hN p (List.mem_cons_self ..)
      · exact h q hq) (fun q hq => hN q (List.mem_cons_of_mem _ hq))
theorem addAll_len : ∀ (N A : DL), (addAll A N).length ≤ A.length + N.length
  | [], A => Nat.le_refl _
  | p :: r, A => by
    have h1 := addAll_len r (putD p.1 (dcnt A p.1 + p.2) A)
    have h2 := putD_len A p.1 (dcnt A p.1 + p.2)
    unfold addAll
    simp only [List.length_cons]
    omega
theorem LInv.addAll {n m : Nat} {A N : DL} (h : LInv n A) (k : LInv m N) (hl : A.length + N.length ≤ 100000) : LInv (n + m) (addAll A N) where
  inv := ⟨addAll_asc N A h.inv.asc, addAll_pos N A h.inv.pos k.inv.pos, by
    have e := addAll_csum (fun _ => true) N A h.inv.asc
    have h1 := h.inv.sum
    have h2 := k.inv.sum
    unfold total at h1 h2 ⊢
    rw [e]
    omega⟩
  low := addAll_low N A h.low k.low
  short := Nat.le_trans (addAll_len N A) hl
theorem Cov.addAll {k n m : Nat} {xs ys : List Nat} {A N : DL} (h : Cov k n xs A) (g : Cov k m ys N) (hA : DAsc A) (hN : DAsc N) : Cov k (n + m) (xs ++ ys) (addAll A N) where
  upto t := by
    have h1 := h.upto t
    have h2 := g.upto t
    rw [addAll_csum _ N A hA, List.countP_append]
    omega
  low t := by
    have h1 := h.low t
    have h2 := g.low t
    rw [addAll_csum _ N A hA, List.countP_append]
    omega
  few c hc := by
    have h1 := h.few c hc
    have h2 := g.few c hc
    rw [addAll_dcnt N A hA hN, Int.add_mul]
    omega
/-- a sum over some is at most the sums over kinds of them -/
theorem csum_kinds {f : Nat → Bool} {g : Nat → Nat → Bool} : ∀ {L : DL}, (∀ q ∈ L, 1 ≤ q.2) → ∀ (m : Nat), (∀ q ∈ L, f q.1 = true → ∃ j, j < m ∧ g j q.1 = true) → csum f L ≤ ((List.range m).map fun j => csum (g j) L).sum
  | L, hp, 0, h => by
    rw [csum_no fun q hq => by
      cases hf : f q.1 with
      | false => rfl
      | true => obtain ⟨j, hj, _⟩ := h q hq hf; omega]
    simp
  | L, hp, m + 1, h => by
    rw [List.range_succ, List.map_append, List.sum_append]
    have h1 := csum_kinds (f := fun c => f c && !g m c) (g := g) hp m (fun q hq hf => by
      simp only [Bool.and_eq_true, Bool.not_eq_true'] at hf
      obtain ⟨j, hj, hg⟩ := h q hq hf.1
      have : j ≠ m := fun e => by rw [e, hf.2] at hg; cases hg
      exact ⟨j, by omega, hg⟩)
    have h2 : csum f L ≤ csum (fun c => f c && !g m c) L + csum (g m) L := by
      clear h1 h
      induction L with
      | nil => simp [csum]
      | cons p r ih =>
        have ih := ih fun q hq => hp q (List.mem_cons_of_mem _ hq)
        have hpp := hp p (List.mem_cons_self ..)
        show (if f p.1 then p.2 else 0) + csum f r ≤ ((if (f p.1 && !g m p.1) then p.2 else 0) + csum (fun c => f c && !g m c) r) + ((if g m p.1 then p.2 else 0) + csum (g m) r)
        cases f p.1 <;> cases g m p.1 <;> simp <;> omega
    simp
    omega
theorem sum_le (f : Nat → Int) (b : Int) : ∀ m : Nat, (∀ j, j < m → f j ≤ b) → ((List.range m).map f).sum ≤ m * b
  | 0, _ => by simp
  | m + 1, h => by
    have ih := sum_le f b m fun j hj => h j (by omega)
    have h1 := h m (by omega)
    rw [List.range_succ, List.map_append, List.sum_append]
    have e : ((m + 1 : Nat) : Int) * b = (m : Int) * b + b := by rw [Int.natCast_add, Int.add_mul]; simp
    rw [e]
    simp
    omega
/-- at each level one node at most is about a number -/
theorem about_one {c v : Nat} (h1 : lR c < v) (h2 : v ≤ gR c) (hl : c / 18446744073709551616 ≤ 64) : ∃ j, j < 64 ∧ c = cd (j + 1) (v / 2 ^ (j + 1)) := by
  obtain ⟨l, hle⟩ : ∃ l, c / 18446744073709551616 = l := ⟨_, rfl⟩
  obtain ⟨u, hu⟩ : ∃ u, c % 18446744073709551616 = u := ⟨_, rfl⟩
  unfold lR at h1
  unfold gR at h2
  rw [hle, hu] at h1 h2
  rw [hle] at hl
  cases l with
  | zero => simp at h1 h2; omega
  | succ j =>
    refine ⟨j, by omega, ?_⟩
    have hP : 1 ≤ 2 ^ (j + 1) := Nat.one_le_two_pow
    have e : v / 2 ^ (j + 1) = u := by
      generalize 2 ^ (j + 1) = P at h1 h2 hP
      exact Nat.div_eq_of_lt_le (by omega) (by rw [Nat.add_mul]; omega)
    rw [e]
    have := cd_self c
    rw [hle, hu] at this
    exact this.symm
end Go.Proofs.YtlhpbfjelgmkeaaGreat.Dig
/- Contract of digest's Merge: the other's nodes added one after the other, then fit. Conditions: both made, of one k, few nodes, at most 2^50 numbers. -/
set_option maxRecDepth 100000
namespace Go.Proofs.YtlhpbfjelgmkeaaGreat.Dig
open Go.RowKit Go.Maps Go.Sort Go.Shelf

theorem total_app (A B : DL) : total (A ++ B) = total A + total B := csum_append _ A B
theorem total_take {m : Nat} {N : DL} (hJ : LInv m N) (j : Nat) : 0 ≤ total (N.take j) ∧ total (N.take j) ≤ m := by
  have hs := hJ.inv.sum
  have e : total N = total (N.take j) + total (N.drop j) := by rw [← total_app, List.take_append_drop]
  have h1 := csum_nonneg (fun _ => true) (L := N.take j) (fun q hq => hJ.inv.pos q (List.mem_of_mem_take hq))
  have h2 := csum_nonneg (fun _ => true) (L := N.drop j) (fun q hq => hJ.inv.pos q (List.mem_of_mem_drop hq))
  unfold total at *
  omega
theorem take_more {N : DL} {j : Nat} {p : Nat × Int} (h : N[j]? = some p) : N.take (j + 1) = N.take j ++ [p] := by
  obtain ⟨hl, e⟩ := List.getElem?_eq_some_iff.1 h
  rw [List.take_succ_eq_append_getElem hl, e]
theorem addAll_le (A N : DL) (hA : DAsc A) (hpA : ∀ q ∈ A, 1 ≤ q.2) (hpN : ∀ q ∈ N, 1 ≤ q.2) (x : Nat) : 0 ≤ dcnt (addAll A N) x ∧ dcnt (addAll A N) x ≤ total A + total N := by
  have h0 := addAll_pos N A hpA hpN
  refine ⟨dcnt_nonneg h0 x, ?_⟩
  have h1 := csum_at (addAll_asc N A hA) x
  have h2 := csum_le_total (fun c => decide (c = x)) h0
  have h3 := addAll_csum (fun _ => true) N A hA
  unfold total at *
  omega
theorem kV_form2 (c : Nat) : kV c = .agg #[.int .i64 ((c / 18446744073709551616 : Nat) : Int), .int .u64 ((c % 18446744073709551616 : Nat) : Int)] := rfl

set_option maxHeartbeats 8000000 in
theorem merge_at {T : Tags} {i : Nat} {w : World} {p k n b q m b2 : Nat} {L N : DL} (h : DkAt T i w p k n b L) (o0 : w.cell? ⟨q, 0, none⟩ = some (.int .i64 k)) (o1 : w.cell? ⟨q, 1, none⟩ = some (.int .i64 m)) (o2 : w.cell? ⟨q, 2, none⟩ = some (.map (some b2))) (hN : PAt w b2 N)
    (hk1 : 1 ≤ k) (hk : k ≤ 64) (hI : LInv n L) (hJ : LInv m N) (hn : n + m ≤ 1125899906842624) (hl : L.length + N.length ≤ 100000) :
    Calls Tryz.prog 224 #[.pointer (some ⟨p, 0, none⟩), .pointer (some ⟨q, 0, none⟩)] w fun e w' => e = .returned (.int .i64 0) ∧ FitP T i w p k (n + m) (addAll L N) (.returned (.tuple #[])) w' := by
  obtain ⟨c0, c1, c2, _⟩ := h.cells
  have KM := made_at hk1 c0
  have KO := Lib.hid (fun n => made_at (w := w.drewN n) hk1 o0)
  have KN := Lib.hid (fun z => nodes_at (w := w.drewN z) o0 hk1 o2 (hN.of_block (w' := w.drewN z) rfl) (show N.length ≤ 100000 by omega))
  have hs : ¬ (1125899906842624 : Int) - (n : Int) < (m : Int) := by omega
  have ws : IntKind.i64.wrap ((1125899906842624 : Int) - (n : Int)) = (1125899906842624 : Int) - (n : Int) := by rw [IntKind.wrap_i64]; omega
  have HH := Lib.hid h
  have HIJ := Lib.hid (And.intro hI hJ)
  have HNL := Lib.hid (And.intro hn hl)
  have HK := Lib.hid (And.intro hk1 hk)
  clear h hI hJ hn hl hk1 hk hN c2
  go_enter Tryz.func224, Tryz.ntmps224
  go_wp2_with fail
  refine KM.mono ?_
  rintro e w' ⟨rfl, rfl⟩
  clear KM
  go_wp2_with fail
  go_quiet ((exact Calls.quiet_of_same ((KO.out _).mono fun _ _ ⟨h, hw⟩ => ⟨h, hw.symm⟩)))
  go_wp2_with fail
  obtain ⟨z1, rfl⟩ : ∃ z, z = nq := ⟨_, rfl⟩
  go_quiet (fail)
  go_wp2_with fail
  refine (KN.out _).mono ?_
  rintro e w3 ⟨g, c, rfl, hg, hc, hR, hBel⟩
  have hB3 : Below w.heap.size w w3 := (below_drewN w _).trans hBel
  have hgw : w.heap.size ≤ g := hg
  obtain ⟨T2, hT2⟩ : ∃ T2 : Tags, T2 = fun x => if x < w.heap.size then T x else none := ⟨_, rfl⟩
  have G0 : Hid (Goes T2 i w3 (Dl p k n L) w3) := Lib.hid (by
    refine Goes.start (Framed.below (Dl.framed p k n L) ⟨b, ?_⟩ hB3)
    rw [hT2]
    exact HH.out.rebase)
  have HTG : Hid (T2 g ≠ some i) := Lib.hid fun e => by
    rw [hT2] at e
    simp only at e
    rw [if_neg (by omega)] at e
    cases e
  have HCH : Hid (∀ (A : Thing) (wz : World), Goes T2 i w3 A wz → Goes T i w A wz) := Lib.hid fun A wz hz => by
    refine Goes.after (T1 := T2) (fun x hx => ?_) (Else.of_below hB3) hz
    rw [hT2]
    simp only
    rw [if_pos hx]
  have HR := Lib.hid (And.intro hR.2 (fun (j : Nat) (y : Nat × Int) (hy : N[j]? = some y) => hR.cell hy))
  have hcl : N.length ≤ 100000 := by have := HNL.out.2; omega
  clear KN hBel hB3 hgw hT2 hg hR c0 c1 o0 o1 o2 hs ws KO HH
  go_wp2_with fail
  go_loopw [40] (fun s wr => ∃ j : Nat, s = .int .i64 j ∧ j ≤ N.length ∧ Hid (Goes T2 i w3 (Dl p k ((n : Int) + total (N.take j)) (addAll L (N.take j))) wr)) (fun s _ => N.length - (intOf s).toNat)
  case atStart => exact ⟨0, rfl, Nat.zero_le _, Lib.hid (by have := G0.out; simpa [total, csum, addAll] using this)⟩
  case round =>
    clear G0
    obtain ⟨j, rfl, hj, HS⟩ := hrel
    by_cases hlt : j < N.length
    · have hz : (j : Int) < (N.length : Int) := by omega
      obtain ⟨y, hy⟩ : ∃ y, N[j]? = some y := ⟨_, List.getElem?_eq_getElem hlt⟩
      obtain ⟨r0, r1, r2⟩ := HR.out.2 j y hy
      obtain ⟨T3, n3, e3, b3, hd3⟩ := HS.out
      have hgk := e3.block g HR.out.1 HTG.out
      have x0 : wr.cell? ⟨g, j * 3, none⟩ = some (.int .i64 ((y.1 / 18446744073709551616 : Nat) : Int)) := by rw [World.cell?_of_block hgk]; exact r0
      have x1 : wr.cell? ⟨g, j * 3 + 1, none⟩ = some (.int .u64 ((y.1 % 18446744073709551616 : Nat) : Int)) := by rw [World.cell?_of_block hgk]; exact r1
      have x2 : wr.cell? ⟨g, j * 3 + 2, none⟩ = some (.int .i64 y.2) := by rw [World.cell?_of_block hgk]; exact r2
      have hym : y ∈ N := List.mem_of_getElem? hy
      have hkin : KIn y.1 := kin_of_low (HIJ.out.2.low y hym)
      have hle := addAll_le L (N.take j) HIJ.out.1.inv.asc HIJ.out.1.inv.pos (fun q hq => HIJ.out.2.inv.pos q (List.mem_of_mem_take hq)) y.1
      have ht1 := total_take HIJ.out.2 j
      have ht2 := total_take HIJ.out.2 (j + 1)
      have hsum1 : total L = n := HIJ.out.1.inv.sum
      have htk := take_more hy
      have hts : total (N.take (j + 1)) = total (N.take j) + y.2 := by rw [htk, total_app]; simp [total, csum]
      have hyp := HIJ.out.2.inv.pos y hym
      have hln := addAll_len (N.take j) L
      have KA := Lib.hid (fun (W : World) (hb : Below wr.heap.size wr W) => add_at (w := W) (T := T3) (i := i) (p := p) (k := k) (n := (n : Int) + total (N.take j)) (L := addAll L (N.take j)) (b := b3)
        ⟨(hb.block p (lt_of_heap hd3.head)).trans hd3.head, hd3.tp, hd3.map.of_block (hb.block b3 hd3.map.lt), hd3.tb⟩ (id := y.1) (c := y.2) hkin (by have := HNL.out.1; unfold InI; omega) (by have := HNL.out.1; unfold InI; omega) (by have := HNL.out.2; rw [List.length_take] at hln; unfold maxLen; omega))
      have HNX : Hid (∀ W w5, Below wr.heap.size wr W → Goes T3 i W (Dl p k ((n : Int) + total (N.take j) + y.2) (putD y.1 (dcnt (addAll L (N.take j)) y.1 + y.2) (addAll L (N.take j)))) w5 → Goes T2 i w3 (Dl p k ((n : Int) + total (N.take (j + 1))) (addAll L (N.take (j + 1)))) w5) := Lib.hid fun W w5 hb hG => by
        rw [hts, htk, addAll_snoc, ← Int.add_assoc]
        exact Goes.after n3 e3 (Goes.after (T1 := T3) (fun _ _ => rfl) (Else.of_below hb) hG)
      obtain ⟨lv, hlv⟩ : ∃ lv : Int, ((y.1 / 18446744073709551616 : Nat) : Int) = lv := ⟨_, rfl⟩
      obtain ⟨pr, hpr⟩ : ∃ pr : Int, ((y.1 % 18446744073709551616 : Nat) : Int) = pr := ⟨_, rfl⟩
      obtain ⟨cn, hcn⟩ : ∃ cn : Int, y.2 = cn := ⟨_, rfl⟩
      rw [kV_form2, hlv, hpr] at KA
      rw [hcn] at KA HNX x2
      rw [hlv] at x0
      rw [hpr] at x1
      obtain ⟨X, hX⟩ : ∃ X, wr.alloc (.cells #[.int .i64 lv, .int .u64 pr, .int .i64 cn] 307) = X := ⟨_, rfl⟩
      have hbX : Below wr.heap.size wr X := by rw [← hX]; exact (Below.refl _ wr).alloc (Nat.le_refl _) _
      obtain ⟨G, hG⟩ : ∃ G, wr.heap.size = G := ⟨_, rfl⟩
      have hxX : X.heap[G]? = some (.cells #[.int .i64 lv, .int .u64 pr, .int .i64 cn] 307 (0, 0)) := by rw [← hX, ← hG]; exact heap_alloc_new _ _
      have f0 : X.cell? ⟨G, 0, none⟩ = some (.int .i64 lv) := by rw [cell_of_row _ _ _ _ _ _ hxX]; rfl
      have f1 : X.cell? ⟨G, 1, none⟩ = some (.int .u64 pr) := by rw [cell_of_row _ _ _ _ _ _ hxX]; rfl
      have f2 : X.cell? ⟨G, 2, none⟩ = some (.int .i64 cn) := by rw [cell_of_row _ _ _ _ _ _ hxX]; rfl
      have HBX := Lib.hid hbX
      have KPL := Lib.hid (fun W => place_any lv pr cn W)
      clear hy r0 r1 r2 n3 e3 hd3 hgk hym hkin hle ht1 ht2 hsum1 htk hts hyp hln hlv hpr hcn hbX hxX HS
      go_wp2_with fail
      (try rw [hG])
      (try rw [hX])
      clear hX
      refine wp_region_mix (fun V => V.cell? ⟨G, 0, none⟩ = some (.int .i64 lv) ∧ V.cell? ⟨G, 1, none⟩ = some (.int .u64 pr) ∧ V.cell? ⟨G, 2, none⟩ = some (.int .i64 cn)) 5 [(true, 0), (true, 1), (true, 3), (true, 4), (false, 2), (false, 5)] (by kernel_rfl) (by decide +kernel) rfl (by decide +kernel) ⟨f0, f1, f2⟩ ?_
      iterate 4
        refine wpMix_take (v := ?_) rfl rfl ?_ ?_
        rotate_left
        · (intro W hW; (try dsimp only at hW); go_simp) <;> with_reducible rfl
        simp only [Act.put, List.setIfInBounds_toArray, List.set_cons_zero, List.set_cons_succ]
      refine wpMix_run rfl ?_
      intro K hK
      go_wp2_with fail
      refine (KPL.out _).mono ?_
      rintro e w5 ⟨rfl, os', hw5⟩
      have hb5 : Below X.heap.size X w5 := by rw [hw5]; exact ⟨rfl, rfl, rfl, by rw [size_grow]; exact Nat.le_add_right _ _, fun k hk => heap_grow_old _ _ hk⟩
      have q0 : w5.cell? ⟨G, 0, none⟩ = some (.int .i64 lv) := by rw [hb5.cell (lt_of_cell f0)]; exact f0
      have q1 : w5.cell? ⟨G, 1, none⟩ = some (.int .u64 pr) := by rw [hb5.cell (lt_of_cell f1)]; exact f1
      have q2 : w5.cell? ⟨G, 2, none⟩ = some (.int .i64 cn) := by rw [hb5.cell (lt_of_cell f2)]; exact f2
      have hbw5 : Below wr.heap.size wr w5 := HBX.out.trans (hb5.mono HBX.out.size)
      have K5 := KA.out w5 hbw5
      have HB5 := Lib.hid hbw5
      clear hw5 hb5 f0 f1 f2 KA KPL hbw5
      go_wp2_with fail
      refine hK.out _ _ (fun _ => ⟨q0, q1, q2⟩) ?_
      clear hK K q0 q1 q2
      refine wpMix_run rfl ?_
      intro K hK
      go_wp2_with fail
      refine K5.mono ?_
      rintro e w6 ⟨rfl, HG6⟩
      have HN6 := Lib.hid (HNX.out w5 w6 HB5.out HG6.out)
      clear K5 HG6 HNX HB5
      go_wp2_with fail
      refine hK.out _ _ (fun h => absurd rfl h) ?_
      clear hK K
      refine wpMix_nil ?_
      have hw64 : IntKind.i64.wrap ((j : Int) + 1) = (j : Int) + 1 := by rw [IntKind.wrap_i64]; omega
      go_wp2_with fail
      go_roundw
      case rel => exact ⟨j + 1, by go_num, hlt, HN6⟩
      case measure => simp [intOf]; omega
    · obtain rfl : j = N.length := by omega
      have hz : ¬ (N.length : Int) < (N.length : Int) := by omega
      have HS1 := HS.out
      rw [List.take_length] at HS1
      have hm : total N = m := HIJ.out.2.inv.sum
      rw [hm] at HS1
      obtain ⟨T3, n3, e3, b3, hd3⟩ := HS1
      have hd4 : DkAt T3 i wr p k ((n + m : Nat) : Int) b3 (addAll L N) := by rw [Int.natCast_add]; exact hd3
      have KF := fit_at hd4 HK.out.1 HK.out.2 (HIJ.out.1.addAll HIJ.out.2 HNL.out.2) HNL.out.1
      have HNE := Lib.hid (And.intro n3 e3)
      clear hd3 hd4 n3 e3 hm HS
      go_wp2_with fail
      refine KF.mono ?_
      rintro e w6 ⟨rfl, L', g1, g2, g3, g4⟩
      have FIN : Hid (FitP T i w p k (n + m) (addAll L N) (.returned (.tuple #[])) w6) := Lib.hid ⟨rfl, L', g1, g2, g3, HCH.out _ _ (Goes.after HNE.out.1 HNE.out.2 g4)⟩
      clear KF g1 g2 g3 g4
      go_wp2_with fail
      go_ret
      exact ⟨rfl, FIN.out⟩
end Go.Proofs.YtlhpbfjelgmkeaaGreat.Dig
