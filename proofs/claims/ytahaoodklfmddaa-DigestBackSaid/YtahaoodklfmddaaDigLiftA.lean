/- What liftAll does, in plain words: its loops as functions of the lists that it goes through. Conditions: as stated. -/
import Derived.Test.YtahaoodklfmddaaDigLift
set_option maxRecDepth 100000
namespace Go.Proofs.Ytahaoodklfmddaa
open Go.RowKit Go.Maps Go.Sort Go.Shelf

/-- a level's prefixes gone through: what is left, whether anything changed, how many stayed, whether that ended it all -/
def innerL (most : Int) (lv : Nat) : List UInt64 → DL → Bool → Nat → DL × Bool × Nat × Bool
  | [], L, ch, st => (L, ch, st, false)
  | u :: us, L, ch, st => if allC L (cd lv u.toNat) ≤ most then innerL most lv us (liftL L (cd lv u.toNat)) true st
      else if st + 1 = L.length then (L, ch, st + 1, true) else innerL most lv us L ch (st + 1)
/-- the levels from lv on -/
inductive OuterL (most : Int) : Nat → DL → Bool → Nat → DL → Bool → Prop
  | top (L : DL) (ch : Bool) (st : Nat) : OuterL most 64 L ch st L ch
  | stop {lv st st' : Nat} {L L' xs : DL} {ch ch' : Bool} {us : List UInt64} (hl : lv < 64) (hx : ∀ p, p ∈ xs ↔ p ∈ L) (hn : xs.Nodup) (hp : us.Perm (preL lv xs)) (h : innerL most lv us L ch st = (L', ch', st', true)) : OuterL most lv L ch st L' ch'
  | next {lv st st1 : Nat} {L L1 L2 xs : DL} {ch ch1 ch2 : Bool} {us : List UInt64} (hl : lv < 64) (hx : ∀ p, p ∈ xs ↔ p ∈ L) (hn : xs.Nodup) (hp : us.Perm (preL lv xs)) (h : innerL most lv us L ch st = (L1, ch1, st1, false)) (k : OuterL most (lv + 1) L1 ch1 st1 L2 ch2) : OuterL most lv L ch st L2 ch2

/-- what a digest's nodes are at any time -/
structure LInv (n : Nat) (L : DL) : Prop where
  inv : DInv n L
  low : ∀ q ∈ L, LowC q.1
  short : L.length ≤ 100000
/-- each prefix that is still to come is a node's, or its parent is a node -/
def Pend (L : DL) (lv : Nat) (us : List UInt64) : Prop := ∀ u ∈ us, LowC (cd lv u.toNat) ∧ ((∃ q ∈ L, q.1 = cd lv u.toNat) ∨ ∃ q ∈ L, q.1 = upC (cd lv u.toNat))

theorem LInv.len {n : Nat} {L : DL} (h : LInv n L) : L.length ≤ 100000 := h.short
/-- a lift makes no more nodes -/
theorem lift_len {L : DL} (hA : DAsc L) {c : Nat} (hc : (∃ q ∈ L, q.1 = c) ∨ ∃ q ∈ L, q.1 = upC c) : (liftL L c).length ≤ L.length := by
  have h1 : (liftL L c).length ≤ (delD c (putD (upC c) (allC L c) L)).length := List.length_filter_le _ _
  have h2 : (delD c (putD (upC c) (allC L c) L)).length ≤ (putD (upC c) (allC L c) L).length := List.length_filter_le _ _
  by_cases hu : ∃ q ∈ L, q.1 = upC c
  · have h3 := putD_len_mem hA (c := allC L c) hu
    omega
  · rcases hc with hc | hc
    · have h3 := putD_len L (upC c) (allC L c)
      obtain ⟨q, hq, e⟩ := (has_putD (L := L) (upC c) c (allC L c)).2 (.inr hc)
      have h4 : (delD c (putD (upC c) (allC L c) L)).length < (putD (upC c) (allC L c) L).length := by
        unfold delD
        exact List.length_filter_lt_length_iff_exists.2 ⟨q, hq, by simp [e]⟩
      omega
    · exact absurd hc hu
theorem kin_of_low {c : Nat} (h : LowC c) : KIn c := by
  have h1 := h.1
  have h2 := cd_self c
  unfold KIn cd at *
  omega
theorem low_cd {lv : Nat} {u : UInt64} : cd lv u.toNat / 18446744073709551616 = lv := (cd_lev u.toNat_lt).1
theorem kV_cd (lv : Nat) (u : UInt64) : kV (cd lv u.toNat) = .agg #[.int .i64 (lv : Int), .int .u64 (u.toNat : Int)] := by
  rw [kV_at, (cd_lev u.toNat_lt).1, (cd_lev u.toNat_lt).2]
theorem pend_start {n : Nat} {L xs : DL} (h : LInv n L) {lv : Nat} {us : List UInt64} (hx : ∀ p, p ∈ xs ↔ p ∈ L) (hp : us.Perm (preL lv xs)) : Pend L lv us := fun u hu => by
  have h1 := hp.mem_iff.1 hu
  unfold preL at h1
  obtain ⟨p, h2, rfl⟩ := List.mem_map.1 h1
  obtain ⟨h3, h4⟩ := List.mem_filter.1 h2
  have h5 : p.1 / 18446744073709551616 = lv := by
    have := of_decide_eq_true h4
    omega
  have h6 : (UInt64.ofNat (p.1 % 18446744073709551616)).toNat = p.1 % 18446744073709551616 := by simp
  have e : cd lv (UInt64.ofNat (p.1 % 18446744073709551616)).toNat = p.1 := by rw [h6, ← h5]; exact cd_self p.1
  rw [e]
  exact ⟨h.low p ((hx p).1 h3), .inl ⟨p, (hx p).1 h3, rfl⟩⟩
theorem pend_step {L : DL} {lv : Nat} {us : List UInt64} (h : Pend L lv us) {c : Nat} (hc : c / 18446744073709551616 = lv) : Pend (liftL L c) lv us := fun u hu => by
  obtain ⟨h1, h2⟩ := h u hu
  refine ⟨h1, ?_⟩
  have l1 : cd lv u.toNat / 18446744073709551616 = lv := low_cd
  have hs := (sib_lev c).1
  have hup := (up_lev (cd lv u.toNat)).1
  have n1 : upC (cd lv u.toNat) ≠ c := fun e => by rw [e] at hup; omega
  have n2 : upC (cd lv u.toNat) ≠ sibC c := fun e => by rw [e] at hup; omega
  by_cases e1 : cd lv u.toNat = c
  · refine .inr ((lift_has c _).2 ⟨.inl (by rw [e1]), n1, n2⟩)
  · by_cases e2 : cd lv u.toNat = sibC c
    · refine .inr ((lift_has c _).2 ⟨.inl (by rw [e2, up_sib]), n1, n2⟩)
    · rcases h2 with h2 | h2
      · exact .inl ((lift_has c _).2 ⟨.inr h2, e1, e2⟩)
      · exact .inr ((lift_has c _).2 ⟨.inr h2, n1, n2⟩)
theorem LInv.lift {n : Nat} {L : DL} (h : LInv n L) {lv : Nat} {us : List UInt64} (hP : Pend L lv us) (hlv : lv < 64) {u : UInt64} (hu : u ∈ us) : LInv n (liftL L (cd lv u.toNat)) :=
  ⟨lift_inv h.inv (hP u hu).2, lift_codes h.low (by rw [low_cd]; omega) (hP u hu).1, Nat.le_trans (lift_len h.inv.asc (hP u hu).2) h.short⟩
theorem LInv.sums {n : Nat} {L : DL} (h : LInv n L) (hn : n ≤ 1125899906842624) (c : Nat) : InI (dcnt L c + dcnt L (sibC c)) ∧ InI (allC L c) := by
  have h1 := all_le h.inv c
  have h2 := dcnt_nonneg h.inv.pos c
  have h3 := dcnt_nonneg h.inv.pos (sibC c)
  have h4 := dcnt_nonneg h.inv.pos (upC c)
  unfold allC at *
  unfold InI
  omega
end Go.Proofs.Ytahaoodklfmddaa
