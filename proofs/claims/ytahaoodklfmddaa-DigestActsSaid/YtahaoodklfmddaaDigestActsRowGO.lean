/- The texts DigRise DigCovR DigZ DigLoad, one behind the other; each one's own comment says what it holds. -/
import Derived.Test.YtahaoodklfmddaaDigestActsRowGM
import Derived.Test.YtahaoodklfmddaaDigestActsRowGD
import Derived.Test.YtahaoodklfmddaaDigestActsRowGN
import Derived.Test.YtahaoodklfmddaaDigestActsRowGE
import Derived.Test.YtahaoodklfmddaaDigestActsRowGL
import Derived.Test.YtahaoodklfmddaaShelf
/- A digest at rest as a thing, its calls, and the law DigestRises, walked. Conditions: none. -/
set_option maxRecDepth 100000
namespace Go.Proofs.Ytahaoodklfmddaa
open Go.RowKit Go.Maps Go.Sort Go.Shelf

/-- a digest at rest: what every call leaves -/
structure Rest (k n : Nat) (L : DL) : Prop where
  k1 : 1 ≤ k
  k64 : k ≤ 64
  n50 : n ≤ 1125899906842624
  inv : LInv n L
  len : L.length ≤ 3 * k + 64
def Df (p k n : Nat) (L : DL) : Thing := fun T i w => ∃ b, DkAt T i w p k n b L ∧ Rest k n L
def Dx (p k n : Nat) : Thing := fun T i w => ∃ L, Df p k n L T i w
theorem Df.framed (p k n : Nat) (L : DL) : Framed (Df p k n L) := by
  rintro T T' i w w' ⟨b, h, hG⟩ hT hw
  exact ⟨b, ⟨(hw p (lt_of_heap h.head) (.inr h.tp)).trans h.head, (hT p (lt_of_heap h.head)).trans h.tp, h.map.of_block (hw b h.map.lt (.inr h.tb)), (hT b h.map.lt).trans h.tb⟩, hG⟩
theorem Dx.framed (p k n : Nat) : Framed (Dx p k n) := by
  rintro T T' i w w' ⟨L, h⟩ hT hw
  exact ⟨L, Df.framed p k n L T T' i w w' h hT hw⟩
theorem rest_none {k : Nat} (h1 : 1 ≤ k) (h2 : k ≤ 64) : Rest k 0 [] :=
  ⟨h1, h2, Nat.zero_le _, ⟨⟨List.Pairwise.nil, (fun q hq => by cases hq), rfl⟩, (fun q hq => by cases hq), Nat.zero_le _⟩, Nat.zero_le _⟩
theorem Rest.le {k n : Nat} {L : DL} (h : Rest k n L) {q : Nat × Int} (hq : q ∈ L) : 1 ≤ q.2 ∧ q.2 ≤ n := by
  refine ⟨h.inv.inv.pos q hq, ?_⟩
  have h1 := all_le h.inv.inv q.1
  have h2 := dcnt_nonneg h.inv.inv.pos (sibC q.1)
  have h3 := dcnt_nonneg h.inv.inv.pos (upC q.1)
  have h4 := dcnt_mem h.inv.inv.asc (id := q.1) (c := q.2) hq
  unfold allC at h1
  omega
theorem fitP_rest {T : Tags} {i : Nat} {w w' : World} {p k n : Nat} {L : DL} {e : Ending} (h : FitP T i w p k n L e w') (hI : LInv n L) (h1 : 1 ≤ k) (h2 : k ≤ 64) (h3 : n ≤ 1125899906842624) : e = .returned (.tuple #[]) ∧ Goes T i w (Dx p k n) w' := by
  obtain ⟨rfl, L', f1, f2, f3, T', n1, e1, b, hd⟩ := h
  refine ⟨rfl, T', n1, e1, L', b, hd, h1, h2, h3, f3, ?_⟩
  by_cases hl : L.length ≤ 3 * k + 64
  · rw [f1 hl]
    exact hl
  · have := fit_end (f2 (by omega)) hI
    exact few_nodes this.1 h1 h2 this.2
section
variable {w0 w : World} {p k n : Nat}
theorem side_fine (h : Side w0 [(1, Dk p (DV.none_k k))] w) (h1 : 1 ≤ k) (h2 : k ≤ 64) : Side w0 [(1, Dx p k 0)] w := by
  obtain ⟨T, h⟩ := h
  refine ⟨T, { h with at_ := fun e he => ?_ }⟩
  rw [List.mem_singleton] at he
  subst he
  obtain ⟨_, b, hd, _⟩ := h.at_ _ (List.mem_cons_self ..)
  exact ⟨Dx.framed p k 0, [], b, hd, rest_none h1 h2⟩
theorem side_fix (h : Side w0 [(1, Dx p k n)] w) : ∃ L, Rest k n L ∧ Side w0 [(1, Df p k n L)] w := by
  obtain ⟨T, h⟩ := h
  obtain ⟨_, L, b, hd, hR⟩ := h.at_ _ (List.mem_cons_self ..)
  refine ⟨L, hR, T, { h with at_ := fun e he => ?_ }⟩
  rw [List.mem_singleton] at he
  subst he
  exact ⟨Df.framed p k n L, b, hd, hR⟩
theorem side_xins (h : Side w0 [(1, Dx p k n)] w) {x : Nat} (hx : x < 18446744073709551616) (hn : n < 1125899906842624) :
    Calls Try.prog 9 #[.pointer (some ⟨p, 0, none⟩), .int .u64 (x : Int)] w fun e w' => e = .returned (.tuple #[]) ∧ Hid (Side w0 [(1, Dx p k (n + 1))] w') :=
  (h.step (fun _ h => by cases h) (Dx.framed p k (n + 1)) (Pr := fun e => e = .returned (.tuple #[])) fun _ _ hA => by
    obtain ⟨L, b, hd, hR⟩ := hA _ (List.mem_cons_self ..)
    have hl : L.length < 100000 := by have := hR.len; have := hR.k64; omega
    exact (ins_at hd hR.k1 hR.k64 hR.inv hn hl x hx).mono fun e w' h => fitP_rest h (hR.inv.ins hx hl) hR.k1 hR.k64 hn).mono fun _ _ ⟨a, b⟩ => ⟨a, b⟩
theorem side_frank {L : DL} (h : Side w0 [(1, Df p k n L)] w) {r : Int} (h1 : 1 ≤ r) (h2 : r ≤ n) :
    Calls Try.prog 18 #[.pointer (some ⟨p, 0, none⟩), .int .i64 r] w fun e w' => ∃ D, RankedG L D ∧ e = .returned (rankV (rankG D r)) ∧ Below w.heap.size w w' := by
  obtain ⟨T, b, hA, hR⟩ := side_thing h (List.mem_cons_self ..)
  exact rank_all hA hR.k1 hR.inv.short hR.inv.low (fun q hq => ⟨(hR.le hq).1, by have := (hR.le hq).2; have := hR.n50; omega⟩) h1 h2 (by have := hR.n50; omega)
theorem side_fout {L : DL} (h : Side w0 [(1, Df p k n L)] w) {r : Int} (hr : r < 1 ∨ (n : Int) < r) :
    Calls Try.prog 18 #[.pointer (some ⟨p, 0, none⟩), .int .i64 r] w fun e w' => e = .returned (rankV none) ∧ w = w' := by
  obtain ⟨T, b, hA, hR⟩ := side_thing h (List.mem_cons_self ..)
  exact rank_out hR.k1 hA.cells.1 hA.cells.2.1 hr
end
/-- a rank's number, by the counts below it and up to it -/
theorem rank_csum {L D : DL} (hL : ∀ q ∈ L, 1 ≤ q.2) (hR : RankedG L D) {r : Int} (h1 : 1 ≤ r) (h2 : r ≤ total L) :
    ∃ v, rankG D r = some v ∧ csum (fun c => decide (gr c < v)) L < r ∧ r ≤ csum (fun c => decide (gr c ≤ v)) L := by
  have hDp : ∀ q ∈ D, 1 ≤ q.2 := fun q hq => hL q (hR.perm.mem_iff.1 hq)
  have hT : total D = total L := csum_perm _ hR.perm
  obtain ⟨A, p, B, hD, e, g1, g2⟩ := rankG_spec D r h1 (by omega) hDp
  have ho := hR.le
  rw [hD] at ho
  obtain ⟨_, o2, o3⟩ := List.pairwise_append.1 ho
  have o4 := List.pairwise_cons.1 o2
  refine ⟨gr p.1, e, ?_, ?_⟩
  · rw [← csum_perm _ hR.perm, hD, csum_append]
    have c1 : csum (fun c => decide (gr c < gr p.1)) A ≤ total A := csum_le_total _ fun q hq => hDp q (by rw [hD]; simp [hq])
    have c2 : csum (fun c => decide (gr c < gr p.1)) (p :: B) = 0 := csum_no fun q hq => by
      rcases List.mem_cons.1 hq with rfl | hq
      · simp
      · have := o4.1 q hq
        simp
        omega
    omega
  · rw [← csum_perm _ hR.perm, hD, csum_append]
    have c1 : csum (fun c => decide (gr c ≤ gr p.1)) A = total A := csum_all fun q hq => by
      have := o3 q hq p (List.mem_cons_self ..)
      simpa using this
    have c2 : p.2 ≤ csum (fun c => decide (gr c ≤ gr p.1)) (p :: B) := by
      show p.2 ≤ (if decide (gr p.1 ≤ gr p.1) then p.2 else 0) + csum _ B
      rw [if_pos (by simp)]
      have : 0 ≤ csum (fun c => decide (gr c ≤ gr p.1)) B := csum_nonneg _ fun q hq => hDp q (by rw [hD]; simp [hq])
      omega
    omega
theorem csum_le {f g : Nat → Bool} (h : ∀ c, f c = true → g c = true) : ∀ {L : DL}, (∀ q ∈ L, 1 ≤ q.2) → csum f L ≤ csum g L
  | [], _ => Int.le_refl _
  | p :: r, hp => by
    have ih := csum_le h fun q hq => hp q (List.mem_cons_of_mem _ hq)
    have h1 := hp p (List.mem_cons_self ..)
    have h2 := h p.1
    show (if f p.1 then p.2 else 0) + csum f r ≤ (if g p.1 then p.2 else 0) + csum g r
    cases hf : f p.1 with
    | true => rw [h2 hf]; simp; omega
    | false => cases g p.1 <;> simp <;> omega
/-- ranks rise -/
theorem ranks_rise {L : DL} (hL : ∀ q ∈ L, 1 ≤ q.2) {r s : Int} {u v : Nat} (hrs : r ≤ s) (h1 : csum (fun c => decide (gr c < u)) L < r) (h2 : s ≤ csum (fun c => decide (gr c ≤ v)) L) : u ≤ v := by
  refine Nat.le_of_not_lt fun hlt => ?_
  have := csum_le (f := fun c => decide (gr c ≤ v)) (g := fun c => decide (gr c < u)) (fun c hc => decide_eq_true (by have := of_decide_eq_true hc; omega)) hL
  omega

end Go.Proofs.Ytahaoodklfmddaa
/- How wrong a rank can be. Conditions: as stated. -/
set_option maxRecDepth 100000
namespace Go.Proofs.Ytahaoodklfmddaa
open Go.RowKit Go.Maps Go.Sort Go.Shelf

/-- how wrong a rank can be -/
theorem Cov.rank {k n : Nat} {xs : List Nat} {L D : DL} (h : Cov k n xs L) (hk : 1 ≤ k) (hI : LInv n L) (hR : RankedG L D) {r : Int} (h1 : 1 ≤ r) (h2 : r ≤ n) :
    ∃ v, rankG D r = some v ∧ ((xs.countP (fun y => decide (y < v)) : Nat) : Int) < r + 64 * ((n / k : Nat) : Int) ∧ r ≤ (xs.countP (fun y => decide (y ≤ v)) : Nat) := by
  have hT : total L = n := hI.inv.sum
  obtain ⟨v, e, g1, g2⟩ := rank_csum hI.inv.pos hR h1 (by omega)
  have same : ∀ f : Nat → Nat → Bool, csum (fun c => f c (gr c)) L = csum (fun c => f c (gR c)) L := fun f => by
    have : ∀ {M : DL}, (∀ q ∈ M, NodeC q.1) → csum (fun c => f c (gr c)) M = csum (fun c => f c (gR c)) M := fun {M} hM => by
      induction M with
      | nil => rfl
      | cons p q ih =>
        show (if f p.1 (gr p.1) then p.2 else 0) + csum (fun c => f c (gr c)) q = (if f p.1 (gR p.1) then p.2 else 0) + csum (fun c => f c (gR c)) q
        rw [ih fun x hx => hM x (List.mem_cons_of_mem _ hx), gr_gR (hM p (List.mem_cons_self ..))]
    exact this hI.low
  refine ⟨v, e, ?_, ?_⟩
  · have a1 := h.low v
    rw [same fun _ g => decide (g < v)] at g1
    have a2 : csum (fun c => decide (lR c < v)) L ≤ csum (fun c => decide (gR c < v)) L + csum (fun c => decide (lR c < v) && decide (v ≤ gR c)) L := by
      have hp := hI.inv.pos
      clear g1 g2 a1 same hR hI h hT
      induction L with
      | nil => simp [csum]
      | cons p q ih =>
        have ih := ih fun x hx => hp x (List.mem_cons_of_mem _ hx)
        have hpp := hp p (List.mem_cons_self ..)
        show (if decide (lR p.1 < v) then p.2 else 0) + csum (fun c => decide (lR c < v)) q ≤ ((if decide (gR p.1 < v) then p.2 else 0) + csum (fun c => decide (gR c < v)) q) + ((if (decide (lR p.1 < v) && decide (v ≤ gR p.1)) then p.2 else 0) + csum (fun c => decide (lR c < v) && decide (v ≤ gR c)) q)
        by_cases b1 : lR p.1 < v <;> by_cases b2 : gR p.1 < v <;> simp [b1, b2] <;> omega
    have a3 := csum_kinds (f := fun c => decide (lR c < v) && decide (v ≤ gR c)) (g := fun j c => decide (c = cd (j + 1) (v / 2 ^ (j + 1)))) hI.inv.pos 64 (fun q hq hf => by
      simp only [Bool.and_eq_true, decide_eq_true_eq] at hf
      obtain ⟨j, hj, hc⟩ := about_one hf.1 hf.2 (hI.low q hq).1
      exact ⟨j, hj, decide_eq_true hc⟩)
    have a4 := sum_le (fun j => csum (fun c => decide (c = cd (j + 1) (v / 2 ^ (j + 1)))) L) ((n / k : Nat) : Int) 64 (fun j _ => by
      show csum (fun c => decide (c = cd (j + 1) (v / 2 ^ (j + 1)))) L ≤ _
      rw [csum_at hI.inv.asc]
      have := h.few (cd (j + 1) (v / 2 ^ (j + 1))) (Nat.le_trans (show 18446744073709551616 ≤ (j + 1) * 18446744073709551616 by omega) (Nat.le_add_right _ _))
      rw [Int.natCast_ediv]
      exact Int.le_ediv_of_mul_le (by omega) this)
    omega
  · have a1 := h.upto v
    rw [same fun _ g => decide (g ≤ v)] at g2
    omega
end Go.Proofs.Ytahaoodklfmddaa
/- A digest that covers the numbers that went in, as a thing; its calls. Conditions: none. -/
set_option maxRecDepth 100000
namespace Go.Proofs.Ytahaoodklfmddaa
open Go.RowKit Go.Maps Go.Sort Go.Shelf

def Dy (p k n : Nat) (xs : List Nat) (L : DL) : Thing := fun T i w => ∃ b, DkAt T i w p k n b L ∧ Rest k n L ∧ Cov k n xs L
def Dz (p k n : Nat) (xs : List Nat) : Thing := fun T i w => ∃ L, Dy p k n xs L T i w
theorem Dy.framed (p k n : Nat) (xs : List Nat) (L : DL) : Framed (Dy p k n xs L) := by
  rintro T T' i w w' ⟨b, h, hG⟩ hT hw
  exact ⟨b, ⟨(hw p (lt_of_heap h.head) (.inr h.tp)).trans h.head, (hT p (lt_of_heap h.head)).trans h.tp, h.map.of_block (hw b h.map.lt (.inr h.tb)), (hT b h.map.lt).trans h.tb⟩, hG⟩
theorem Dz.framed (p k n : Nat) (xs : List Nat) : Framed (Dz p k n xs) := by
  rintro T T' i w w' ⟨L, h⟩ hT hw
  exact ⟨L, Dy.framed p k n xs L T T' i w w' h hT hw⟩
theorem fitP_cov {T : Tags} {i : Nat} {w w' : World} {p k n : Nat} {xs : List Nat} {L : DL} {e : Ending} (h : FitP T i w p k n L e w') (hI : LInv n L) (hC : Cov k n xs L) (h1 : 1 ≤ k) (h2 : k ≤ 64) (h3 : n ≤ 1125899906842624) : Goes T i w (Dz p k n xs) w' := by
  obtain ⟨rfl, L', f1, f2, f3, T', n1, e1, b, hd⟩ := h
  refine ⟨T', n1, e1, L', b, hd, ⟨h1, h2, h3, f3, ?_⟩, ?_⟩
  · by_cases hl : L.length ≤ 3 * k + 64
    · rw [f1 hl]
      exact hl
    · have := fit_end (f2 (by omega)) hI
      exact few_nodes this.1 h1 h2 this.2
  · by_cases hl : L.length ≤ 3 * k + 64
    · rw [f1 hl]
      exact hC
    · exact hC.fit h1 hI (f2 (by omega))
section
variable {w0 w : World} {E : List (Nat × Thing)} {i p k n : Nat} {xs : List Nat}
theorem side_zfine (h : Side w0 ((i, Dk p (DV.none_k k)) :: E) w) (h1 : 1 ≤ k) (h2 : k ≤ 64) : Side w0 ((i, Dz p k 0 []) :: E) w := by
  obtain ⟨T, h⟩ := h
  refine ⟨T, { h with at_ := fun e he => ?_ }⟩
  rcases List.mem_cons.1 he with rfl | he
  · obtain ⟨_, b, hd, _⟩ := h.at_ _ (List.mem_cons_self ..)
    exact ⟨Dz.framed p k 0 [], [], b, hd, rest_none h1 h2, cov_none k⟩
  · exact h.at_ e (List.mem_cons_of_mem _ he)
theorem side_zins (h : Side w0 ((i, Dz p k n xs) :: E) w) (hi : ∀ e ∈ E, e.1 ≠ i) {x : Nat} (hx : x < 18446744073709551616) (hn : n < 1125899906842624) :
    Calls Try.prog 9 #[.pointer (some ⟨p, 0, none⟩), .int .u64 (x : Int)] w fun e w' => e = .returned (.tuple #[]) ∧ Hid (Side w0 ((i, Dz p k (n + 1) (xs ++ [x])) :: E) w') :=
  (h.step hi (Dz.framed p k (n + 1) (xs ++ [x])) (Pr := fun e => e = .returned (.tuple #[])) fun _ _ hA => by
    obtain ⟨L, b, hd, hR, hC⟩ := hA _ (List.mem_cons_self ..)
    have hl : L.length < 100000 := by have := hR.len; have := hR.k64; omega
    exact (ins_at hd hR.k1 hR.k64 hR.inv hn hl x hx).mono fun e w' h => ⟨h.1, fitP_cov h (hR.inv.ins hx hl) (hC.ins hR.inv.inv.asc hx) hR.k1 hR.k64 hn⟩).mono fun _ _ ⟨a, b⟩ => ⟨a, b⟩
theorem side_zmerge (h : Side w0 ((i, Dz p k n xs) :: E) w) (hi : ∀ e ∈ E, e.1 ≠ i) {j q m : Nat} {ys : List Nat} (hx : (j, Dz q k m ys) ∈ E) (hn : n + m ≤ 1125899906842624) :
    Calls Try.prog 11 #[.pointer (some ⟨p, 0, none⟩), .pointer (some ⟨q, 0, none⟩)] w fun e w' => e = .returned (.int .i64 0) ∧ Hid (Side w0 ((i, Dz p k (n + m) (xs ++ ys)) :: E) w') :=
  (h.step hi (Dz.framed p k (n + m) (xs ++ ys)) (Pr := fun e => e = .returned (.int .i64 0)) fun _ _ hA => by
    obtain ⟨L, b, hd, hR, hC⟩ := hA _ (List.mem_cons_self ..)
    obtain ⟨N, b2, hd2, hR2, hC2⟩ := hA _ (List.mem_cons_of_mem _ hx)
    obtain ⟨o0, o1, o2, _⟩ := hd2.cells
    have hl : L.length + N.length ≤ 100000 := by have := hR.len; have := hR2.len; have := hR.k64; omega
    exact (merge_at hd o0 o1 o2 hd2.map hR.k1 hR.k64 hR.inv hR2.inv hn hl).mono fun e w' h => ⟨h.1, fitP_cov h.2 (hR.inv.addAll hR2.inv hl) (hC.addAll hC2 hR.inv.inv.asc hR2.inv.inv.asc) hR.k1 hR.k64 hn⟩).mono fun _ _ ⟨a, b⟩ => ⟨a, b⟩
theorem side_zfix (h : Side w0 ((i, Dz p k n xs) :: E) w) : ∃ L, Rest k n L ∧ Cov k n xs L ∧ Side w0 ((i, Df p k n L) :: E) w := by
  obtain ⟨T, h⟩ := h
  obtain ⟨_, L, b, hd, hR, hC⟩ := h.at_ _ (List.mem_cons_self ..)
  refine ⟨L, hR, hC, T, { h with at_ := fun e he => ?_ }⟩
  rcases List.mem_cons.1 he with rfl | he
  · exact ⟨Df.framed p k n L, b, hd, hR⟩
  · exact h.at_ e (List.mem_cons_of_mem _ he)
theorem side_fcount {L : DL} (h : Side w0 E w) (hx : (i, Df p k n L) ∈ E) : Calls Try.prog 16 #[.pointer (some ⟨p, 0, none⟩)] w fun e w' => e = .returned (.int .i64 n) ∧ w = w' := by
  obtain ⟨T, b, hA, hR⟩ := side_thing h hx
  exact count_at hR.k1 hA.cells.1 hA.cells.2.1
theorem side_fnodes {L : DL} (h : Side w0 E w) (hx : (i, Df p k n L) ∈ E) : Calls Try.prog 17 #[.pointer (some ⟨p, 0, none⟩)] w (NodesAt w L) := by
  obtain ⟨T, b, hA, hR⟩ := side_thing h hx
  exact nodes_at hA.cells.1 hR.k1 hA.cells.2.2.1 hA.map hR.inv.short
end
end Go.Proofs.Ytahaoodklfmddaa
/- Contract of digest's Load at a digest's bytes, and at those with more behind. Conditions: counts that Load takes. -/
set_option maxRecDepth 100000
namespace Go.Proofs.Ytahaoodklfmddaa
open Go.RowKit Go.Maps Go.Sort Go.Shelf

theorem dequal_any {w : World} {v1 v2 : Value} {l1 l2 : List UInt8} (h1 : Holds w v1 (u8s l1)) (h2 : Holds w v2 (u8s l2)) :
    Calls Try.prog 41 #[v1, v2] w fun e w' => e = .returned (.bool (decide (l1 = l2))) ∧ w = w' := by
  refine (Try.bytes_Equal_strs v1 v2 _ _ w (toStr h1) (toStr h2)).mono ?_
  rintro e w' ⟨rfl, rfl⟩
  refine ⟨ret_bool ?_, rfl⟩
  rw [Bool.eq_iff_iff]
  simp [Lib.toList_data]
/-- what Load leaves -/
def DLoadAt (W w0 : World) (E : List (Nat × Thing)) (i k m : Nat) (L : DL) (tail : List UInt8) (e : Ending) (w' : World) : Prop :=
  ((tail = [] ∧ ∃ p, e = .returned (.tuple #[.pointer (some ⟨p, 0, none⟩), .int .i64 0]) ∧ Side w0 ((i, Df p k m L) :: E) w') ∨ (tail ≠ [] ∧ e = .returned (.tuple #[.pointer none, .int .i64 8]) ∧ Side w0 E w')) ∧ Below W.heap.size W w'
theorem rest_ok {k m : Nat} {L : DL} (hR : Rest k m L) : L.length ≤ 1000 ∧ ∀ q ∈ L, NodeOk q :=
  ⟨by have := hR.len; have := hR.k64; omega, fun q hq => node_ok hR.inv hR.n50 hq⟩

set_option maxHeartbeats 3200000 in
theorem dload_any {w0 W : World} {E : List (Nat × Thing)} (h : Side w0 E W) (i : Nat) {k m : Nat} {L : DL} (hR : Rest k m L) (hm : m ≤ 1099511627776)
    {ad : Addr} {bn bc : Nat} {tail : List UInt8} (hH : Holds W (.slice (some ad) bn bc) (u8s (bytesD L ++ tail))) (hbn : bn ≤ 100000) :
    Calls Try.prog 19 #[.int .i64 k, .slice (some ad) bn bc] W (DLoadAt W w0 E i k m L tail) := by
  obtain ⟨T, hT⟩ := h
  have KN := new_at (w := W) hR.k1 hR.k64
  obtain ⟨w1, hw1⟩ : ∃ w1, (W.alloc (.map #[] 0)).alloc (.cells #[.int .i64 k, .int .i64 0, .map (some W.heap.size)] 62) = w1 := ⟨_, rfl⟩
  have hB1 : Below W.heap.size W w1 := by rw [← hw1]; exact ((Below.refl _ W).alloc (Nat.le_refl _) _).alloc (by simp) _
  obtain ⟨T0, hT0⟩ : ∃ T0 : Tags, T0 = fun x => if x < W.heap.size then none else some i := ⟨_, rfl⟩
  have hk1 : DkAt T0 i w1 (W.heap.size + 1) k 0 W.heap.size [] := by
    rw [← hw1, hT0]
    refine ⟨?_, by simp, ?_, by simp⟩
    · have := heap_alloc_new (W.alloc (.map #[] 0)) (.cells #[.int .i64 k, .int .i64 0, .map (some W.heap.size)] 62)
      rw [World.size_alloc] at this
      exact this
    · exact (PAt.made W).of_block (heap_alloc_old _ _ (by simp))
  have hTw : ∀ g, T0 g = some i → W.heap.size ≤ g := fun g hg => Nat.le_of_not_lt fun hl => by
    rw [hT0] at hg
    simp only at hg
    rw [if_pos hl] at hg
    cases hg
  rw [hw1] at KN
  have KR := dread_at hk1 hTw hB1 hR.k1 hR.k64 hR.inv hm hR.len hH hbn
  have HT := Lib.hid hT
  have HRs := Lib.hid hR
  have HH := Lib.hid hH
  have HTW := Lib.hid (And.intro hTw (And.intro hB1 hT0))
  clear hw1 hB1 hk1 hT hR hm hH hTw
  go_enter Try.func19, Try.ntmps19
  go_wp2_with fail
  refine KN.mono ?_
  rintro e w' ⟨rfl, rfl⟩
  clear KN
  go_wp2_with fail
  refine KR.mono ?_
  rintro e w2 ⟨rfl, hG⟩
  obtain ⟨T', n1, e1, b, hd⟩ := hG.out
  obtain ⟨T2, hT2⟩ : ∃ T2 : Tags, T2 = fun x => if x < W.heap.size then T x else T' x := ⟨_, rfl⟩
  have hlow : ∀ x, x < W.heap.size → T' x = none := fun x hx => by
    rw [n1 x (Nat.lt_of_lt_of_le hx HTW.out.2.1.size), HTW.out.2.2]
    simp only
    rw [if_pos hx]
  have hb2 : W.heap.size ≤ b := Nat.le_of_not_lt fun hl => by have := hd.tb; rw [hlow b hl] at this; cases this
  have hd2 : DkAt T2 i w2 (W.heap.size + 1) k m b L := by
    rw [hT2]
    exact ⟨hd.head, by rw [if_neg (by omega)]; exact hd.tp, hd.map, by rw [if_neg (by omega)]; exact hd.tb⟩
  have hN2 : Next T W T2 := fun x hx => by rw [hT2]; simp only; rw [if_pos hx]
  have hBW2 : Below W.heap.size W w2 := HTW.out.2.1.trans (e1.below HTW.out.2.1.size (fun g hg => HTW.out.1 g hg))
  obtain ⟨p, hp⟩ : ∃ p, W.heap.size + 1 = p := ⟨_, rfl⟩
  rw [hp] at hd2
  (try rw [hp])
  have KB := dbytes_at hd2 HRs.out.k1 (rest_ok HRs.out).1 (rest_ok HRs.out).2
  have HD2 := Lib.hid hd2
  have HN2 := Lib.hid (And.intro hN2 hBW2)
  clear KR hG n1 e1 hd hlow hb2 hd2 hN2 hBW2 hT2 hp
  go_wp2_with fail
  refine KB.mono ?_
  rintro e w3 ⟨v, rfl, ho, hb⟩
  have HB3 := Lib.hid (HN2.out.2.trans (hb.mono HN2.out.2.size))
  have HS : Hid (Side w0 ((i, Df p k m L) :: E) w3) := Lib.hid (Side.add HT.out HN2.out.1 HB3.out (Df.framed p k m L) ⟨b, ⟨(hb.block p (lt_of_heap HD2.out.head)).trans HD2.out.head, HD2.out.tp, HD2.out.map.of_block (hb.block b HD2.out.map.lt), HD2.out.tb⟩, HRs.out⟩)
  have HSE : Hid (Side w0 E w3) := Lib.hid (HS.out.sub fun x hx => List.mem_cons_of_mem _ hx)
  have KE := dequal_any (Holds.of_row (by rw [u8s_len]; exact ho)) (HH.out.below HB3.out)
  clear KB ho hb HD2 HN2
  by_cases ht : tail = []
  · have e1 : decide (bytesD L = bytesD L ++ tail) = true := decide_eq_true (by rw [ht]; simp)
    rw [e1] at KE
    have HP : Hid (DLoadAt W w0 E i k m L tail (.returned (.tuple #[.pointer (some ⟨p, 0, none⟩), .int .i64 0])) w3) := Lib.hid ⟨.inl ⟨ht, p, rfl, HS.out⟩, HB3.out⟩
    clear e1 ht HS HSE HB3
    go_wp2_with fail
    refine KE.mono ?_
    rintro e w4 ⟨rfl, rfl⟩
    clear KE
    go_wp2_with fail
    refine bodyPost_ret (v := .tuple #[.pointer (some ⟨p, 0, none⟩), .int .i64 0]) (by simp [results, Try.results19, go_sem]) rfl ?_
    exact HP.out
  · have e1 : decide (bytesD L = bytesD L ++ tail) = false := decide_eq_false (fun e => ht (by simpa using e))
    rw [e1] at KE
    have HP : Hid (DLoadAt W w0 E i k m L tail (.returned (.tuple #[.pointer none, .int .i64 8])) w3) := Lib.hid ⟨.inr ⟨ht, rfl, HSE.out⟩, HB3.out⟩
    clear e1 ht HS HSE HB3
    go_wp2_with fail
    refine KE.mono ?_
    rintro e w4 ⟨rfl, rfl⟩
    clear KE
    go_wp2_with fail
    refine bodyPost_ret (v := .tuple #[.pointer none, .int .i64 8]) (by simp [results, Try.results19, go_sem]) rfl ?_
    exact HP.out
/-- Bytes of a digest beside other things -/
theorem side_dbytes {w0 w : World} {E : List (Nat × Thing)} {i p k n : Nat} {L : DL} (h : Side w0 E w) (hx : (i, Df p k n L) ∈ E) :
    Calls Try.prog 20 #[.pointer (some ⟨p, 0, none⟩)] w (BytesAtD w (bytesD L)) := by
  obtain ⟨T, b, hA, hR⟩ := side_thing h hx
  exact dbytes_at hA hR.k1 (rest_ok hR).1 (rest_ok hR).2
/-- what fit makes of these nodes -/
def FitR (k n : Nat) (L A : DL) : Prop := (L.length ≤ 3 * k + 64 → A = L) ∧ (3 * k + 64 < L.length → FitL ((n / k : Nat) : Int) L A)
theorem FitR.one {k n : Nat} {L A B : DL} (hI : LInv n L) (h : FitR k n L A) (g : FitR k n L B) : A = B := by
  by_cases hl : L.length ≤ 3 * k + 64
  · rw [h.1 hl, g.1 hl]
  · exact fit_det (h.2 (by omega)) hI B (g.2 (by omega))
/-- a digest at rest, made of these nodes by fit -/
def Dg (p k n : Nat) (L0 : DL) : Thing := fun T i w => ∃ A, FitR k n L0 A ∧ Df p k n A T i w
theorem Dg.framed (p k n : Nat) (L0 : DL) : Framed (Dg p k n L0) := by
  rintro T T' i w w' ⟨A, hA, h⟩ hT hw
  exact ⟨A, hA, Df.framed p k n A T T' i w w' h hT hw⟩
theorem fitP_dg {T : Tags} {i : Nat} {w w' : World} {p k n : Nat} {L : DL} {e : Ending} (h : FitP T i w p k n L e w') (hI : LInv n L) (h1 : 1 ≤ k) (h2 : k ≤ 64) (h3 : n ≤ 1125899906842624) : Goes T i w (Dg p k n L) w' := by
  obtain ⟨rfl, L', f1, f2, f3, T', n1, e1, b, hd⟩ := h
  refine ⟨T', n1, e1, L', ⟨f1, f2⟩, b, hd, ⟨h1, h2, h3, f3, ?_⟩⟩
  by_cases hl : L.length ≤ 3 * k + 64
  · rw [f1 hl]
    exact hl
  · have := fit_end (f2 (by omega)) hI
    exact few_nodes this.1 h1 h2 this.2
theorem side_gins {w0 w : World} {E : List (Nat × Thing)} {i p k n : Nat} {L : DL} (h : Side w0 ((i, Df p k n L) :: E) w) (hi : ∀ e ∈ E, e.1 ≠ i) {x : Nat} (hx : x < 18446744073709551616) (hn : n < 1125899906842624) :
    Calls Try.prog 9 #[.pointer (some ⟨p, 0, none⟩), .int .u64 (x : Int)] w fun e w' => e = .returned (.tuple #[]) ∧ Hid (Side w0 ((i, Dg p k (n + 1) (putD x (dcnt L x + 1) L)) :: E) w') :=
  (h.step hi (Dg.framed p k (n + 1) (putD x (dcnt L x + 1) L)) (Pr := fun e => e = .returned (.tuple #[])) fun _ _ hA => by
    obtain ⟨b, hd, hR⟩ := hA _ (List.mem_cons_self ..)
    have hl : L.length < 100000 := by have := hR.len; have := hR.k64; omega
    exact (ins_at hd hR.k1 hR.k64 hR.inv hn hl x hx).mono fun e w' h => ⟨h.1, fitP_dg h (hR.inv.ins hx hl) hR.k1 hR.k64 hn⟩).mono fun _ _ ⟨a, b⟩ => ⟨a, b⟩
/-- two digests that fit made of the same nodes are the same -/
theorem side_gfix {w0 w : World} {p q k n : Nat} {L0 : DL} (hI : LInv n L0) (h : Side w0 [(1, Dg p k n L0), (2, Dg q k n L0)] w) : ∃ A, Rest k n A ∧ Side w0 [(1, Df p k n A), (2, Df q k n A)] w := by
  obtain ⟨T, h⟩ := h
  obtain ⟨_, A, hA, hd⟩ := h.at_ (1, Dg p k n L0) (by simp)
  obtain ⟨_, B, hB, hd2⟩ := h.at_ (2, Dg q k n L0) (by simp)
  obtain rfl := FitR.one hI hA hB
  have hR : Rest k n A := by obtain ⟨b, _, hr⟩ := hd; exact hr
  refine ⟨A, hR, T, { h with at_ := fun e he => ?_ }⟩
  simp only [List.mem_cons, List.not_mem_nil, or_false] at he
  rcases he with rfl | rfl
  · exact ⟨Df.framed p k n A, hd⟩
  · exact ⟨Df.framed q k n A, hd2⟩
end Go.Proofs.Ytahaoodklfmddaa
