/- The texts DigCovR DigZ, one behind the other; each one's own comment says what it holds. -/
import Derived.Test.YtahaoodklfmddaaDigCov
import Derived.Test.YtahaoodklfmddaaDigestBackRowGA
import Derived.Test.YtahaoodklfmddaaDigMerge
/- How wrong a rank can be. Conditions: as stated. -/
set_option maxRecDepth 100000
namespace Go.Proofs.Ytahaoodklfmddaa
open Go.RowKit Go.Maps Go.Sort Go.Shelf

/-- how wrong a rank can be -/
theorem Cov.rank {k n : Nat} {xs : List Nat} {L D : DL} (h : Cov k n xs L) (hk : 1 ≤ k) (hI : LInv n L) (hR : RankedG L D) {r : Int} (h1 : 1 ≤ r) (h2 : r ≤ n) :
    ∃ v, rankG D r = some v ∧ ((xs.countP (fun y => decide (y < v)) : Nat) : Int) < r + 64 * ((n / k : Nat) : Int) ∧ r ≤ (xs.countP (fun y => decide (y ≤ v)) : Nat) := by
  have hT : total L = n := hI.inv.sum
  obtain ⟨v, e, g1, g2⟩ := rank_csum hI.inv.pos hR h1 (by omega)
  have same : ∀ f : Nat → Nat → Bool, csum (fun c => f c (gr c)) L = csum (fun c => f c (gR c)) L := fun f => by
    have : ∀ {M : DL}, (∀ q ∈ M, NodeC q.1) → csum (fun c => f c (gr c)) M = csum (fun c => f c (gR c)) M := fun {M} hM => by
      induction M with
      | nil => rfl
      | cons p q ih =>
        show (if f p.1 (gr p.1) then p.2 else 0) + csum (fun c => f c (gr c)) q = (if f p.1 (gR p.1) then p.2 else 0) + csum (fun c => f c (gR c)) q
        rw [ih fun x hx => hM x (List.mem_cons_of_mem _ hx), gr_gR (hM p (List.mem_cons_self ..))]
    exact this hI.low
  refine ⟨v, e, ?_, ?_⟩
  · have a1 := h.low v
    rw [same fun _ g => decide (g < v)] at g1
    have a2 : csum (fun c => decide (lR c < v)) L ≤ csum (fun c => decide (gR c < v)) L + csum (fun c => decide (lR c < v) && decide (v ≤ gR c)) L := by
      have hp := hI.inv.pos
      clear g1 g2 a1 same hR hI h hT
      induction L with
      | nil => simp [csum]
      | cons p q ih =>
        have ih := ih fun x hx => hp x (List.mem_cons_of_mem _ hx)
        have hpp := hp p (List.mem_cons_self ..)
        show (if decide (lR p.1 < v) then p.2 else 0) + csum (fun c => decide (lR c < v)) q ≤ ((if decide (gR p.1 < v) then p.2 else 0) + csum (fun c => decide (gR c < v)) q) + ((if (decide (lR p.1 < v) && decide (v ≤ gR p.1)) then p.2 else 0) + csum (fun c => decide (lR c < v) && decide (v ≤ gR c)) q)
        by_cases b1 : lR p.1 < v <;> by_cases b2 : gR p.1 < v <;> simp [b1, b2] <;> omega
    have a3 := csum_kinds (f := fun c => decide (lR c < v) && decide (v ≤ gR c)) (g := fun j c => decide (c = cd (j + 1) (v / 2 ^ (j + 1)))) hI.inv.pos 64 (fun q hq hf => by
      simp only [Bool.and_eq_true, decide_eq_true_eq] at hf
      obtain ⟨j, hj, hc⟩ := about_one hf.1 hf.2 (hI.low q hq).1
      exact ⟨j, hj, decide_eq_true hc⟩)
    have a4 := sum_le (fun j => csum (fun c => decide (c = cd (j + 1) (v / 2 ^ (j + 1)))) L) ((n / k : Nat) : Int) 64 (fun j _ => by
      show csum (fun c => decide (c = cd (j + 1) (v / 2 ^ (j + 1)))) L ≤ _
      rw [csum_at hI.inv.asc]
      have := h.few (cd (j + 1) (v / 2 ^ (j + 1))) (Nat.le_trans (show 18446744073709551616 ≤ (j + 1) * 18446744073709551616 by omega) (Nat.le_add_right _ _))
      rw [Int.natCast_ediv]
      exact Int.le_ediv_of_mul_le (by omega) this)
    omega
  · have a1 := h.upto v
    rw [same fun _ g => decide (g ≤ v)] at g2
    omega
end Go.Proofs.Ytahaoodklfmddaa
/- A digest that covers the numbers that went in, as a thing; its calls. Conditions: none. -/
set_option maxRecDepth 100000
namespace Go.Proofs.Ytahaoodklfmddaa
open Go.RowKit Go.Maps Go.Sort Go.Shelf

def Dy (p k n : Nat) (xs : List Nat) (L : DL) : Thing := fun T i w => ∃ b, DkAt T i w p k n b L ∧ Rest k n L ∧ Cov k n xs L
def Dz (p k n : Nat) (xs : List Nat) : Thing := fun T i w => ∃ L, Dy p k n xs L T i w
theorem Dy.framed (p k n : Nat) (xs : List Nat) (L : DL) : Framed (Dy p k n xs L) := by
  rintro T T' i w w' ⟨b, h, hG⟩ hT hw
  exact ⟨b, ⟨(hw p (lt_of_heap h.head) (.inr h.tp)).trans h.head, (hT p (lt_of_heap h.head)).trans h.tp, h.map.of_block (hw b h.map.lt (.inr h.tb)), (hT b h.map.lt).trans h.tb⟩, hG⟩
theorem Dz.framed (p k n : Nat) (xs : List Nat) : Framed (Dz p k n xs) := by
  rintro T T' i w w' ⟨L, h⟩ hT hw
  exact ⟨L, Dy.framed p k n xs L T T' i w w' h hT hw⟩
theorem fitP_cov {T : Tags} {i : Nat} {w w' : World} {p k n : Nat} {xs : List Nat} {L : DL} {e : Ending} (h : FitP T i w p k n L e w') (hI : LInv n L) (hC : Cov k n xs L) (h1 : 1 ≤ k) (h2 : k ≤ 64) (h3 : n ≤ 1125899906842624) : Goes T i w (Dz p k n xs) w' := by
  obtain ⟨rfl, L', f1, f2, f3, T', n1, e1, b, hd⟩ := h
  refine ⟨T', n1, e1, L', b, hd, ⟨h1, h2, h3, f3, ?_⟩, ?_⟩
  · by_cases hl : L.length ≤ 3 * k + 64
    · rw [f1 hl]
      exact hl
    · have := fit_end (f2 (by omega)) hI
      exact few_nodes this.1 h1 h2 this.2
  · by_cases hl : L.length ≤ 3 * k + 64
    · rw [f1 hl]
      exact hC
    · exact hC.fit h1 hI (f2 (by omega))
section
variable {w0 w : World} {E : List (Nat × Thing)} {i p k n : Nat} {xs : List Nat}
theorem side_zfine (h : Side w0 ((i, Dk p (DV.none_k k)) :: E) w) (h1 : 1 ≤ k) (h2 : k ≤ 64) : Side w0 ((i, Dz p k 0 []) :: E) w := by
  obtain ⟨T, h⟩ := h
  refine ⟨T, { h with at_ := fun e he => ?_ }⟩
  rcases List.mem_cons.1 he with rfl | he
  · obtain ⟨_, b, hd, _⟩ := h.at_ _ (List.mem_cons_self ..)
    exact ⟨Dz.framed p k 0 [], [], b, hd, rest_none h1 h2, cov_none k⟩
  · exact h.at_ e (List.mem_cons_of_mem _ he)
theorem side_zins (h : Side w0 ((i, Dz p k n xs) :: E) w) (hi : ∀ e ∈ E, e.1 ≠ i) {x : Nat} (hx : x < 18446744073709551616) (hn : n < 1125899906842624) :
    Calls Try.prog 9 #[.pointer (some ⟨p, 0, none⟩), .int .u64 (x : Int)] w fun e w' => e = .returned (.tuple #[]) ∧ Hid (Side w0 ((i, Dz p k (n + 1) (xs ++ [x])) :: E) w') :=
  (h.step hi (Dz.framed p k (n + 1) (xs ++ [x])) (Pr := fun e => e = .returned (.tuple #[])) fun _ _ hA => by
    obtain ⟨L, b, hd, hR, hC⟩ := hA _ (List.mem_cons_self ..)
    have hl : L.length < 100000 := by have := hR.len; have := hR.k64; omega
    exact (ins_at hd hR.k1 hR.k64 hR.inv hn hl x hx).mono fun e w' h => ⟨h.1, fitP_cov h (hR.inv.ins hx hl) (hC.ins hR.inv.inv.asc hx) hR.k1 hR.k64 hn⟩).mono fun _ _ ⟨a, b⟩ => ⟨a, b⟩
theorem side_zmerge (h : Side w0 ((i, Dz p k n xs) :: E) w) (hi : ∀ e ∈ E, e.1 ≠ i) {j q m : Nat} {ys : List Nat} (hx : (j, Dz q k m ys) ∈ E) (hn : n + m ≤ 1125899906842624) :
    Calls Try.prog 11 #[.pointer (some ⟨p, 0, none⟩), .pointer (some ⟨q, 0, none⟩)] w fun e w' => e = .returned (.int .i64 0) ∧ Hid (Side w0 ((i, Dz p k (n + m) (xs ++ ys)) :: E) w') :=
  (h.step hi (Dz.framed p k (n + m) (xs ++ ys)) (Pr := fun e => e = .returned (.int .i64 0)) fun _ _ hA => by
    obtain ⟨L, b, hd, hR, hC⟩ := hA _ (List.mem_cons_self ..)
    obtain ⟨N, b2, hd2, hR2, hC2⟩ := hA _ (List.mem_cons_of_mem _ hx)
    obtain ⟨o0, o1, o2, _⟩ := hd2.cells
    have hl : L.length + N.length ≤ 100000 := by have := hR.len; have := hR2.len; have := hR.k64; omega
    exact (merge_at hd o0 o1 o2 hd2.map hR.k1 hR.k64 hR.inv hR2.inv hn hl).mono fun e w' h => ⟨h.1, fitP_cov h.2 (hR.inv.addAll hR2.inv hl) (hC.addAll hC2 hR.inv.inv.asc hR2.inv.inv.asc) hR.k1 hR.k64 hn⟩).mono fun _ _ ⟨a, b⟩ => ⟨a, b⟩
theorem side_zfix (h : Side w0 ((i, Dz p k n xs) :: E) w) : ∃ L, Rest k n L ∧ Cov k n xs L ∧ Side w0 ((i, Df p k n L) :: E) w := by
  obtain ⟨T, h⟩ := h
  obtain ⟨_, L, b, hd, hR, hC⟩ := h.at_ _ (List.mem_cons_self ..)
  refine ⟨L, hR, hC, T, { h with at_ := fun e he => ?_ }⟩
  rcases List.mem_cons.1 he with rfl | he
  · exact ⟨Df.framed p k n L, b, hd, hR⟩
  · exact h.at_ e (List.mem_cons_of_mem _ he)
theorem side_fcount {L : DL} (h : Side w0 E w) (hx : (i, Df p k n L) ∈ E) : Calls Try.prog 16 #[.pointer (some ⟨p, 0, none⟩)] w fun e w' => e = .returned (.int .i64 n) ∧ w = w' := by
  obtain ⟨T, b, hA, hR⟩ := side_thing h hx
  exact count_at hR.k1 hA.cells.1 hA.cells.2.1
theorem side_fnodes {L : DL} (h : Side w0 E w) (hx : (i, Df p k n L) ∈ E) : Calls Try.prog 17 #[.pointer (some ⟨p, 0, none⟩)] w (NodesAt w L) := by
  obtain ⟨T, b, hA, hR⟩ := side_thing h hx
  exact nodes_at hA.cells.1 hR.k1 hA.cells.2.2.1 hA.map hR.inv.short
end
end Go.Proofs.Ytahaoodklfmddaa
