/- The texts RqFour OpenStructs RqQuad, one behind the other; each one's own comment says what it holds. -/
import Derived.Test.YtahaoodklfmddaaDigestActsRowGQ
import Derived.Test.YtahaoodklfmddaaDigestActsRowGR
import Derived.Test.YtahaoodklfmddaaDigestActsRowGO
import Derived.Test.YtahaoodklfmddaaDigestActsRowGN
import Derived.Test.YtahaoodklfmddaaGen
import Derived.ProofKit
import Derived.OpenShut
import Derived.ChangeOld
import Derived.Deep.Slices
import Derived.Deep.Fields
import Derived.ChangeSame
import Derived.Lib.SmallJoins
/- Two digests and the document's two, side by side, with a box: what each call does to them. Conditions: none. -/
set_option maxRecDepth 100000
namespace Go.Proofs.Ytahaoodklfmddaa
open Go.RowKit Go.Maps Go.Sort Go.Shelf

/-- how many numbers, and the nodes -/
structure DS where
  n : Nat
  L : DL
/-- what an Insert leaves -/
def InsR (k : Nat) (V : DS) (x : Nat) (A : DS) : Prop := (V.n < 1125899906842624 ∧ A.n = V.n + 1 ∧ FitR k (V.n + 1) (putD x (dcnt V.L x + 1) V.L) A.L) ∨ (1125899906842624 ≤ V.n ∧ A = V)
def RInsR (k : Nat) (V : DS) (x : Nat) (A : DS) : Prop := (V.n < 1125899906842624 ∧ A.n = V.n + 1 ∧ RFitR k (V.n + 1) (putD x (dcnt V.L x + 1) V.L) A.L) ∨ (1125899906842624 ≤ V.n ∧ A = V)
/-- what a Merge leaves, and tells -/
def MrgR (k : Nat) (V U : DS) (c : Int) (A : DS) : Prop := (V.n + U.n ≤ 1125899906842624 ∧ c = 0 ∧ A.n = V.n + U.n ∧ FitR k (V.n + U.n) (addAll V.L U.L) A.L) ∨ (1125899906842624 < V.n + U.n ∧ c = 7 ∧ A = V)
def RMrgR (k : Nat) (V U : DS) (c : Int) (A : DS) : Prop := (V.n + U.n ≤ 1125899906842624 ∧ c = 0 ∧ A.n = V.n + U.n ∧ RFitR k (V.n + U.n) (addAll V.L U.L) A.L) ∨ (1125899906842624 < V.n + U.n ∧ c = 7 ∧ A = V)
theorem fit_same {k n : Nat} {L A B : DL} (hI : LInv n L) (h : FitR k n L A) (g : RFitR k n L B) : A = B := by
  by_cases hl : L.length ≤ 3 * k + 64
  · rw [h.1 hl, g.1 hl]
  · exact fit_pass (h.2 (by omega)) hI B (g.2 (by omega))
theorem rest_few {k n : Nat} {L : DL} (h : Rest k n L) : L.length ≤ 1000 := by have := h.len; have := h.k64; omega
theorem ins_one {k : Nat} {V A B : DS} {x : Nat} (hR : Rest k V.n V.L) (hx : x < 18446744073709551616) (h : InsR k V x A) (g : RInsR k V x B) : B = A := by
  have := rest_few hR
  rcases h with ⟨h1, h2, h3⟩ | ⟨h1, h2⟩
  · rcases g with ⟨_, g2, g3⟩ | ⟨g1, _⟩
    · cases A; cases B
      simp only at h2 h3 g2 g3
      rw [h2, g2, fit_same (hR.inv.ins hx (by omega)) h3 g3]
    · omega
  · rcases g with ⟨g1, _⟩ | ⟨_, g2⟩
    · omega
    · rw [h2, g2]
theorem mrg_one {k : Nat} {V U A B : DS} {c d : Int} (hR : Rest k V.n V.L) (hU : Rest k U.n U.L) (h : MrgR k V U c A) (g : RMrgR k V U d B) : B = A ∧ d = c := by
  have := rest_few hR
  have := rest_few hU
  rcases h with ⟨h1, h2, h3, h4⟩ | ⟨h1, h2, h3⟩
  · rcases g with ⟨_, g2, g3, g4⟩ | ⟨g1, _⟩
    · refine ⟨?_, by rw [h2, g2]⟩
      cases A; cases B
      simp only at h3 h4 g3 g4
      rw [h3, g3, fit_same (hR.inv.addAll hU.inv (by omega)) h4 g4]
    · omega
  · rcases g with ⟨g1, _⟩ | ⟨_, g2, g3⟩
    · omega
    · exact ⟨by rw [h3, g3], by rw [h2, g2]⟩
/-- one of these things -/
def Ex (R : DS → Prop) (F : DS → Thing) : Thing := fun T i w => ∃ A, R A ∧ F A T i w
theorem Ex.framed {R : DS → Prop} {F : DS → Thing} (hF : ∀ A, Framed (F A)) : Framed (Ex R F) := by
  rintro T T' i w w' ⟨A, hA, h⟩ hT hw
  exact ⟨A, hA, hF A T T' i w w' h hT hw⟩
theorem side_ex {w0 w : World} {E : List (Nat × Thing)} {i : Nat} {R : DS → Prop} {F : DS → Thing} (hF : ∀ A, Framed (F A)) (h : Side w0 ((i, Ex R F) :: E) w) : ∃ A, R A ∧ Side w0 ((i, F A) :: E) w := by
  obtain ⟨T, h⟩ := h
  obtain ⟨A, hA, h1⟩ := (h.at_ _ (List.mem_cons_self ..)).2
  refine ⟨A, hA, T, h.base, h.old, fun e he => ?_⟩
  rcases List.mem_cons.1 he with rfl | he
  · exact ⟨hF A, h1⟩
  · exact h.at_ e (List.mem_cons_of_mem _ he)
theorem Goes.imp {T : Tags} {i : Nat} {w w' : World} {A B : Thing} (h : Goes T i w A w') (hi : ∀ T' w'', A T' i w'' → B T' i w'') : Goes T i w B w' := by
  obtain ⟨T', n1, e1, a⟩ := h
  exact ⟨T', n1, e1, hi _ _ a⟩
/-- a digest, and the document's -/
def Pd (p k : Nat) (V : DS) : Thing := Df p k V.n V.L
def Rq (p k : Nat) (V : DS) : Thing := Rd p k (V.n : Int) V.L
theorem Pd.framed (p k : Nat) (V : DS) : Framed (Pd p k V) := Df.framed p k V.n V.L
theorem Rq.framed (p k : Nat) (V : DS) : Framed (Rq p k V) := Rd.framed p k (V.n : Int) V.L
theorem Pd.rest {p k : Nat} {V : DS} {T : Tags} {i : Nat} {w : World} (h : Pd p k V T i w) : Rest k V.n V.L := by
  obtain ⟨b, _, hR⟩ := h
  exact hR
theorem pins_at {T : Tags} {i : Nat} {w : World} {p k x : Nat} {V : DS} (h : Pd p k V T i w) (hx : x < 18446744073709551616) :
    Calls Try.prog 9 #[.pointer (some ⟨p, 0, none⟩), .int .u64 (x : Int)] w fun e w' => e = .returned (.tuple #[]) ∧ Goes T i w (Ex (InsR k V x) (Pd p k)) w' := by
  have h0 := h
  obtain ⟨b, hd, hR⟩ := h
  have hl := rest_few hR
  by_cases hn : V.n < 1125899906842624
  · refine (ins_at hd hR.k1 hR.k64 hR.inv hn (by omega) x hx).mono fun e w' h => ⟨h.1, ?_⟩
    refine (fitP_dg h (hR.inv.ins hx (by omega)) hR.k1 hR.k64 hn).imp ?_
    rintro T' w'' ⟨A, hA, hf⟩
    exact ⟨⟨V.n + 1, A⟩, .inl ⟨hn, rfl, hA⟩, hf⟩
  · have e := hR.n50
    have hc := hd.cells.2.1
    rw [show V.n = 1125899906842624 by omega] at hc
    refine (ins_full hR.k1 hd.cells.1 hc).mono ?_
    rintro e w' ⟨rfl, rfl⟩
    exact ⟨rfl, Goes.start (A := Ex (InsR k V x) (Pd p k)) ⟨V, .inr ⟨by omega, rfl⟩, h0⟩⟩
theorem rins_at {T : Tags} {i : Nat} {w : World} {p k x : Nat} {V : DS} (h : Rq p k V T i w) (hR : Rest k V.n V.L) (hx : x < 18446744073709551616) :
    Calls Try.prog 10 #[.pointer (some ⟨p, 0, none⟩), .int .u64 (x : Int)] w fun e w' => e = .returned (.tuple #[]) ∧ Goes T i w (Ex (RInsR k V x) (Rq p k)) w' := by
  have h0 := h
  obtain ⟨v, hd⟩ := h
  have hl := rest_few hR
  by_cases hn : V.n < 1125899906842624
  · refine (rqins_at hd hR.k1 hR.k64 hR.inv hn (by omega) hx).mono fun e w' h => ⟨h.1, ?_⟩
    obtain ⟨_, L', hF, _, hg⟩ := h
    exact hg.out.imp fun T' w'' hh => ⟨⟨V.n + 1, L'⟩, .inl ⟨hn, rfl, hF⟩, hh⟩
  · refine (rqins_full hd.cells.2.2.1 (by omega)).mono ?_
    rintro e w' ⟨rfl, rfl⟩
    exact ⟨rfl, Goes.start (A := Ex (RInsR k V x) (Rq p k)) ⟨V, .inr ⟨by omega, rfl⟩, h0⟩⟩
theorem pmrg_at {T : Tags} {i j : Nat} {w : World} {p q k : Nat} {V U : DS} (h : Pd p k V T i w) (g : Pd q k U T j w) :
    Calls Try.prog 11 #[.pointer (some ⟨p, 0, none⟩), .pointer (some ⟨q, 0, none⟩)] w fun e w' => ∃ c : Int, e = .returned (.int .i64 c) ∧ Goes T i w (Ex (MrgR k V U c) (Pd p k)) w' := by
  have h0 := h
  obtain ⟨b, hd, hR⟩ := h
  obtain ⟨b2, hd2, hR2⟩ := g
  obtain ⟨o0, o1, o2, _⟩ := hd2.cells
  have hl := rest_few hR
  have hl2 := rest_few hR2
  by_cases hn : V.n + U.n ≤ 1125899906842624
  · refine (merge_at hd o0 o1 o2 hd2.map hR.k1 hR.k64 hR.inv hR2.inv hn (by omega)).mono fun e w' h => ⟨0, h.1, ?_⟩
    refine (fitP_dg h.2 (hR.inv.addAll hR2.inv (by omega)) hR.k1 hR.k64 hn).imp ?_
    rintro T' w'' ⟨A, hA, hf⟩
    exact ⟨⟨V.n + U.n, A⟩, .inl ⟨hn, rfl, rfl, hA⟩, hf⟩
  · have := hR.n50
    refine (merge_full hR.k1 hd.cells.1 hd.cells.2.1 o0 o1 (by omega) (by omega) (by omega)).mono ?_
    rintro e w' ⟨rfl, hb⟩
    exact ⟨7, rfl, (Goes.start (A := Ex (MrgR k V U 7) (Pd p k)) ⟨V, .inr ⟨by omega, rfl, rfl⟩, h0⟩).below (Ex.framed fun A => Pd.framed p k A) hb⟩
theorem rmrg_at {T : Tags} {i j : Nat} {w : World} {p q k : Nat} {V U : DS} (h : Rq p k V T i w) (g : Rq q k U T j w) (hij : j ≠ i) (hR : Rest k V.n V.L) (hR2 : Rest k U.n U.L) :
    Calls Try.prog 12 #[.pointer (some ⟨p, 0, none⟩), .pointer (some ⟨q, 0, none⟩)] w fun e w' => ∃ c : Int, e = .returned (.int .i64 c) ∧ Goes T i w (Ex (RMrgR k V U c) (Rq p k)) w' := by
  have h0 := h
  obtain ⟨v, hd⟩ := h
  obtain ⟨v2, hd2⟩ := g
  have hl := rest_few hR
  have hl2 := rest_few hR2
  by_cases hn : V.n + U.n ≤ 1125899906842624
  · refine (rqmerge_at hd hd2 hij hR.k1 hR.k64 hR.inv hR2.inv hn (by omega)).mono fun e w' h => ⟨0, h.1, ?_⟩
    obtain ⟨_, L', hF, _, hg⟩ := h.2
    exact hg.out.imp fun T' w'' hh => ⟨⟨V.n + U.n, L'⟩, .inl ⟨hn, rfl, rfl, hF⟩, hh⟩
  · have := hR.n50
    refine (rqmerge_full hd.cells.1 hd.cells.2.2.1 hd2.cells.1 hd2.cells.2.2.1 (by omega) (by omega) (by omega)).mono ?_
    rintro e w' ⟨rfl, hb⟩
    exact ⟨7, rfl, (Goes.start (A := Ex (RMrgR k V U 7) (Rq p k)) ⟨V, .inr ⟨by omega, rfl, rfl⟩, h0⟩).below (Ex.framed fun A => Rq.framed p k A) hb⟩
end Go.Proofs.Ytahaoodklfmddaa
/- A slice of structs that came in: the cells of each element. Conditions: fields of one cell each. -/
set_option maxRecDepth 100000
namespace Go.Proofs.Ytahaoodklfmddaa
open Go.ChangeShapes Go.WideShapes Go.ChangeAt Go.RowKit Go.Maps Go.Sort Go.Deep Go.Joins

section
variable {H : Type} {enc : TypeId × Value → H} {P : Program} {w : World} {base : Nat} {spare : Nat → Bool} {held : Bool}
/-- a slice of structs of fields of one cell each: the cells of each element, and how each reads -/
theorem open_structs {t e : TypeId} {fs : Array Field} {fuel : Nat} {cs : List Value} {x : DataW H × List MemPlace} (ht : P.underlying t = some (.slice e)) (he : P.underlying e = some (.struct fs))
    (hone : oneCellFields P fs = true) (hC : P.cellsOf e = fs.size) (h : DataW.trod enc P w base spare held fuel t cs = some x) :
    cs = [.slice none 0 0] ∨
    ∃ (a : Addr) (len cap : Nat), cs = [.slice (some a) len cap] ∧ len ≤ cap ∧ cap ≤ maxLen ∧
      ∀ i, i < len → ∃ n : Nat, ∀ (j : Nat) (f : Field), fs[j]? = some f → ∃ (v : Value) (y : DataW H × List MemPlace), w.cell? (a.add (i * fs.size + j)) = some v ∧ DataW.trod enc P w base spare held n f.type [v] = some y := by
  rcases open_slice ht h with ⟨h0, _⟩ | ⟨a, len, cap, m, n, D, Pl, hcs, _, hl, hmx, hmm, _, hi⟩
  · exact .inl h0
  · refine .inr ⟨a, len, cap, hcs, hl, hmx, fun i hil => ?_⟩
    have him : i < m := by rw [hmm]; split <;> omega
    obtain ⟨cs', hc, ht'⟩ := hi i him
    rw [hC] at hc
    obtain ⟨ys, n', _, _, hlen, hyl, hf⟩ := DataW.trod_struct he ht'
    obtain ⟨_, hcl, hat⟩ := World.cells?_some hc
    refine ⟨n', fun j f hj => ?_⟩
    obtain ⟨ho, hk⟩ := hone_of hone j f hj
    have hjl : j < fs.size := (Array.getElem?_eq_some_iff.1 hj).1
    have hcell := hat j hjl
    have hv : cs'[j]? = some (cs'[j]'(by omega)) := List.getElem?_eq_getElem (by omega)
    have h1 := hf j f hj
    rw [ho, hk] at h1
    have hone' : (cs'.drop j).take 1 = [cs'[j]'(by omega)] := by
      rw [List.drop_eq_getElem_cons (by omega)]
      rfl
    rw [hone'] at h1
    have hys : ys[j]? = some (ys[j]'(by omega)) := List.getElem?_eq_getElem (by omega)
    refine ⟨_, _, ?_, h1.trans hys⟩
    rw [← Go.Deep.add_add, hcell, hv]
end

theorem add_offn (a : Addr) (k j : Nat) (hj : 0 < j) : a.add (k + j) = ⟨(a.add k).block, (a.add k).off + j, none⟩ := by
  unfold Addr.add
  by_cases h1 : k = 0
  · subst h1
    rw [if_neg (by omega), if_pos rfl, Nat.zero_add]
  · rw [if_neg (by omega), if_neg h1]
    simp [Nat.add_assoc]
end Go.Proofs.Ytahaoodklfmddaa
/- Two digests and the document's two, with a box and a copy: the calls of DigestActs. Conditions: none. -/
set_option maxRecDepth 100000
namespace Go.Proofs.Ytahaoodklfmddaa
open Go.RowKit Go.Maps Go.Sort Go.Shelf

theorem side_two {w0 w : World} {E : List (Nat × Thing)} {i j : Nat} (h : Side w0 E w) {A B : Thing} (hx : (i, A) ∈ E) (hy : (j, B) ∈ E) : ∃ T, A T i w ∧ B T j w := by
  obtain ⟨T, h⟩ := h
  exact ⟨T, (h.at_ _ hx).2, (h.at_ _ hy).2⟩
theorem pcopy_at {T : Tags} {i j : Nat} {w : World} {p k : Nat} {V : DS} (h : Pd p k V T i w) :
    Calls Try.prog 14 #[.pointer (some ⟨p, 0, none⟩)] w fun e w' => ∃ q, e = .returned (.pointer (some ⟨q, 0, none⟩)) ∧ Below w.heap.size w w' ∧ ∃ T', Next T w T' ∧ Pd q k V T' j w' := by
  obtain ⟨b, hd, hR⟩ := h
  refine (dcopy_any (V := ⟨k, V.n, V.L⟩) (j := j) ⟨b, hd, ⟨hR.k1, hR.k64, hR.n50, hR.inv.inv.pos, fun q hq => (rqnode_le hR.inv.inv hq).2, hR.len⟩⟩).mono ?_
  rintro e w' ⟨q, he, hb, T', hn, b', hd', _⟩
  exact ⟨q, he, hb, T', hn, b', hd', hR⟩
/-- the four, and a box -/
def Four (w : World) (b : Nat) (ob : Obj) (p q r o k : Nat) (V U V' U' : DS) (W : World) : Prop :=
  ∃ i j a d, [0, i, j, a, d].Nodup ∧ Side w [(i, Pd p k V), (j, Pd q k U), (a, Rq r k V'), (d, Rq o k U'), (0, Box b ob)] W
section
variable {w W W' : World} {b p q r o x k y : Nat} {ob : Obj} {V U V' U' V1 : DS} {E E' : List (Nat × Thing)}
theorem five_ne {i j a d : Nat} (h : [0, i, j, a, d].Nodup) : (0 ≠ i ∧ 0 ≠ j ∧ 0 ≠ a ∧ 0 ≠ d) ∧ (i ≠ j ∧ i ≠ a ∧ i ≠ d) ∧ (j ≠ a ∧ j ≠ d) ∧ a ≠ d := by
  simp at h
  obtain ⟨⟨h1, h2, h3, h4⟩, ⟨h5, h6, h7⟩, ⟨h8, h9⟩, h10⟩ := h
  exact ⟨⟨fun e => h1 e, fun e => h2 e, fun e => h3 e, fun e => h4 e⟩, ⟨h5, h6, h7⟩, ⟨h8, h9⟩, h10⟩
theorem Four.below (h : Four w b ob p q r o k V U V' U' W) (hb : Below W.heap.size W W') : Four w b ob p q r o k V U V' U' W' := by
  obtain ⟨i, j, a, d, hn, h⟩ := h
  exact ⟨i, j, a, d, hn, h.below hb⟩
theorem Four.base (h : Four w b ob p q r o k V U V' U' W) : Below w.heap.size w W := by
  obtain ⟨i, j, a, d, hn, h⟩ := h
  exact h.base
theorem Four.heap (h : Four w b ob p q r o k V U V' U' W) : W.heap[b]? = some ob := by
  obtain ⟨i, j, a, d, hn, h⟩ := h
  exact h.heap (i := 0) (by simp)
theorem Four.rest (h : Four w b ob p q r o k V U V' U' W) : Rest k V.n V.L ∧ Rest k U.n U.L := by
  obtain ⟨i, j, a, d, hn, h⟩ := h
  obtain ⟨T, h1, h2⟩ := side_two h (A := Pd p k V) (B := Pd q k U) (i := i) (j := j) (by simp) (by simp)
  exact ⟨h1.rest, h2.rest⟩
theorem Four.swap (h : Four w b ob p q r o k V U V' U' W) : Four w b ob q p o r k U V U' V' W := by
  obtain ⟨i, j, a, d, hn, h⟩ := h
  refine ⟨j, i, d, a, ?_, h.sub (fun x hx => ?_)⟩
  · have := five_ne hn
    simp; omega
  · simp at hx ⊢
    rcases hx with rfl | rfl | rfl | rfl | rfl <;> simp
theorem f_ins (h : Four w b ob p q r o k V U V' U' W) (hy : y < 18446744073709551616) :
    Calls Try.prog 9 #[.pointer (some ⟨p, 0, none⟩), .int .u64 (y : Int)] W fun e w' => e = .returned (.tuple #[]) ∧ ∃ A, InsR k V y A ∧ Four w b ob p q r o k A U V' U' w' := by
  obtain ⟨i, j, a, d, hn, h⟩ := h
  have hh := five_ne hn
  refine (h.step (fun e he => by simp at he; rcases he with rfl | rfl | rfl | rfl <;> simp <;> omega) (Ex.framed fun A => Pd.framed p k A) (Pr := fun e => e = .returned (.tuple #[])) fun _ _ hA => pins_at (hA _ (List.mem_cons_self ..)) hy).mono fun _ _ ⟨g1, g2⟩ => ⟨g1, ?_⟩
  obtain ⟨A, hA, h3⟩ := side_ex (fun A => Pd.framed p k A) g2
  exact ⟨A, hA, i, j, a, d, hn, h3⟩
theorem f_rins (h : Four w b ob p q r o k V U V' U' W) (hR : Rest k V'.n V'.L) (hy : y < 18446744073709551616) :
    Calls Try.prog 10 #[.pointer (some ⟨r, 0, none⟩), .int .u64 (y : Int)] W fun e w' => e = .returned (.tuple #[]) ∧ ∃ A, RInsR k V' y A ∧ Four w b ob p q r o k V U A U' w' := by
  obtain ⟨i, j, a, d, hn, h⟩ := h
  have hh := five_ne hn
  have h1 := h.sub (E' := [(a, Rq r k V'), (i, Pd p k V), (j, Pd q k U), (d, Rq o k U'), (0, Box b ob)]) (fun x hx => by simp at hx ⊢; rcases hx with rfl | rfl | rfl | rfl | rfl <;> simp)
  refine (h1.step (fun e he => by simp at he; rcases he with rfl | rfl | rfl | rfl <;> simp <;> omega) (Ex.framed fun A => Rq.framed r k A) (Pr := fun e => e = .returned (.tuple #[])) fun _ _ hA => rins_at (hA _ (List.mem_cons_self ..)) hR hy).mono fun _ _ ⟨g1, g2⟩ => ⟨g1, ?_⟩
  obtain ⟨A, hA, h3⟩ := side_ex (fun A => Rq.framed r k A) g2
  refine ⟨A, hA, i, j, a, d, hn, h3.sub (fun x hx => ?_)⟩
  simp at hx ⊢; rcases hx with rfl | rfl | rfl | rfl | rfl <;> simp
/-- a call that tells a number and leaves one of these things -/
theorem step_code {P : Program} {f : FuncId} {args : Array Value} {w0 W : World} {E : List (Nat × Thing)} {i : Nat} {A : Thing} {R : Int → DS → Prop} {F : DS → Thing} (hF : ∀ A, Framed (F A)) (h : Side w0 ((i, A) :: E) W) (hi : ∀ e ∈ E, e.1 ≠ i)
    (hc : ∀ T, (∀ e ∈ (i, A) :: E, e.2 T e.1 W) → Calls P f args W fun e w' => ∃ c : Int, e = .returned (.int .i64 c) ∧ Goes T i W (Ex (R c) F) w') :
    Calls P f args W fun e w' => ∃ (c : Int) (A' : DS), e = .returned (.int .i64 c) ∧ R c A' ∧ Side w0 ((i, F A') :: E) w' := by
  obtain ⟨T, h⟩ := h
  refine (hc T (fun e he => (h.at_ e he).2)).mono ?_
  rintro r w' ⟨c, he, T', hn, hk, A', hA, hF'⟩
  have hs : SideT w0 T E W := ⟨h.base, h.old, fun e he => h.at_ e (List.mem_cons_of_mem _ he)⟩
  have hs' := hs.next hn hk hi
  refine ⟨c, A', he, hA, T', hs'.base, hs'.old, fun e he => ?_⟩
  rcases List.mem_cons.1 he with rfl | he
  · exact ⟨hF A', hF'⟩
  · exact hs'.at_ e he
theorem f_merge (h : Four w b ob p q r o k V U V' U' W) :
    Calls Try.prog 11 #[.pointer (some ⟨p, 0, none⟩), .pointer (some ⟨q, 0, none⟩)] W fun e w' => ∃ (c : Int) (A : DS), e = .returned (.int .i64 c) ∧ MrgR k V U c A ∧ Four w b ob p q r o k A U V' U' w' := by
  obtain ⟨i, j, a, d, hd, h⟩ := h
  have hh := five_ne hd
  refine (step_code (R := MrgR k V U) (fun A => Pd.framed p k A) h (fun e he => by simp at he; rcases he with rfl | rfl | rfl | rfl <;> simp <;> omega) fun T hA => pmrg_at (hA _ (List.mem_cons_self ..)) (hA (j, Pd q k U) (by simp))).mono ?_
  rintro e w' ⟨c, A, he, hR, hs⟩
  exact ⟨c, A, he, hR, i, j, a, d, hd, hs⟩
theorem f_self (h : Four w b ob p q r o k V U V' U' W) :
    Calls Try.prog 11 #[.pointer (some ⟨p, 0, none⟩), .pointer (some ⟨p, 0, none⟩)] W fun e w' => ∃ (c : Int) (A : DS), e = .returned (.int .i64 c) ∧ MrgR k V V c A ∧ Four w b ob p q r o k A U V' U' w' := by
  obtain ⟨i, j, a, d, hd, h⟩ := h
  have hh := five_ne hd
  refine (step_code (R := MrgR k V V) (fun A => Pd.framed p k A) h (fun e he => by simp at he; rcases he with rfl | rfl | rfl | rfl <;> simp <;> omega) fun T hA => pmrg_at (hA _ (List.mem_cons_self ..)) (hA _ (List.mem_cons_self ..))).mono ?_
  rintro e w' ⟨c, A, he, hR, hs⟩
  exact ⟨c, A, he, hR, i, j, a, d, hd, hs⟩
theorem f_rmerge (h : Four w b ob p q r o k V U V' U' W) (hR : Rest k V'.n V'.L) (hR2 : Rest k U'.n U'.L) :
    Calls Try.prog 12 #[.pointer (some ⟨r, 0, none⟩), .pointer (some ⟨o, 0, none⟩)] W fun e w' => ∃ (c : Int) (A : DS), e = .returned (.int .i64 c) ∧ RMrgR k V' U' c A ∧ Four w b ob p q r o k V U A U' w' := by
  obtain ⟨i, j, a, d, hd, h⟩ := h
  have hh := five_ne hd
  have h1 := h.sub (E' := [(a, Rq r k V'), (i, Pd p k V), (j, Pd q k U), (d, Rq o k U'), (0, Box b ob)]) (fun x hx => by simp at hx ⊢; rcases hx with rfl | rfl | rfl | rfl | rfl <;> simp)
  refine (step_code (R := RMrgR k V' U') (fun A => Rq.framed r k A) h1 (fun e he => by simp at he; rcases he with rfl | rfl | rfl | rfl <;> simp <;> omega) fun T hA => rmrg_at (hA _ (List.mem_cons_self ..)) (hA (d, Rq o k U') (by simp)) (by omega) hR hR2).mono ?_
  rintro e w' ⟨c, A, he, hR, hs⟩
  refine ⟨c, A, he, hR, i, j, a, d, hd, hs.sub (fun x hx => ?_)⟩
  simp at hx ⊢; rcases hx with rfl | rfl | rfl | rfl | rfl <;> simp
/-- with a copy beside -/
def FourC (w : World) (b : Nat) (ob : Obj) (p q r o k : Nat) (V U V' U' : DS) (A : Thing) (W : World) : Prop :=
  ∃ i j a d c, [0, i, j, a, d].Nodup ∧ (c ≠ 0 ∧ c ≠ i ∧ c ≠ j ∧ c ≠ a ∧ c ≠ d) ∧ Side w [(c, A), (i, Pd p k V), (j, Pd q k U), (a, Rq r k V'), (d, Rq o k U'), (0, Box b ob)] W
theorem FourC.heap {A : Thing} (h : FourC w b ob p q r o k V U V' U' A W) : W.heap[b]? = some ob := by
  obtain ⟨i, j, a, d, c, _, _, h⟩ := h
  exact h.heap (i := 0) (by simp)
theorem f_rcopy (h : Four w b ob p q r o k V U V' U' W) (hR : Rest k V'.n V'.L) :
    Calls Try.prog 13 #[.pointer (some ⟨r, 0, none⟩)] W fun e w' => ∃ x, e = .returned (.pointer (some ⟨x, 0, none⟩)) ∧ FourC w b ob p q r o k V U V' U' (Rq x k V') w' := by
  obtain ⟨i, j, a, d, hn, h⟩ := h
  have hh := five_ne hn
  refine (h.make (i + j + a + d + 1) (fun q => Rq q k V') (fun q => Rq.framed q k _) (R := fun q e => e = .returned (.pointer (some ⟨q, 0, none⟩))) fun _ hE => (rqcopy_any (p := r) (k := k) (n := V'.n) (L := V'.L) (j := i + j + a + d + 1) (by
    obtain ⟨v, hd⟩ := hE (a, Rq r k V') (by simp)
    exact ⟨v, hd, hR⟩)).mono fun e w' ⟨q, he, hb, T', hn, v', hd', _⟩ => ⟨q, he, hb, T', hn, v', hd'⟩).mono ?_
  rintro e w' ⟨x, he, hs⟩
  exact ⟨x, he, i, j, a, d, _, hn, ⟨by omega, by omega, by omega, by omega, by omega⟩, hs.out⟩
theorem f_copy (h : Four w b ob p q r o k V U V' U' W) :
    Calls Try.prog 14 #[.pointer (some ⟨p, 0, none⟩)] W fun e w' => ∃ x, e = .returned (.pointer (some ⟨x, 0, none⟩)) ∧ FourC w b ob p q r o k V U V' U' (Pd x k V) w' := by
  obtain ⟨i, j, a, d, hn, h⟩ := h
  have hh := five_ne hn
  refine (h.make (i + j + a + d + 1) (fun q => Pd q k V) (fun q => Pd.framed q k _) (R := fun q e => e = .returned (.pointer (some ⟨q, 0, none⟩))) fun _ hE => pcopy_at (hE (i, Pd p k V) (by simp))).mono ?_
  rintro e w' ⟨x, he, hs⟩
  exact ⟨x, he, i, j, a, d, _, hn, ⟨by omega, by omega, by omega, by omega, by omega⟩, hs.out⟩
theorem f_rmerge_copy (h : FourC w b ob p q r o k V U V' U' (Rq x k V') W) (hR : Rest k V'.n V'.L) :
    Calls Try.prog 12 #[.pointer (some ⟨r, 0, none⟩), .pointer (some ⟨x, 0, none⟩)] W fun e w' => ∃ (c : Int) (A : DS), e = .returned (.int .i64 c) ∧ RMrgR k V' V' c A ∧ Four w b ob p q r o k V U A U' w' := by
  obtain ⟨i, j, a, d, c, hd, hc, h⟩ := h
  have hh := five_ne hd
  have h1 := h.sub (E' := [(a, Rq r k V'), (c, Rq x k V'), (i, Pd p k V), (j, Pd q k U), (d, Rq o k U'), (0, Box b ob)]) (fun x hx => by simp at hx ⊢; rcases hx with rfl | rfl | rfl | rfl | rfl | rfl <;> simp)
  refine (step_code (R := RMrgR k V' V') (fun A => Rq.framed r k A) h1 (fun e he => by simp at he; rcases he with rfl | rfl | rfl | rfl | rfl <;> simp <;> omega) fun T hA => rmrg_at (hA _ (List.mem_cons_self ..)) (hA (c, Rq x k V') (by simp)) (by omega) hR hR).mono ?_
  rintro e w' ⟨c', A, he, hR, hs⟩
  refine ⟨c', A, he, hR, i, j, a, d, hd, hs.sub (fun x hx => ?_)⟩
  simp at hx ⊢; rcases hx with rfl | rfl | rfl | rfl | rfl <;> simp
theorem f_ins_old (h : FourC w b ob p q r o k V U V' U' (Pd x k V) W) (hy : y < 18446744073709551616) :
    Calls Try.prog 9 #[.pointer (some ⟨p, 0, none⟩), .int .u64 (y : Int)] W fun e w' => e = .returned (.tuple #[]) ∧ Four w b ob x q r o k V U V' U' w' := by
  obtain ⟨i, j, a, d, c, hn, hc, h⟩ := h
  have hh := five_ne hn
  have h1 := h.sub (E' := [(i, Pd p k V), (c, Pd x k V), (j, Pd q k U), (a, Rq r k V'), (d, Rq o k U'), (0, Box b ob)]) (fun x hx => by simp at hx ⊢; rcases hx with rfl | rfl | rfl | rfl | rfl | rfl <;> simp)
  refine (h1.step (fun e he => by simp at he; rcases he with rfl | rfl | rfl | rfl | rfl <;> simp <;> omega) (Ex.framed fun A => Pd.framed p k A) (Pr := fun e => e = .returned (.tuple #[])) fun _ _ hA => pins_at (hA _ (List.mem_cons_self ..)) hy).mono fun _ _ ⟨g1, g2⟩ => ⟨g1, c, j, a, d, by simp; omega, g2.sub (fun x hx => ?_)⟩
  simp at hx ⊢; rcases hx with rfl | rfl | rfl | rfl | rfl <;> simp
theorem f_alike (h : Four w b ob p q r o k V U V U' W) (z : Int) :
    Calls Try.prog 15 #[.pointer (some ⟨p, 0, none⟩), .pointer (some ⟨r, 0, none⟩), .int .i64 z] W fun e w' => e = .returned (.bool true) ∧ Four w b ob p q r o k V U V U' w' := by
  obtain ⟨i, j, a, d, hn, h⟩ := h
  obtain ⟨T, h1, h2⟩ := side_two h (A := Pd p k V) (B := Rq r k V) (i := i) (j := a) (by simp) (by simp)
  have h2' : Rf r k V.n V.L T a W := by
    obtain ⟨v, hd⟩ := h2
    exact ⟨v, hd, h1.rest⟩
  exact (dalike_any h1 h2' z).mono fun _ _ ⟨g1, g2⟩ => ⟨g1, i, j, a, d, hn, h.below g2⟩
theorem f_count (h : Four w b ob p q r o k V U V' U' W) : W.cell? ⟨r, 2, none⟩ = some (.int .i64 (V'.n : Int)) := by
  obtain ⟨i, j, a, d, hn, h⟩ := h
  obtain ⟨T, ⟨v, h1⟩, _⟩ := side_two h (A := Rq r k V') (B := Rq r k V') (i := a) (j := a) (by simp) (by simp)
  exact h1.cells.2.2.1
/-- the state between rounds -/
def Quad (w : World) (p q r o k : Nat) (V U : DS) (W : World) : Prop := ∃ i j a d, [0, i, j, a, d].Nodup ∧ Side w [(i, Pd p k V), (j, Pd q k U), (a, Rq r k V), (d, Rq o k U)] W
def ActI (w : World) (p q r o k : Nat) (W : World) : Prop := ∃ V U, Quad w p q r o k V U W
theorem Quad.box (h : Quad w p q r o k V U W) (ob' : Obj) : Four w W.heap.size ob' p q r o k V U V U (W.alloc ob') := by
  obtain ⟨i, j, a, d, hn, h⟩ := h
  refine ⟨i, j, a, d, hn, (h.alloc 0 ob').sub (fun x hx => ?_)⟩
  simp at hx ⊢
  rcases hx with rfl | rfl | rfl | rfl | rfl <;> simp
theorem Four.quad (h : Four w b ob p q r o k V U V U W) : Quad w p q r o k V U W := by
  obtain ⟨i, j, a, d, hn, h⟩ := h
  refine ⟨i, j, a, d, hn, h.sub (fun x hx => ?_)⟩
  simp at hx ⊢
  rcases hx with rfl | rfl | rfl | rfl <;> simp
theorem Quad.base (h : Quad w p q r o k V U W) : Below w.heap.size w W := by
  obtain ⟨i, j, a, d, hn, h⟩ := h
  exact h.base
theorem Quad.alike (h : Quad w p q r o k V U W) (z : Int) :
    Calls Try.prog 15 #[.pointer (some ⟨q, 0, none⟩), .pointer (some ⟨o, 0, none⟩), .int .i64 z] W fun e w' => e = .returned (.bool true) ∧ Below w.heap.size w w' := by
  have hb := h.base
  obtain ⟨i, j, a, d, hn, h⟩ := h
  obtain ⟨T, h1, h2⟩ := side_two h (A := Pd q k U) (B := Rq o k U) (i := j) (j := d) (by simp) (by simp)
  have h2' : Rf o k U.n U.L T d W := by
    obtain ⟨v, hd⟩ := h2
    exact ⟨v, hd, h1.rest⟩
  exact (dalike_any h1 h2' z).mono fun _ _ ⟨h1, h2⟩ => ⟨h1, hb.trans (h2.mono hb.size)⟩
theorem actI (h : Four w b ob p q r o k V U V U W) : Hid (ActI w p q r o k W) := Lib.hid ⟨V, U, h.quad⟩
end
end Go.Proofs.Ytahaoodklfmddaa
