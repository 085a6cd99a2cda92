/- The walk of KmvActs. Conditions: none. -/
import Derived.Test.YtadlfmdliinnnaaRKmvAlikeAny
import Derived.Test.YtadlfmdliinnnaaRKmvCopy
import Derived.Test.YtadlfmdliinnnaaRKmvIns
import Derived.Test.YtadlfmdliinnnaaKmvBx
import Derived.Test.YtadlfmdliinnnaaKmvOpen
set_option maxRecDepth 100000
namespace Go.Proofs.Ytadlfmdliinnnaa
open Go.RowKit Go.Maps Go.Sort

/-- merging with itself changes nothing -/
theorem mergeL_old (t : Nat) (l : List Nat) : ∀ b : List Nat, (∀ x ∈ b, x ∈ l) → mergeL t l b = l
  | [], _ => rfl
  | x :: xs, h => by
    unfold mergeL
    rw [List.foldl_cons, addL_old (h x (List.mem_cons_self ..))]
    exact mergeL_old t l xs (fun y hy => h y (List.mem_cons_of_mem _ hy))
theorem SkV.merge_same (V : SkV) : V.merge V = V := by
  unfold SkV.merge
  cases V with
  | mk t S L =>
    simp only
    congr 1
    apply List.ext_getElem?
    intro j
    rw [List.getElem?_mapIdx]
    cases h : L[j]? with
    | none => rfl
    | some l =>
      simp only [Option.map_some]
      rw [List.getD_eq_getElem?_getD, h]
      exact congrArg some (mergeL_old t l l (fun x hx => hx))

/-- the four, and a box -/
def Four (w : World) (b : Nat) (ob : Obj) (p q r o : Nat) (V U V' U' : SkV) (W : World) : Prop :=
  ∃ i j a d, [0, i, j, a, d].Nodup ∧ Side w [(i, Sk p V), (j, Sk q U), (a, RSk r V'), (d, RSk o U'), (0, Box b ob)] W
section
variable {w W W' : World} {b p q r o x y : Nat} {ob : Obj} {V U V' U' : SkV} {E E' : List (Nat × Thing)}
theorem five_ne {i j a d : Nat} (h : [0, i, j, a, d].Nodup) : (0 ≠ i ∧ 0 ≠ j ∧ 0 ≠ a ∧ 0 ≠ d) ∧ (i ≠ j ∧ i ≠ a ∧ i ≠ d) ∧ (j ≠ a ∧ j ≠ d) ∧ a ≠ d := by
  simp at h
  obtain ⟨⟨h1, h2, h3, h4⟩, ⟨h5, h6, h7⟩, ⟨h8, h9⟩, h10⟩ := h
  exact ⟨⟨fun e => h1 e, fun e => h2 e, fun e => h3 e, fun e => h4 e⟩, ⟨h5, h6, h7⟩, ⟨h8, h9⟩, h10⟩
theorem Four.below (h : Four w b ob p q r o V U V' U' W) (hb : Below W.heap.size W W') : Four w b ob p q r o V U V' U' W' := by
  obtain ⟨i, j, a, d, hn, h⟩ := h
  exact ⟨i, j, a, d, hn, h.below hb⟩
theorem Four.base (h : Four w b ob p q r o V U V' U' W) : Below w.heap.size w W := by
  obtain ⟨i, j, a, d, hn, h⟩ := h
  exact h.base
theorem Four.heap (h : Four w b ob p q r o V U V' U' W) : W.heap[b]? = some ob := by
  obtain ⟨i, j, a, d, hn, h⟩ := h
  exact h.heap (i := 0) (by simp)
theorem Four.swap (h : Four w b ob p q r o V U V' U' W) : Four w b ob q p o r U V U' V' W := by
  obtain ⟨i, j, a, d, hn, h⟩ := h
  refine ⟨j, i, d, a, ?_, h.sub (fun x hx => ?_)⟩
  · have := five_ne hn
    simp; omega
  · simp at hx ⊢
    rcases hx with rfl | rfl | rfl | rfl | rfl <;> simp
theorem Four.box (h : Four w b ob p q r o V U V' U' W) (ob' : Obj) : Four w W.heap.size ob' p q r o V U V' U' (W.alloc ob') := by
  obtain ⟨i, j, a, d, hn, h⟩ := h
  refine ⟨i, j, a, d, hn, (h.alloc 0 ob').sub (fun x hx => ?_)⟩
  simp at hx ⊢
  rcases hx with rfl | rfl | rfl | rfl | rfl <;> simp
theorem f_ins (h : Four w b ob p q r o V U V' U' W) (hx : x < 18446744073709551616) :
    Calls Try.prog 14 #[.pointer (some ⟨p, 0, none⟩), .int .u64 (x : Int)] W fun e w' => e = .returned (.tuple #[]) ∧ Four w b ob p q r o (V.ins x) U V' U' w' := by
  obtain ⟨i, j, a, d, hn, h⟩ := h
  have hh := five_ne hn
  exact (side_ins h (fun e he => by simp at he; rcases he with rfl | rfl | rfl | rfl <;> simp <;> omega) hx).mono fun _ _ ⟨h1, h2⟩ => ⟨h1, i, j, a, d, hn, h2.out⟩
theorem f_rins (h : Four w b ob p q r o V U V' U' W) (hx : x < 18446744073709551616) :
    Calls Try.prog 15 #[.pointer (some ⟨r, 0, none⟩), .int .u64 (x : Int)] W fun e w' => e = .returned (.tuple #[]) ∧ Four w b ob p q r o V U (V'.ins x) U' w' := by
  obtain ⟨i, j, a, d, hn, h⟩ := h
  have hh := five_ne hn
  have h1 := h.sub (E' := [(a, RSk r V'), (i, Sk p V), (j, Sk q U), (d, RSk o U'), (0, Box b ob)]) (fun x hx => by simp at hx ⊢; rcases hx with rfl | rfl | rfl | rfl | rfl <;> simp)
  refine (h1.step (fun e he => by simp at he; rcases he with rfl | rfl | rfl | rfl <;> simp <;> omega) (RSk.framed r (V'.ins x)) (Pr := fun e => e = .returned (.tuple #[])) fun _ _ hA => (rins_any (hA _ (List.mem_cons_self ..)) hx).mono fun _ _ ⟨a, b⟩ => ⟨a, b.out⟩).mono fun _ _ ⟨g1, g2⟩ => ⟨g1, i, j, a, d, hn, g2.sub (fun x hx => ?_)⟩
  simp at hx ⊢; rcases hx with rfl | rfl | rfl | rfl | rfl <;> simp
theorem f_merge (h : Four w b ob p q r o V U V' U' W) (ht : U.t = V.t) (hS : U.seeds = V.seeds) :
    Calls Try.prog 16 #[.pointer (some ⟨p, 0, none⟩), .pointer (some ⟨q, 0, none⟩)] W fun e w' => e = .returned (.int .i64 0) ∧ Four w b ob p q r o (V.merge U) U V' U' w' := by
  obtain ⟨i, j, a, d, hn, h⟩ := h
  have hh := five_ne hn
  exact (side_merge h (fun e he => by simp at he; rcases he with rfl | rfl | rfl | rfl <;> simp <;> omega) (j := j) (.head _) ht hS).mono fun _ _ ⟨h1, h2⟩ => ⟨h1, i, j, a, d, hn, h2.out⟩
theorem f_self (h : Four w b ob p q r o V U V' U' W) :
    Calls Try.prog 16 #[.pointer (some ⟨p, 0, none⟩), .pointer (some ⟨p, 0, none⟩)] W fun e w' => e = .returned (.int .i64 0) ∧ Four w b ob p q r o V U V' U' w' := by
  obtain ⟨i, j, a, d, hn, h⟩ := h
  exact (side_merge_self h (.head _)).mono fun _ _ ⟨h1, h2⟩ => ⟨h1, i, j, a, d, hn, h.below h2⟩
theorem side_rmerge {w0 w : World} {i j : Nat} {E : List (Nat × Thing)} (h : Side w0 ((i, RSk p V) :: E) w) (hi : ∀ e ∈ E, e.1 ≠ i) (hx : (j, RSk q U) ∈ E) (ht : U.t = V.t) (hS : U.seeds = V.seeds) :
    Calls Try.prog 17 #[.pointer (some ⟨p, 0, none⟩), .pointer (some ⟨q, 0, none⟩)] w fun e w' => e = .returned (.int .i64 0) ∧ Side w0 ((i, RSk p (V.merge U)) :: E) w' :=
  h.step hi (RSk.framed p (V.merge U)) (Pr := fun e => e = .returned (.int .i64 0)) fun _ _ hA => (rmerge_two (hA _ (List.mem_cons_self ..)) (hA _ (List.mem_cons_of_mem _ hx)) (fun e => hi _ hx e.symm) ht hS).mono fun _ _ ⟨a, b⟩ => ⟨a, b.out⟩
theorem f_rmerge (h : Four w b ob p q r o V U V' U' W) (ht : U'.t = V'.t) (hS : U'.seeds = V'.seeds) :
    Calls Try.prog 17 #[.pointer (some ⟨r, 0, none⟩), .pointer (some ⟨o, 0, none⟩)] W fun e w' => e = .returned (.int .i64 0) ∧ Four w b ob p q r o V U (V'.merge U') U' w' := by
  obtain ⟨i, j, a, d, hn, h⟩ := h
  have hh := five_ne hn
  have h1 := h.sub (E' := [(a, RSk r V'), (i, Sk p V), (j, Sk q U), (d, RSk o U'), (0, Box b ob)]) (fun x hx => by simp at hx ⊢; rcases hx with rfl | rfl | rfl | rfl | rfl <;> simp)
  refine (side_rmerge h1 (fun e he => by simp at he; rcases he with rfl | rfl | rfl | rfl <;> simp <;> omega) (j := d) (by simp) ht hS).mono fun _ _ ⟨g1, g2⟩ => ⟨g1, i, j, a, d, hn, g2.sub (fun x hx => ?_)⟩
  simp at hx ⊢; rcases hx with rfl | rfl | rfl | rfl | rfl <;> simp

/-- with a copy beside -/
def FourC (w : World) (b : Nat) (ob : Obj) (p q r o _x : Nat) (V U V' U' : SkV) (A : Thing) (W : World) : Prop :=
  ∃ i j a d c, [0, i, j, a, d].Nodup ∧ (c ≠ 0 ∧ c ≠ i ∧ c ≠ j ∧ c ≠ a ∧ c ≠ d) ∧ Side w [(c, A), (i, Sk p V), (j, Sk q U), (a, RSk r V'), (d, RSk o U'), (0, Box b ob)] W
theorem FourC.heap {A : Thing} (h : FourC w b ob p q r o x V U V' U' A W) : W.heap[b]? = some ob := by
  obtain ⟨i, j, a, d, c, _, _, h⟩ := h
  exact h.heap (i := 0) (by simp)
theorem f_rcopy (h : Four w b ob p q r o V U V' U' W) :
    Calls Try.prog 18 #[.pointer (some ⟨r, 0, none⟩)] W fun e w' => ∃ x, e = .returned (.pointer (some ⟨x, 0, none⟩)) ∧ FourC w b ob p q r o x V U V' U' (RSk x V') w' := by
  obtain ⟨i, j, a, d, hn, h⟩ := h
  have hh := five_ne hn
  refine (h.make (i + j + a + d + 1) (fun q => RSk q V') (fun q => RSk.framed q _) (R := fun q e => e = .returned (.pointer (some ⟨q, 0, none⟩))) fun _ hE => rcopy_any (hE (a, RSk r V') (by simp)) _).mono ?_
  rintro e w' ⟨x, he, hs⟩
  exact ⟨x, he, i, j, a, d, _, hn, ⟨by omega, by omega, by omega, by omega, by omega⟩, hs.out⟩
theorem f_copy (h : Four w b ob p q r o V U V' U' W) :
    Calls Try.prog 19 #[.pointer (some ⟨p, 0, none⟩)] W fun e w' => ∃ x, e = .returned (.pointer (some ⟨x, 0, none⟩)) ∧ FourC w b ob p q r o x V U V' U' (Sk x V) w' := by
  obtain ⟨i, j, a, d, hn, h⟩ := h
  have hh := five_ne hn
  refine (side_copy h (.head _) (i + j + a + d + 1)).mono ?_
  rintro e w' ⟨x, he, hs⟩
  exact ⟨x, he, i, j, a, d, _, hn, ⟨by omega, by omega, by omega, by omega, by omega⟩, hs.out⟩
theorem f_rmerge_copy (h : FourC w b ob p q r o x V U V' U' (RSk x V') W) :
    Calls Try.prog 17 #[.pointer (some ⟨r, 0, none⟩), .pointer (some ⟨x, 0, none⟩)] W fun e w' => e = .returned (.int .i64 0) ∧ Four w b ob p q r o V U V' U' w' := by
  obtain ⟨i, j, a, d, c, hn, hc, h⟩ := h
  have hh := five_ne hn
  have h1 := h.sub (E' := [(a, RSk r V'), (c, RSk x V'), (i, Sk p V), (j, Sk q U), (d, RSk o U'), (0, Box b ob)]) (fun x hx => by simp at hx ⊢; rcases hx with rfl | rfl | rfl | rfl | rfl | rfl <;> simp)
  refine (side_rmerge h1 (fun e he => by simp at he; rcases he with rfl | rfl | rfl | rfl | rfl <;> simp <;> omega) (j := c) (by simp) rfl rfl).mono fun _ _ ⟨g1, g2⟩ => ⟨g1, i, j, a, d, hn, ?_⟩
  rw [SkV.merge_same] at g2
  refine g2.sub (fun x hx => ?_)
  simp at hx ⊢; rcases hx with rfl | rfl | rfl | rfl | rfl <;> simp
theorem f_ins_old (h : FourC w b ob p q r o x V U V' U' (Sk x V) W) (hy : y < 18446744073709551616) :
    Calls Try.prog 14 #[.pointer (some ⟨p, 0, none⟩), .int .u64 (y : Int)] W fun e w' => e = .returned (.tuple #[]) ∧ Four w b ob x q r o V U V' U' w' := by
  obtain ⟨i, j, a, d, c, hn, hc, h⟩ := h
  have hh := five_ne hn
  have h1 := h.sub (E' := [(i, Sk p V), (c, Sk x V), (j, Sk q U), (a, RSk r V'), (d, RSk o U'), (0, Box b ob)]) (fun x hx => by simp at hx ⊢; rcases hx with rfl | rfl | rfl | rfl | rfl | rfl <;> simp)
  refine (side_ins h1 (fun e he => by simp at he; rcases he with rfl | rfl | rfl | rfl | rfl <;> simp <;> omega) hy).mono fun _ _ ⟨g1, g2⟩ => ⟨g1, c, j, a, d, by simp; omega, g2.out.sub (fun x hx => ?_)⟩
  simp at hx ⊢; rcases hx with rfl | rfl | rfl | rfl | rfl <;> simp
theorem f_alike (h : Four w b ob p q r o V U V U W) :
    Calls Try.prog 20 #[.pointer (some ⟨p, 0, none⟩), .pointer (some ⟨r, 0, none⟩)] W fun e w' => e = .returned (.bool true) ∧ Four w b ob p q r o V U V U w' := by
  obtain ⟨i, j, a, d, hn, h⟩ := h
  have h' := h
  obtain ⟨T, h'⟩ := h'
  exact (alike_any (h'.at_ (i, Sk p V) (by simp)).2 (h'.at_ (a, RSk r V) (by simp)).2).mono fun _ _ ⟨h1, h2⟩ => ⟨h1, i, j, a, d, hn, h.below h2⟩
theorem f_lives (h : Four w b ob p q r o V U V' U' W) : Calls Try.prog 13 #[] W fun e w' => e = .returned (.bool true) ∧ Below w.heap.size w w' := by
  obtain ⟨i, j, a, d, hn, h⟩ := h
  exact bx_lives h
end

/-- the state of a round -/
def ActSt (w : World) (t : Nat) (S : List (Nat × Nat)) (b : Nat) (ob : Obj) (p q r o : Nat) (V U : SkV) (W : World) : Prop :=
  (V.t = t ∧ V.seeds = S ∧ U.t = t ∧ U.seeds = S) ∧ Four w b ob p q r o V U V U W
end Go.Proofs.Ytadlfmdliinnnaa
namespace Go.Proofs.Ytadlfmdliinnnaa
open Go.ChangeShapes Go.WideShapes Go.ChangeAt Go.RowKit Go.Maps Go.Sort Go.Deep Go.Joins

/-- act i of the argument, as it lies in memory -/
structure ActK (w : World) (ad : Addr) (i : Nat) (kd : Int) (x : Nat) : Prop where
  c0 : w.cell? (ad.add (i * 2 + 0)) = some (.int .i64 kd)
  c1 : w.cell? (ad.add (i * 2 + 1)) = some (.int .u64 (x : Int))
  hx : x < 18446744073709551616
theorem ActK.read {w0 w : World} {ad : Addr} {i : Nat} {kd : Int} {x : Nat} (A : ActK w0 ad i kd x) (hb : Below w0.heap.size w0 w) :
    w.cell? (ad.add (i * 2)) = some (.int .i64 kd) ∧ w.cell? ⟨(ad.add (i * 2)).block, (ad.add (i * 2)).off + 1, none⟩ = some (.int .u64 (x : Int)) := by
  have K := fun {x : Addr} {v : Value} (g : w0.cell? x = some v) => (World.cell?_of_block (w := w0) (hb.block _ (World.block_lt_of_cell? w0 _ g))).trans g
  exact ⟨K A.c0, by rw [← add_off2 ad i]; exact K A.c1⟩
def ActsK (w : World) (ar : Option Addr) (len : Nat) : Prop := ∀ i, i < len → ∃ ad, ar = some ad ∧ ∃ kd x, ActK w ad i kd x

theorem acts_of {H : Type} {enc : TypeId × Value → H} {w : World} {v : Value} {d : DataW H} {p : List MemPlace} {r : Reach} {b0 : Nat} (hv : Value.okWide Try.prog w r b0 25 v)
    (h : DataW.Trod enc Try.prog w 0 (fun _ => true) true 25 v d p) : ∃ a n c, v = .slice a n c ∧ ActsK w a n := by
  obtain ⟨a, n, c, rfl⟩ := okWide_slice Try.underlying25 hv
  obtain ⟨fuel, hf⟩ := h
  refine ⟨a, n, c, rfl, ?_⟩
  rcases open_structs (Try.underlying25) (Try.underlying34) (by kernel_rfl) (by kernel_rfl) hf with hcs | ⟨a', len, cap, hcs, _, _, hi⟩
  · simp [Value.cells] at hcs
    obtain ⟨rfl, rfl, rfl⟩ := hcs
    exact fun i hi => by omega
  · simp [Value.cells] at hcs
    obtain ⟨rfl, rfl, rfl⟩ := hcs
    intro i hil
    obtain ⟨n', hf'⟩ := hi i hil
    obtain ⟨v0, y0, c0, t0⟩ := hf' 0 _ rfl
    obtain ⟨v1, y1, c1, t1⟩ := hf' 1 _ rfl
    obtain ⟨b0, e0, _, z0⟩ := DataW.trod_int Try.underlying3 t0
    obtain ⟨b1, e1, _, z1⟩ := DataW.trod_int Try.underlying32 t1
    simp only [List.cons.injEq, and_true] at e0 e1
    subst e0 e1
    have x1 := bounds_of_u64 z1
    exact ⟨a', rfl, b0, b1.toNat, c0, by rw [Int.toNat_of_nonneg x1.1]; exact c1, by omega⟩

section
variable {w : World} {sa : Option Addr} {n sc : Nat} {S : List (Nat × Nat)}
/-- the settings' box -/
abbrev Bz (w : World) (t : Int) (sa : Option Addr) (n sc : Nat) (k m : Int) : Nat × Thing := (0, Box w.heap.size (setO t sa n sc k m))
theorem bz_cells {t k m : Int} {E : List (Nat × Thing)} {W : World} (h : Side w E W) (hx : Bz w t sa n sc k m ∈ E) :
    W.cell? ⟨w.heap.size, 0, none⟩ = some (.int .i64 t) ∧ W.cell? ⟨w.heap.size, 1, none⟩ = some (.slice sa n sc) ∧ W.cell? ⟨w.heap.size, 2, none⟩ = some (.int .i64 k) ∧ W.cell? ⟨w.heap.size, 3, none⟩ = some (.int .i64 m) := setO_cell (h.heap hx)
theorem bz_rnew (hs : SetAt w sa n sc S) (t : Nat) (k m : Int) (hg : goodB t S k m = true) {E : List (Nat × Thing)} {W : World} (h : Side w E W) (i : Nat) :
    Calls Try.prog 10 #[.agg #[.int .i64 t, .slice sa n sc, .int .i64 k, .int .i64 m]] W fun e w' => ∃ p, e = .returned (.pointer (some ⟨p, 0, none⟩)) ∧ Side w ((i, RSk p (SkV.empty t S)) :: E) w' :=
  (h.make i (fun p => RSk p (SkV.empty t S)) (fun p => RSk.framed p _) (R := fun p e => e = .returned (.pointer (some ⟨p, 0, none⟩))) fun T _ => rnew_any (hs.below h.base) t k m hg T i).mono fun _ _ ⟨p, a, b⟩ => ⟨p, a, b.out⟩
theorem bz_rnil (hs : SetAt w sa n sc S) (t k m : Int) (hg : goodB t S k m = false) {E : List (Nat × Thing)} {W : World} (h : Side w E W) :
    Calls Try.prog 10 #[.agg #[.int .i64 t, .slice sa n sc, .int .i64 k, .int .i64 m]] W fun e w' => e = .returned (.pointer none) ∧ Side w E w' :=
  (rnew_no (hs.below h.base) t k m hg).mono fun _ _ ⟨a, b⟩ => ⟨a, h.below b⟩
theorem bz_rgood (hs : SetAt w sa n sc S) (t k m : Int) {E : List (Nat × Thing)} {W : World} (h : Side w E W) :
    Calls Try.prog 12 #[.agg #[.int .i64 t, .slice sa n sc, .int .i64 k, .int .i64 m]] W fun e w' => e = .returned (.bool (goodB t S k m)) ∧ Side w E w' :=
  (rgood_any (hs.below h.base) t k m).mono fun _ _ ⟨a, b⟩ => ⟨a, h.below b⟩

set_option maxHeartbeats 6400000 in
theorem acts_bad (hs : SetAt w sa n sc S) (t k m : Int) (hg : goodB t S k m = false) (la : Option Addr) (ln lc : Nat) :
    Calls Try.prog 3 #[setV t sa n sc k m, .slice la ln lc] w fun e w' => e = .returned (.bool true) ∧ Below w.heap.size w w' := by
  have S0 : Side w [Bz w t sa n sc k m] (w.alloc (setO t sa n sc k m)) := (Side.nil w).alloc 0 _
  obtain ⟨c0, c1, c2, c3⟩ := bz_cells S0 (List.mem_cons_self ..)
  have S1 := S0.drew
  have KN := Lib.hid (fun W (h : Side w [Bz w t sa n sc k m] W) => bx_nil hs t k m hg h)
  have KRN := Lib.hid (fun W (h : Side w [Bz w t sa n sc k m] W) => bz_rnil hs t k m hg h)
  have KG := Lib.hid (fun W (h : Side w [Bz w t sa n sc k m] W) => hg ▸ bx_good hs t k m h)
  have KRG := Lib.hid (fun W (h : Side w [Bz w t sa n sc k m] W) => hg ▸ bz_rgood hs t k m h)
  have KC := Lib.hid (fun W (h : Side w [Bz w t sa n sc k m] W) => bz_cells h (List.mem_cons_self ..))
  have KL := Lib.hid (fun W (h : Side w [Bz w t sa n sc k m] W) => bx_lives h)
  clear hs hg
  unfold setV
  unfold setO at S0 S1 c0 c1 c2 c3
  go_enter Try.func3, Try.ntmps3
  go_wp2_with fail
  go_region_held3 (fun w' => w'.cell? ⟨w.heap.size, 0, none⟩ = some (.int .i64 t) ∧ w'.cell? ⟨w.heap.size, 1, none⟩ = some (.slice sa n sc) ∧ w'.cell? ⟨w.heap.size, 2, none⟩ = some (.int .i64 k) ∧ w'.cell? ⟨w.heap.size, 3, none⟩ = some (.int .i64 m))
    (first | assumption | exact KC.out _ (by assumption))
    ((go_at_call 9; refine (KN.out _ (by assumption)).mono ?_; rintro e w5 ⟨rfl, s5⟩))
  have S5 := s5.drew
  obtain ⟨d0, d1, d2, d3⟩ := bz_cells S5 (List.mem_cons_self ..)
  rename_i hheld _
  clear s5 KN S0 S1 c0 c1 c2 c3 hheld
  go_wp2_with fail
  go_region_held3 (fun w' => w'.cell? ⟨w.heap.size, 0, none⟩ = some (.int .i64 t) ∧ w'.cell? ⟨w.heap.size, 1, none⟩ = some (.slice sa n sc) ∧ w'.cell? ⟨w.heap.size, 2, none⟩ = some (.int .i64 k) ∧ w'.cell? ⟨w.heap.size, 3, none⟩ = some (.int .i64 m))
    (first | assumption | exact KC.out _ (by assumption))
    ((go_at_call 10; refine (KRN.out _ (by assumption)).mono ?_; rintro e w6 ⟨rfl, s6⟩))
  have S6 := s6.drew
  obtain ⟨d0, d1, d2, d3⟩ := bz_cells S6 (List.mem_cons_self ..)
  clear s6 KRN
  go_wp2_with fail
  go_region_held3 (fun w' => w'.cell? ⟨w.heap.size, 0, none⟩ = some (.int .i64 t) ∧ w'.cell? ⟨w.heap.size, 1, none⟩ = some (.slice sa n sc) ∧ w'.cell? ⟨w.heap.size, 2, none⟩ = some (.int .i64 k) ∧ w'.cell? ⟨w.heap.size, 3, none⟩ = some (.int .i64 m))
    (first | assumption | exact KC.out _ (by assumption))
    (first
      | (go_at_call 11; refine (KG.out _ (by assumption)).mono ?_; rintro e w7 ⟨rfl, s7⟩)
      | (go_at_call 12; refine (KRG.out _ (by assumption)).mono ?_; rintro e w8 ⟨rfl, s8⟩))
  have KL2 := KL.out _ s8
  clear KG KL KRG KC
  go_wp2_with fail
  refine KL2.mono ?_
  rintro e w9 ⟨rfl, hb⟩
  clear KL2
  go_wp2_with fail
  go_ret
  exact ⟨rfl, hb⟩

set_option maxHeartbeats 6400000 in
theorem acts_long (hs : SetAt w sa n sc S) (t : Nat) (k m : Int) (hg : goodB t S k m = true) (la : Option Addr) (ln lc : Nat) (hln : 300 < ln) :
    Calls Try.prog 3 #[setV t sa n sc k m, .slice la ln lc] w fun e w' => e = .returned (.bool true) ∧ Below w.heap.size w w' := by
  have S0 : Side w [Bz w t sa n sc k m] (w.alloc (setO t sa n sc k m)) := (Side.nil w).alloc 0 _
  obtain ⟨c0, c1, c2, c3⟩ := bz_cells S0 (List.mem_cons_self ..)
  have S1 := S0.drew
  have KA := Lib.hid (fun W (h : Side w [Bz w t sa n sc k m] W) => bx_new hs t k m hg h 1)
  have KB := Lib.hid (fun W p (h : Side w [(1, Sk p (SkV.empty t S)), Bz w t sa n sc k m] W) => bx_new hs t k m hg h 2)
  have KRA := Lib.hid (fun W p q (h : Side w [(2, Sk q (SkV.empty t S)), (1, Sk p (SkV.empty t S)), Bz w t sa n sc k m] W) => bz_rnew hs t k m hg h 3)
  have KRB := Lib.hid (fun W p q r (h : Side w [(3, RSk r (SkV.empty t S)), (2, Sk q (SkV.empty t S)), (1, Sk p (SkV.empty t S)), Bz w t sa n sc k m] W) => bz_rnew hs t k m hg h 4)
  have KG := Lib.hid (fun W p q r o (h : Side w [(4, RSk o (SkV.empty t S)), (3, RSk r (SkV.empty t S)), (2, Sk q (SkV.empty t S)), (1, Sk p (SkV.empty t S)), Bz w t sa n sc k m] W) => hg ▸ bx_good hs t k m h)
  have KRG := Lib.hid (fun W p q r o (h : Side w [(4, RSk o (SkV.empty t S)), (3, RSk r (SkV.empty t S)), (2, Sk q (SkV.empty t S)), (1, Sk p (SkV.empty t S)), Bz w t sa n sc k m] W) => hg ▸ bz_rgood hs t k m h)
  have KC0 := Lib.hid (fun W (h : Side w [Bz w t sa n sc k m] W) => bz_cells h (.head _))
  have KC1 := Lib.hid (fun W p (h : Side w [(1, Sk p (SkV.empty t S)), Bz w t sa n sc k m] W) => bz_cells h (.tail _ (.head _)))
  have KC2 := Lib.hid (fun W p q (h : Side w [(2, Sk q (SkV.empty t S)), (1, Sk p (SkV.empty t S)), Bz w t sa n sc k m] W) => bz_cells h (.tail _ (.tail _ (.head _))))
  have KC3 := Lib.hid (fun W p q r (h : Side w [(3, RSk r (SkV.empty t S)), (2, Sk q (SkV.empty t S)), (1, Sk p (SkV.empty t S)), Bz w t sa n sc k m] W) => bz_cells h (.tail _ (.tail _ (.tail _ (.head _)))))
  have KC4 := Lib.hid (fun W p q r o (h : Side w [(4, RSk o (SkV.empty t S)), (3, RSk r (SkV.empty t S)), (2, Sk q (SkV.empty t S)), (1, Sk p (SkV.empty t S)), Bz w t sa n sc k m] W) => bz_cells h (.tail _ (.tail _ (.tail _ (.tail _ (.head _))))))
  have KL := Lib.hid (fun W E (h : Side w E W) => bx_lives h)
  have tl : decide ((300 : Int) < (ln : Int)) = true := decide_eq_true (by omega)
  clear hs hg hln
  unfold setV
  unfold setO at S0 S1 c0 c1 c2 c3
  go_enter Try.func3, Try.ntmps3
  go_wp2_with fail
  go_region_held3 (fun w' => w'.cell? ⟨w.heap.size, 0, none⟩ = some (.int .i64 t) ∧ w'.cell? ⟨w.heap.size, 1, none⟩ = some (.slice sa n sc) ∧ w'.cell? ⟨w.heap.size, 2, none⟩ = some (.int .i64 k) ∧ w'.cell? ⟨w.heap.size, 3, none⟩ = some (.int .i64 m))
    (first | assumption | exact KC0.out _ (by assumption) | exact KC1.out _ _ (by assumption) | exact KC2.out _ _ _ (by assumption))
    (first
      | (go_at_call 9; refine (KA.out _ (by assumption)).mono ?_; rintro e w5 ⟨p5, rfl, s5⟩)
      | (go_at_call 9; refine (KB.out _ _ (by assumption)).mono ?_; rintro e w6 ⟨p6, rfl, s6⟩))
  have S6 := s6.drew
  obtain ⟨d0, d1, d2, d3⟩ := bz_cells S6 (.tail _ (.tail _ (.head _)))
  rename_i hheld
  clear s5 s6 S0 S1 c0 c1 c2 c3 hheld KA KB KC0 KC1
  go_wp2_with fail
  go_region_held3 (fun w' => w'.cell? ⟨w.heap.size, 0, none⟩ = some (.int .i64 t) ∧ w'.cell? ⟨w.heap.size, 1, none⟩ = some (.slice sa n sc) ∧ w'.cell? ⟨w.heap.size, 2, none⟩ = some (.int .i64 k) ∧ w'.cell? ⟨w.heap.size, 3, none⟩ = some (.int .i64 m))
    (first | assumption | exact KC2.out _ _ _ (by assumption) | exact KC3.out _ _ _ _ (by assumption) | exact KC4.out _ _ _ _ _ (by assumption))
    (first
      | (go_at_call 10; refine (KRA.out _ _ _ (by assumption)).mono ?_; rintro e w7 ⟨p7, rfl, s7⟩)
      | (go_at_call 10; refine (KRB.out _ _ _ _ (by assumption)).mono ?_; rintro e w8 ⟨p8, rfl, s8⟩))
  have S8 := s8.drew
  obtain ⟨d0, d1, d2, d3⟩ := bz_cells S8 (.tail _ (.tail _ (.tail _ (.tail _ (.head _)))))
  rename_i hheld _ _ _ _
  clear s7 s8 S6 KRA KRB KC2 KC3
  go_wp2_with fail
  go_region_held3 (fun w' => w'.cell? ⟨w.heap.size, 0, none⟩ = some (.int .i64 t) ∧ w'.cell? ⟨w.heap.size, 1, none⟩ = some (.slice sa n sc) ∧ w'.cell? ⟨w.heap.size, 2, none⟩ = some (.int .i64 k) ∧ w'.cell? ⟨w.heap.size, 3, none⟩ = some (.int .i64 m))
    (first | assumption | exact KC4.out _ _ _ _ _ (by assumption))
    (first
      | (go_at_call 11; refine (KG.out _ _ _ _ _ (by assumption)).mono ?_; rintro e w9 ⟨rfl, s9⟩)
      | (go_at_call 12; refine (KRG.out _ _ _ _ _ (by assumption)).mono ?_; rintro e w10 ⟨rfl, s10⟩))
  have KL2 := KL.out _ _ s10
  clear KG KL KRG KC4
  go_wp2_with fail
  refine KL2.mono ?_
  rintro e w11 ⟨rfl, hb⟩
  clear KL2
  go_wp2_with fail
  go_ret
  exact ⟨rfl, hb⟩

/-- the state between rounds -/
def ActI (w : World) (t : Nat) (S : List (Nat × Nat)) (p q r o : Nat) (W : World) : Prop :=
  ∃ b ob V U, (V.t = t ∧ V.seeds = S ∧ U.t = t ∧ U.seeds = S) ∧ Four w b ob p q r o V U V U W

set_option maxHeartbeats 12800000 in
theorem acts_main (hs : SetAt w sa n sc S) (t : Nat) (k m : Int) (hg : goodB t S k m = true) (la : Option Addr) (ln lc : Nat) (hA : ActsK w la ln) (hln : ln ≤ 300) :
    Calls Try.prog 3 #[setV t sa n sc k m, .slice la ln lc] w fun e w' => e = .returned (.bool true) ∧ Below w.heap.size w w' := by
  have S0 : Side w [Bz w t sa n sc k m] (w.alloc (setO t sa n sc k m)) := (Side.nil w).alloc 0 _
  obtain ⟨c0, c1, c2, c3⟩ := bz_cells S0 (List.mem_cons_self ..)
  have S1 := S0.drew
  have KA := Lib.hid (fun W (h : Side w [Bz w t sa n sc k m] W) => bx_new hs t k m hg h 1)
  have KB := Lib.hid (fun W p (h : Side w [(1, Sk p (SkV.empty t S)), Bz w t sa n sc k m] W) => bx_new hs t k m hg h 2)
  have KRA := Lib.hid (fun W p q (h : Side w [(2, Sk q (SkV.empty t S)), (1, Sk p (SkV.empty t S)), Bz w t sa n sc k m] W) => bz_rnew hs t k m hg h 3)
  have KRB := Lib.hid (fun W p q r (h : Side w [(3, RSk r (SkV.empty t S)), (2, Sk q (SkV.empty t S)), (1, Sk p (SkV.empty t S)), Bz w t sa n sc k m] W) => bz_rnew hs t k m hg h 4)
  have KG := Lib.hid (fun W p q r o (h : Side w [(4, RSk o (SkV.empty t S)), (3, RSk r (SkV.empty t S)), (2, Sk q (SkV.empty t S)), (1, Sk p (SkV.empty t S)), Bz w t sa n sc k m] W) => hg ▸ bx_good hs t k m h)
  have KRG := Lib.hid (fun W p q r o (h : Side w [(4, RSk o (SkV.empty t S)), (3, RSk r (SkV.empty t S)), (2, Sk q (SkV.empty t S)), (1, Sk p (SkV.empty t S)), Bz w t sa n sc k m] W) => hg ▸ bz_rgood hs t k m h)
  have KC0 := Lib.hid (fun W (h : Side w [Bz w t sa n sc k m] W) => bz_cells h (.head _))
  have KC1 := Lib.hid (fun W p (h : Side w [(1, Sk p (SkV.empty t S)), Bz w t sa n sc k m] W) => bz_cells h (.tail _ (.head _)))
  have KC2 := Lib.hid (fun W p q (h : Side w [(2, Sk q (SkV.empty t S)), (1, Sk p (SkV.empty t S)), Bz w t sa n sc k m] W) => bz_cells h (.tail _ (.tail _ (.head _))))
  have KC3 := Lib.hid (fun W p q r (h : Side w [(3, RSk r (SkV.empty t S)), (2, Sk q (SkV.empty t S)), (1, Sk p (SkV.empty t S)), Bz w t sa n sc k m] W) => bz_cells h (.tail _ (.tail _ (.tail _ (.head _)))))
  have KC4 := Lib.hid (fun W p q r o (h : Side w [(4, RSk o (SkV.empty t S)), (3, RSk r (SkV.empty t S)), (2, Sk q (SkV.empty t S)), (1, Sk p (SkV.empty t S)), Bz w t sa n sc k m] W) => bz_cells h (.tail _ (.tail _ (.tail _ (.tail _ (.head _))))))
  have tl : decide ((300 : Int) < (ln : Int)) = false := decide_eq_false (by omega)
  have HA := Lib.hid hA
  clear hs hg hA
  unfold setV
  unfold setO at S0 S1 c0 c1 c2 c3
  go_enter Try.func3, Try.ntmps3
  go_wp2_with fail
  go_region_held3 (fun w' => w'.cell? ⟨w.heap.size, 0, none⟩ = some (.int .i64 t) ∧ w'.cell? ⟨w.heap.size, 1, none⟩ = some (.slice sa n sc) ∧ w'.cell? ⟨w.heap.size, 2, none⟩ = some (.int .i64 k) ∧ w'.cell? ⟨w.heap.size, 3, none⟩ = some (.int .i64 m))
    (first | assumption | exact KC0.out _ (by assumption) | exact KC1.out _ _ (by assumption) | exact KC2.out _ _ _ (by assumption))
    (first
      | (go_at_call 9; refine (KA.out _ (by assumption)).mono ?_; rintro e w5 ⟨p5, rfl, s5⟩)
      | (go_at_call 9; refine (KB.out _ _ (by assumption)).mono ?_; rintro e w6 ⟨p6, rfl, s6⟩))
  have S6 := s6.drew
  obtain ⟨d0, d1, d2, d3⟩ := bz_cells S6 (.tail _ (.tail _ (.head _)))
  rename_i hheld
  clear s5 s6 S0 S1 c0 c1 c2 c3 hheld KA KB KC0 KC1
  go_wp2_with fail
  go_region_held3 (fun w' => w'.cell? ⟨w.heap.size, 0, none⟩ = some (.int .i64 t) ∧ w'.cell? ⟨w.heap.size, 1, none⟩ = some (.slice sa n sc) ∧ w'.cell? ⟨w.heap.size, 2, none⟩ = some (.int .i64 k) ∧ w'.cell? ⟨w.heap.size, 3, none⟩ = some (.int .i64 m))
    (first | assumption | exact KC2.out _ _ _ (by assumption) | exact KC3.out _ _ _ _ (by assumption) | exact KC4.out _ _ _ _ _ (by assumption))
    (first
      | (go_at_call 10; refine (KRA.out _ _ _ (by assumption)).mono ?_; rintro e w7 ⟨p7, rfl, s7⟩)
      | (go_at_call 10; refine (KRB.out _ _ _ _ (by assumption)).mono ?_; rintro e w8 ⟨p8, rfl, s8⟩))
  have S8 := s8.drew
  obtain ⟨d0, d1, d2, d3⟩ := bz_cells S8 (.tail _ (.tail _ (.tail _ (.tail _ (.head _)))))
  rename_i hheld _ _ _ _
  clear s7 s8 S6 KRA KRB KC2 KC3
  go_wp2_with fail
  go_region_held3 (fun w' => w'.cell? ⟨w.heap.size, 0, none⟩ = some (.int .i64 t) ∧ w'.cell? ⟨w.heap.size, 1, none⟩ = some (.slice sa n sc) ∧ w'.cell? ⟨w.heap.size, 2, none⟩ = some (.int .i64 k) ∧ w'.cell? ⟨w.heap.size, 3, none⟩ = some (.int .i64 m))
    (first | assumption | exact KC4.out _ _ _ _ _ (by assumption))
    (first
      | (go_at_call 11; refine (KG.out _ _ _ _ _ (by assumption)).mono ?_; rintro e w9 ⟨rfl, s9⟩)
      | (go_at_call 12; refine (KRG.out _ _ _ _ _ (by assumption)).mono ?_; rintro e w10 ⟨rfl, s10⟩))
  have HI : Hid (ActI w t S p5 p6 p7 p8 w10) := Lib.hid ⟨w.heap.size, setO t sa n sc k m, SkV.empty t S, SkV.empty t S, ⟨rfl, rfl, rfl, rfl⟩, 1, 2, 3, 4, by decide, s10.sub (fun x hx => by simp at hx ⊢; rcases hx with rfl | rfl | rfl | rfl | rfl <;> simp)⟩
  rename_i hheld2
  clear KG KRG KC4 s9 s10 S8 hheld hheld2 d0 d1 d2 d3
  go_wp2_with fail
  clear tl
  go_loopw [5, 6, 7, 8, 10, 11, 42] (fun sk so sr sp _ _ c wr => ∃ i p q r o : Nat, c = .int .i64 i ∧ i ≤ ln ∧ sk = .pointer (some ⟨p, 0, none⟩) ∧ so = .pointer (some ⟨q, 0, none⟩) ∧ sr = .pointer (some ⟨r, 0, none⟩) ∧ sp = .pointer (some ⟨o, 0, none⟩) ∧ Hid (ActI w t S p q r o wr)) (fun _ _ _ _ _ _ c _ => ln - (intOf c).toNat)
  case atStart => exact ⟨0, p5, p6, p7, p8, rfl, Nat.zero_le _, rfl, rfl, rfl, rfl, HI.out⟩
  case round =>
    obtain ⟨i, p, q, r, o, rfl, hi, rfl, rfl, rfl, rfl, HI⟩ := hrel
    by_cases hlt : i < ln
    · obtain ⟨ad, rfl, kd, x, A⟩ := HA.out i hlt
      obtain ⟨b, ob, V, U, hv, hF⟩ := HI.out
      obtain ⟨c0, c1⟩ := A.read hF.base
      have hx := A.hx
      have F1 := Lib.hid (hF.box (.cells #[.int .i64 kd, .int .u64 (x : Int)] 34))
      have HV := Lib.hid hv
      have b0 : (0 : Int) ≤ (i : Int) := by omega
      have b1 : (i : Int) < (ln : Int) := by omega
      clear hF HI A hv
      by_cases h0 : kd = 0
      · subst h0
        have K1 := f_ins F1.out hx
        have KI := Lib.hid (fun W V' (h : Four w wr.heap.size (.cells #[.int .i64 0, .int .u64 (x : Int)] 34) p q r o (V.ins x) U V' U W) => f_rins h hx)
        clear F1
        go_wp2_with fail
        refine K1.mono ?_
        rintro e w2 ⟨rfl, f2⟩
        obtain ⟨d0, d1⟩ : w2.cell? ⟨wr.heap.size, 0, none⟩ = some (.int .i64 0) ∧ w2.cell? ⟨wr.heap.size, 1, none⟩ = some (.int .u64 (x : Int)) := ⟨by rw [cell_of_row _ _ _ _ _ _ f2.heap]; rfl, by rw [cell_of_row _ _ _ _ _ _ f2.heap]; rfl⟩
        have K2 := KI.out _ _ f2
        clear K1 KI f2 c0 c1
        go_wp2_with fail
        refine K2.mono ?_
        rintro e w3 ⟨rfl, f3⟩
        have F3 := Lib.hid f3
        clear K2 f3 d0 d1
        go_wp2_with fail
        refine (f_alike F3.out).mono ?_
        rintro e wz ⟨rfl, FA⟩
        have HF : Hid (ActI w t S p q r o wz) := Lib.hid ⟨_, _, V.ins x, U, ⟨HV.out.1, HV.out.2.1, HV.out.2.2.1, HV.out.2.2.2⟩, FA⟩
        clear FA F3
        go_wp2_with fail
        go_roundw
        case rel => exact ⟨i + 1, p, q, r, o, by go_num, by omega, rfl, rfl, rfl, rfl, HF⟩
        case measure => simp [intOf]; omega
      by_cases h1 : kd = 1
      · subst h1
        clear h0
        have K1 := f_merge F1.out (by rw [HV.out.1, HV.out.2.2.1]) (by rw [HV.out.2.1, HV.out.2.2.2])
        have KI := Lib.hid (fun W V' (h : Four w wr.heap.size (.cells #[.int .i64 1, .int .u64 (x : Int)] 34) p q r o V' U V U W) => f_rmerge h (by rw [HV.out.1, HV.out.2.2.1]) (by rw [HV.out.2.1, HV.out.2.2.2]))
        clear F1
        go_wp2_with fail
        refine K1.mono ?_
        rintro e w2 ⟨rfl, f2⟩
        have K2 := KI.out _ _ f2
        clear K1 KI f2 c0 c1
        go_wp2_with fail
        refine K2.mono ?_
        rintro e w3 ⟨rfl, f3⟩
        have F3 := Lib.hid f3
        clear K2 f3
        go_wp2_with fail
        refine (f_alike F3.out).mono ?_
        rintro e wz ⟨rfl, FA⟩
        have HF : Hid (ActI w t S p q r o wz) := Lib.hid ⟨_, _, V.merge U, U, ⟨HV.out.1, HV.out.2.1, HV.out.2.2.1, HV.out.2.2.2⟩, FA⟩
        clear FA F3
        go_wp2_with fail
        go_roundw
        case rel => exact ⟨i + 1, p, q, r, o, by go_num, by omega, rfl, rfl, rfl, rfl, HF⟩
        case measure => simp [intOf]; omega
      by_cases h2 : kd = 2
      · subst h2
        clear h0
        clear h1
        have K1 := f_self F1.out
        clear F1
        go_wp2_with fail
        refine K1.mono ?_
        rintro e w2 ⟨rfl, f2⟩
        have K2 := f_rcopy f2
        clear K1 f2 c0 c1
        go_wp2_with fail
        refine K2.mono ?_
        rintro e w3 ⟨y, rfl, f3⟩
        have K3 := f_rmerge_copy f3
        clear K2 f3
        go_wp2_with fail
        refine K3.mono ?_
        rintro e w4 ⟨rfl, f4⟩
        have F4 := Lib.hid f4
        clear K3 f4
        go_wp2_with fail
        refine (f_alike F4.out).mono ?_
        rintro e wz ⟨rfl, FA⟩
        have HF : Hid (ActI w t S p q r o wz) := Lib.hid ⟨_, _, V, U, ⟨HV.out.1, HV.out.2.1, HV.out.2.2.1, HV.out.2.2.2⟩, FA⟩
        clear FA F4
        go_wp2_with fail
        go_roundw
        case rel => exact ⟨i + 1, p, q, r, o, by go_num, by omega, rfl, rfl, rfl, rfl, HF⟩
        case measure => simp [intOf]; omega
      by_cases h3 : kd = 3
      · subst h3
        clear h0
        clear h1
        clear h2
        have F3 := Lib.hid F1.out.swap
        clear F1
        go_wp2_with fail
        refine (f_alike F3.out).mono ?_
        rintro e wz ⟨rfl, FA⟩
        have HF : Hid (ActI w t S q p o r wz) := Lib.hid ⟨_, _, U, V, ⟨HV.out.2.2.1, HV.out.2.2.2, HV.out.1, HV.out.2.1⟩, FA⟩
        clear FA F3
        go_wp2_with fail
        go_roundw
        case rel => exact ⟨i + 1, q, p, o, r, by go_num, by omega, rfl, rfl, rfl, rfl, HF⟩
        case measure => simp [intOf]; omega
      by_cases h4 : kd = 4
      · subst h4
        clear h0
        clear h1
        clear h2
        clear h3
        have K1 := f_copy F1.out
        clear F1
        go_wp2_with fail
        refine K1.mono ?_
        rintro e w2 ⟨y, rfl, f2⟩
        obtain ⟨d0, d1⟩ : w2.cell? ⟨wr.heap.size, 0, none⟩ = some (.int .i64 4) ∧ w2.cell? ⟨wr.heap.size, 1, none⟩ = some (.int .u64 (x : Int)) := ⟨by rw [cell_of_row _ _ _ _ _ _ f2.heap]; rfl, by rw [cell_of_row _ _ _ _ _ _ f2.heap]; rfl⟩
        have K2 := f_ins_old f2 hx
        clear K1 f2 c0 c1
        go_wp2_with fail
        refine K2.mono ?_
        rintro e w3 ⟨rfl, f3⟩
        have F3 := Lib.hid f3
        clear K2 f3 d0 d1
        go_wp2_with fail
        refine (f_alike F3.out).mono ?_
        rintro e wz ⟨rfl, FA⟩
        have HF : Hid (ActI w t S y q r o wz) := Lib.hid ⟨_, _, V, U, ⟨HV.out.1, HV.out.2.1, HV.out.2.2.1, HV.out.2.2.2⟩, FA⟩
        clear FA F3
        go_wp2_with fail
        go_roundw
        case rel => exact ⟨i + 1, y, q, r, o, by go_num, by omega, rfl, rfl, rfl, rfl, HF⟩
        case measure => simp [intOf]; omega
      have t0 : (kd == 0) = false := by simpa using h0
      have t1 : (kd == 1) = false := by simpa using h1
      have t2 : (kd == 2) = false := by simpa using h2
      have t3 : (kd == 3) = false := by simpa using h3
      have t4 : (kd == 4) = false := by simpa using h4
      clear h0 h1 h2 h3 h4
      go_wp2_with fail
      refine (f_alike F1.out).mono ?_
      rintro e wz ⟨rfl, FA⟩
      have HF : Hid (ActI w t S p q r o wz) := Lib.hid ⟨_, _, V, U, ⟨HV.out.1, HV.out.2.1, HV.out.2.2.1, HV.out.2.2.2⟩, FA⟩
      clear FA F1
      go_wp2_with fail
      go_roundw
      case rel => exact ⟨i + 1, p, q, r, o, by go_num, by omega, rfl, rfl, rfl, rfl, HF⟩
      case measure => simp [intOf]; omega
    · obtain ⟨b, ob, V, U, hv, hF⟩ := HI.out
      have K1 := f_alike hF.swap
      clear HI hF HA
      go_wp2_with fail
      refine K1.mono ?_
      rintro e w2 ⟨rfl, f2⟩
      have K2 := f_lives f2
      clear K1 f2
      go_wp2_with fail
      refine K2.mono ?_
      rintro e w3 ⟨rfl, hb⟩
      clear K2
      go_wp2_with fail
      go_ret
      exact ⟨rfl, hb⟩

theorem acts_walk (hs : SetAt w sa n sc S) (t k m : Int) (la : Option Addr) (ln lc : Nat) (hA : ActsK w la ln) :
    Calls Try.prog 3 #[setV t sa n sc k m, .slice la ln lc] w fun e w' => e = .returned (.bool true) ∧ Below w.heap.size w w' := by
  cases hg : goodB t S k m with
  | false => exact acts_bad hs t k m hg la ln lc
  | true =>
    obtain ⟨tn, rfl, _⟩ := goodB_set hg
    by_cases h : 300 < ln
    · exact acts_long hs tn k m hg la ln lc h
    · exact acts_main hs tn k m hg la ln lc hA (by omega)
end
end Go.Proofs.Ytadlfmdliinnnaa
