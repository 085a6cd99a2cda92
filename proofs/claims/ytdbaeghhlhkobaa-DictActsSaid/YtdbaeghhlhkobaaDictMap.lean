/- A value as a map's key, ids by values as a list, and the map of them in memory. Conditions: none. -/
import Derived.Test.YtdbaeghhlhkobaaVbRow
import Derived.Test.YtdbaeghhlhkobaaThings
import Derived.DeepKeys4
import Derived.ChangeKeys
import Derived.Maps.OwnSet
set_option maxRecDepth 100000
namespace Go.Proofs.Ytdbaeghhlhkobaa
open Go.RowKit Go.Maps Go.Sort Go.Lib

theorem KLawV : WideMaps.KeyLaw Try.prog 29 := deep_law_laid (show laidOutB Try.prog = true by kernel_rfl) (m := 2) (by omega) (of_decide_eq_true (by kernel_rfl)) (by kernel_rfl) (by rw [Try.underlying29])
theorem KPV : Keyed Try.prog 29 := Keyed.of_law KLawV

/-- a value as Go's types have it -/
def VV.ty (x : VV) : Prop := (-9223372036854775808 ≤ x.k ∧ x.k < 9223372036854775808) ∧ (-9223372036854775808 ≤ x.n ∧ x.n < 9223372036854775808) ∧ x.s.size ≤ maxLen
theorem VV.ty.inI {x : VV} (h : x.ty) : x.inI := h.2.1
theorem VV.ty.wk {x : VV} (h : x.ty) : (Lit.int .i64 x.k).wf = true := Go.WalkArith.wf_i64 ⟨h.1.1, by have := h.1.2; omega⟩
theorem VV.ty.wn {x : VV} (h : x.ty) : (Lit.int .i64 x.n).wf = true := Go.WalkArith.wf_i64 ⟨h.2.1.1, by have := h.2.1.2; omega⟩
theorem ty_none : VV.none_.ty := ⟨⟨by decide, by decide⟩, ⟨by decide, by decide⟩, by show (0 : Nat) ≤ _; unfold maxLen; omega⟩

abbrev VV.val (x : VV) : Value := vv x.k x.n x.s
def VV.lits (x : VV) : List Lit := [.int .i64 x.k, .int .i64 x.n, .string x.s.data.toList]
def VV.key (x : VV) : Lit := .string (keyBytes x.lits)
theorem key_inj {x y : VV} (hx : x.ty) (hy : y.ty) (h : x.key = y.key) : x = y := by
  have wf : ∀ z : VV, z.ty → ∀ a ∈ z.lits, a.keyWf := fun z hz a ha => by
    simp only [VV.lits, List.mem_cons, List.not_mem_nil, or_false] at ha
    rcases ha with rfl | rfl | rfl
    · exact hz.wk
    · exact hz.wn
    · show z.s.data.toList.length ≤ maxLen
      rw [← Lib.size_eq]; exact hz.2.2
  have := keyBytes_inj (l := x.lits) (l' := y.lits) ⟨rfl, rfl, trivial, trivial⟩ (wf x hx) (wf y hy) (Lit.string.inj h)
  obtain ⟨k, n, ⟨⟨s⟩⟩⟩ := x
  obtain ⟨k', n', ⟨⟨s'⟩⟩⟩ := y
  simp [VV.lits] at this
  obtain ⟨rfl, rfl, rfl⟩ := this
  rfl
theorem key_isKey (x : VV) : WideAt.IsKeyLit x.key := trivial
theorem keyLits_int {P : Program} {q : IntKind} {t : TypeId} (hu : P.underlying t = some (.int q)) {a : Int} (wa : (Lit.int q a).wf = true) (n : Nat) : P.keyLits (n + 1) t [.int q a] = some [.int q a] := by
  simp [Program.keyLits, hu, wa]
theorem keyLits_str {P : Program} {t : TypeId} (hu : P.underlying t = some .string) {s : ByteArray} (ws : s.size ≤ maxLen) (n : Nat) : P.keyLits (n + 1) t [.string s] = some [.string s.data.toList] := by
  simp [Program.keyLits, hu, ws]
theorem keyLits_three {P : Program} {q r : IntKind} {t ta tb tc : TypeId} {f g h : Field} (ht : P.underlying t = some (.struct #[f, g, h])) (hf : f.offset = 0 ∧ f.type = ta ∧ (f.name != "_") = true) (hg : g.offset = 1 ∧ g.type = tb ∧ (g.name != "_") = true) (hh : h.offset = 2 ∧ h.type = tc ∧ (h.name != "_") = true)
    (ha : P.underlying ta = some (.int q)) (hb : P.underlying tb = some (.int r)) (hc : P.underlying tc = some .string) (ca : P.cellsOf ta = 1) (cb : P.cellsOf tb = 1) (cc : P.cellsOf tc = 1) (ct : P.cellsOf t = 3) {a b : Int} {s : ByteArray} (wa : (Lit.int q a).wf = true) (wb : (Lit.int r b).wf = true) (ws : s.size ≤ maxLen) (n : Nat) :
    P.keyLits (n + 1 + 1) t [.int q a, .int r b, .string s] = some [.int q a, .int r b, .string s.data.toList] := by
  obtain ⟨f1, f2, f3⟩ := hf
  obtain ⟨g1, g2, g3⟩ := hg
  obtain ⟨h1, h2, h3⟩ := hh
  unfold Program.keyLits
  simp only [ht]
  rw [if_pos ⟨by rw [ct]; rfl, by simp [f3, g3, h3]⟩]
  simp only [List.mapM_cons, List.mapM_nil, f1, f2, g1, g2, h1, h2, ca, cb, cc, List.drop_zero, List.take_succ_cons, List.take_zero, List.drop_succ_cons, keyLits_int ha wa n, keyLits_int hb wb n, keyLits_str hc ws n]
  rfl
theorem val_key {x : VV} (h : x.ty) : keyOf Try.prog 29 x.val = some x.key := by
  have ht := Try.underlying29
  have ct : Try.prog.cellsOf 29 = 3 := by kernel_rfl
  obtain ⟨n, hsz⟩ : ∃ n, Try.prog.types.size = n + 1 := ⟨Try.prog.types.size - 1, by kernel_rfl⟩
  have hk : Try.prog.keyType 29 = true := by kernel_rfl
  unfold keyOf
  simp only [ht]
  rw [if_pos (by rw [hk]; simp [Value.formed, ht, ct]), hsz]
  simp only [Value.cells]
  rw [keyLits_three ht ⟨rfl, rfl, by decide⟩ ⟨rfl, rfl, by decide⟩ ⟨rfl, rfl, by decide⟩ Try.underlying3 Try.underlying3 Try.underlying9 (by kernel_rfl) (by kernel_rfl) (by kernel_rfl) ct h.wk h.wn h.2.2 n]
  rfl

/-! where a value stands -/
def VV.is (x y : VV) : Bool := sameV x.k x.n x.s y.k y.n y.s
theorem is_iff (x y : VV) : x.is y = true ↔ x = y := by
  obtain ⟨k, n, s⟩ := x
  obtain ⟨k', n', s'⟩ := y
  unfold VV.is sameV
  simp only [Bool.and_eq_true, beq_iff_eq, VV.mk.injEq]
  constructor
  · rintro ⟨h1, h2, h3⟩
    rw [Lib.toList_data, Lib.toList_data] at h3
    refine ⟨h1, h2, ?_⟩
    obtain ⟨⟨s⟩⟩ := s
    obtain ⟨⟨s'⟩⟩ := s'
    simp at h3
    rw [h3]
  · rintro ⟨h1, h2, h3⟩
    exact ⟨h1, h2, by rw [h3]⟩
theorem is_self (x : VV) : x.is x = true := (is_iff x x).2 rfl
theorem is_no {x y : VV} (h : x ≠ y) : x.is y = false := by
  cases e : x.is y
  · rfl
  · exact absurd ((is_iff x y).1 e) h
/-- where in a list a value stands first -/
def posV : List VV → VV → Option Nat
  | [], _ => none
  | y :: r, x => if y.is x then some 0 else (posV r x).map (· + 1)
theorem pos_at : ∀ {L : List VV} {x : VV} {i : Nat}, posV L x = some i → L[i]? = some x
  | [], _, _, h => by simp [posV] at h
  | y :: r, x, i, h => by
    unfold posV at h
    split at h
    · rename_i e
      simp at h
      subst h
      simp [(is_iff y x).1 e]
    · obtain ⟨j, hj, rfl⟩ := Option.map_eq_some_iff.1 h
      simpa using pos_at hj
theorem pos_lt {L : List VV} {x : VV} {i : Nat} (h : posV L x = some i) : i < L.length := (List.getElem?_eq_some_iff.1 (pos_at h)).1
theorem pos_none : ∀ {L : List VV} {x : VV}, posV L x = none ↔ x ∉ L
  | [], _ => by simp [posV]
  | y :: r, x => by
    unfold posV
    by_cases e : y = x
    · subst e; simp [is_self]
    · rw [is_no e]
      simp only [Bool.false_eq_true, if_false, Option.map_eq_none_iff, List.mem_cons, not_or]
      rw [pos_none]
      exact ⟨fun h => ⟨fun e' => e e'.symm, h⟩, fun h => h.2⟩
theorem pos_snoc : ∀ (L : List VV) (x y : VV), posV (L ++ [x]) y = (posV L y).or (if x.is y then some L.length else none)
  | [], x, y => by
    show (if x.is y then some 0 else (posV [] y).map (· + 1)) = _
    cases x.is y <;> rfl
  | z :: r, x, y => by
    have ih := pos_snoc r x y
    show (if z.is y then some 0 else (posV (r ++ [x]) y).map (· + 1)) = (if z.is y then some 0 else (posV r y).map (· + 1)).or _
    cases h : z.is y
    · rw [ih]
      cases h1 : posV r y <;> cases h2 : x.is y <;> simp
    · simp
/-- no value stands twice -/
theorem pos_of_nodup {L : List VV} (h : L.Nodup) {i : Nat} {x : VV} (hx : L[i]? = some x) : posV L x = some i := by
  cases hp : posV L x with
  | none => exact absurd (List.mem_of_getElem? hx) (pos_none.1 hp)
  | some j =>
    have hj := pos_at hp
    obtain ⟨h1, e1⟩ := List.getElem?_eq_some_iff.1 hx
    obtain ⟨h2, e2⟩ := List.getElem?_eq_some_iff.1 hj
    have hd : ∀ a b (ha : a < L.length) (hb : b < L.length), a < b → L[a] ≠ L[b] := List.pairwise_iff_getElem.1 h
    rcases Nat.lt_trichotomy i j with g | g | g
    · exact absurd (e1.trans e2.symm) (hd i j h1 h2 g)
    · rw [g]
    · exact absurd (e2.trans e1.symm) (hd j i h2 h1 g)

theorem zero_int (w : World) : (zeroValue 3).run Try.prog w = .ok (.int .i64 0) w := by kernel_rfl
/-- at block b lies a map from these values to their ids -/
def MAt (w : World) (b : Nat) (L : List VV) : Prop :=
  ∃ D : DataW Unit, w.ownsMap Try.prog 29 (plainElem Try.prog 3) b L.length D ∧ ∀ x : VV, x.ty → Maps.has D x.key = (posV L x).isSome ∧ D.atKey x.key (.lit (.int .i64 0)) = .lit (.int .i64 (((posV L x).getD 0 : Nat) : Int))
theorem MAt.of_block {w w' : World} {b : Nat} {L : List VV} (h : MAt w b L) (hb : w'.heap[b]? = w.heap[b]?) : MAt w' b L := by
  obtain ⟨D, ⟨es, clock, h1, h2⟩, h3⟩ := h
  exact ⟨D, ⟨es, clock, hb.trans h1, h2⟩, h3⟩
theorem MAt.lt {w : World} {b : Nat} {L : List VV} (h : MAt w b L) : b < w.heap.size := by
  obtain ⟨D, h, _⟩ := h
  exact h.lt
theorem MAt.isMap {w : World} {b : Nat} {L : List VV} (h : MAt w b L) : ∃ es clock, w.heap[b]? = some (.map es clock) := by
  obtain ⟨D, ⟨es, clock, h1, _⟩, _⟩ := h
  exact ⟨es, clock, h1⟩
theorem MAt.made (w : World) : MAt (w.alloc (.map #[] 0)) w.heap.size [] :=
  ⟨.map [], World.ownsMap_made w _ _ _, fun _ _ => ⟨rfl, rfl⟩⟩
theorem MAt.look {w : World} {b : Nat} {L : List VV} (h : MAt w b L) {x : VV} (hx : x.ty) :
    (Instr.lookup 48 (.map (some b)) x.val true).run Try.prog w = .ok (.tuple #[.int .i64 (((posV L x).getD 0 : Nat) : Int), .bool (posV L x).isSome]) w := by
  obtain ⟨D, ho, hD⟩ := h
  obtain ⟨h1, h2⟩ := hD x hx
  have z0 : plainElem (H := Unit) Try.prog 3 (.int .i64 0) = some (.lit (.int .i64 0), []) := plainElem_int Try.underlying3 (by decide)
  obtain ⟨v, ps, r1, r2⟩ := ho.look_ok KPV Try.underlying48 (zero_int w) z0 (val_key hx)
  obtain ⟨a, rfl, e, _⟩ := plainElem_int_inv Try.underlying3 r2
  rw [h2] at e
  simp at e
  rw [r1, h1, ← e.1]
theorem MAt.store {w : World} {b : Nat} {L : List VV} (h : MAt w b L) {x : VV} (hx : x.ty) (hn : posV L x = none) (hl : L.length ≤ 100000) :
    ∃ w', (Instr.mapUpdate 48 (.map (some b)) x.val (.int .i64 (L.length : Int))).run Try.prog w = .ok () w' ∧ MAt w' b (L ++ [x]) ∧ w.mapTurned w' b := by
  obtain ⟨D, ho, hD⟩ := h
  obtain ⟨w', r1, r2, r3⟩ := ho.store KPV Try.underlying48 (by unfold maxLen; omega) (val_key hx) (plainElem_int (H := Unit) (a := (L.length : Int)) Try.underlying3 (Go.WalkArith.wf_i64 ⟨by omega, by omega⟩))
  refine ⟨w', r1, ⟨D.put x.key (.lit (.int .i64 (L.length : Int))), ?_, fun y hy => ?_⟩, r3⟩
  · rw [List.length_append]; exact r2
  · rw [pos_snoc]
    by_cases e : x = y
    · subst e
      rw [is_self, hn]
      exact ⟨Maps.has_put_same ho.isMap (key_isKey x) _, Maps.atKey_put_same ho.isMap (key_isKey x) _ _⟩
    · have e' : y.key ≠ x.key := fun g => e (key_inj hx hy g.symm)
      rw [is_no e, Maps.has_put_other e', Maps.atKey_put_other e']
      simpa using hD y hy
end Go.Proofs.Ytdbaeghhlhkobaa
