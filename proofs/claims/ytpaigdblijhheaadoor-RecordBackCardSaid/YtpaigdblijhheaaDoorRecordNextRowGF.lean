/- The texts RecZA RecBulk RecNext CodecLaid, one behind the other; each one's own comment says what it holds. -/
import Derived.Test.YtpaigdblijhheaaDoorRecordNextRowGE
import Derived.Test.YtpaigdblijhheaaDoorPush
import Derived.Test.YtpaigdblijhheaaDoorRows
import Derived.Deep.RegionHeld3
import Derived.Deep.CutBlock
import Derived.Deep.DeepCutAuto
import Derived.Test.YtpaigdblijhheaaDoorCodecSum
import Derived.Test.YtpaigdblijhheaaDoorTie
import Derived.ProofKit
import Derived.LaidMore
import Derived.Lay
import Derived.SevenTiedAt
import Derived.Stop.Joined
import Derived.ShutString
import Derived.ChangeOld
/- What the laws of records build: rows of records, bytes, logs. Conditions: as stated. -/
set_option maxRecDepth 100000
namespace Go.Proofs.YtpaigdblijhheaaDoor
open Go.ChangeShapes Go.WideShapes Go.RowKit Go.Maps Go.Sort Go.Lib

theorem rcells_len (q : RQ) : (rcells q).length = 9 := rfl
theorem fl9_len (l : List RQ) : (fl9 l).length = l.length * 9 := by
  induction l with
  | nil => rfl
  | cons x r ih => simp [fl9, rcells] at ih ⊢; omega
theorem fl9_at : ∀ (l : List RQ) (i : Nat) (q : RQ), l[i]? = some q → ∀ j u, (rcells q)[j]? = some u → (fl9 l)[i * 9 + j]? = some u
  | [], i, q, h => by simp at h
  | p :: r, 0, q, h => by
    simp at h
    subst h
    intro j u hu
    have hj : j < 9 := by rw [← rcells_len p]; exact (List.getElem?_eq_some_iff.1 hu).1
    unfold fl9
    rw [List.flatMap_cons, List.getElem?_append_left (by rw [rcells_len]; omega), Nat.zero_mul, Nat.zero_add]
    exact hu
  | p :: r, i + 1, q, h => by
    intro j u hu
    have := fl9_at r i q (by simpa using h) j u hu
    unfold fl9 at this ⊢
    rw [List.flatMap_cons, List.getElem?_append_right (by rw [rcells_len]; omega), rcells_len, show (i + 1) * 9 + j - 9 = i * 9 + j by omega]
    exact this
theorem fl9_cell (l : List RQ) (k : Nat) (u : Value) (h : (fl9 l)[k]? = some u) : ∃ q, l[k / 9]? = some q ∧ (rcells q)[k % 9]? = some u := by
  have hk : k < l.length * 9 := by rw [← fl9_len]; exact (List.getElem?_eq_some_iff.1 h).1
  have hi : k / 9 < l.length := by omega
  have e := List.getElem?_eq_getElem hi
  have hj : k % 9 < (rcells l[k / 9]).length := by rw [rcells_len]; omega
  have := fl9_at l _ _ e (k % 9) _ (List.getElem?_eq_getElem hj)
  rw [show k / 9 * 9 + k % 9 = k by omega, h] at this
  exact ⟨_, e, by rw [List.getElem?_eq_getElem hj]; exact this.symm⟩
def oneR (q : RQ) : Prop := ∀ u ∈ rcells q, u.oneCell' = true
theorem RecH.oneR {w : World} {q : RQ} (h : RecH w q.1 q.2.1 q.2.2.1 q.2.2.2.1 q.2.2.2.2) : oneR q := by
  obtain ⟨x, a, b, c, d⟩ := q
  obtain ⟨a1, ac, b1, bc, c1, cc, d1, dc, e1, e2, e3, e4⟩ := h.form
  simp only at e1 e2 e3 e4
  subst e1 e2 e3 e4
  intro u hu
  simp [rcells] at hu
  rcases hu with rfl | rfl | rfl | rfl | rfl | rfl | rfl | rfl | rfl <;> rfl
theorem fl9_one {l : List RQ} (h : ∀ q ∈ l, oneR q) : ∀ u ∈ fl9 l, u.oneCell' = true := fun u hu => by
  obtain ⟨q, hq, hu⟩ := List.mem_flatMap.1 hu
  exact h q hq u hu
theorem RecsH.below {M : Nat} {w w' : World} {v : Value} {qs : List RQ} (h : RecsH M w v qs) (hb : Below w.heap.size w w') : RecsH M w' v qs := by
  refine ⟨?_, fun q hq => ⟨(h.all q hq).1.below hb, (h.all q hq).2⟩⟩
  rcases h.form with h1 | ⟨a, c, h1, h2, h3⟩
  · exact .inl h1
  · exact .inr ⟨a, c, h1, h2, fun i q hq j u hu => kept_below hb _ _ (h3 i q hq j u hu)⟩
/-- where the records of a row of the call's own lie -/
theorem recsH_own {M : Nat} {w : World} {B : Nat} {v : Value} {qs : List RQ} (h : w.ownsRow B 36 9 v qs.length (fl9 qs)) (ha : ∀ q ∈ qs, RecH w q.1 q.2.1 q.2.2.1 q.2.2.2.1 q.2.2.2.2 ∧ q.1.inI ∧ Sizes M q.1) : RecsH M w v qs := by
  refine ⟨?_, ha⟩
  rcases h.2 with ⟨e, hn⟩ | ⟨g, cap, cur, e, _, hg, hc, _⟩
  · exact .inl ⟨e, List.eq_nil_of_length_eq_zero hn⟩
  · subst e
    refine .inr ⟨_, _, rfl, hc, fun i q hq j u hu => ?_⟩
    exact h.cells (g := g) rfl _ _ (fl9_at qs i q hq j u hu)
/-- append(row of the call's own, records that came in ..) -/
theorem app_recs {M : Nat} {W : World} {B : Nat} {v sv : Value} {xs : List RQ} {qs : List RQ} (ho : W.ownsRow B 36 9 v xs.length (fl9 xs)) (hB : B ≤ W.heap.size) (h : RecsH M W sv qs) (h1 : xs.length + qs.length ≤ 10000000) :
    ∃ v' W', (∀ ty, (Builtin.append_ #[22, 22] ty #[v, sv]).run Tryd.prog W = .ok v' W') ∧ W'.ownsRow B 36 9 v' (xs ++ qs).length (fl9 (xs ++ qs)) ∧ W.grownBy W' v.ownBlock := by
  obtain ⟨i, hi, hz0, hz1, hz2⟩ := info_parts info_rec
  rcases h.form with ⟨rfl, rfl⟩ | ⟨a, c, rfl, hc, hcell⟩
  · obtain ⟨va, vc, rfl, hvc⟩ := ownsRow_form ho
    refine ⟨_, W, fun ty => append_nilsrc _ _ ty _ i Tryd.underlying22 hi va xs.length vc 0 hvc.1, ?_, ⟨rfl, rfl, rfl, Nat.le_refl _, fun _ _ _ => rfl⟩⟩
    rw [List.append_nil]
    exact ho
  · obtain ⟨v', W', hr, h2, h3, _, _⟩ := run_append_own_at (P := Tryd.prog) (w := W) B 22 0 36 i _ 9 168 Tryd.underlying22 hi hz0 hz1 hz2 rfl (by omega) v xs.length (fl9 xs) ho a qs.length c (fl9 qs) (fl9_len qs) (fun k u hu => by
      obtain ⟨q, e1, e2⟩ := fl9_cell qs k u hu
      have := hcell _ _ e1 _ _ e2
      rwa [show k / 9 * 9 + k % 9 = k by omega] at this) (fl9_one fun q hq => (h.all q hq).1.oneR) (by unfold maxLen; omega) (by omega) hB
    refine ⟨v', W', fun ty => hr, ?_, h3⟩
    rw [List.length_append]
    have e : fl9 (xs ++ qs) = fl9 xs ++ fl9 qs := by simp [fl9]
    rw [e]
    exact h2
/-- a record in a block of its own, as a row of one -/
theorem one_rec {M : Nat} {W : World} {k : Nat} {q : RQ} (hk : W.heap[k]? = some (.cells (rcells q).toArray 36 (0, 0))) (h : RecH W q.1 q.2.1 q.2.2.1 q.2.2.2.1 q.2.2.2.2 ∧ q.1.inI ∧ Sizes M q.1) : RecsH M W (.slice (some ⟨k, 0, none⟩) 1 1) [q] := by
  refine ⟨.inr ⟨_, 1, rfl, Nat.le_refl _, fun i p hp j u hu => ?_⟩, fun p hp => ?_⟩
  · rcases Nat.eq_zero_or_pos i with rfl | hi
    · simp at hp
      subst hp
      rw [Nat.zero_mul, Nat.zero_add, Addr.add_at, Nat.zero_add, cell_of_row _ _ _ _ _ _ hk]
      simpa using hu
    · rw [List.getElem?_eq_none (by simp; omega)] at hp
      cases hp
  · rw [List.mem_singleton] at hp
    subst hp
    exact h
/-- append(append([]Record{}, l...), r), in the three orders that may be drawn -/
def RowEnd (M : Nat) (W : World) (qs : List RQ) (v3 : Value) (W3 : World) : Prop := Below W.heap.size W W3 ∧ RecsH M W3 v3 qs
section
variable {M : Nat} {W : World} {v : Value} {qs : List RQ} {q : RQ}
theorem both_at {E : World} {k m : Nat} (hE : Below W.heap.size W E) (ho : E.ownsRow W.heap.size 36 9 (.slice (some ⟨k, 0, none⟩) 0 0) 0 (fl9 [])) (h : RecsH M W v qs) (hl : qs.length ≤ 1048576) :
    ∃ v2 W2, (∀ ty, (Builtin.append_ #[22, 22] ty #[.slice (some ⟨k, 0, none⟩) 0 0, v]).run Tryd.prog E = .ok v2 W2) ∧ W2.ownsRow W.heap.size 36 9 v2 qs.length (fl9 qs) ∧ Below W.heap.size W W2 ∧ (m ≠ k → m < E.heap.size → W2.heap[m]? = E.heap[m]?) := by
  obtain ⟨v2, W2, r, o, g⟩ := app_recs (xs := []) ho hE.size (h.below hE) (by simp; omega)
  rw [List.nil_append] at o
  exact ⟨v2, W2, r, o, hE.trans (below_grown g hE.size (ownsRow_ge ho)), fun hm hlt => g.block m hlt (fun e => hm (by simpa [Value.ownBlock] using e))⟩
theorem last_at {W2 : World} {k : Nat} {v2 : Value} (hb : Below W.heap.size W W2) (ho : W2.ownsRow W.heap.size 36 9 v2 qs.length (fl9 qs)) (hk : W2.heap[k]? = some (.cells (rcells q).toArray 36 (0, 0))) (h : RecsH M W v qs) (hq : RecH W q.1 q.2.1 q.2.2.1 q.2.2.2.1 q.2.2.2.2 ∧ q.1.inI ∧ Sizes M q.1) (hl : qs.length ≤ 1048576) :
    ∃ v3 W3, (∀ ty, (Builtin.append_ #[22, 22] ty #[v2, .slice (some ⟨k, 0, none⟩) 1 1]).run Tryd.prog W2 = .ok v3 W3) ∧ RowEnd M W (qs ++ [q]) v3 W3 := by
  obtain ⟨v3, W3, r, o, g⟩ := app_recs ho hb.size (one_rec hk ⟨hq.1.below hb, hq.2⟩) (by simp; omega)
  have hB := hb.trans (below_grown g hb.size (ownsRow_ge ho))
  refine ⟨v3, W3, r, hB, recsH_own o fun p hp => ?_⟩
  rcases List.mem_append.1 hp with hp | hp
  · exact ⟨(h.all p hp).1.below hB, (h.all p hp).2⟩
  · rw [List.mem_singleton] at hp
    subst hp
    exact ⟨hq.1.below hB, hq.2⟩
end
/-- a copy of bytes, and others behind it -/
theorem copy_more {w : World} {v : Value} {l : List UInt8} (h : Holds w v (u8s l)) (hl : l.length ≤ 1000000) :
    ∃ v2 w2, Hid (∀ ty, (Builtin.append_ #[25, 25] ty #[.slice (some ⟨w.heap.size, 0, none⟩) 0 0, v]).run Tryd.prog (w.alloc (.cells #[] 5)) = .ok v2 w2) ∧ w2.ownsRow w.heap.size 5 1 v2 l.length (u8s l) ∧ Below w.heap.size w w2 := by
  have hb1 := below_o w (.cells #[] 5)
  have hr1 := World.ownsRow_made w (base := w.heap.size) (e := 5) (size := 1) #[] 0 (Nat.le_refl _) (by unfold maxLen; omega) (by simp)
  obtain ⟨v2, w2, r, o, g, b⟩ := app8 (xs := []) hr1 hb1.size (h.below hb1) (by simp; omega)
  rw [List.nil_append] at o
  exact ⟨v2, w2, Lib.hid r, o, hb1.trans (below_grown g hb1.size (fun k e => by simp [Value.ownBlock] at e; omega))⟩
theorem more_at {w w2 : World} {v2 sv : Value} {l m : List UInt8} (ho : w2.ownsRow w.heap.size 5 1 v2 l.length (u8s l)) (hb : Below w.heap.size w w2) (hs : Holds w2 sv (u8s m)) (hl : l.length ≤ 1000000) (hm : m.length ≤ 1000000) :
    ∃ v3 w3, Hid (∀ ty, (Builtin.append_ #[25, 25] ty #[v2, sv]).run Tryd.prog w2 = .ok v3 w3) ∧ w3.ownsRow w.heap.size 5 1 v3 (l ++ m).length (u8s (l ++ m)) ∧ Below w.heap.size w w3 := by
  obtain ⟨v3, w3, r, o, g, _⟩ := app8 ho hb.size hs (by omega)
  exact ⟨v3, w3, Lib.hid r, o, hb.trans (below_grown g hb.size (ownsRow_ge ho))⟩
/-- the frames of records, one behind the other -/
def logL (xs : List RV) : List UInt8 := manyL (fun x => frameL (bytR x)) xs
def WhR (x : RV) : Prop := goodR x = true ∧ x.inI ∧ (bytR x).length ≤ 262144
theorem first_frame {x : RV} (h : WhR x) (ext : List UInt8) : firstR (frameL (bytR x) ++ ext) = some (x, (frameL (bytR x)).length) := by
  unfold firstR
  rw [unf_frame h.2.2]
  simp only [Option.bind_some]
  rw [(loadR_iff (by have := h.2.2; omega)).2 ⟨h.1, h.2.1, h.2.2, rfl⟩]
  simp [frameL_len]
theorem first_short {l : List UInt8} (h : l.length < 8) : firstR l = none := by
  cases e : firstR l with
  | none => rfl
  | some q => have := firstR_len (show firstR l = some (q.1, q.2) from e); omega
theorem scan_log : ∀ (xs : List RV) (ext : List UInt8), (∀ x ∈ xs, WhR x) → firstR ext = none → scanL (logL xs ++ ext) = (xs, (logL xs).length)
  | [], ext, _, h => by
    have : logL [] = [] := rfl
    rw [this, List.nil_append]
    exact scan_stop h
  | x :: r, ext, hx, h => by
    have e : logL (x :: r) ++ ext = frameL (bytR x) ++ (logL r ++ ext) := by unfold logL; rw [manyL_cons, List.append_assoc]
    have h1 := first_frame (hx x (List.mem_cons_self ..)) (logL r ++ ext)
    have ih := scan_log r ext (fun y hy => hx y (List.mem_cons_of_mem _ hy)) h
    rw [e, scan_step h1, List.drop_left, ih]
    unfold logL
    rw [manyL_cons, List.length_append]
theorem log_len : ∀ (xs : List RV), xs.length * 8 ≤ (logL xs).length
  | [] => by simp [logL, manyL]
  | x :: r => by
    have := log_len r
    unfold logL at *
    rw [manyL_cons, List.length_append, frameL_len, List.length_cons]
    omega
theorem log_snoc (xs : List RV) (x : RV) : logL (xs ++ [x]) = logL xs ++ frameL (bytR x) := by unfold logL; rw [manyL_snoc]
/-- Scan at what was built -/
theorem scan_built {w : World} (hqd : Quads w) {p0 : Option Addr} {n k0 id : Nat} {xs : List RV} {ext HD : List UInt8} (hH : headL id = HD) (h : Holds w (.slice p0 n k0) (u8s ((HD ++ logL xs) ++ ext))) (hl : ((HD ++ logL xs) ++ ext).length ≤ 1000000) (hid : id < 18446744073709551616) (hx : ∀ x ∈ xs, WhR x) (he : firstR ext = none) :
    Calls Tryd.prog 10 #[.slice p0 n k0, .int .u64 (id : Int)] w fun e w' => ∃ a c, e = .returned (.tuple #[.slice a xs.length c, .int .i64 ((HD ++ logL xs).length : Int), .bool true]) ∧ Below w.heap.size w w' := by
  subst hH
  refine (scan_any hqd h hl id hid).mono ?_
  have hp : (headL id).isPrefixOf ((headL id ++ logL xs) ++ ext) = true := by
    rw [List.isPrefixOf_iff_prefix, List.append_assoc]
    exact List.prefix_append _ _
  have hd : ((headL id ++ logL xs) ++ ext).drop (headL id).length = logL xs ++ ext := by rw [List.append_assoc, List.drop_left]
  rintro e w' ⟨hb, ⟨_, qs, v, h1, rfl, h2⟩ | ⟨h1, _⟩⟩
  · rw [hd, scan_log xs ext hx he] at *
    obtain ⟨a, c, hv, _⟩ := ownsRow_form h2.row
    have hq : qs.length = xs.length := by rw [← List.length_map (f := fun q : RQ => q.1), h1]
    rw [hq] at hv
    subst hv
    exact ⟨a, c, by rw [List.length_append], hb⟩
  · rw [hp] at h1; cases h1
end Go.Proofs.YtpaigdblijhheaaDoor
/- What a narrow input's bulk bounds: the parts of its records. Conditions: none. -/
set_option maxRecDepth 100000
namespace Go.Proofs.YtpaigdblijhheaaDoor
open Go.ChangeShapes Go.WideShapes Go.ChangeAt Go.RowKit

theorem bulk_one {H : Type} (d : DataW H) : 1 ≤ Rows.uptoBulk d := by
  cases d with
  | lit l => cases l <;> simp [Rows.uptoBulk]
  | nil => simp [Rows.uptoBulk]
  | ptr d => simp [Rows.uptoBulk]
  | slice elems spare => simp [Rows.uptoBulk]
  | agg parts => simp [Rows.uptoBulk]
  | iface t d => simp [Rows.uptoBulk]
  | map entries => simp [Rows.uptoBulk]
  | held h => simp [Rows.uptoBulk]
theorem bulk_part {H : Type} {d : DataW H} : ∀ {l : List (DataW H)}, d ∈ l → Rows.uptoBulk d ≤ Rows.uptoBulkAll l
  | [], h => by cases h
  | x :: r, h => by
    simp only [Rows.uptoBulkAll]
    rcases List.mem_cons.1 h with e | e
    · subst e; omega
    · have := bulk_part e; omega
theorem bulk_len {H : Type} : ∀ (l : List (DataW H)), l.length ≤ Rows.uptoBulkAll l
  | [] => by simp [Rows.uptoBulkAll]
  | x :: r => by have := bulk_one x; have := bulk_len r; simp only [Rows.uptoBulkAll, List.length_cons]; omega
abbrev LimB (H : Type) : TypeId → DataW H → Prop := fun _ d => Rows.uptoBulk d ≤ 1048576
theorem limB (H : Type) : LimOk (LimB H) 1048576 where
  agg := fun t fs ds j f d _ h _ hd => by
    have h1 := bulk_part (List.mem_of_getElem? hd)
    have h2 : Rows.uptoBulk (.agg ds) ≤ 1048576 := h
    simp only [Rows.uptoBulk] at h2
    show Rows.uptoBulk d ≤ 1048576
    omega
  slc := fun t e es sp _ _ h => by
    have h2 : Rows.uptoBulk (.slice es sp) ≤ 1048576 := h
    simp only [Rows.uptoBulk] at h2
    refine ⟨Nat.le_trans (bulk_len es) (by omega), fun d hd => ?_⟩
    have h1 := bulk_part hd
    show Rows.uptoBulk d ≤ 1048576
    omega
  str := fun t b h => by
    have h2 : Rows.uptoBulk (DataW.lit (H := H) (.string b)) ≤ 1048576 := h
    simp only [Rows.uptoBulk] at h2
    omega
/-- an argument's bulk -/
theorem small_part {H : Type} {l : List (DataW H)} (h : Rows.uptoSmall H l = true) {d : DataW H} (hd : d ∈ l) (t : TypeId) : LimB H t d := by
  have h1 : Rows.uptoBulkAll l ≤ 1048576 := of_decide_eq_true h
  exact Nat.le_trans (bulk_part hd) h1
section
variable {H : Type} {enc : TypeId × Value → H} {w : World} {Lim : TypeId → DataW H → Prop} {M : Nat} {r : Reach} {b0 : Nat} {v : Value} {d : DataW H} {p : List MemPlace}
theorem recs_arg (L : LimOk Lim M) (hv : Value.okWide Tryd.prog w r b0 22 v) (h : DataW.Trod enc Tryd.prog w 0 (fun _ => true) true 22 v d p) (hl : Lim 22 d) : ∃ qs : List RQ, RecsH M w v qs ∧ qs.length ≤ M := by
  obtain ⟨a, n, c, rfl⟩ := okWide_slice Tryd.underlying22 hv
  obtain ⟨fuel, hf⟩ := h
  exact recs_of L (enc := enc) (fuel := fuel) (y := (d, p)) (by simpa [Tr, Value.cells] using hf) hl
theorem rec_arg (L : LimOk Lim M) (hv : Value.okWide Tryd.prog w r b0 36 v) (h : DataW.Trod enc Tryd.prog w 0 (fun _ => true) true 36 v d p) (hl : Lim 36 d) :
    ∃ (x : RV) (a b c e : Value), v = recV x a b c e ∧ RecH w x a b c e ∧ x.inI ∧ Sizes M x := by
  obtain ⟨cs, rfl, hsz⟩ := okWide_struct Tryd.underlying36 hv
  obtain ⟨fuel, hf⟩ := h
  obtain ⟨x, a, b, c, e, hc, h1⟩ := rec_of L (enc := enc) (fuel := fuel) (cs := cs.toList) (y := (d, p)) (by simpa [Tr, Value.cells] using hf) hl
  refine ⟨x, a, b, c, e, ?_, h1⟩
  have : cs = (rcells (x, a, b, c, e)).toArray := by rw [← hc]
  rw [this]
  rfl
end
end Go.Proofs.YtpaigdblijhheaaDoor
/- The walk of RecordNext. Conditions: the table of Sum; sizes as a narrow input has them. -/
set_option maxRecDepth 100000
namespace Go.Proofs.YtpaigdblijhheaaDoor
open Go.ChangeShapes Go.WideShapes Go.RowKit Go.Maps Go.Sort Go.Lib

abbrev recO (q : RQ) : Obj := .cells (rcells q).toArray 36
/-- the first region that draws: the orders that may come -/
structure NextRow (W : World) (v : Value) (q : RQ) (E : Value → World → Prop) : Prop where
  a : ∃ v2 W2 v3 W3, (∀ ty, (Builtin.append_ #[22, 22] ty #[.slice (some ⟨W.heap.size, 0, none⟩) 0 0, v]).run Tryd.prog (W.alloc (.cells #[] 36)).drew = .ok v2 W2) ∧ Below W.heap.size W W2 ∧
    (∀ ty, (Builtin.append_ #[22, 22] ty #[v2, .slice (some ⟨W2.heap.size, 0, none⟩) 1 1]).run Tryd.prog (W2.alloc (recO q)) = .ok v3 W3) ∧ E v3 W3
  b : ∃ v2 W2 v3 W3, (∀ ty, (Builtin.append_ #[22, 22] ty #[.slice (some ⟨W.heap.size, 0, none⟩) 0 0, v]).run Tryd.prog ((W.alloc (.cells #[] 36)).alloc (recO q)).drew = .ok v2 W2) ∧ Below W.heap.size W W2 ∧
    (∀ ty, (Builtin.append_ #[22, 22] ty #[v2, .slice (some ⟨W.heap.size + 1, 0, none⟩) 1 1]).run Tryd.prog W2 = .ok v3 W3) ∧ E v3 W3
  c : ∃ v2 W2 v3 W3, (∀ ty, (Builtin.append_ #[22, 22] ty #[.slice (some ⟨W.heap.size + 1, 0, none⟩) 0 0, v]).run Tryd.prog ((W.alloc (recO q)).alloc (.cells #[] 36)).drew = .ok v2 W2) ∧ Below W.heap.size W W2 ∧
    (∀ ty, (Builtin.append_ #[22, 22] ty #[v2, .slice (some ⟨W.heap.size, 0, none⟩) 1 1]).run Tryd.prog W2 = .ok v3 W3) ∧ E v3 W3
theorem own_drewR {W : World} {B : Nat} {e : TypeId} {k n : Nat} {v : Value} {xs : List Value} (h : W.ownsRow B e k v n xs) : W.drew.ownsRow B e k v n xs := ownsRow_of_block h fun _ _ => rfl
theorem next_row {M : Nat} {W : World} {v : Value} {qs : List RQ} {q : RQ} (h : RecsH M W v qs) (hq : RecH W q.1 q.2.1 q.2.2.1 q.2.2.2.1 q.2.2.2.2 ∧ q.1.inI ∧ Sizes M q.1) (hl : qs.length ≤ 1048576) : NextRow W v q (RowEnd M W (qs ++ [q])) := by
  have mk := fun (V : World) (hV : W.heap.size ≤ V.heap.size) => World.ownsRow_made V (base := W.heap.size) (e := 36) (size := 9) #[] 0 hV (by unfold maxLen; omega) (by simp)
  refine ⟨?_, ?_, ?_⟩
  · have hE : Below W.heap.size W (W.alloc (.cells #[] 36)).drew := below_drewR (below_o W _)
    obtain ⟨v2, W2, r, o, hb, _⟩ := both_at (m := 0) (k := W.heap.size) hE (own_drewR (mk W (Nat.le_refl _))) h hl
    have hb3 : Below W.heap.size W (W2.alloc (recO q)) := hb.alloc hb.size _
    obtain ⟨v3, W3, r3, e⟩ := last_at (k := W2.heap.size) hb3 (o.alloc _) (heap_alloc_new W2 _) h hq hl
    exact ⟨v2, W2, v3, W3, r, hb, r3, e⟩
  · have hE : Below W.heap.size W ((W.alloc (.cells #[] 36)).alloc (recO q)).drew := below_drewR ((below_o W _).alloc (by simp) _)
    obtain ⟨v2, W2, r, o, hb, hk⟩ := both_at (m := W.heap.size + 1) (k := W.heap.size) hE (own_drewR ((mk W (Nat.le_refl _)).alloc _)) h hl
    have hx : ((W.alloc (.cells #[] 36)).alloc (recO q)).drew.heap[W.heap.size + 1]? = some (recO q) := by
      have := heap_alloc_new (W.alloc (.cells #[] 36)) (recO q)
      rw [show (W.alloc (.cells #[] 36)).heap.size = W.heap.size + 1 by simp] at this
      exact this
    obtain ⟨v3, W3, r3, e⟩ := last_at (k := W.heap.size + 1) hb o (by rw [hk (by omega) (by simp [World.drew])]; exact hx) h hq hl
    exact ⟨v2, W2, v3, W3, r, hb, r3, e⟩
  · have hE : Below W.heap.size W ((W.alloc (recO q)).alloc (.cells #[] 36)).drew := below_drewR ((below_o W _).alloc (by simp) _)
    have hm := mk (W.alloc (recO q)) (by simp)
    have hs : (W.alloc (recO q)).heap.size = W.heap.size + 1 := by simp
    rw [hs] at hm
    obtain ⟨v2, W2, r, o, hb, hk⟩ := both_at (m := W.heap.size) (k := W.heap.size + 1) hE (own_drewR hm) h hl
    have hx : ((W.alloc (recO q)).alloc (.cells #[] 36)).drew.heap[W.heap.size]? = some (recO q) := by
      have := (below_o (W.alloc (recO q)) (.cells #[] 36)).block W.heap.size (by simp)
      show ((W.alloc (recO q)).alloc (.cells #[] 36)).heap[W.heap.size]? = _
      rw [this]
      exact heap_alloc_new W _
    obtain ⟨v3, W3, r3, e⟩ := last_at (k := W.heap.size) hb o (by rw [hk (by omega) (by simp [World.drew]; omega)]; exact hx) h hq hl
    exact ⟨v2, W2, v3, W3, r, hb, r3, e⟩
theorem RecsH.slice {M : Nat} {w : World} {v : Value} {qs : List RQ} (h : RecsH M w v qs) : ∃ a c, v = .slice a qs.length c := by
  rcases h.form with ⟨rfl, rfl⟩ | ⟨a, c, rfl, _⟩
  · exact ⟨none, 0, rfl⟩
  · exact ⟨_, _, rfl⟩
theorem RecsH.at_ {M : Nat} {w : World} {a : Option Addr} {n c : Nat} {qs : List RQ} (h : RecsH M w (.slice a n c) qs) {i : Nat} {q : RQ} (hq : qs[i]? = some q) : ∃ ad : Addr, a = some ad ∧ ∀ j u, (rcells q)[j]? = some u → w.cell? (ad.add (i * 9 + j)) = some u := by
  rcases h.form with ⟨_, rfl⟩ | ⟨ad, c', e, _, h3⟩
  · simp at hq
  · cases e
    exact ⟨ad, rfl, h3 i q hq⟩
/-- the cells of a record, as a load asks for them -/
theorem rec_cells {w : World} {ad : Addr} {i : Nat} {x : RV} {a b c d : Value} (h : ∀ j u, (rcells (x, a, b, c, d))[j]? = some u → w.cell? (ad.add (i * 9 + j)) = some u) :
    w.cell? (ad.add (i * 9)) = some (.int .i64 x.k) ∧ w.cell? ⟨(ad.add (i * 9)).block, (ad.add (i * 9)).off + 1, none⟩ = some (.string x.tn) ∧ w.cell? ⟨(ad.add (i * 9)).block, (ad.add (i * 9)).off + 2, none⟩ = some a ∧
    w.cell? ⟨(ad.add (i * 9)).block, (ad.add (i * 9)).off + 3, none⟩ = some (.string x.rn) ∧ w.cell? ⟨(ad.add (i * 9)).block, (ad.add (i * 9)).off + 4, none⟩ = some (.string x.rt) ∧ w.cell? ⟨(ad.add (i * 9)).block, (ad.add (i * 9)).off + 5, none⟩ = some b ∧
    w.cell? ⟨(ad.add (i * 9)).block, (ad.add (i * 9)).off + 6, none⟩ = some c ∧ w.cell? ⟨(ad.add (i * 9)).block, (ad.add (i * 9)).off + 7, none⟩ = some (.string x.nm) ∧ w.cell? ⟨(ad.add (i * 9)).block, (ad.add (i * 9)).off + 8, none⟩ = some d :=
  ⟨by simpa using h 0 _ rfl, cell_off (by omega) (h 1 _ rfl), cell_off (by omega) (h 2 _ rfl), cell_off (by omega) (h 3 _ rfl), cell_off (by omega) (h 4 _ rfl), cell_off (by omega) (h 5 _ rfl), cell_off (by omega) (h 6 _ rfl), cell_off (by omega) (h 7 _ rfl), cell_off (by omega) (h 8 _ rfl)⟩
theorem narrow_bytes {x : RV} (hi : x.inI) (hs : Sizes 1048576 x) (hg : goodR x = true) : (bytR x).length ≤ 8796093022208 := by
  have hf := hs.fits (by omega) hg
  have h1 := hs.tot hf
  have h2 := good_bytes hg hi hf
  omega
/-- the loop's state -/
structure NextS (w3 : World) (HD : List UInt8) (W : World) (bv : Value) (xs : List RV) : Prop where
  base : Below w3.heap.size w3 W
  hold : Holds W bv (u8s (HD ++ logL xs))
  whole : ∀ x ∈ xs, WhR x
  len : (HD ++ logL xs).length ≤ 800000
theorem NextS.next {w3 W W' : World} {HD : List UInt8} {bv : Value} {xs : List RV} (h : NextS w3 HD W bv xs) (hb : Below W.heap.size W W') : NextS w3 HD W' bv xs := ⟨h.base.trans (hb.mono h.base.size), h.hold.below hb, h.whole, h.len⟩
theorem box_cells {w V : World} {k : Int} {s1 s2 s3 s4 : ByteArray} {a b c d : Value} (h : V.heap[w.heap.size]? = some (.cells #[.int .i64 k, .string s1, a, .string s2, .string s3, b, c, .string s4, d] 36 (0, 0))) :
    V.cell? ⟨w.heap.size, 0, none⟩ = some (.int .i64 k) ∧ V.cell? ⟨w.heap.size, 1, none⟩ = some (.string s1) ∧ V.cell? ⟨w.heap.size, 2, none⟩ = some a ∧ V.cell? ⟨w.heap.size, 3, none⟩ = some (.string s2) ∧ V.cell? ⟨w.heap.size, 4, none⟩ = some (.string s3) ∧ V.cell? ⟨w.heap.size, 5, none⟩ = some b ∧ V.cell? ⟨w.heap.size, 6, none⟩ = some c ∧ V.cell? ⟨w.heap.size, 7, none⟩ = some (.string s4) ∧ V.cell? ⟨w.heap.size, 8, none⟩ = some d := by
  refine ⟨?_, ?_, ?_, ?_, ?_, ?_, ?_, ?_, ?_⟩ <;> (rw [cell_of_row _ _ _ _ _ _ h]; rfl)
set_option maxHeartbeats 12800000 in
theorem next_walk {w : World} (hqd : Quads w) {lv : Value} {qs : List RQ} {x : RV} {a b c d : Value} (hl : RecsH 1048576 w lv qs) (hll : qs.length ≤ 1048576) (hx : RecH w x a b c d ∧ x.inI ∧ Sizes 1048576 x)
    {m0 : Option Addr} {mn mc : Nat} {ml : List UInt8} (hm : Holds w (.slice m0 mn mc) (u8s ml)) :
    Calls Tryd.prog 5 #[lv, recV x a b c d, .slice m0 mn mc] w fun e w' => e = .returned (.bool true) ∧ Below w.heap.size w w' := by
  obtain ⟨a1, ac, b1, bc, c1, cc, d1, dc, rfl, rfl, rfl, rfl⟩ := hx.1.form
  obtain ⟨an, bn, cn, dn, ea, eb, ec, ed⟩ : ∃ an bn cn dn, x.tc.length = an ∧ x.rd.length = bn ∧ x.rm.length = cn ∧ x.ws.length = dn := ⟨_, _, _, _, rfl, rfl, rfl, rfl⟩
  have HQ := Lib.hid (fun (W : World) (hb : Below w.heap.size w W) => hqd.below hb hqd.1)
  have HX := Lib.hid (fun (W : World) (hb : Below w.heap.size w W) => (next_row (hl.below hb) (q := (x, .slice a1 x.tc.length ac, .slice b1 x.rd.length bc, .slice c1 x.rm.length cc, .slice d1 x.ws.length dc)) ⟨hx.1.below hb, hx.2⟩ hll))
  have HM := Lib.hid (fun (W : World) (hb : Below w.heap.size w W) => hm.below hb)
  have hmn := hm.len
  rw [u8s_len] at hmn
  have KB := Lib.hid (fun (W : World) (hb : Below w.heap.size w W) => begin_any (hqd.below hb hqd.1) 3 (by decide))
  have hhl := head_len (id := 3) (by decide)
  obtain ⟨HD, hHD⟩ : ∃ H, headL 3 = H := ⟨_, rfl⟩
  rw [hHD] at KB hhl
  rw [ea, eb, ec, ed] at HX ⊢
  obtain ⟨R, hR⟩ : ∃ R : RQ, R = (x, .slice a1 an ac, .slice b1 bn bc, .slice c1 cn cc, .slice d1 dn dc) := ⟨_, rfl⟩
  have hRl : (qs ++ [R]).length ≤ 1048577 := by simp; omega
  obtain ⟨QS, hQS⟩ : ∃ Q, Q = qs ++ [R] := ⟨_, rfl⟩
  rw [← hR, ← hQS] at HX
  rw [← hQS] at hRl
  obtain ⟨RO, hRO⟩ : ∃ o : Array Value, o = #[.int .i64 x.k, .string x.tn, .slice a1 an ac, .string x.rn, .string x.rt, .slice b1 bn bc, .slice c1 cn cc, .string x.nm, .slice d1 dn dc] := ⟨_, rfl⟩
  have hb0 := below_o w (.cells RO 36)
  have KB0 := KB.out _ hb0
  have HCW := Lib.hid (fun (V : World) (hv : Below (w.heap.size + 1) (w.alloc (.cells RO 36)) V) => show V.cell? ⟨w.heap.size, 0, none⟩ = some (.int .i64 x.k) ∧ V.cell? ⟨w.heap.size, 1, none⟩ = some (.string x.tn) ∧ V.cell? ⟨w.heap.size, 2, none⟩ = some (.slice a1 an ac) ∧ V.cell? ⟨w.heap.size, 3, none⟩ = some (.string x.rn) ∧ V.cell? ⟨w.heap.size, 4, none⟩ = some (.string x.rt) ∧ V.cell? ⟨w.heap.size, 5, none⟩ = some (.slice b1 bn bc) ∧ V.cell? ⟨w.heap.size, 6, none⟩ = some (.slice c1 cn cc) ∧ V.cell? ⟨w.heap.size, 7, none⟩ = some (.string x.nm) ∧ V.cell? ⟨w.heap.size, 8, none⟩ = some (.slice d1 dn dc) from by
    have hh : V.heap[w.heap.size]? = some (.cells RO 36 (0, 0)) := by rw [hv.block _ (by omega)]; exact heap_alloc_new w _
    subst hRO
    refine ⟨?_, ?_, ?_, ?_, ?_, ?_, ?_, ?_, ?_⟩ <;> (rw [cell_of_row _ _ _ _ _ _ hh]; rfl))
  have hRc : recO R = .cells RO 36 := by rw [hR, hRO]; rfl
  subst hRO
  have HB0 := Lib.hid hb0
  have hz0 : (w.alloc (.cells #[.int .i64 x.k, .string x.tn, .slice a1 an ac, .string x.rn, .string x.rt, .slice b1 bn bc, .slice c1 cn cc, .string x.nm, .slice d1 dn dc] 36)).heap.size = w.heap.size + 1 := by simp
  unfold recV
  have HHD := Lib.hid hHD
  clear hqd hl hm hHD hb0 KB hR hQS
  go_enter Tryd.func5, Tryd.ntmps5
  go_wp2_with fail
  refine KB0.mono ?_
  rintro e w1 ⟨v1, rfl, ho1, hb1⟩
  have hB1 := HB0.out.trans (hb1.mono HB0.out.size)
  have hO1 : Holds w1 v1 (u8s HD) := Holds.of_row (by rw [u8s_len]; exact ho1)
  obtain ⟨va, vc, hv, _⟩ := ownsRow_form ho1
  obtain ⟨NA, NB, NC⟩ := HX.out w1 hB1
  rw [hRc] at NA NB NC
  obtain ⟨vA2, WA2, vA3, WA3, rA, hA2, rA3, eA⟩ := NA
  obtain ⟨vB2, WB2, vB3, WB3, rB, hB2, rB3, eB⟩ := NB
  obtain ⟨vC2, WC2, vC3, WC3, rC, hC2, rC3, eC⟩ := NC
  obtain ⟨pA, cA, rfl⟩ := eA.2.slice
  obtain ⟨pB, cB, rfl⟩ := eB.2.slice
  obtain ⟨pC, cC, rfl⟩ := eC.2.slice
  have HCV := Lib.hid (fun (V : World) (hv : Below w1.heap.size w1 V) => HCW.out V ((hb1.mono (by rw [hz0]; exact Nat.le_refl _)).trans (hv.mono (by have := hb1.size; rw [hz0] at this; exact this))))
  have RA := Lib.hid rA
  have RB := Lib.hid rB
  have RC := Lib.hid rC
  have RA3 := Lib.hid rA3
  have RB3 := Lib.hid rB3
  have RC3 := Lib.hid rC3
  have EA := Lib.hid eA
  have EB := Lib.hid eB
  have EC := Lib.hid eC
  have HA2 := Lib.hid hA2
  have HB2 := Lib.hid hB2
  have HC2 := Lib.hid hC2
  have HO1 := Lib.hid hO1
  have HB1 := Lib.hid hB1
  obtain ⟨hn, hhn⟩ : ∃ n, HD.length = n := ⟨_, rfl⟩
  have HLN := Lib.hid hhn
  rw [hhn] at hv hhl
  clear hhn
  subst hv
  clear ho1 hb1 hB1 hO1 KB0 HX rA rB rC rA3 rB3 rC3 eA eB eC hA2 hB2 hC2 HCW HB0
  go_upto_region 3 with (fail)
  go_cut [22, 23, 24] from 17 to 24 (fun u22 u23 u24 wx => u23 = .int .i64 (QS.length : Int) ∧ u24 = .int .i64 0 ∧ Hid (RowEnd 1048576 w1 QS u22 wx))
  case first =>
    go_region_held3 (fun V => V.cell? ⟨w.heap.size, 0, none⟩ = some (.int .i64 x.k) ∧ V.cell? ⟨w.heap.size, 1, none⟩ = some (.string x.tn) ∧ V.cell? ⟨w.heap.size, 2, none⟩ = some (.slice a1 an ac) ∧ V.cell? ⟨w.heap.size, 3, none⟩ = some (.string x.rn) ∧ V.cell? ⟨w.heap.size, 4, none⟩ = some (.string x.rt) ∧ V.cell? ⟨w.heap.size, 5, none⟩ = some (.slice b1 bn bc) ∧ V.cell? ⟨w.heap.size, 6, none⟩ = some (.slice c1 cn cc) ∧ V.cell? ⟨w.heap.size, 7, none⟩ = some (.string x.nm) ∧ V.cell? ⟨w.heap.size, 8, none⟩ = some (.slice d1 dn dc))
      (first | assumption | exact HCV.out _ (below_drewR (Below.refl _ _)) | exact HCV.out _ (below_drewR (below_o w1 _)) | exact HCV.out _ (below_drewR ((below_o w1 _).alloc (by simp) _)) | exact HCV.out _ HA2.out | exact HCV.out _ HB2.out | exact HCV.out _ HC2.out | exact HCV.out _ EA.out.1 | exact HCV.out _ EB.out.1 | exact HCV.out _ EC.out.1 | exact HCV.out _ (HA2.out.alloc HA2.out.size _))
      (first
        | (refine step_append_run rfl (.tmp 17) (.tmp 18) 22 rfl (by simp [Act.eval]) (by simp [Act.eval]) (RA.out _) ?_)
        | (refine step_append_run rfl (.tmp 17) (.tmp 18) 22 rfl (by simp [Act.eval]) (by simp [Act.eval]) (RB.out _) ?_)
        | (refine step_append_run rfl (.tmp 17) (.tmp 18) 22 rfl (by simp [Act.eval]) (by simp [Act.eval]) (RC.out _) ?_)
        | (refine step_append_run rfl (.tmp 19) (.tmp 21) 22 rfl (by simp [Act.eval]) (by simp [Act.eval]) (RA3.out _) ?_)
        | (refine step_append_run rfl (.tmp 19) (.tmp 21) 22 rfl (by simp [Act.eval]) (by simp [Act.eval]) (RB3.out _) ?_)
        | (refine step_append_run rfl (.tmp 19) (.tmp 21) 22 rfl (by simp [Act.eval]) (by simp [Act.eval]) (RC3.out _) ?_))
    all_goals (go_wp2_with fail; go_meet)
    case _ => exact ⟨rfl, rfl, EA⟩
    case _ => exact ⟨rfl, rfl, EB⟩
    case _ => exact ⟨rfl, rfl, EC⟩
  case rest =>
    obtain ⟨rfl, rfl, hcut⟩ := hcut
    obtain ⟨w3, hwc⟩ : ∃ x, x = wc := ⟨_, rfl⟩
    rw [← hwc] at hcut ⊢
    clear hwc
    obtain ⟨N, hN⟩ : ∃ n, QS.length = n := ⟨_, rfl⟩
    obtain ⟨pR, cR, hv⟩ := hcut.out.2.slice
    subst hv
    rw [hN] at hRl ⊢
    have HB3 := Lib.hid hcut.out.1
    have HO3 := Lib.hid (HO1.out.below HB3.out)
    have HR3 := Lib.hid hcut.out.2
    have hB3 := HB1.out.trans (HB3.out.mono HB1.out.size)
    have HBW := Lib.hid hB3
    have hNx : Hid (NextS w3 HD w3 (.slice va hn vc) []) := Lib.hid ⟨Below.refl _ _, by (rw [show HD ++ logL [] = HD by simp [logL, manyL]]; exact HO3.out), fun y hy => (by cases hy), by (rw [show HD ++ logL [] = HD by simp [logL, manyL], HLN.out]; omega)⟩
    clear hcut RA RB RC RA3 RB3 RC3 EA EB EC HA2 HB2 HC2 HCV HO1 HB1 hx ea eb ec ed hRc hz0
    go_wp2_with fail
    go_loopw [7, 8, 24] (fun s7 s8 s24 W => ∃ (i m : Nat) (xs : List RV) (bv : Value), s24 = .int .i64 i ∧ s8 = .int .i64 m ∧ bv = s7 ∧ i ≤ N ∧ m = xs.length ∧ Hid (NextS w3 HD W bv xs)) (fun _ _ k _ => N - (RowKit.intOf k).toNat)
    case atStart => exact ⟨0, 0, [], _, rfl, rfl, rfl, Nat.zero_le _, rfl, hNx⟩
    case round =>
      obtain ⟨i, m, xs, bv, rfl, rfl, rfl, hiN, hm, HS⟩ := hrel
      by_cases hlt : i < N
      · obtain ⟨⟨y, ya, yb, yc, yd⟩, hq⟩ : ∃ q, QS[i]? = some q := ⟨_, List.getElem?_eq_getElem (by omega)⟩
        obtain ⟨ad, rfl, hcw⟩ := HR3.out.at_ hq
        have hQ := HR3.out.all _ (List.mem_of_getElem? hq)
        simp only at hQ
        obtain ⟨p1, pc, q1, qc, r1, rc, s1, sc, rfl, rfl, rfl, rfl⟩ := hQ.1.form
        obtain ⟨pn, qn, rn, sn, e1, e2, e3, e4⟩ : ∃ an bn cn dn, y.tc.length = an ∧ y.rd.length = bn ∧ y.rm.length = cn ∧ y.ws.length = dn := ⟨_, _, _, _, rfl, rfl, rfl, rfl⟩
        have hwr := HS.out.base
        obtain ⟨c0, c1, c2, c3, c4, c5, c6, c7, c8⟩ := rec_cells (fun j u hu => kept_below hwr _ _ (hcw j u hu))
        have KY := Lib.hid (fun (V : World) (hb : Below w3.heap.size w3 V) => rbytes_all (hQ.1.below hb) hQ.2.1 (hQ.2.2.fit (by omega)) (narrow_bytes hQ.2.1 hQ.2.2))
        have KG := Lib.hid (fun (V : World) (hb : Below w3.heap.size w3 V) => great_any (hQ.1.below hb) (hQ.2.2.len (by omega)))
        have HW := Lib.hid (fun (hg : goodR y = true) (ht : Fits y → tot4 y ≤ 100000) => (⟨hg, hQ.2.1, by
          have hf := hQ.2.2.fits (by omega) hg
          exact small_bytes hg hQ.2.1 hf (ht hf)⟩ : WhR y))
        unfold recV at KY KG
        rw [e1] at c2
        rw [e2] at c5
        rw [e3] at c6
        rw [e4] at c8
        rw [e1, e2, e3, e4] at KY KG
        have b0 : (0 : Int) ≤ (i : Int) := Int.natCast_nonneg i
        have b1 : (i : Int) < (N : Int) := Int.ofNat_lt.2 hlt
        have HWR := Lib.hid hwr
        have HI := Lib.hid hlt
        have HIN := Lib.hid (wrap_next hlt (by omega))
        have hb4 := below_o wr (.cells #[.int .i64 y.k, .string y.tn, .slice p1 pn pc, .string y.rn, .string y.rt, .slice q1 qn qc, .slice r1 rn rc, .string y.nm, .slice s1 sn sc] 36)
        have hbx := heap_alloc_new wr (.cells #[.int .i64 y.k, .string y.tn, .slice p1 pn pc, .string y.rn, .string y.rt, .slice q1 qn qc, .slice r1 rn rc, .string y.nm, .slice s1 sn sc] 36)
        have KYw := KY.out _ (hwr.trans (hb4.mono hwr.size))
        have HX4 := Lib.hid hbx
        have S4 := Lib.hid (HS.out.next hb4)
        obtain ⟨pb, cb, hbv, hcb⟩ := HS.out.hold.form
        rw [u8s_len] at hbv hcb
        have hL8 := HS.out.len
        obtain ⟨L, hL⟩ : ∃ L, L = (HD ++ logL xs).length := ⟨_, rfl⟩
        rw [← hL] at hbv hL8 hcb
        subst hbv
        have HL8 := Lib.hid (And.intro hL hL8)
        have hm8 : m * 8 ≤ L := by have := log_len xs; rw [hL, hm, List.length_append]; omega
        have HM8 := Lib.hid (And.intro hm hm8)
        have hi1 : i + 1 ≤ N := hlt
        have hmz : N - (i + 1) < N - i := by omega
        have HMZ := Lib.hid (And.intro hi1 hmz)
        clear hQ hq hcw hwr e1 e2 e3 e4 hlt hiN hb4 hbx hL hL8 hm hm8 hmz hi1 HS KY
        go_wp2_with fail
        refine KYw.mono ?_
        rintro e w4 ⟨hb4, hcase⟩
        have S5 := Lib.hid (S4.out.next hb4)
        rcases hcase with ⟨hg, rfl⟩ | ⟨hg, hlong, rfl⟩ | ⟨hg, hlen, v4, rfl, ho4⟩
        · clear hb4 hg S4 KYw KG HW
          go_wp2_with fail
          go_roundw
          case rel => exact ⟨i + 1, m, xs, _, by have := HIN.out; go_num, rfl, rfl, HMZ.out.1, HM8.out.1, S5⟩
          case measure => have := HMZ.out.2; simp [RowKit.intOf]; omega
        · clear hb4 hg hlong S4 KYw KG HW
          go_wp2_with fail
          go_roundw
          case rel => exact ⟨i + 1, m, xs, _, by have := HIN.out; go_num, rfl, rfl, HMZ.out.1, HM8.out.1, S5⟩
          case measure => have := HMZ.out.2; simp [RowKit.intOf]; omega
        · have hx5 : w4.heap[wr.heap.size]? = some (.cells #[.int .i64 y.k, .string y.tn, .slice p1 pn pc, .string y.rn, .string y.rt, .slice q1 qn qc, .slice r1 rn rc, .string y.nm, .slice s1 sn sc] 36 (0, 0)) := by
            rw [hb4.block _ (by simp)]; exact HX4.out
          obtain ⟨d0, d1, d2, d3, d4, d5, d6, d7, d8⟩ := box_cells hx5
          have KGw := KG.out w4 S5.out.base
          have HO4 : Hid (Holds w4 v4 (u8s (bytR y))) := Lib.hid (Holds.of_row (by rw [u8s_len]; exact ho4))
          obtain ⟨v4a, v4c, hv4, _⟩ := ownsRow_form ho4
          subst hv4
          have HG := Lib.hid hg
          have HLE := Lib.hid hlen
          clear hb4 hg hlen ho4 S4 hx5 KYw KG
          go_wp2_with fail
          refine KGw.mono ?_
          rintro e w5 ⟨bq, rfl, hbq, hb5⟩
          have S6 := Lib.hid (S5.out.next hb5)
          have HO5 := Lib.hid (HO4.out.below hb5)
          cases bq
          · have HWY := Lib.hid (HW.out HG.out (hbq rfl))
            clear hb5 hbq KGw HW S5 HO4
            by_cases h5 : 500000 < L
            · have t0 : decide ((500000 : Int) < (L : Int)) = true := decide_eq_true (by omega)
              clear h5
              go_wp2_with fail
              go_roundw
              case rel => exact ⟨i + 1, m, xs, _, by have := HIN.out; go_num, rfl, rfl, HMZ.out.1, HM8.out.1, S6⟩
              case measure => have := HMZ.out.2; simp [RowKit.intOf]; omega
            · have t0 : decide ((500000 : Int) < (L : Int)) = false := decide_eq_false (by omega)
              have hL5 : L ≤ 500000 := by omega
              obtain ⟨v2, w6, r6, o6, hb6⟩ := copy_more S6.out.hold (Nat.le_trans S6.out.len (by decide))
              have hB6 := S6.out.base.trans (hb6.mono S6.out.base.size)
              have KF := Frame_any (HQ.out w6 (HBW.out.trans (hB6.mono HBW.out.size))) (HO5.out.below hb6) HLE.out
              have O6 := Lib.hid o6
              have HB6 := Lib.hid hb6
              have HBB := Lib.hid hB6
              have HL5 := Lib.hid hL5
              obtain ⟨bl, hbl⟩ : ∃ n, (bytR y).length = n := ⟨_, rfl⟩
              have HBL := Lib.hid hbl
              rw [hbl] at KF ⊢
              clear h5 hL5 o6 hb6 hB6 hbl
              go_wp2_with (at_builtin; refine wpList_append_run rfl _ _ 25 rfl rfl rfl (r6.out _) ?_)
              refine KF.mono ?_
              rintro e w7 ⟨v7, rfl, h7⟩
              have h7 := h7.out
              have hO7 : Holds w7 v7 (u8s (frameL (bytR y))) := Holds.of_row (by rw [u8s_len]; exact h7.1)
              obtain ⟨v8, w8, r8, o8, hb8⟩ := more_at (ownsRow_below O6.out h7.2) (HB6.out.trans (h7.2.mono HB6.out.size)) hO7 (Nat.le_trans S6.out.len (by decide)) (by rw [frameL_len]; have := HLE.out; omega)
              have S8 : Hid (NextS w3 HD w8 v8 (xs ++ [y])) := by
                have e : HD ++ logL (xs ++ [y]) = (HD ++ logL xs) ++ frameL (bytR y) := by rw [log_snoc, List.append_assoc]
                refine Lib.hid ⟨S6.out.base.trans (hb8.mono S6.out.base.size), ?_, fun z hz => ?_, ?_⟩
                · rw [e]
                  exact Holds.of_row (by rw [u8s_len]; exact o8)
                · rcases List.mem_append.1 hz with hz | hz
                  · exact S6.out.whole z hz
                  · rw [List.mem_singleton] at hz
                    subst hz
                    exact HWY.out
                · rw [e, List.length_append, frameL_len, ← HL8.out.1]
                  have := HL5.out
                  have := HLE.out
                  omega
              have R8 := r8
              have hmw : IntKind.i64.wrap ((m : Int) + 1) = (m : Int) + 1 := by
                have := HM8.out.2
                have := HL5.out
                rw [IntKind.wrap_i64]; omega
              have hml : m + 1 = (xs ++ [y]).length := by rw [List.length_append, ← HM8.out.1]; rfl
              clear h7 hO7 r8 o8 hb8 KF O6 HB6 HBB S6 HO5
              go_wp2_with (at_builtin; refine wpList_append_run rfl _ _ 25 rfl rfl rfl (R8.out _) ?_)
              go_roundw
              case rel => exact ⟨i + 1, m + 1, xs ++ [y], _, by have := HIN.out; go_num, by go_num, rfl, HMZ.out.1, hml, S8⟩
              case measure => have := HMZ.out.2; simp [RowKit.intOf]; omega
          · clear hb5 hbq KGw HW S5 HO4
            go_wp2_with fail
            go_roundw
            case rel => exact ⟨i + 1, m, xs, _, by have := HIN.out; go_num, rfl, rfl, HMZ.out.1, HM8.out.1, S6⟩
            case measure => have := HMZ.out.2; simp [RowKit.intOf]; omega
      · have hiN2 : i = N := by omega
        obtain ⟨pb, cb, hbv, hcb⟩ := HS.out.hold.form
        rw [u8s_len] at hbv hcb
        obtain ⟨L, hL⟩ : ∃ L, L = (HD ++ logL xs).length := ⟨_, rfl⟩
        rw [← hL] at hbv hcb
        subst hbv
        have hBr := HBW.out.trans (HS.out.base.mono HBW.out.size)
        have hMr := HM.out wr hBr
        obtain ⟨v2, w4, r4, o4, hb4⟩ := copy_more HS.out.hold (Nat.le_trans HS.out.len (by decide))
        have tail : ∀ (k : Nat) (M3 : List UInt8), Holds wr (.slice m0 k mc) (u8s M3) → M3.length ≤ 3 → ∃ (a5 : Option Addr) (c5 n5 : Nat) (w5 : World), Hid (∀ ty, (Builtin.append_ #[25, 25] ty #[v2, .slice m0 k mc]).run Tryd.prog w4 = .ok (.slice a5 n5 c5) w5) ∧ Hid (Below w.heap.size w w5) ∧
            Hid (Calls Tryd.prog 10 #[.slice a5 n5 c5, .int .u64 ((3 : Nat) : Int)] w5 fun e w' => ∃ a c, e = .returned (.tuple #[.slice a xs.length c, .int .i64 (L : Int), .bool true]) ∧ Below w5.heap.size w5 w') := fun k M3 h3 hl3 => by
          obtain ⟨v5, w5, r5, o5, hb5⟩ := more_at o4 hb4 (h3.below hb4) (Nat.le_trans HS.out.len (by decide)) (by omega)
          obtain ⟨a5, c5, hv5, _⟩ := ownsRow_form o5
          have hh : Holds w5 v5 (u8s ((HD ++ logL xs) ++ M3)) := Holds.of_row (by rw [u8s_len]; exact o5)
          subst hv5
          have hB5 := hBr.trans (hb5.mono hBr.size)
          have hs := HS.out.len
          have := scan_built (id := 3) (HQ.out w5 hB5) HHD.out hh (by rw [List.length_append]; omega) (by decide) HS.out.whole (first_short (by omega))
          rw [← hL] at this
          exact ⟨a5, c5, _, w5, r5, Lib.hid hB5, Lib.hid this⟩
        have R4 := r4
        have KL := Lib.hid (fun (V : World) (hb : Below w.heap.size w V) => rlives_any (HQ.out V hb))
        have HMX := hm
        have hmn2 : ml.length = mn := hmn.1
        have hmn3 : mn ≤ mc := hmn.2
        have t1 : ((m : Int) == (m : Int)) = true := by simp
        have t2 : ((L : Int) == (L : Int)) = true := by simp
        by_cases h3 : 3 < mn
        · obtain ⟨a5, c5, n5, w5, r5, hB5, hs5⟩ := tail 3 (ml.take 3) (hold_take hMr 3 (by omega)) (by rw [List.length_take]; omega)
          have t0 : decide ((3 : Int) < (mn : Int)) = true := decide_eq_true (by omega)
          have p1 : (3 : Int) ≤ (mc : Int) := by omega
          rw [← hm] at hs5
          have KS := hs5.out
          have HB5 := hB5
          clear tail hMr hBr hL o4 hb4 r4 HS hiN hlt h3 hmn hmn2 hs5 hB5
          go_wp2_with (at_builtin; first | refine wpList_append_run rfl (.tmp 59) (.tmp 60) 25 rfl rfl rfl (R4.out _) ?_ | refine wpList_append_run rfl (.tmp 61) (.tmp 62) 25 rfl rfl rfl (r5.out _) ?_)
          refine KS.mono ?_
          rintro e w6 ⟨a6, c6, rfl, hb6⟩
          have hB6 := HB5.out.trans (hb6.mono HB5.out.size)
          have KL6 := KL.out w6 hB6
          have HB6 := Lib.hid hB6
          clear hb6 hB6 KS
          go_wp2_with fail
          refine KL6.mono ?_
          rintro e w7 ⟨rfl, hb7⟩
          have FIN := HB6.out.trans (hb7.mono HB6.out.size)
          clear hb7 KL6
          go_wp2_with fail
          go_ret
          exact ⟨rfl, FIN⟩
        · obtain ⟨a5, c5, n5, w5, r5, hB5, hs5⟩ := tail mn ml hMr (by omega)
          have t0 : decide ((3 : Int) < (mn : Int)) = false := decide_eq_false (by omega)
          rw [← hm] at hs5
          have KS := hs5.out
          have HB5 := hB5
          clear tail hMr hBr hL o4 hb4 r4 HS hiN hlt h3 hmn hmn2 hs5 hB5
          go_wp2_with (at_builtin; first | refine wpList_append_run rfl (.tmp 59) (.tmp 60) 25 rfl rfl rfl (R4.out _) ?_ | refine wpList_append_run rfl (.tmp 61) (.tmp 62) 25 rfl rfl rfl (r5.out _) ?_)
          refine KS.mono ?_
          rintro e w6 ⟨a6, c6, rfl, hb6⟩
          have hB6 := HB5.out.trans (hb6.mono HB5.out.size)
          have KL6 := KL.out w6 hB6
          have HB6 := Lib.hid hB6
          clear hb6 hB6 KS
          go_wp2_with fail
          refine KL6.mono ?_
          rintro e w7 ⟨rfl, hb7⟩
          have FIN := HB6.out.trans (hb7.mono HB6.out.size)
          clear hb7 KL6
          go_wp2_with fail
          go_ret
          exact ⟨rfl, FIN⟩
end Go.Proofs.YtpaigdblijhheaaDoor
/- The table of Sum: from the row's condition to its cells, and a world that meets the condition. Conditions: none. -/
set_option maxRecDepth 100000
namespace Go.Proofs.YtpaigdblijhheaaDoor
open Go.ChangeShapes Go.WideShapes Go.ChangeAt Go.RowKit

theorem own : ownKnob Tryd.prog.godebug = none := by kernel_rfl
theorem laidOut : laidOutB Tryd.prog = true := by kernel_rfl
abbrev laidQ : List (String × DataW Unit) := [("talus/codec.quads", Rows.laid_talus_codec_quads)]

theorem quads_of_laid {W : World} (h : laidMetH Tryd.prog laidQ W) : Quads W := by
  rw [MakeChecks.laidMetH_plain _ _ _ (by kernel_rfl)] at h
  obtain ⟨ps, ⟨g, t, cs, fuel, p, q, hg, ht, hv, hd, _, _⟩, _, _⟩ := h
  obtain rfl := Option.some.inj ((show Tryd.prog.globalNamed "talus/codec.quads" = some 0 by kernel_rfl).symm.trans hg)
  obtain rfl := Option.some.inj ((show (Tryd.prog.globals[0]?).map (·.type) = some 78 by kernel_rfl).symm.trans ht)
  obtain ⟨xs, m, _, ex, _, hl, hel⟩ := DataW.trod_array Tryd.underlying78 hd
  have c5 : Tryd.prog.cellsOf 66 = 1 := by kernel_rfl
  have key : ∀ r, r < 16 → W.cell? ⟨0, r, none⟩ = some (.int .u32 (quad r : Int)) := by
    intro r hr
    have hE := hel r hr
    rw [c5, Nat.mul_one, List.getElem?_eq_getElem (by omega)] at hE
    obtain ⟨z, e1, e2, _⟩ := DataW.trod_int Tryd.underlying66 hE
    have hlen : quadL.length = 16 := by decide
    have e3 : (xs.map (·.1)) = quadL.map fun (n : Nat) => (.lit (.int .u32 (n : Int)) : DataW Unit) := (DataW.agg.inj (Prod.mk.inj ex).1).symm
    have e4 : (xs.map (·.1))[r]? = (quadL.map fun (n : Nat) => (DataW.lit (.int .u32 (n : Int)) : DataW Unit))[r]? := by rw [e3]
    rw [List.getElem?_map, List.getElem?_map, List.getElem?_eq_getElem (by omega : r < xs.length), List.getElem?_eq_getElem (by omega : r < quadL.length), e2] at e4
    have hz : z = (quad r : Int) := by
      simp only [Option.map_some, Option.some.injEq, DataW.lit.injEq, Lit.int.injEq, true_and] at e4
      rw [e4, quad, List.getD, List.getElem?_eq_getElem (by omega : r < quadL.length)]; rfl
    rw [World.var?_cell hg hv r, ← hz]
    have : cs.toList[r]? = some (.int .u32 z) := by
      have h0 : ((cs.toList.drop r).take 1)[0]? = some (.int .u32 z) := by rw [e1]; rfl
      simpa using h0
    simpa using this
  exact ⟨World.block_lt_of_cell? W _ (key 0 (by omega)), key⟩

theorem laid_met (os : Os) (args : Array Value) : laidMetH Tryd.prog laidQ ((World.laidAll Tryd.prog os laidQ).forCall (fun _ _ => 0) ⟨#[], args, []⟩).memory := by
  rw [MakeChecks.laidMetH_plain _ _ _ (by kernel_rfl)]; exact laidMet_laidAll _ (by kernel_rfl) (by kernel_rfl)
end Go.Proofs.YtpaigdblijhheaaDoor
