/- The texts VbRefGood DictFits WideC WideG WideD KmvBytes KmvEq KmvMerge KmvMerged KmvNo Words KmvSide, one behind the other; each one's own comment says what it holds. -/
import Derived.Test.YtlhpbfjelgmkeaaGreatOrderC
import Derived.Test.YtlhpbfjelgmkeaaGreatCellCopiesRowGB
import Derived.Test.YtlhpbfjelgmkeaaGreatCellCopiesRowGC
import Derived.Test.YtlhpbfjelgmkeaaGreatShelf
import Derived.Lib.SliceRun
import Derived.Test.YtlhpbfjelgmkeaaGreatWideA
import Derived.Test.YtlhpbfjelgmkeaaGreatWideB
import Derived.Test.YtlhpbfjelgmkeaaGreatWideF
import Derived.Test.YtlhpbfjelgmkeaaGreatCellCopiesRowGA
import Derived.Laws.StructEq
/- Contract of the document's own Good of values. Conditions: none. -/
set_option maxRecDepth 100000
namespace Go.Proofs.YtlhpbfjelgmkeaaGreat
open Go.RowKit Go.Maps Go.Sort Go.Lib

theorem nil_list : (⟨#[]⟩ : ByteArray).toList = [] := by simp [Lib.toList_data]
end Go.Proofs.YtlhpbfjelgmkeaaGreat
/- Contracts of both Fits, of slices.Clone at values and of strings.Clone. Conditions: a column's kind; at most a million values. -/
set_option maxRecDepth 100000
namespace Go.Proofs.YtlhpbfjelgmkeaaGreat
open Go.RowKit Go.Maps Go.Sort Go.Lib

/-- may a column of a kind have it? -/
def fitsV (K : Int) (x : VV) : Bool := x.good && (x.k == 0 || x.k == K)
/-- does a dictionary take it? -/
def okV (K : Int) (x : VV) : Bool := !(x.k == 0) && fitsV K x
theorem fits_box {w w1 : World} {x y z : Value} {t : Nat} (hb : Below (w.alloc (.cells #[x, y, z] t)).heap.size (w.alloc (.cells #[x, y, z] t)) w1) : C3 w1 w.heap.size x y z ∧ Below w.heap.size w w1 := by
  have b1 := (Below.refl w.heap.size w).alloc (Nat.le_refl _) (.cells #[x, y, z] t)
  exact ⟨(C3.new w x y z t).keep hb (by simp), b1.trans (hb.mono (by simp))⟩
theorem fits_any {x : VV} (hx : x.inI) {K : Int} (h1 : 1 ≤ K) (h4 : K ≤ 4) (w : World) :
    Calls Tryz.prog 66 #[x.val, .int .i64 K] w fun e w' => e = .returned (.bool (fitsV K x)) ∧ Below w.heap.size w w' := by
  have KG := vgood_any x.k x.n x.s hx.1 hx.2
  have t1 : decide (K < 1) = false := decide_eq_false (by omega)
  have t4 : decide (4 < K) = false := decide_eq_false (by omega)
  have e0 : fitsV K x = (goodV x.k x.n x.s && (x.k == 0 || x.k == K)) := rfl
  rw [e0]
  clear e0 h1 h4 hx
  obtain ⟨k, n, s⟩ := x
  simp only at KG ⊢
  generalize goodV k n s = gd at *
  cases gd <;> cases b0 : (k == 0) <;> cases b1 : (k == K)
  all_goals (
    go_enter Tryz.func66, Tryz.ntmps66
    go_wp2_with fail
    refine (KG _).mono ?_
    rintro e w1 ⟨rfl, hb⟩
    obtain ⟨⟨c0, c1, c2⟩, hB⟩ := fits_box hb
    clear hb KG
    go_wp2_with fail
    go_ret
    exact ⟨rfl, hB⟩)
theorem strClone_any (s : ByteArray) (hs : s.size ≤ 1000000) (w : World) : Calls Tryz.prog 34 #[.string s] w fun e w' => e = .returned (.string s) ∧ Below w.heap.size w w' := by
  have KC := Tryz.stringslite_Clone s
  have hl : s.size ≤ 281474976710656 := by omega
  clear hs
  go_enter Tryz.func34, Tryz.ntmps34
  go_wp2_with fail
  refine (KC _ hl).mono ?_
  rintro e w1 ⟨rfl, hb⟩
  go_wp2_with fail
  go_ret
  exact ⟨rfl, hb⟩

/-- a row of values -/
def RowV (B : Nat) (v : Value) (L : List VV) (w : World) : Prop := w.ownsRow B 36 3 v L.length (flatC L)
theorem ownsRow_rebase3 {w : World} {A B : Nat} {e : TypeId} {size : Nat} {v : Value} {n : Nat} {xs : List Value} (h : w.ownsRow A e size v n xs) (hb : ∀ g, v.ownBlock = some g → B ≤ g) : w.ownsRow B e size v n xs := by
  refine ⟨h.1, ?_⟩
  rcases h.2 with h2 | ⟨g, cap, cur, rfl, _, r⟩
  · exact .inl h2
  · exact .inr ⟨g, cap, cur, rfl, hb g rfl, r⟩
theorem RowV.form {w : World} {B : Nat} {v : Value} {L : List VV} (h : RowV B v L w) : (v = .slice none 0 0 ∧ L = []) ∨ ∃ g c, v = .slice (some ⟨g, 0, none⟩) L.length c ∧ L.length ≤ c ∧ c ≤ maxLen ∧ B ≤ g ∧ g < w.heap.size := by
  rcases h.2 with ⟨e, e2⟩ | ⟨g, cap, cur, e, hB, hg, h1, h2, _⟩
  · exact .inl ⟨e, List.eq_nil_of_length_eq_zero e2⟩
  · exact .inr ⟨g, cap, e, h1, h2, hB, lt_of_heap hg⟩
theorem RowV.form2 {w : World} {B : Nat} {v : Value} {L : List VV} (h : RowV B v L w) : ∃ a c, v = .slice a L.length c ∧ L.length ≤ c ∧ c ≤ maxLen := by
  rcases h.form with ⟨e, e2⟩ | ⟨g, c, e, h1, h2, _⟩
  · exact ⟨none, 0, by rw [e, e2]; rfl, by rw [e2]; exact Nat.le_refl _, Nat.zero_le _⟩
  · exact ⟨_, c, e, h1, h2⟩
theorem RowV.holds {w : World} {B : Nat} {v : Value} {L : List VV} (h : RowV B v L w) : HoldsV w v L := holdsV_of_owns h
theorem RowV.of_block {w w' : World} {B : Nat} {v : Value} {L : List VV} (h : RowV B v L w) (hb : ∀ g, v.ownBlock = some g → w'.heap[g]? = w.heap[g]?) : RowV B v L w' := ownsRow_of_block h hb
theorem RowV.below {w w' : World} {B : Nat} {v : Value} {L : List VV} (h : RowV B v L w) (hb : Below w.heap.size w w') : RowV B v L w' := ownsRow_below h hb
theorem RowV.nil (B : Nat) (w : World) : RowV B (.slice none 0 0) [] w := by simpa [RowV, flatC] using World.ownsRow_nil w B 36 3
theorem RowV.lt {w : World} {B : Nat} {v : Value} {L : List VV} (h : RowV B v L w) : ∀ g, v.ownBlock = some g → g < w.heap.size := fun g hg => (World.ownsRow.lt h g hg).2
theorem RowV.kind {w : World} {B : Nat} {v : Value} {L : List VV} (h : RowV B v L w) : ∀ g, v.ownBlock = some g → ∃ cur, w.heap[g]? = some (.cells cur 36 (0, 0)) := fun g hg => by
  rcases h.2 with ⟨e, _⟩ | ⟨g', cap, cur, e, _, hh, _⟩
  · rw [e] at hg; simp [Value.ownBlock] at hg
  · rw [e] at hg
    have : g' = g := by simpa [Value.ownBlock] using hg
    subst this
    exact ⟨cur, hh⟩
theorem flatC_one (l : List VV) : ∀ u ∈ flatC l, u.oneCell' = true := fun u hu => by
  obtain ⟨s, _, hs⟩ := List.mem_flatMap.1 hu
  simp [encV] at hs
  rcases hs with rfl | rfl | rfl <;> rfl
theorem flatC_len (l : List VV) : (flatC l).length = l.length * 3 := by
  induction l with
  | nil => rfl
  | cons x r ih => simp [flatC, encV] at ih ⊢; omega
/-- append(make of nothing, a row ..): a row of its own -/
theorem copy_vals {W : World} {B : Nat} {v : Value} {L : List VV} (h : RowV B v L W) (hl : L.length ≤ 1000000) :
    ∃ g k w', (∀ ty, (Builtin.append_ #[22, 22] ty #[.slice (some ⟨W.heap.size, 0, none⟩) 0 0, v]).run Tryz.prog (W.alloc (.cells #[] 36)) = .ok (.slice (some ⟨g, 0, none⟩) L.length k) w') ∧
      RowV W.heap.size (.slice (some ⟨g, 0, none⟩) L.length k) L w' ∧ Below W.heap.size W w' := by
  obtain ⟨i, hi, hz0, hz1, hz2⟩ := info_parts info_value
  have hb1 := (Below.refl W.heap.size W).alloc (Nat.le_refl _) (.cells #[] 36)
  have hr1 := World.ownsRow_made W (base := W.heap.size) (e := 36) (size := 3) #[] 0 (Nat.le_refl _) (by unfold maxLen; omega) (by simp)
  have hs := h.below hb1
  rcases hs.form with ⟨rfl, rfl⟩ | ⟨g, c, rfl, hc, _, _, _⟩
  · refine ⟨W.heap.size, 0, _, fun ty => append_nilsrc _ _ ty _ i Tryz.underlying22 hi _ 0 0 0 (Nat.le_refl _), ?_, hb1⟩
    simpa [RowV, flatC] using hr1
  · obtain ⟨v', w', hr, h2, h3, h4⟩ := run_append_own (P := Tryz.prog) (w := W.alloc (.cells #[] 36)) W.heap.size 22 0 36 i (.agg #[.int .i64 0, .int .i64 0, .string ⟨#[]⟩]) 3 32 Tryz.underlying22 hi hz0 hz1 hz2 rfl (by omega) _ 0 [] hr1
      ⟨g, 0, none⟩ L.length c (flatC L) (flatC_len L) (World.ownsRow.cells hs (g := g) rfl) (flatC_one L) (by unfold maxLen; omega) (by omega) hb1.size
    rw [Nat.zero_add, List.nil_append] at h2
    have h5 : RowV W.heap.size v' L w' := h2
    have hgr : Below W.heap.size W w' := hb1.grown h3 hb1.size (fun k e => by simp [Value.ownBlock] at e; omega)
    rcases h5.form with ⟨e, _⟩ | ⟨g', k, e, _⟩
    · exact absurd (h4.1 e).1 (by simp)
    · subst e
      exact ⟨g', k, w', fun ty => hr, h5, hgr⟩
/-- a copy of values -/
def ClonedV (w : World) (L : List VV) (e : Ending) (w' : World) : Prop := ∃ v, e = .returned v ∧ RowV w.heap.size v L w' ∧ Below w.heap.size w w'
set_option maxHeartbeats 800000 in
theorem clone_vals {w : World} {B : Nat} {v : Value} {L : List VV} (h : RowV B v L w) (hl : L.length ≤ 1000000) :
    Calls Tryz.prog 131 #[v] w (ClonedV w L) := by
  rcases h.form with ⟨rfl, rfl⟩ | ⟨g, c, rfl, _⟩
  · have HP : Hid (ClonedV w [] (.returned (.slice none 0 0)) w) := Lib.hid ⟨_, rfl, RowV.nil _ _, Below.refl _ _⟩
    have hnil := fun W => Lib.run_eql_slice_nil (P := Tryz.prog) W 22 36 none 0 0 0 0 Tryz.underlying22
    clear h hl
    go_enter Tryz.func131, Tryz.ntmps131
    go_wp2_with fail
    go_ret
    exact HP.out
  · obtain ⟨g2, k, w2, r, o, b⟩ := copy_vals h hl
    have R := Lib.hid r
    have HP : Hid (ClonedV w L (.returned (.slice (some ⟨g2, 0, none⟩) L.length k)) w2) := Lib.hid ⟨_, rfl, o, b⟩
    have hnil := fun W => Lib.run_eql_slice_nil (P := Tryz.prog) W 22 36 (some ⟨g, 0, none⟩) L.length c 0 0 Tryz.underlying22
    clear h r o b hl
    go_enter Tryz.func131, Tryz.ntmps131
    go_wp2_with (at_builtin; refine wpList_append_run rfl _ _ 22 rfl rfl rfl (R.out _) ?_)
    go_ret
    exact HP.out
end Go.Proofs.YtlhpbfjelgmkeaaGreat
/- What sums and differences of two words say, and Add on the reference's side. Conditions: none. -/
set_option maxRecDepth 100000
namespace Go.Proofs.YtlhpbfjelgmkeaaGreat.Wide
open Go.RowKit

theorem add_math {h l h' l' u u' S C T D G N : Int} (h0 : -9223372036854775808 ≤ h) (h1 : h < 9223372036854775808) (k0 : -9223372036854775808 ≤ h') (k1 : h' < 9223372036854775808)
    (hU : h % 18446744073709551616 = u) (hU' : h' % 18446744073709551616 = u') (e1 : l + l' = C * 18446744073709551616 + S) (s0 : 0 ≤ S) (s1 : S < 18446744073709551616) (hc : C = 0 ∨ C = 1)
    (e2 : u + u' + C = D * 18446744073709551616 + T) (t0 : 0 ≤ T) (t1 : T < 18446744073709551616) (hG : (T + 9223372036854775808) % 18446744073709551616 - 9223372036854775808 = G)
    (hN : N = h * 18446744073709551616 + l + (h' * 18446744073709551616 + l')) :
    ((h < 0 ↔ h' < 0) ∧ ¬(G < 0 ↔ h < 0) → fitW N = false) ∧ (¬((h < 0 ↔ h' < 0) ∧ ¬(G < 0 ↔ h < 0)) → fitW N = true ∧ hiW N = G ∧ loW N = S) := by
  constructor
  · intro hx
    rw [fit_not]
    omega
  · intro hx
    have e : G * 18446744073709551616 + S = N := by omega
    have hg0 : -9223372036854775808 ≤ G := by omega
    have hg1 : G < 9223372036854775808 := by omega
    exact ⟨fit_of e s0 s1 hg0 hg1, w_of e s0 s1⟩
theorem sub_math {h l h' l' u u' S C T D G N : Int} (h0 : -9223372036854775808 ≤ h) (h1 : h < 9223372036854775808) (k0 : -9223372036854775808 ≤ h') (k1 : h' < 9223372036854775808)
    (hU : h % 18446744073709551616 = u) (hU' : h' % 18446744073709551616 = u') (e1 : l - l' = S - C * 18446744073709551616) (s0 : 0 ≤ S) (s1 : S < 18446744073709551616) (hc : C = 0 ∨ C = 1)
    (e2 : u - u' - C = T - D * 18446744073709551616) (t0 : 0 ≤ T) (t1 : T < 18446744073709551616) (hG : (T + 9223372036854775808) % 18446744073709551616 - 9223372036854775808 = G)
    (hN : N = h * 18446744073709551616 + l - (h' * 18446744073709551616 + l')) :
    (¬(h < 0 ↔ h' < 0) ∧ ¬(G < 0 ↔ h < 0) → fitW N = false) ∧ (¬(¬(h < 0 ↔ h' < 0) ∧ ¬(G < 0 ↔ h < 0)) → fitW N = true ∧ hiW N = G ∧ loW N = S) := by
  constructor
  · intro hx
    rw [fit_not]
    omega
  · intro hx
    have e : G * 18446744073709551616 + S = N := by omega
    have hg0 : -9223372036854775808 ≤ G := by omega
    have hg1 : G < 9223372036854775808 := by omega
    exact ⟨fit_of e s0 s1 hg0 hg1, w_of e s0 s1⟩
theorem tuple_yes {N g s : Int} (h : fitW N = true ∧ hiW N = g ∧ loW N = s) : Value.tuple #[.agg #[.int .i64 g, .int .u64 s], .bool true] = .tuple #[wv (ansW N), .bool (fitW N)] := by
  unfold ansW; rw [h.1, if_pos rfl]; unfold wv; rw [h.2.1, h.2.2]
theorem tuple_no {N : Int} (h : fitW N = false) : Value.tuple #[.agg #[.int .i64 0, .int .u64 0], .bool false] = .tuple #[wv (ansW N), .bool (fitW N)] := by
  unfold ansW; rw [h, if_neg (by decide)]; rfl

theorem three_new (w : World) (o o' o'' : Obj) : Below w.heap.size w (((w.alloc o).alloc o').alloc o'') := (((Below.refl _ _).alloc (Nat.le_refl _) _).alloc (by simp) _).alloc (by simp; omega) _
theorem iff_of_dec {p q : Prop} [Decidable p] [Decidable q] : (decide p == decide q) = true ↔ (p ↔ q) := by
  rw [beq_iff_eq, decide_eq_decide]
end Go.Proofs.YtlhpbfjelgmkeaaGreat.Wide
/- Contracts of Add and Sub where the signs need no second look. Conditions: none. -/
set_option maxRecDepth 100000
namespace Go.Proofs.YtlhpbfjelgmkeaaGreat.Wide
open Go.RowKit
end Go.Proofs.YtlhpbfjelgmkeaaGreat.Wide
/- Contracts of Add and Sub, whole. Conditions: none. -/
set_option maxRecDepth 100000
namespace Go.Proofs.YtlhpbfjelgmkeaaGreat.Wide
open Go.RowKit

theorem dec_ne {p q : Prop} [Decidable p] [Decidable q] (h : ¬(p ↔ q)) : decide p ≠ decide q := fun e => h (decide_eq_decide.1 e)
theorem kb2 {h l h' l' : Int} {b1 b2 : Bool} (K1 : ∀ w, Calls Tryz.prog 200 #[.agg #[.int .i64 h, .int .u64 l]] w fun e w' => e = .returned (.bool b1) ∧ Below w.heap.size w w') (K2 : ∀ w, Calls Tryz.prog 200 #[.agg #[.int .i64 h', .int .u64 l']] w fun e w' => e = .returned (.bool b2) ∧ Below w.heap.size w w') (x y : Int) (v : Bool) (hc : (x = h ∧ y = l ∧ v = b1) ∨ (x = h' ∧ y = l' ∧ v = b2)) (w : World) : Calls Tryz.prog 200 #[.agg #[.int .i64 x, .int .u64 y]] w fun e w' => e = .returned (.bool v) ∧ Below w.heap.size w w' := by
  rcases hc with ⟨rfl, rfl, rfl⟩ | ⟨rfl, rfl, rfl⟩
  · exact K1 w
  · exact K2 w
theorem kb3 {h l h' l' g s : Int} {b1 b2 b3 : Bool} (K1 : ∀ w, Calls Tryz.prog 200 #[.agg #[.int .i64 h, .int .u64 l]] w fun e w' => e = .returned (.bool b1) ∧ Below w.heap.size w w') (K2 : ∀ w, Calls Tryz.prog 200 #[.agg #[.int .i64 h', .int .u64 l']] w fun e w' => e = .returned (.bool b2) ∧ Below w.heap.size w w') (K3 : ∀ w, Calls Tryz.prog 200 #[.agg #[.int .i64 g, .int .u64 s]] w fun e w' => e = .returned (.bool b3) ∧ Below w.heap.size w w') (x y : Int) (v : Bool) (hc : (x = h ∧ y = l ∧ v = b1) ∨ (x = h' ∧ y = l' ∧ v = b2) ∨ (x = g ∧ y = s ∧ v = b3)) (w : World) : Calls Tryz.prog 200 #[.agg #[.int .i64 x, .int .u64 y]] w fun e w' => e = .returned (.bool v) ∧ Below w.heap.size w w' := by
  rcases hc with ⟨rfl, rfl, rfl⟩ | ⟨rfl, rfl, rfl⟩ | ⟨rfl, rfl, rfl⟩
  · exact K1 w
  · exact K2 w
  · exact K3 w
theorem add_any (h l h' l' : Int) (w : World) (h0 : -9223372036854775808 ≤ h) (h1 : h < 9223372036854775808) (l0 : 0 ≤ l) (l1 : l < 18446744073709551616) (k0 : -9223372036854775808 ≤ h') (k1 : h' < 9223372036854775808) (m0 : 0 ≤ l') (m1 : l' < 18446744073709551616) : Calls Tryz.prog 198 #[.agg #[.int .i64 h, .int .u64 l], .agg #[.int .i64 h', .int .u64 l']] w fun e w' => e = .returned (.tuple #[wv (ansW (h * 18446744073709551616 + l + (h' * 18446744073709551616 + l'))), .bool (fitW (h * 18446744073709551616 + l + (h' * 18446744073709551616 + l')))]) ∧ Below w.heap.size w w' := by
  obtain ⟨u, hu⟩ : ∃ u, IntKind.u64.wrap h = u := ⟨_, rfl⟩
  obtain ⟨u', hu'⟩ : ∃ u, IntKind.u64.wrap h' = u := ⟨_, rfl⟩
  have hU := hu
  have hU' := hu'
  rw [IntKind.wrap_u64] at hU hU'
  obtain ⟨S, hS⟩ : ∃ S, S = (l + l') % 18446744073709551616 := ⟨_, rfl⟩
  obtain ⟨C, hC⟩ : ∃ S, S = (l + l') / 18446744073709551616 := ⟨_, rfl⟩
  obtain ⟨T, hT⟩ : ∃ S, S = (u + u' + C) % 18446744073709551616 := ⟨_, rfl⟩
  obtain ⟨D, hD⟩ : ∃ S, S = (u + u' + C) / 18446744073709551616 := ⟨_, rfl⟩
  have c1 := fun w => add64_run (x := l) (y := l') (c := 0) (s := S) (d := C) l0 m0 (.inl rfl) (by omega) (by omega) (by omega) w
  have c2 := fun w => add64_run (x := u) (y := u') (c := C) (s := T) (d := D) (by omega) (by omega) (by omega) (by omega) (by omega) (by omega) w
  obtain ⟨G, hG⟩ : ∃ S, IntKind.i64.wrap T = S := ⟨_, rfl⟩
  have hG' := hG
  rw [IntKind.wrap_i64] at hG'
  have hm := add_math (N := h * 18446744073709551616 + l + (h' * 18446744073709551616 + l')) (D := D) h0 h1 k0 k1 hU hU' (S := S) (C := C) (l := l) (l' := l') (by omega) (by omega) (by omega) (by omega) (T := T) (by omega) (by omega) (by omega) hG' rfl
  generalize h * 18446744073709551616 + l + (h' * 18446744073709551616 + l') = N at hm ⊢
  have K1 := below_any h l
  have K2 := below_any h' l'
  have K3 := below_any G S
  by_cases hE : h < 0 ↔ h' < 0
  · rw [← decide_eq_decide.2 hE] at K2
    by_cases hF : G < 0 ↔ h < 0
    · rw [decide_eq_decide.2 hF] at K3
      rw [← tuple_yes (hm.2 (fun hx => hx.2 hF))]
      exact add_ok1 w _ hu hu' hG c1 c2 (kb3 K1 K2 K3)
    · rw [← tuple_no (hm.1 ⟨hE, hF⟩)]
      exact add_no w _ _ (bne_fact (dec_ne hF)).1 hu hu' hG c1 c2 (kb3 K1 K2 K3)
  · rw [← tuple_yes (hm.2 (fun hx => hE hx.1))]
    exact add_ok2 w _ _ (bne_fact (dec_ne hE)).2.2 hu hu' hG c1 c2 (kb2 K1 K2)
end Go.Proofs.YtlhpbfjelgmkeaaGreat.Wide
/- Contract of kmv's Bytes. Conditions: a sketch that was made. -/
set_option maxRecDepth 100000
namespace Go.Proofs.YtlhpbfjelgmkeaaGreat
open Go.RowKit Go.Maps Go.Sort

/-- the hash ahead of hash k -/
def prevL (l : List Nat) (k : Nat) : Nat := (0 :: l).getD k 0
/-- the first j differences in bytes -/
def dpart (l : List Nat) (j : Nat) : List UInt8 := (List.range j).flatMap fun k => dig (l.getD k 0 - prevL l k)
/-- a copy in bytes -/
def copB (l : List Nat) : List UInt8 := dig l.length ++ dpart l l.length
/-- all copies in bytes -/
def bytesL (L : List (List Nat)) : List UInt8 := L.flatMap copB
theorem dpart_next (l : List Nat) (j : Nat) (h : j < l.length) : dpart l (j + 1) = dpart l j ++ dig (l[j] - prevL l j) := by
  unfold dpart
  rw [List.range_succ, List.flatMap_append]
  simp [h]
theorem prevL_next (l : List Nat) (j : Nat) (h : j < l.length) : prevL l (j + 1) = l[j] := by simp [prevL, h]
theorem prevL_le {l : List Nat} (hu : Up l) (j : Nat) (h : j < l.length) : prevL l j ≤ l[j] := by
  cases j with
  | zero => simp [prevL]
  | succ j =>
    rw [prevL_next l j (by omega)]
    exact Nat.le_of_lt (List.pairwise_iff_getElem.1 hu j (j + 1) (by omega) h (by omega))
theorem dpart_len {l : List Nat} (hl : ∀ x ∈ l, x < 2305843009213693951) : ∀ j, j ≤ l.length → (dpart l j).length ≤ 10 * j
  | 0, _ => by simp [dpart]
  | j + 1, h => by
    have ih := dpart_len hl j (by omega)
    have hx := hl _ (List.getElem_mem (l := l) (n := j) (by omega))
    have := dig_len10 (u := l[j] - prevL l j) (by omega)
    rw [dpart_next l j (by omega), List.length_append]
    omega
theorem copB_len {t : Nat} {l : List Nat} (h : GoodL t l) (ht : t ≤ 64) : (copB l).length ≤ 650 := by
  have h1 := dpart_len h.lt l.length (Nat.le_refl _)
  have h2 := h.len
  have := dig_len10 (u := l.length) (by omega)
  unfold copB
  rw [List.length_append]
  omega
theorem bytesL_next (L : List (List Nat)) (k : Nat) (h : k < L.length) : bytesL (L.take (k + 1)) = bytesL (L.take k) ++ copB L[k] := by
  unfold bytesL
  rw [List.take_succ_eq_append_getElem h, List.flatMap_append]
  simp
theorem bytesL_len {t : Nat} {L : List (List Nat)} (h : ∀ l ∈ L, GoodL t l) (ht : t ≤ 64) : ∀ k, k ≤ L.length → (bytesL (L.take k)).length ≤ 650 * k
  | 0, _ => by simp [bytesL]
  | k + 1, hk => by
    have ih := bytesL_len h ht k (by omega)
    have := copB_len (h _ (List.getElem_mem (l := L) (n := k) (by omega))) ht
    rw [bytesL_next L k (by omega), List.length_append]
    omega

/-- bytes of the call's own -/
def OwnB (w : World) (xs : List UInt8) (v : Value) (w' : World) : Prop := w'.ownsRow w.heap.size 5 1 v xs.length (u8s xs) ∧ Below w.heap.size w w'
def BytesAt (w : World) (xs : List UInt8) (e : Ending) (w' : World) : Prop := ∃ v, e = .returned v ∧ OwnB w xs v w'
end Go.Proofs.YtlhpbfjelgmkeaaGreat
/- Contract of slices.Equal at seeds that are alike. Conditions: none. -/
set_option maxRecDepth 100000
namespace Go.Proofs.YtlhpbfjelgmkeaaGreat
open Go.RowKit Go.Maps Go.Sort

theorem neq_seed (w : World) (a b : Int) : (binOp .neq 95 (.agg #[.int .u64 a, .int .u64 b]) (.agg #[.int .u64 a, .int .u64 b])).run Tryz.prog w = .ok (.bool false) w := by
  have u3 := Tryz.underlying43
  have hS : Tryz.prog.underlying 95 = some (.struct (Tryz.prog.fieldsOf 95)) := by kernel_rfl
  have hp : Tryz.prog.stoodInHeld 95 = false := by kernel_rfl
  rw [run_neq_struct, show (10000 : Nat) = 9999 + 1 from rfl, run_equalIn_agg w 9999 95 _ _ hS hp]
  simp only [Program.fieldsOf, Tryz.underlying95]
  go_simp
theorem guard_seed (w : World) (o : BinOp) (x y : Operand) (a b a' b' : Int) : (eqGuard o 95 x y (.agg #[.int .u64 a, .int .u64 b]) (.agg #[.int .u64 a', .int .u64 b'])).run Tryz.prog w = .ok () w :=
  run_eqGuard_agg w o _ x y _ _ (by kernel_rfl)

set_option maxHeartbeats 1600000 in
theorem equal_same {w : World} {a b : Addr} {n c d : Nat} {S : List (Nat × Nat)} (h : SeedsIn w a S) (g : SeedsIn w b S) (hn : S.length = n) (h7 : n ≤ 1000) :
    Calls Tryz.prog 69 #[.slice (some a) n c, .slice (some b) n d] w (Draws (.bool true) w) := by
  have KN := fun W A B => neq_seed W A B
  have KG := fun W o x y A B A' B' => guard_seed W o x y A B A' B'
  have H := Lib.hid h
  have G := Lib.hid g
  have HN := Lib.hid hn
  clear h g hn
  go_enter Tryz.func69, Tryz.ntmps69
  go_wp2_with fail
  go_loopw [5, 13] (fun _ k wr => ∃ (m q : Nat), k = .int .i64 m ∧ m ≤ n ∧ wr = w.drewN q) (fun _ k _ => n - (intOf k).toNat)
  case atStart => exact ⟨0, 0, rfl, Nat.zero_le _, (World.drewN_zero _).symm⟩
  case round =>
    obtain ⟨m, q, rfl, hm, rfl⟩ := hrel
    by_cases hlt : m < n
    · have hmS : m < S.length := by rw [HN.out]; exact hlt
      obtain ⟨d0, d1⟩ := H.out.read hmS
      obtain ⟨e0, e1⟩ := G.out.read hmS
      generalize S[m] = sd at *
      obtain ⟨A, B⟩ := sd
      have b0 : (0 : Int) ≤ (m : Int) := by omega
      have b1 : (m : Int) < (n : Int) := by omega
      go_wp2_with fail
      go_quiet (fail)
      go_wp2_with fail
      go_roundw
      case rel => exact ⟨m + 1, _, by go_num, by omega, rfl⟩
      case measure => simp [intOf]; omega
    · go_wp2_with fail
      go_ret
      exact ⟨rfl, _, rfl⟩
end Go.Proofs.YtlhpbfjelgmkeaaGreat
/- The walk of kmv's Merge, over what is known of both sketches. Conditions: two sketches of one kind. -/
set_option maxRecDepth 100000
namespace Go.Proofs.YtlhpbfjelgmkeaaGreat
open Go.RowKit Go.Maps Go.Sort

theorem nats_getD {l : List Nat} {k : Nat} (h : k < l.length) : (nats l)[k]? = some (.int .u64 ((l.getD k 0 : Nat) : Int)) := by
  rw [nats_at h, List.getD_eq_getElem?_getD, List.getElem?_eq_getElem h]; rfl
/-- what the walk of Merge wants: St m: m copies are merged; In m q v: and q hashes of the next one, which v holds -/
structure MergeOk (p q N t : Nat) (L : List (List Nat)) (St : Nat → World → Prop) (In : Nat → Nat → Value → World → Prop) : Prop where
  len : L.length = N
  n7 : N ≤ 7
  start : ∀ m W, m < N → St m W → ∃ cb a c, W.cell? ⟨q, 2, none⟩ = some (.slice (some ⟨cb, 0, none⟩) N N) ∧ W.cell? ⟨cb, m, none⟩ = some (.slice a (L.getD m []).length c) ∧ In m 0 (.slice a (L.getD m []).length c) W
  holds : ∀ m k v W, In m k v W → Holds W v (nats (L.getD m []))
  keep : ∀ m k v W, k < (L.getD m []).length → m < N → In m k v W → Calls Tryz.prog 209 #[.pointer (some ⟨p, 0, none⟩), .int .i64 (m : Int), .int .u64 (((L.getD m []).getD k 0 : Nat) : Int)] W fun e w' => e = .returned (.tuple #[]) ∧ Hid (In m (k + 1) v w')
  done : ∀ m v W, In m (L.getD m []).length v W → St (m + 1) W
  small : ∀ m, (L.getD m []).length ≤ 1000

set_option maxHeartbeats 6400000 in
theorem merge_walk {w : World} {p q N t : Nat} {L : List (List Nat)} {St : Nat → World → Prop} {In : Nat → Nat → Value → World → Prop} (H : MergeOk p q N t L St In) {sa sb : Addr} {sc sd : Nat} {S : List (Nat × Nat)} (hS : S.length = N)
    (p0 : w.cell? ⟨p, 0, none⟩ = some (.int .i64 t)) (p1 : w.cell? ⟨p, 1, none⟩ = some (.slice (some sa) N sc)) (q0 : w.cell? ⟨q, 0, none⟩ = some (.int .i64 t)) (q1 : w.cell? ⟨q, 1, none⟩ = some (.slice (some sb) N sd))
    (ha : SeedsIn w sa S) (hb : SeedsIn w sb S) (ht : 2 ≤ t) (h0 : St 0 w) (hd : ∀ m W n, St m W → St m (W.drewN n)) :
    Calls Tryz.prog 207 #[.pointer (some ⟨p, 0, none⟩), .pointer (some ⟨q, 0, none⟩)] w fun e w' => e = .returned (.int .i64 0) ∧ Hid (St N w') := by
  have KP := made_yes p0 ht
  have KQ := Lib.hid (fun n => (made_yes (w := w.drewN n) q0 ht))
  have KE := Lib.hid (fun n => equal_same (w := w.drewN n) (c := sd) (d := sc) (show SeedsIn (w.drewN n) sb S from hb) (show SeedsIn (w.drewN n) sa S from ha) hS (by have := H.n7; omega))
  have HH := Lib.hid H
  have HD := Lib.hid (fun n => hd 0 w n h0)
  have hn7 := H.n7
  clear H hS ha hb h0 hd
  go_enter Tryz.func207, Tryz.ntmps207
  go_wp2_with fail
  refine KP.mono ?_
  rintro e w' ⟨rfl, rfl⟩
  clear KP
  go_wp2_with fail
  go_quiet ((first | exact Calls.quiet_of_same ((KQ.out _).mono fun _ _ ⟨h, hw⟩ => ⟨h, hw.symm⟩) | exact Calls.quiet_of (KE.out _)))
  go_wp2_with fail
  go_loopw [5, 44] (fun _ k wr => ∃ m : Nat, k = .int .i64 m ∧ m ≤ N ∧ Hid (St m wr)) (fun _ k _ => N - (intOf k).toNat)
  case atStart => exact ⟨0, rfl, Nat.zero_le _, HD.out _⟩
  case round =>
    obtain ⟨m, rfl, hm, HR⟩ := hrel
    by_cases hlt : m < N
    · obtain ⟨cb, a, c, c2, c3, hin⟩ := HH.out.start m wr hlt HR.out
      have hsm := HH.out.small m
      have b0 : (0 : Int) ≤ (m : Int) := by omega
      have b1 : (m : Int) < (N : Int) := by omega
      have HI := Lib.hid hin
      have HHO := Lib.hid (fun k W (h : In m k (.slice a (L.getD m []).length c) W) => HH.out.holds m k _ W h)
      have HK := Lib.hid (fun k W hk (h : In m k (.slice a (L.getD m []).length c) W) => HH.out.keep m k _ W hk hlt h)
      have HDN := Lib.hid (fun W (h : In m (L.getD m []).length (.slice a (L.getD m []).length c) W) => HH.out.done m _ W h)
      generalize hl : L.getD m [] = l at *
      clear hl hin HR
      generalize hn : l.length = n at *
      obtain ⟨wo, hwo⟩ : ∃ wo : World, wo = wr := ⟨_, rfl⟩
      clear hwo
      have HNL := Lib.hid hn
      clear hn
      go_wp2_with fail
      go_loopw [7, 55] (fun _ j wq => ∃ k : Nat, j = .int .i64 k ∧ k ≤ n ∧ Hid (In m k (.slice a n c) wq)) (fun _ j _ => n - (intOf j).toNat)
      case atStart => exact ⟨0, rfl, Nat.zero_le _, HI.out⟩
      case round =>
        obtain ⟨k, rfl, hk, HQ⟩ := hrel
        by_cases hkn : k < n
        · have hkl : k < l.length := by rw [HNL.out]; exact hkn
          have HO3 := HHO.out k _ HQ.out
          obtain ⟨ad, rfl⟩ := HO3.ptr (by omega)
          have e0 := HO3.cell (nats_getD hkl)
          have KK := Lib.hid (HK.out k _ hkn HQ.out)
          generalize l.getD k 0 = x at *
          have q0 : (0 : Int) ≤ (k : Int) := by omega
          have q1 : (k : Int) < (n : Int) := by omega
          clear HO3 HQ
          go_wp2_with fail
          refine KK.out.mono ?_
          rintro e w2 ⟨rfl, hi⟩
          clear KK
          go_wp2_with fail
          go_roundw
          case rel => exact ⟨k + 1, by go_num, by omega, hi⟩
          case measure => simp [intOf]; omega
        · have hke : k = n := by omega
          have HF : Hid (St (m + 1) wr) := Lib.hid (HDN.out _ (by have := HQ.out; rwa [hke] at this))
          clear HQ hke
          go_wp2_with fail
          go_roundw
          case rel => exact ⟨m + 1, by go_num, by omega, HF⟩
          case measure => simp [intOf]; omega
    · have hme : m = N := by omega
      have HP : Hid (St N wr) := by rw [← hme]; exact HR
      clear HR hme
      go_wp2_with fail
      go_ret
      exact ⟨rfl, HP⟩
end Go.Proofs.YtlhpbfjelgmkeaaGreat
/- Contracts of kmv's Merge: two sketches of one kind, and one with itself. Conditions: sketches that were made. -/
set_option maxRecDepth 100000
namespace Go.Proofs.YtlhpbfjelgmkeaaGreat
open Go.RowKit Go.Maps Go.Sort

def SkV.mpart (V U : SkV) (m k : Nat) : SkV := { V with L := V.L.mapIdx fun j l => if j < m then mergeL V.t l (U.L.getD j []) else if j = m then mergeL V.t l ((U.L.getD j []).take k) else l }
/-- those of another one, too -/
def SkV.merge (V U : SkV) : SkV := { V with L := V.L.mapIdx fun j l => mergeL V.t l (U.L.getD j []) }
theorem mergeL_next (t : Nat) (l b : List Nat) (k : Nat) (h : k < b.length) : mergeL t l (b.take (k + 1)) = addL t (b.getD k 0) (mergeL t l (b.take k)) := by
  unfold mergeL
  rw [List.take_succ_eq_append_getElem h, List.foldl_append, List.getD_eq_getElem?_getD, List.getElem?_eq_getElem h]
  rfl
theorem SkV.mpart_len (V U : SkV) (m k : Nat) : (V.mpart U m k).L.length = V.L.length := by simp [SkV.mpart]
theorem SkV.mpart_zero (V U : SkV) : V.mpart U 0 0 = V := by
  cases V with
  | mk t S L =>
    unfold SkV.mpart
    congr 1
    apply List.ext_getElem
    · simp
    · intro j h1 h2
      rw [List.getElem_mapIdx, if_neg (by omega)]
      split
      · simp [mergeL]
      · rfl
theorem SkV.mpart_all (V U : SkV) : V.mpart U V.L.length 0 = V.merge U := by
  unfold SkV.mpart SkV.merge
  congr 1
  apply List.ext_getElem
  · simp
  · intro j h1 h2
    simp at h1
    rw [List.getElem_mapIdx, List.getElem_mapIdx, if_pos h1]
theorem SkV.mpart_done (V U : SkV) (m : Nat) : V.mpart U m (U.L.getD m []).length = V.mpart U (m + 1) 0 := by
  unfold SkV.mpart
  congr 1
  apply List.ext_getElem
  · simp
  · intro j h1 h2
    rw [List.getElem_mapIdx, List.getElem_mapIdx]
    by_cases g : j < m
    · rw [if_pos g, if_pos (by omega)]
    · rw [if_neg g]
      by_cases e : j = m
      · subst e
        rw [if_pos rfl, if_pos (by omega), List.take_length]
      · rw [if_neg e, if_neg (by omega)]
        by_cases e2 : j = m + 1
        · rw [if_pos e2]; simp [mergeL]
        · rw [if_neg e2]
theorem SkV.mpart_next (V U : SkV) (m k : Nat) (hk : k < (U.L.getD m []).length) (h : m < (V.mpart U m k).L.length) :
    (⟨(V.mpart U m k).t, (V.mpart U m k).seeds, (V.mpart U m k).L.set m (addL (V.mpart U m k).t ((U.L.getD m []).getD k 0) (V.mpart U m k).L[m])⟩ : SkV) = V.mpart U m (k + 1) := by
  unfold SkV.mpart
  congr 1
  apply List.ext_getElem
  · simp
  · intro j h1 h2
    simp only [List.getElem_set]
    by_cases e : m = j
    · subst e
      rw [if_pos rfl, List.getElem_mapIdx, if_neg (by omega), if_pos rfl, mergeL_next _ _ _ _ hk]
      congr 1
      exact (List.getElem_mapIdx ..).trans (by rw [if_neg (by omega), if_pos rfl])
    · rw [if_neg e, List.getElem_mapIdx, List.getElem_mapIdx]
      by_cases g : j < m
      · rw [if_pos g, if_pos g]
      · rw [if_neg g, if_neg g, if_neg (fun e' => e e'.symm), if_neg (fun e' => e e'.symm)]

section
variable {T : Tags} {i j : Nat} {w : World} {p q : Nat} {V U : SkV}

def MSt (T : Tags) (i j : Nat) (w : World) (p q : Nat) (V U : SkV) (m k : Nat) (v : Option Value) (W : World) : Prop :=
  ∃ T1, Next T w T1 ∧ Else (fun k => T k = some i) w W ∧ Sk p (V.mpart U m k) T1 i W ∧ Sk q U T1 j W ∧ ∀ u, v = some u → W.ownsRow 0 43 1 u (U.L.getD m []).length (nats (U.L.getD m [])) ∧ ∀ g, u.ownBlock = some g → T1 g = some j

theorem Sk.good (h : Sk p V T i w) : V.Good := by obtain ⟨_, _, _, _, g⟩ := h; exact g.good
theorem getD_at {α : Type} {L : List α} {m : Nat} (h : m < L.length) (d : α) : L.getD m d = L[m] := by rw [List.getD_eq_getElem?_getD, List.getElem?_eq_getElem h]; rfl
theorem MSt.drewN {m k : Nat} {v : Option Value} {W : World} (h : MSt T i j w p q V U m k v W) (n : Nat) : MSt T i j w p q V U m k v (W.drewN n) := by
  obtain ⟨T1, n1, e1, h1, h2, h3⟩ := h
  exact ⟨T1, n1, e1.drewN n, (Sk.framed _ _).below h1 (below_drewN W n), (Sk.framed _ _).below h2 (below_drewN W n), h3⟩

theorem mergeOk_two (h : Sk p V T i w) (g : Sk q U T j w) (hij : i ≠ j) (ht : U.t = V.t) (hS : U.seeds = V.seeds) :
    MergeOk p q V.seeds.length V.t U.L (fun m => MSt T i j w p q V U m 0 none) (fun m k v => MSt T i j w p q V U m k (some v)) := by
  have hU := g.good
  have hV := h.good
  have hlen : U.L.length = V.seeds.length := by rw [hU.len, hS]
  have hgood : ∀ m, m < V.seeds.length → GoodL V.t (U.L.getD m []) := fun m hm => by
    rw [getD_at (by omega), ← ht]
    exact hU.row _ (List.getElem_mem _)
  refine ⟨hlen, hV.set.n7, fun m W hm hst => ?_, fun m k v W hin => ?_, fun m k v W hk hm hin => ?_, fun m v W hin => ?_, fun m => ?_⟩
  · obtain ⟨T1, n1, e1, h1, h2, _⟩ := hst
    have h2' := h2
    obtain ⟨sa, sc, cb, rows, g2⟩ := h2
    have hmL : m < U.L.length := by omega
    obtain ⟨v, hv, c3, f3, hown, hgl⟩ := g2.at_ hmL
    obtain ⟨c0, c1, c2⟩ := g2.cells
    obtain ⟨a, c, rfl, _, _⟩ := ownsRow_form hown
    rw [hlen] at c2
    refine ⟨cb, a, c, c2, ?_, T1, n1, e1, h1, h2', fun u hu => ?_⟩
    · rw [getD_at hmL]; exact c3
    · cases hu
      rw [getD_at hmL]
      exact ⟨hown, fun g' hg' => g2.tr m _ g' hv hg'⟩
  · obtain ⟨T1, _, _, _, _, h3⟩ := hin
    exact Holds.of_row (by rw [nats_len]; exact (h3 v rfl).1)
  · obtain ⟨T1, n1, e1, h1, h2, h3⟩ := hin
    obtain ⟨sa, sc, cb, rows, g1⟩ := h1
    have hmL : m < (V.mpart U m k).L.length := by rw [SkV.mpart_len, hV.len]; exact hm
    have hx := (hgood m hm).lt _ (List.getElem_mem hk)
    have K := keep_any g1 hmL (x := (U.L.getD m []).getD k 0) (by rw [getD_at hk]; exact hx)
    rw [SkV.mpart_next _ _ _ _ hk hmL] at K
    refine K.mono ?_
    rintro e w' ⟨rfl, T2, n2, e2, h4⟩
    refine ⟨rfl, T2, fun k hk => (n2 k (Nat.lt_of_lt_of_le hk e1.size)).trans (n1 k hk), e1.trans e2 (fun x hx => ?_), h4, ?_, fun u hu => ?_⟩
    · rcases Nat.lt_or_ge x w.heap.size with g | g
      · exact .inl ((n1 x g).symm.trans hx)
      · exact .inr g
    · exact (Sk.framed q U) T1 T2 j W w' h2 n2 (fun k hk hT => e2.block k hk (fun hx => by
        rcases hT with hT | hT
        · rw [hT] at hx; cases hx
        · rw [hT] at hx; exact hij (Option.some.inj hx).symm))
    · obtain ⟨ho, htag⟩ := h3 u hu
      refine ⟨ownsRow_of_block ho fun g' hg' => e2.block g' (ho.lt g' hg').2 (fun hx => ?_), fun g' hg' => (n2 g' (ho.lt g' hg').2).trans (htag g' hg')⟩
      rw [htag g' hg'] at hx
      exact hij (Option.some.inj hx).symm
  · obtain ⟨T1, n1, e1, h1, h2, _⟩ := hin
    rw [SkV.mpart_done] at h1
    exact ⟨T1, n1, e1, h1, h2, fun u hu => by cases hu⟩
  · by_cases hm : m < V.seeds.length
    · have := (hgood m hm).len
      have := hV.set.t64
      omega
    · rw [List.getD_eq_getElem?_getD, List.getElem?_eq_none (by omega)]; simp

/-- two sketches of one kind -/
theorem merge_two (h : Sk p V T i w) (g : Sk q U T j w) (hij : i ≠ j) (ht : U.t = V.t) (hS : U.seeds = V.seeds) :
    Calls Tryz.prog 207 #[.pointer (some ⟨p, 0, none⟩), .pointer (some ⟨q, 0, none⟩)] w fun e w' => e = .returned (.int .i64 0) ∧ Goes T i w (Sk p (V.merge U)) w' := by
  have hok := mergeOk_two h g hij ht hS
  have h0 : MSt T i j w p q V U 0 0 none w := ⟨T, fun _ _ => rfl, Else.refl _ _, by rw [SkV.mpart_zero]; exact h, g, fun u hu => by cases hu⟩
  have hV := h.good
  obtain ⟨sa, sc, cb, rows, g1⟩ := h
  obtain ⟨sb, sd, cd, rows', g2⟩ := g
  obtain ⟨c0, c1, c2⟩ := g1.cells
  obtain ⟨d0, d1, d2⟩ := g2.cells
  rw [ht] at d0
  rw [hS] at d1
  refine (merge_walk hok (S := V.seeds) rfl c0 c1 d0 d1 g1.seeds (hS ▸ g2.seeds) hV.set.t2 h0 (fun m W n hst => hst.drewN n)).mono ?_
  rintro e w' ⟨rfl, hst⟩
  obtain ⟨T1, n1, e1, h1, _, _⟩ := hst.out
  refine ⟨rfl, T1, n1, e1, ?_⟩
  rw [← hV.len, SkV.mpart_all] at h1
  exact h1

/-- a hash that is there changes nothing -/
theorem keep_same {m : Nat} (h : Sk p V T i w) (hm : m < V.L.length) {x : Nat} (hx : x ∈ V.L[m]) :
    Calls Tryz.prog 209 #[.pointer (some ⟨p, 0, none⟩), .int .i64 (m : Int), .int .u64 (x : Int)] w fun e w' => e = .returned (.tuple #[]) ∧ Below w.heap.size w w' := by
  obtain ⟨sa, sc, cb, rows, g⟩ := h
  obtain ⟨c0, c1, c2⟩ := g.cells
  obtain ⟨v, hv, c3, f3, hown, hgl⟩ := g.at_ hm
  have h64 := g.good.set.t64
  have hln := hgl.len
  obtain ⟨a, c, rfl, hac, hcm⟩ := ownsRow_form hown
  have KS : SearchOf w x V.L[m].length c a (cntL x V.L[m]) := keep_search hown hgl.up (by omega)
  obtain ⟨hk, e⟩ := (mem_iff_at hgl.up).1 hx
  have HR := Holds.of_row (by rw [nats_len]; exact hown)
  obtain ⟨ad, rfl⟩ := HR.ptr (by omega : 0 < V.L[m].length)
  have hcell := HR.cell (nats_at hk)
  rw [e] at hcell
  exact keep_there c0 c2 c3 hcell (lt_of_heap g.head) (lt_of_heap g.tab) (World.block_lt_of_cell? w _ hcell) hm hk (by omega) KS

theorem mergeOk_self (h : Sk p V T i w) :
    MergeOk p p V.seeds.length V.t V.L (fun _ W => Below w.heap.size w W) (fun m _ v W => Below w.heap.size w W ∧ Holds w v (nats (V.L.getD m []))) := by
  have hV := h.good
  refine ⟨hV.len, hV.set.n7, fun m W hm hst => ?_, fun m k v W hin => hin.2.below hin.1, fun m k v W hk hm hin => ?_, fun m v W hin => hin.1, fun m => ?_⟩
  · obtain ⟨sa, sc, cb, rows, g⟩ := h
    have hmL : m < V.L.length := by rw [hV.len]; exact hm
    obtain ⟨v, hv, c3, f3, hown, hgl⟩ := g.at_ hmL
    obtain ⟨c0, c1, c2⟩ := g.cells
    obtain ⟨a, c, rfl, _, _⟩ := ownsRow_form hown
    rw [hV.len] at c2
    refine ⟨cb, a, c, ?_, ?_, hst, ?_⟩
    · rw [hst.cell (p := ⟨p, 2, none⟩) (lt_of_heap g.head)]; exact c2
    · rw [getD_at hmL, hst.cell (p := ⟨cb, m, none⟩) (lt_of_heap g.tab)]; exact c3
    · rw [getD_at hmL]; exact Holds.of_row (by rw [nats_len]; exact hown)
  · have hmL : m < V.L.length := by rw [hV.len]; exact hm
    have hx : (V.L.getD m []).getD k 0 ∈ V.L[m] := by
      rw [getD_at hk]
      have h2 : ∀ z, z = V.L.getD m [] → (V.L.getD m [])[k] ∈ z := fun z hz => by subst hz; exact List.getElem_mem hk
      exact h2 _ (getD_at hmL []).symm
    refine (keep_same ((Sk.framed p V).below h hin.1) hmL hx).mono ?_
    rintro e w' ⟨rfl, hb⟩
    exact ⟨rfl, hin.1.trans (hb.mono hin.1.size), hin.2⟩
  · by_cases hm : m < V.L.length
    · have := (hV.row _ (List.getElem_mem hm)).len
      have := hV.set.t64
      rw [getD_at hm]
      omega
    · rw [List.getD_eq_getElem?_getD, List.getElem?_eq_none (by omega)]; simp
/-- with itself -/
theorem merge_self (h : Sk p V T i w) :
    Calls Tryz.prog 207 #[.pointer (some ⟨p, 0, none⟩), .pointer (some ⟨p, 0, none⟩)] w fun e w' => e = .returned (.int .i64 0) ∧ Below w.heap.size w w' := by
  have hok := mergeOk_self h
  have hV := h.good
  obtain ⟨sa, sc, cb, rows, g1⟩ := h
  obtain ⟨c0, c1, c2⟩ := g1.cells
  refine (merge_walk hok (S := V.seeds) rfl c0 c1 c0 c1 g1.seeds g1.seeds hV.set.t2 (Below.refl _ _) (fun m W n hst => below_dN hst n)).mono ?_
  rintro e w' ⟨rfl, hst⟩
  exact ⟨rfl, hst.out⟩
end
end Go.Proofs.YtlhpbfjelgmkeaaGreat
/- Contracts of kmv's calls of a sketch that no call made. Conditions: a nil or a zero sketch. -/
set_option maxRecDepth 100000
namespace Go.Proofs.YtlhpbfjelgmkeaaGreat
open Go.RowKit Go.Maps Go.Sort

/-- no call made it -/
def NoK (w : World) (x : Option Addr) : Prop := x = none ∨ ∃ b, x = some ⟨b, 0, none⟩ ∧ w.cell? ⟨b, 0, none⟩ = some (.int .i64 0)
theorem NoK.below {w w' : World} {x : Option Addr} (h : NoK w x) (hb : Below w.heap.size w w') : NoK w' x := by
  rcases h with rfl | ⟨b, rfl, hc⟩
  · exact .inl rfl
  · exact .inr ⟨b, rfl, by rw [hb.cell (World.block_lt_of_cell? w _ hc)]; exact hc⟩
def MadeNo (w : World) (x : Option Addr) : Prop := Calls Tryz.prog 111 #[.pointer x] w fun e w' => e = .returned (.bool false) ∧ w = w'
theorem made_no {w : World} {x : Option Addr} (h : NoK w x) : MadeNo w x := by
  rcases h with rfl | ⟨b, rfl, hc⟩
  · unfold MadeNo
    go_enter Tryz.func111, Tryz.ntmps111
    go_wp2_with fail
    go_ret
    exact ⟨rfl, rfl⟩
  · unfold MadeNo
    go_enter Tryz.func111, Tryz.ntmps111
    go_wp2_with fail
    go_ret
    exact ⟨rfl, rfl⟩

section
variable {w : World} {x : Option Addr} (h : NoK w x)
include h
theorem ins_no (n : Nat) : Calls Tryz.prog 208 #[.pointer x, .int .u64 (n : Int)] w fun e w' => e = .returned (.tuple #[]) ∧ w = w' := by
  have K := made_no h
  unfold MadeNo at K
  clear h
  go_enter Tryz.func208, Tryz.ntmps208
  go_wp2_with fail
  refine K.mono ?_
  rintro e w' ⟨rfl, rfl⟩
  clear K
  go_wp2_with fail
  refine bodyPost_ret (results_none rfl _ _ _) rfl ?_
  exact ⟨rfl, rfl⟩
theorem merge_no (y : Option Addr) : Calls Tryz.prog 207 #[.pointer x, .pointer y] w fun e w' => e = .returned (.int .i64 1) ∧ w = w' := by
  have K := made_no h
  unfold MadeNo at K
  clear h
  go_enter Tryz.func207, Tryz.ntmps207
  go_wp2_with fail
  refine K.mono ?_
  rintro e w' ⟨rfl, rfl⟩
  clear K
  go_wp2_with fail
  go_ret
  exact ⟨rfl, rfl⟩
theorem answers_no : Calls Tryz.prog 70 #[.pointer x] w fun e w' => e = .returned (.slice none 0 0) ∧ w = w' := by
  have K := made_no h
  unfold MadeNo at K
  clear h
  go_enter Tryz.func70, Tryz.ntmps70
  go_wp2_with fail
  refine K.mono ?_
  rintro e w' ⟨rfl, rfl⟩
  clear K
  go_wp2_with fail
  go_ret
  exact ⟨rfl, rfl⟩
theorem estimate_no : Calls Tryz.prog 42 #[.pointer x] w fun e w' => e = .returned (.int .i64 0) ∧ w = w' := by
  have K := answers_no h
  clear h
  go_enter Tryz.func42, Tryz.ntmps42
  go_wp2_with fail
  refine K.mono ?_
  rintro e w' ⟨rfl, rfl⟩
  clear K
  go_wp2_with fail
  go_ret
  exact ⟨rfl, rfl⟩
end
/-- of a made one with one that no call made -/
theorem merge_arg {T : Tags} {i : Nat} {w : World} {p : Nat} {V : SkV} (h : Sk p V T i w) {y : Option Addr} (g : NoK w y) :
    Calls Tryz.prog 207 #[.pointer (some ⟨p, 0, none⟩), .pointer y] w fun e w' => e = .returned (.int .i64 2) ∧ Below w.heap.size w w' := by
  obtain ⟨sa, sc, cb, rows, g1⟩ := h
  obtain ⟨c0, c1, c2⟩ := g1.cells
  have KP := made_yes c0 g1.good.set.t2
  have KN := Lib.hid (fun n => made_no (g.below (below_drewN w n)))
  unfold MadeNo at KN
  clear g1 g c1 c2
  go_enter Tryz.func207, Tryz.ntmps207
  go_wp2_with fail
  refine KP.mono ?_
  rintro e w' ⟨rfl, rfl⟩
  clear KP
  go_wp2_with fail
  go_quiet ((exact Calls.quiet_of_same ((KN.out _).mono fun _ _ ⟨h, hw⟩ => ⟨h, hw.symm⟩)))
  go_wp2_with fail
  go_ret
  exact ⟨rfl, below_drewN _ _⟩
end Go.Proofs.YtlhpbfjelgmkeaaGreat
/- Contract of talusref01.Words: are two lists of numbers alike. Conditions: small lists. -/
set_option maxRecDepth 100000
namespace Go.Proofs.YtlhpbfjelgmkeaaGreat
open Go.RowKit Go.Maps Go.Sort

theorem below_drew {w wr : World} {B : Nat} (h : Below B w wr) (n : Nat) : Below B w (wr.drewN n) := ⟨h.os, h.tape, h.output, h.size, h.block⟩

end Go.Proofs.YtlhpbfjelgmkeaaGreat
/- The calls of a sketch where several things stand side by side. Conditions: sketches that were made. -/
set_option maxRecDepth 100000
namespace Go.Proofs.YtlhpbfjelgmkeaaGreat
open Go.RowKit Go.Maps Go.Sort

section
variable {w0 w : World} {E : List (Nat × Thing)} {i j : Nat} {p q : Nat} {V U : SkV}

theorem side_new (h : Side w0 E w) (i : Nat) {sa : Option Addr} {n sc : Nat} {S : List (Nat × Nat)} (hs : SetAt w sa n sc S) (t : Nat) (k m : Int) (hg : goodB t S k m = true) :
    Calls Tryz.prog 62 #[setV t sa n sc k m] w fun e w' => ∃ p, e = .returned (.pointer (some ⟨p, 0, none⟩)) ∧ Hid (Side w0 ((i, Sk p (SkV.empty t S)) :: E) w') :=
  h.make i (fun p => Sk p (SkV.empty t S)) (fun p => Sk.framed p _) (R := fun p e => e = .returned (.pointer (some ⟨p, 0, none⟩))) fun T _ => new_any hs t k m hg T i
theorem side_ins (h : Side w0 ((i, Sk p V) :: E) w) (hi : ∀ e ∈ E, e.1 ≠ i) {x : Nat} (hx : x < 18446744073709551616) :
    Calls Tryz.prog 208 #[.pointer (some ⟨p, 0, none⟩), .int .u64 (x : Int)] w fun e w' => e = .returned (.tuple #[]) ∧ Hid (Side w0 ((i, Sk p (V.ins x)) :: E) w') :=
  (h.step hi (Sk.framed p (V.ins x)) (Pr := fun e => e = .returned (.tuple #[])) fun _ _ hA => (ins_any (hA _ (List.mem_cons_self ..)) hx).mono fun _ _ ⟨a, b⟩ => ⟨a, b.out⟩).mono fun _ _ ⟨a, b⟩ => ⟨a, b⟩
theorem side_est (h : Side w0 E w) (hx : (i, Sk p V) ∈ E) :
    Calls Tryz.prog 42 #[.pointer (some ⟨p, 0, none⟩)] w fun e w' => e = .returned (.int .i64 (midOf V.answers)) ∧ Below w.heap.size w w' :=
  h.read hx (Pr := fun e => e = .returned (.int .i64 (midOf V.answers))) fun _ hA => estimate_any hA
theorem side_thing (h : Side w0 E w) {A : Thing} (hx : (i, A) ∈ E) : ∃ T, A T i w := by
  obtain ⟨T, h⟩ := h
  exact ⟨T, (h.at_ _ hx).2⟩
theorem side_answers (h : Side w0 E w) (hx : (i, Sk p V) ∈ E) :
    Calls Tryz.prog 70 #[.pointer (some ⟨p, 0, none⟩)] w (AnsAt w V.answers) := by
  obtain ⟨T, hA⟩ := side_thing h hx
  exact answers_any hA
theorem side_merge (h : Side w0 ((i, Sk p V) :: E) w) (hi : ∀ e ∈ E, e.1 ≠ i) (hx : (j, Sk q U) ∈ E) (ht : U.t = V.t) (hS : U.seeds = V.seeds) :
    Calls Tryz.prog 207 #[.pointer (some ⟨p, 0, none⟩), .pointer (some ⟨q, 0, none⟩)] w fun e w' => e = .returned (.int .i64 0) ∧ Hid (Side w0 ((i, Sk p (V.merge U)) :: E) w') :=
  (h.step hi (Sk.framed p (V.merge U)) (Pr := fun e => e = .returned (.int .i64 0)) fun _ _ hA => merge_two (hA _ (List.mem_cons_self ..)) (hA _ (List.mem_cons_of_mem _ hx)) (fun e => hi _ hx e.symm) ht hS).mono fun _ _ ⟨a, b⟩ => ⟨a, b⟩
theorem side_merge_self (h : Side w0 E w) (hx : (i, Sk p V) ∈ E) :
    Calls Tryz.prog 207 #[.pointer (some ⟨p, 0, none⟩), .pointer (some ⟨p, 0, none⟩)] w fun e w' => e = .returned (.int .i64 0) ∧ Below w.heap.size w w' := by
  obtain ⟨T, hA⟩ := side_thing h hx
  exact merge_self hA
theorem side_merge_arg (h : Side w0 E w) (hx : (i, Sk p V) ∈ E) {y : Option Addr} (g : NoK w y) :
    Calls Tryz.prog 207 #[.pointer (some ⟨p, 0, none⟩), .pointer y] w fun e w' => e = .returned (.int .i64 2) ∧ Below w.heap.size w w' := by
  obtain ⟨T, hA⟩ := side_thing h hx
  exact merge_arg hA g
end

/-- the settings of the document's example -/
theorem set_one {w : World} {b : Nat} (h : w.heap[b]? = some (.cells #[.int .u64 1, .int .u64 0] 95 (0, 0))) : SetAt w (some ⟨b, 0, none⟩) 1 1 [(1, 0)] where
  len := rfl
  cap := ⟨Nat.le_refl _, by unfold maxLen; omega⟩
  lt := fun s hs => by simp at hs; subst hs; exact ⟨by decide, by decide⟩
  at_ := fun _ => ⟨_, rfl, fun j u hj => by
    rw [Addr.add_at, Nat.zero_add, cell_of_row _ _ _ _ _ _ h]
    simpa [flat] using hj⟩
theorem good_one : goodB ((2 : Nat) : Int) [(1, 0)] 1 1 = true := by decide

theorem midOf_one (n : Nat) : midOf [n] = n := by simp [midOf, sortI]
def VO : SkV := SkV.empty 2 [(1, 0)]
def V5 (k : Nat) : SkV := if k = 0 then VO else if k = 1 then VO.ins 5 else if k = 2 then (VO.ins 5).ins 5 else ((VO.ins 5).ins 5).ins 9
theorem V7_L : (VO.ins 7).L = [[7]] := by decide
theorem V5_L : (V5 3).L = [[5, 9]] := by decide
theorem V7_mid : midOf (VO.ins 7).answers = 1 := by
  unfold SkV.answers
  rw [V7_L]
  exact midOf_one 1
theorem V5_mid : midOf (V5 3).answers = 256204778801521550 := by
  unfold SkV.answers
  rw [V5_L]
  exact midOf_one 256204778801521550

end Go.Proofs.YtlhpbfjelgmkeaaGreat
