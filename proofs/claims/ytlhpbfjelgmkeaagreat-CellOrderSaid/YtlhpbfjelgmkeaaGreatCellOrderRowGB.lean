/- The texts VbRefGood DictFits WideA WideC, one behind the other; each one's own comment says what it holds. -/
import Derived.Test.YtlhpbfjelgmkeaaGreatOrderC
import Derived.Test.YtlhpbfjelgmkeaaGreatCellOrderRowGA
import Derived.Test.YtlhpbfjelgmkeaaGreatShelf
import Derived.Lib.SliceRun
import Derived.Test.YtlhpbfjelgmkeaaGreatOrs
import Derived.Outline
import Derived.Deep.RegionHeld3
import Derived.BigQuiet
/- Contract of the document's own Good of values. Conditions: none. -/
set_option maxRecDepth 100000
namespace Go.Proofs.YtlhpbfjelgmkeaaGreat
open Go.RowKit Go.Maps Go.Sort Go.Lib

theorem nil_list : (⟨#[]⟩ : ByteArray).toList = [] := by simp [Lib.toList_data]
end Go.Proofs.YtlhpbfjelgmkeaaGreat
/- Contracts of both Fits, of slices.Clone at values and of strings.Clone. Conditions: a column's kind; at most a million values. -/
set_option maxRecDepth 100000
namespace Go.Proofs.YtlhpbfjelgmkeaaGreat
open Go.RowKit Go.Maps Go.Sort Go.Lib

/-- may a column of a kind have it? -/
def fitsV (K : Int) (x : VV) : Bool := x.good && (x.k == 0 || x.k == K)
/-- does a dictionary take it? -/
def okV (K : Int) (x : VV) : Bool := !(x.k == 0) && fitsV K x
theorem fits_box {w w1 : World} {x y z : Value} {t : Nat} (hb : Below (w.alloc (.cells #[x, y, z] t)).heap.size (w.alloc (.cells #[x, y, z] t)) w1) : C3 w1 w.heap.size x y z ∧ Below w.heap.size w w1 := by
  have b1 := (Below.refl w.heap.size w).alloc (Nat.le_refl _) (.cells #[x, y, z] t)
  exact ⟨(C3.new w x y z t).keep hb (by simp), b1.trans (hb.mono (by simp))⟩
theorem fits_any {x : VV} (hx : x.inI) {K : Int} (h1 : 1 ≤ K) (h4 : K ≤ 4) (w : World) :
    Calls Tryz.prog 66 #[x.val, .int .i64 K] w fun e w' => e = .returned (.bool (fitsV K x)) ∧ Below w.heap.size w w' := by
  have KG := vgood_any x.k x.n x.s hx.1 hx.2
  have t1 : decide (K < 1) = false := decide_eq_false (by omega)
  have t4 : decide (4 < K) = false := decide_eq_false (by omega)
  have e0 : fitsV K x = (goodV x.k x.n x.s && (x.k == 0 || x.k == K)) := rfl
  rw [e0]
  clear e0 h1 h4 hx
  obtain ⟨k, n, s⟩ := x
  simp only at KG ⊢
  generalize goodV k n s = gd at *
  cases gd <;> cases b0 : (k == 0) <;> cases b1 : (k == K)
  all_goals (
    go_enter Tryz.func66, Tryz.ntmps66
    go_wp2_with fail
    refine (KG _).mono ?_
    rintro e w1 ⟨rfl, hb⟩
    obtain ⟨⟨c0, c1, c2⟩, hB⟩ := fits_box hb
    clear hb KG
    go_wp2_with fail
    go_ret
    exact ⟨rfl, hB⟩)
theorem strClone_any (s : ByteArray) (hs : s.size ≤ 1000000) (w : World) : Calls Tryz.prog 34 #[.string s] w fun e w' => e = .returned (.string s) ∧ Below w.heap.size w w' := by
  have KC := Tryz.stringslite_Clone s
  have hl : s.size ≤ 281474976710656 := by omega
  clear hs
  go_enter Tryz.func34, Tryz.ntmps34
  go_wp2_with fail
  refine (KC _ hl).mono ?_
  rintro e w1 ⟨rfl, hb⟩
  go_wp2_with fail
  go_ret
  exact ⟨rfl, hb⟩

/-- a row of values -/
def RowV (B : Nat) (v : Value) (L : List VV) (w : World) : Prop := w.ownsRow B 36 3 v L.length (flatC L)
theorem ownsRow_rebase3 {w : World} {A B : Nat} {e : TypeId} {size : Nat} {v : Value} {n : Nat} {xs : List Value} (h : w.ownsRow A e size v n xs) (hb : ∀ g, v.ownBlock = some g → B ≤ g) : w.ownsRow B e size v n xs := by
  refine ⟨h.1, ?_⟩
  rcases h.2 with h2 | ⟨g, cap, cur, rfl, _, r⟩
  · exact .inl h2
  · exact .inr ⟨g, cap, cur, rfl, hb g rfl, r⟩
theorem RowV.form {w : World} {B : Nat} {v : Value} {L : List VV} (h : RowV B v L w) : (v = .slice none 0 0 ∧ L = []) ∨ ∃ g c, v = .slice (some ⟨g, 0, none⟩) L.length c ∧ L.length ≤ c ∧ c ≤ maxLen ∧ B ≤ g ∧ g < w.heap.size := by
  rcases h.2 with ⟨e, e2⟩ | ⟨g, cap, cur, e, hB, hg, h1, h2, _⟩
  · exact .inl ⟨e, List.eq_nil_of_length_eq_zero e2⟩
  · exact .inr ⟨g, cap, e, h1, h2, hB, lt_of_heap hg⟩
theorem RowV.form2 {w : World} {B : Nat} {v : Value} {L : List VV} (h : RowV B v L w) : ∃ a c, v = .slice a L.length c ∧ L.length ≤ c ∧ c ≤ maxLen := by
  rcases h.form with ⟨e, e2⟩ | ⟨g, c, e, h1, h2, _⟩
  · exact ⟨none, 0, by rw [e, e2]; rfl, by rw [e2]; exact Nat.le_refl _, Nat.zero_le _⟩
  · exact ⟨_, c, e, h1, h2⟩
theorem RowV.holds {w : World} {B : Nat} {v : Value} {L : List VV} (h : RowV B v L w) : HoldsV w v L := holdsV_of_owns h
theorem RowV.of_block {w w' : World} {B : Nat} {v : Value} {L : List VV} (h : RowV B v L w) (hb : ∀ g, v.ownBlock = some g → w'.heap[g]? = w.heap[g]?) : RowV B v L w' := ownsRow_of_block h hb
theorem RowV.below {w w' : World} {B : Nat} {v : Value} {L : List VV} (h : RowV B v L w) (hb : Below w.heap.size w w') : RowV B v L w' := ownsRow_below h hb
theorem RowV.nil (B : Nat) (w : World) : RowV B (.slice none 0 0) [] w := by simpa [RowV, flatC] using World.ownsRow_nil w B 36 3
theorem RowV.lt {w : World} {B : Nat} {v : Value} {L : List VV} (h : RowV B v L w) : ∀ g, v.ownBlock = some g → g < w.heap.size := fun g hg => (World.ownsRow.lt h g hg).2
theorem RowV.kind {w : World} {B : Nat} {v : Value} {L : List VV} (h : RowV B v L w) : ∀ g, v.ownBlock = some g → ∃ cur, w.heap[g]? = some (.cells cur 36 (0, 0)) := fun g hg => by
  rcases h.2 with ⟨e, _⟩ | ⟨g', cap, cur, e, _, hh, _⟩
  · rw [e] at hg; simp [Value.ownBlock] at hg
  · rw [e] at hg
    have : g' = g := by simpa [Value.ownBlock] using hg
    subst this
    exact ⟨cur, hh⟩
theorem flatC_one (l : List VV) : ∀ u ∈ flatC l, u.oneCell' = true := fun u hu => by
  obtain ⟨s, _, hs⟩ := List.mem_flatMap.1 hu
  simp [encV] at hs
  rcases hs with rfl | rfl | rfl <;> rfl
theorem flatC_len (l : List VV) : (flatC l).length = l.length * 3 := by
  induction l with
  | nil => rfl
  | cons x r ih => simp [flatC, encV] at ih ⊢; omega
/-- append(make of nothing, a row ..): a row of its own -/
theorem copy_vals {W : World} {B : Nat} {v : Value} {L : List VV} (h : RowV B v L W) (hl : L.length ≤ 1000000) :
    ∃ g k w', (∀ ty, (Builtin.append_ #[22, 22] ty #[.slice (some ⟨W.heap.size, 0, none⟩) 0 0, v]).run Tryz.prog (W.alloc (.cells #[] 36)) = .ok (.slice (some ⟨g, 0, none⟩) L.length k) w') ∧
      RowV W.heap.size (.slice (some ⟨g, 0, none⟩) L.length k) L w' ∧ Below W.heap.size W w' := by
  obtain ⟨i, hi, hz0, hz1, hz2⟩ := info_parts info_value
  have hb1 := (Below.refl W.heap.size W).alloc (Nat.le_refl _) (.cells #[] 36)
  have hr1 := World.ownsRow_made W (base := W.heap.size) (e := 36) (size := 3) #[] 0 (Nat.le_refl _) (by unfold maxLen; omega) (by simp)
  have hs := h.below hb1
  rcases hs.form with ⟨rfl, rfl⟩ | ⟨g, c, rfl, hc, _, _, _⟩
  · refine ⟨W.heap.size, 0, _, fun ty => append_nilsrc _ _ ty _ i Tryz.underlying22 hi _ 0 0 0 (Nat.le_refl _), ?_, hb1⟩
    simpa [RowV, flatC] using hr1
  · obtain ⟨v', w', hr, h2, h3, h4⟩ := run_append_own (P := Tryz.prog) (w := W.alloc (.cells #[] 36)) W.heap.size 22 0 36 i (.agg #[.int .i64 0, .int .i64 0, .string ⟨#[]⟩]) 3 32 Tryz.underlying22 hi hz0 hz1 hz2 rfl (by omega) _ 0 [] hr1
      ⟨g, 0, none⟩ L.length c (flatC L) (flatC_len L) (World.ownsRow.cells hs (g := g) rfl) (flatC_one L) (by unfold maxLen; omega) (by omega) hb1.size
    rw [Nat.zero_add, List.nil_append] at h2
    have h5 : RowV W.heap.size v' L w' := h2
    have hgr : Below W.heap.size W w' := hb1.grown h3 hb1.size (fun k e => by simp [Value.ownBlock] at e; omega)
    rcases h5.form with ⟨e, _⟩ | ⟨g', k, e, _⟩
    · exact absurd (h4.1 e).1 (by simp)
    · subst e
      exact ⟨g', k, w', fun ty => hr, h5, hgr⟩
/-- a copy of values -/
def ClonedV (w : World) (L : List VV) (e : Ending) (w' : World) : Prop := ∃ v, e = .returned v ∧ RowV w.heap.size v L w' ∧ Below w.heap.size w w'
set_option maxHeartbeats 800000 in
theorem clone_vals {w : World} {B : Nat} {v : Value} {L : List VV} (h : RowV B v L w) (hl : L.length ≤ 1000000) :
    Calls Tryz.prog 131 #[v] w (ClonedV w L) := by
  rcases h.form with ⟨rfl, rfl⟩ | ⟨g, c, rfl, _⟩
  · have HP : Hid (ClonedV w [] (.returned (.slice none 0 0)) w) := Lib.hid ⟨_, rfl, RowV.nil _ _, Below.refl _ _⟩
    have hnil := fun W => Lib.run_eql_slice_nil (P := Tryz.prog) W 22 36 none 0 0 0 0 Tryz.underlying22
    clear h hl
    go_enter Tryz.func131, Tryz.ntmps131
    go_wp2_with fail
    go_ret
    exact HP.out
  · obtain ⟨g2, k, w2, r, o, b⟩ := copy_vals h hl
    have R := Lib.hid r
    have HP : Hid (ClonedV w L (.returned (.slice (some ⟨g2, 0, none⟩) L.length k)) w2) := Lib.hid ⟨_, rfl, o, b⟩
    have hnil := fun W => Lib.run_eql_slice_nil (P := Tryz.prog) W 22 36 (some ⟨g, 0, none⟩) L.length c 0 0 Tryz.underlying22
    clear h r o b hl
    go_enter Tryz.func131, Tryz.ntmps131
    go_wp2_with (at_builtin; refine wpList_append_run rfl _ _ 22 rfl rfl rfl (R.out _) ?_)
    go_ret
    exact HP.out
end Go.Proofs.YtlhpbfjelgmkeaaGreat
/- Numbers of 128 bits as two words; contracts of below, Of, least, turned, on both sides. Conditions: none. -/
set_option maxRecDepth 100000
namespace Go.Proofs.YtlhpbfjelgmkeaaGreat.Wide
open Go.RowKit

def hiW (N : Int) : Int := N / 18446744073709551616
def loW (N : Int) : Int := N % 18446744073709551616
theorem w_split (N : Int) : hiW N * 18446744073709551616 + loW N = N ∧ 0 ≤ loW N ∧ loW N < 18446744073709551616 := by
  unfold hiW loW; omega
theorem w_of {N h l : Int} (e : h * 18446744073709551616 + l = N) (h0 : 0 ≤ l) (h1 : l < 18446744073709551616) : hiW N = h ∧ loW N = l := by
  unfold hiW loW; omega
abbrev wv (N : Int) : Value := .agg #[.int .i64 (hiW N), .int .u64 (loW N)]
abbrev sv (N : Int) : Value := .agg #[.int .u64 (hiW N), .int .u64 (loW N)]
def fitW (N : Int) : Bool := decide (-170141183460469231731687303715884105728 ≤ N ∧ N < 170141183460469231731687303715884105728)
def ansW (N : Int) : Int := if fitW N then N else 0
theorem fit_iff {N : Int} : fitW N = true ↔ -170141183460469231731687303715884105728 ≤ N ∧ N < 170141183460469231731687303715884105728 := by unfold fitW; exact decide_eq_true_iff
theorem fit_not {N : Int} : fitW N = false ↔ N < -170141183460469231731687303715884105728 ∨ 170141183460469231731687303715884105728 ≤ N := by unfold fitW; rw [decide_eq_false_iff_not]; omega
theorem fit_hi {N : Int} (h : fitW N = true) : -9223372036854775808 ≤ hiW N ∧ hiW N < 9223372036854775808 := by
  have := fit_iff.1 h; unfold hiW; omega
theorem fit_of {h l N : Int} (e : h * 18446744073709551616 + l = N) (h0 : 0 ≤ l) (h1 : l < 18446744073709551616) (h2 : -9223372036854775808 ≤ h) (h3 : h < 9223372036854775808) : fitW N = true := fit_iff.2 (by omega)

theorem below_any (h l : Int) (w : World) : Calls Tryz.prog 200 #[.agg #[.int .i64 h, .int .u64 l]] w fun e w' => e = .returned (.bool (decide (h < 0))) ∧ Below w.heap.size w w' := by
  go_enter Tryz.func200, Tryz.ntmps200
  go_wp2_with fail
  go_ret
  exact ⟨rfl, (Below.refl _ _).alloc (Nat.le_refl _) _⟩
theorem of_any (n : Int) (w : World) (h0 : -9223372036854775808 ≤ n) (h1 : n < 9223372036854775808) : Calls Tryz.prog 35 #[.int .i64 n] w fun e w' => e = .returned (wv n) ∧ Below w.heap.size w w' := by
  go_enter Tryz.func35, Tryz.ntmps35
  go_wp2_with fail
  refine bodyPost_ret (v := wv n) ?_ rfl ⟨rfl, (Below.refl _ _).alloc (Nat.le_refl _) _⟩
  simp [results, Tryz.results35, go_sem, hiW, loW, IntKind.wrap_u64]
  omega
theorem not_int (x : Int) (h0 : 0 ≤ x) (h1 : x < 18446744073709551616) : bits .xor .u64 IntKind.u64.max x = 18446744073709551615 - x := by
  obtain ⟨n, rfl⟩ := Int.eq_ofNat_of_zero_le h0
  exact not_u64 n (by omega)
theorem two_new (w : World) (o o' : Obj) : Below w.heap.size w ((w.alloc o).alloc o') := ((Below.refl _ _).alloc (Nat.le_refl _) _).alloc (by simp) _
end Go.Proofs.YtlhpbfjelgmkeaaGreat.Wide
/- What sums and differences of two words say, and Add on the reference's side. Conditions: none. -/
set_option maxRecDepth 100000
namespace Go.Proofs.YtlhpbfjelgmkeaaGreat.Wide
open Go.RowKit

theorem add_math {h l h' l' u u' S C T D G N : Int} (h0 : -9223372036854775808 ≤ h) (h1 : h < 9223372036854775808) (k0 : -9223372036854775808 ≤ h') (k1 : h' < 9223372036854775808)
    (hU : h % 18446744073709551616 = u) (hU' : h' % 18446744073709551616 = u') (e1 : l + l' = C * 18446744073709551616 + S) (s0 : 0 ≤ S) (s1 : S < 18446744073709551616) (hc : C = 0 ∨ C = 1)
    (e2 : u + u' + C = D * 18446744073709551616 + T) (t0 : 0 ≤ T) (t1 : T < 18446744073709551616) (hG : (T + 9223372036854775808) % 18446744073709551616 - 9223372036854775808 = G)
    (hN : N = h * 18446744073709551616 + l + (h' * 18446744073709551616 + l')) :
    ((h < 0 ↔ h' < 0) ∧ ¬(G < 0 ↔ h < 0) → fitW N = false) ∧ (¬((h < 0 ↔ h' < 0) ∧ ¬(G < 0 ↔ h < 0)) → fitW N = true ∧ hiW N = G ∧ loW N = S) := by
  constructor
  · intro hx
    rw [fit_not]
    omega
  · intro hx
    have e : G * 18446744073709551616 + S = N := by omega
    have hg0 : -9223372036854775808 ≤ G := by omega
    have hg1 : G < 9223372036854775808 := by omega
    exact ⟨fit_of e s0 s1 hg0 hg1, w_of e s0 s1⟩
theorem sub_math {h l h' l' u u' S C T D G N : Int} (h0 : -9223372036854775808 ≤ h) (h1 : h < 9223372036854775808) (k0 : -9223372036854775808 ≤ h') (k1 : h' < 9223372036854775808)
    (hU : h % 18446744073709551616 = u) (hU' : h' % 18446744073709551616 = u') (e1 : l - l' = S - C * 18446744073709551616) (s0 : 0 ≤ S) (s1 : S < 18446744073709551616) (hc : C = 0 ∨ C = 1)
    (e2 : u - u' - C = T - D * 18446744073709551616) (t0 : 0 ≤ T) (t1 : T < 18446744073709551616) (hG : (T + 9223372036854775808) % 18446744073709551616 - 9223372036854775808 = G)
    (hN : N = h * 18446744073709551616 + l - (h' * 18446744073709551616 + l')) :
    (¬(h < 0 ↔ h' < 0) ∧ ¬(G < 0 ↔ h < 0) → fitW N = false) ∧ (¬(¬(h < 0 ↔ h' < 0) ∧ ¬(G < 0 ↔ h < 0)) → fitW N = true ∧ hiW N = G ∧ loW N = S) := by
  constructor
  · intro hx
    rw [fit_not]
    omega
  · intro hx
    have e : G * 18446744073709551616 + S = N := by omega
    have hg0 : -9223372036854775808 ≤ G := by omega
    have hg1 : G < 9223372036854775808 := by omega
    exact ⟨fit_of e s0 s1 hg0 hg1, w_of e s0 s1⟩
theorem tuple_yes {N g s : Int} (h : fitW N = true ∧ hiW N = g ∧ loW N = s) : Value.tuple #[.agg #[.int .i64 g, .int .u64 s], .bool true] = .tuple #[wv (ansW N), .bool (fitW N)] := by
  unfold ansW; rw [h.1, if_pos rfl]; unfold wv; rw [h.2.1, h.2.2]
theorem tuple_no {N : Int} (h : fitW N = false) : Value.tuple #[.agg #[.int .i64 0, .int .u64 0], .bool false] = .tuple #[wv (ansW N), .bool (fitW N)] := by
  unfold ansW; rw [h, if_neg (by decide)]; rfl

theorem three_new (w : World) (o o' o'' : Obj) : Below w.heap.size w (((w.alloc o).alloc o').alloc o'') := (((Below.refl _ _).alloc (Nat.le_refl _) _).alloc (by simp) _).alloc (by simp; omega) _
theorem iff_of_dec {p q : Prop} [Decidable p] [Decidable q] : (decide p == decide q) = true ↔ (p ↔ q) := by
  rw [beq_iff_eq, decide_eq_decide]
end Go.Proofs.YtlhpbfjelgmkeaaGreat.Wide
