/- Contract of slices.Insert at one uint64: a row of one's own with a number more. Conditions: at most 100000 numbers. -/
import Derived.Test.YtlhpbfjelgmkeaaGreatKmvSearch
import Derived.Lib.AppendZerosOnto
import Derived.Lib.Overlaps
import Derived.Laws.Externs
import Derived.Laws.CopyOwn
import Derived.Laws.NewBlocks
import Derived.OwnWalk
import Derived.Deep.RegionLaw
set_option maxRecDepth 100000
namespace Go.Proofs.YtlhpbfjelgmkeaaGreat
open Go.RowKit Go.Maps Go.Sort
attribute [local go_sem] Oper.semAt_some

theorem infoU64 : (Tryz.prog.info? 43).map (fun i => (i.zero, i.size, i.bytes)) = some (some (.int .u64 0), 1, 8) := by kernel_rfl
theorem sizeU64 : (Tryz.prog.info? 43).map (·.size) = some 1 := by kernel_rfl
theorem nats_append (a b : List Nat) : nats (a ++ b) = nats a ++ nats b := by simp [nats]
theorem nats_take (l : List Nat) (k : Nat) : nats (l.take k) = (nats l).take k := by simp [nats]
theorem nats_drop (l : List Nat) (k : Nat) : nats (l.drop k) = (nats l).drop k := by simp [nats]

/-- a row whose cells from k on are overwritten -/
theorem copy_row {w : World} {g k : Nat} {cur : Array Value} (hg : w.heap[g]? = some (.cells cur 43 (0, 0))) {xs : List Value} {src : Addr} (hsrc : ∀ j u, xs[j]? = some u → w.cell? (src.add j) = some u) (h1 : ∀ u ∈ xs, u.oneCell' = true) (hk : k + xs.length ≤ cur.size)
    (dl dc sl sc : Nat) (hmin : xs.length = Nat.min sl dl) :
    ∃ w', (∀ ty, (Builtin.copy_ #[208, 208] ty #[.slice (some ⟨g, k, none⟩) dl dc, .slice (some src) sl sc]).run Tryz.prog w = .ok (.int .i64 (xs.length : Int)) w') ∧
      w'.heap[g]? = some (.cells (cur.toList.take k ++ xs ++ cur.toList.drop (k + xs.length)).toArray 43 (0, 0)) ∧ w.grownBy w' (some g) := by
  have hrun := fun ty => run_copy_row (P := Tryz.prog) w 208 208 ty 43 g k dl dc src sl sc cur 43 xs Tryz.underlying208 sizeU64 hg hmin hsrc hk h1
  exact ⟨_, hrun, setRow_heap w g _ _ _ _ hg, ⟨rfl, rfl, rfl, by simp [World.setRow], fun k hk hn => setRow_other w g k _ (fun e => hn (by rw [e]))⟩⟩

/-- what becomes of a row that takes a number -/
def InsPost (B : Nat) (w : World) (v : Value) (xs : List Nat) (e : Ending) (w' : World) : Prop :=
  ∃ v', e = .returned v' ∧ w'.ownsRow B 43 1 v' xs.length (nats xs) ∧ w.grownBy w' v.ownBlock ∧ (v'.ownBlock = v.ownBlock ∨ v'.ownBlock = some w.heap.size)

set_option maxHeartbeats 1600000 in
/-- at the end -/
theorem insert_end {w : World} {B : Nat} {v : Value} {l : List Nat} {h g : Nat} (hown : w.ownsRow B 43 1 v l.length (nats l)) (hB : B ≤ w.heap.size) (hg : w.heap[g]? = some (.cells #[.int .u64 (h : Int)] 43 (0, 0))) (hl : l.length ≤ 100000) :
    Calls Tryz.prog 213 #[v, .int .i64 (l.length : Int), .slice (some ⟨g, 0, none⟩) 1 1] w (InsPost B w v (l ++ [h])) := by
  obtain ⟨v', w', hrun, ho, hgr, hat⟩ := app_any (P := Tryz.prog) Tryz.underlying208 infoU64 (by omega) rfl (by rw [nats_len]; exact hown) hB (Holds.of_heap hg (l := nats [h]) rfl 1 1 rfl (Nat.le_refl _)) (nats_one _) (by simp [nats]; omega)
  have HR := Lib.hid hrun
  have HP : Hid (InsPost B w v (l ++ [h]) (.returned v') w') := Lib.hid ⟨v', rfl, by rw [← nats_append, nats_len] at ho; exact ho, hgr, hat⟩
  obtain ⟨a, c, rfl, hc, hm⟩ := ownsRow_form hown
  unfold maxLen at hm
  clear hrun ho hgr hat hown hB hg
  generalize l.length = n at *
  by_cases hcn : c = n
  · subst hcn
    go_enter Tryz.func213, Tryz.ntmps213
    go_wp2_with (at_builtin; refine wpList_append_run rfl _ _ 208 rfl rfl rfl (HR.out _) ?_)
    go_ret
    exact HP.out
  go_enter Tryz.func213, Tryz.ntmps213
  go_wp2_with (at_builtin; refine wpList_append_run rfl _ _ 208 rfl rfl rfl (HR.out _) ?_)
  go_ret
  exact HP.out

theorem append_zeros {w : World} {g i c k : Nat} {l : List Nat} (hg : ∀ j u, (nats l)[j]? = some u → w.cell? ⟨g, j, none⟩ = some u) (hl : l.length = i) (hk : 0 < k) (hic : c < i + k) (hb : i + k ≤ 200000) :
    ∃ G w', (∀ ty, (Builtin.append_ #[208, 3] ty #[.slice (some ⟨g, 0, none⟩) i c, .int .i64 (k : Int)]).run Tryz.prog w = .ok (.slice (some ⟨w.heap.size, 0, none⟩) (i + k) G) w') ∧ i + k ≤ G ∧ G ≤ maxLen ∧
      (∃ cur : Array Value, w'.heap[w.heap.size]? = some (.cells cur 43 (0, 0)) ∧ cur.size = G ∧ cur.toList.take i = nats l) ∧ Below w.heap.size w w' := by
  obtain ⟨i0, hi0, hz0, hzs, hzb⟩ := info_parts infoU64
  have hold : (Builtin.firstCells i0.size i (.slice (some ⟨g, 0, none⟩) i c)).run Tryz.prog w.drew = .ok (nats l).toArray w.drew := by
    rw [hzs]
    exact run_firstCells_some w.drew 1 i ⟨g, 0, none⟩ i c (nats l) (by rw [nats_len]; omega) (fun j u hj => by rw [Addr.add_at, Nat.zero_add]; exact hg j u hj)
  have hr := fun ty => Lib.run_append_grow_zeros w 208 3 ty 43 i0 _ .i64 .i64 Tryz.underlying208 Tryz.underlying3 hi0 hz0 (some ⟨g, 0, none⟩) i c (nats l) hold k hk (by omega) hic (by omega) (by rw [hzb]; omega) (by rw [hzb]; exact growslice_fits hic (by omega))
  refine ⟨_, _, hr, grownCap_ge _ _ _ _, grownCap_le_maxLen _ _ _ _ (by unfold maxLen; omega), ⟨_, heap_alloc_new w.drew _, ?_, ?_⟩, ((Below.refl _ _).drew.alloc (Nat.le_refl _) _)⟩
  · have := grownCap_ge w (i + k) c 43
    simp [Builtin.zeroCells, Value.cells, nats_len]
    omega
  · simp only [Array.toList_append, List.append_assoc]
    rw [← hl, ← nats_len l]
    exact List.take_left

theorem splice2_len (i c G : Nat) (l : List Nat) (cur : Array Value) (h : Nat) (hn : l.length = c) (hcs : cur.size = G) (hi : i < c) (hG : c + 1 ≤ G) :
    ((cur.toList.take i ++ nats [h] ++ cur.toList.drop (i + (nats [h]).length)).toArray.toList.take (i + 1) ++ nats (l.drop i) ++ (cur.toList.take i ++ nats [h] ++ cur.toList.drop (i + (nats [h]).length)).toArray.toList.drop (i + 1 + (nats (l.drop i)).length)).toArray.size = G * 1 := by
  have e1 : cur.toList.length = G := by simpa using hcs
  simp only [List.size_toArray, List.length_append, List.length_take, List.length_drop, nats_len, List.length_cons, List.length_nil, e1, hn]
  omega
theorem splice2_take (i c : Nat) (l : List Nat) (cur : Array Value) (h : Nat) (hn : l.length = c) (hct : cur.toList.take i = nats (l.take i)) (hi : i < c) :
    ((cur.toList.take i ++ nats [h] ++ cur.toList.drop (i + (nats [h]).length)).toArray.toList.take (i + 1) ++ nats (l.drop i) ++ (cur.toList.take i ++ nats [h] ++ cur.toList.drop (i + (nats [h]).length)).toArray.toList.drop (i + 1 + (nats (l.drop i)).length)).toArray.toList.take ((c + 1) * 1) = nats (l.take i ++ h :: l.drop i) := by
  have e1 : (nats (l.take i) ++ nats [h]).length = i + 1 := by simp [nats]; omega
  have e2 : (nats (l.take i) ++ nats [h] ++ nats (l.drop i)).length = c + 1 := by simp [nats]; omega
  rw [hct, List.toList_toArray, List.toList_toArray, List.take_left' e1, Nat.mul_one, List.take_left' e2, ← nats_append, ← nats_append]
  congr 1
  simp

set_option maxHeartbeats 3200000 in
/-- within, no room -/
theorem insert_grow {w : World} {B : Nat} {ad : Addr} {l : List Nat} {h g i n c : Nat} (hown : w.ownsRow B 43 1 (.slice (some ad) n c) n (nats l)) (hB : B ≤ w.heap.size) (hg : w.heap[g]? = some (.cells #[.int .u64 (h : Int)] 43 (0, 0))) (hn : l.length = n) (hl : n ≤ 100000) (hi : i < n) (hc : c < n + 1) :
    Calls Tryz.prog 213 #[.slice (some ad) n c, .int .i64 (i : Int), .slice (some ⟨g, 0, none⟩) 1 1] w (InsPost B w (.slice (some ad) n c) (l.take i ++ h :: l.drop i)) := by
  have hcell := hown.cells (g := ad.block) rfl
  have hcn : n ≤ c := by obtain ⟨a, c', e, h1, _⟩ := ownsRow_form hown; cases e; exact h1
  obtain rfl : c = n := by omega
  have had : ad = ⟨ad.block, 0, none⟩ := by
    rcases hown.2 with ⟨e, _⟩ | ⟨b, _, _, e, _⟩
    · cases e
    · cases e; rfl
  rw [had] at hcell hown ⊢
  generalize ad.block = b at *
  have hcell' : ∀ j u, (nats l)[j]? = some u → w.cell? ⟨b, j, none⟩ = some u := fun j u hj => by have := hcell j u hj; rwa [Addr.add_at, Nat.zero_add] at this
  have hbl : b < w.heap.size := (hown.lt b rfl).2
  have hgl : g < w.heap.size := lt_of_heap hg
  obtain ⟨G, w1, hr1, hG1, hG2, ⟨cur, hN, hcs, hct⟩, hb1⟩ := append_zeros (w := w) (g := b) (i := i) (c := c) (k := c + 1 - i) (l := l.take i) (fun j u hj => hcell' j u (by rw [nats_take, List.getElem?_take] at hj; split at hj; exact hj; cases hj)) (by simp; omega) (by omega) (by omega) (by omega)
  rw [show i + (c + 1 - i) = c + 1 by omega] at hr1 hG1
  rw [show (((c + 1 - i : Nat)) : Int) = (c : Int) + 1 - (i : Int) by omega] at hr1
  have hg1 : w1.heap[g]? = some (.cells #[.int .u64 (h : Int)] 43 (0, 0)) := (hb1.block g hgl).trans hg
  obtain ⟨w2, hr2, hN2, hb2⟩ := copy_row (k := i) hN (xs := nats [h]) (src := ⟨g, 0, none⟩) (fun j u hj => by
    rw [Addr.add_at, Nat.zero_add, cell_of_row _ _ _ _ _ _ hg1]
    simpa [nats] using hj) (nats_one _) (by simp [nats]; omega) (c + 1 - i) (G - i) 1 1 (by show 1 = min 1 (c + 1 - i); omega)
  have hc2 : ∀ j u, (nats l)[j]? = some u → w2.cell? ⟨b, j, none⟩ = some u := fun j u hj => by
    rw [World.cell?_of_block (hb2.block b (by have := hb1.size; show b < w1.heap.size; omega) (fun e => by cases e; omega)), World.cell?_of_block (hb1.block b hbl)]
    exact hcell' j u hj
  have hld : (nats (l.drop i)).length = c - i := by rw [nats_len, List.length_drop, hn]
  obtain ⟨w3, hr3, hN3, hb3⟩ := copy_row (w := w2.drew) (k := i + 1) hN2 (xs := nats (l.drop i)) (src := ⟨b, i, none⟩) (fun j u hj => by
    rw [Addr.add_at]
    exact hc2 (i + j) u (by rw [nats_drop, List.getElem?_drop] at hj; exact hj)) (nats_one _) (by rw [hld]; simp [nats]; omega) (c + 1 - (i + 1)) (G - (i + 1)) (c - i) (c - i) (by rw [hld]; show c - i = min (c - i) (c + 1 - (i + 1)); omega)
  rw [hld, show c + 1 - (i + 1) = c - i by omega] at hr3
  have HP : Hid (InsPost B w (.slice (some ⟨b, 0, none⟩) c c) (l.take i ++ h :: l.drop i) (.returned (.slice (some ⟨w.heap.size, 0, none⟩) (c + 1) G)) w3) := by
    have hlen : (l.take i ++ h :: l.drop i).length = c + 1 := by simp; omega
    have hb13 : Below w.heap.size w w3 := (((hb1.trans (below_grown (B := w.heap.size) hb2 hb1.size (fun k e => by cases e; omega))).drew).trans (below_grown (B := w.heap.size) hb3 (Nat.le_trans hb1.size hb2.size) (fun k e => by cases e; omega)))
    refine Lib.hid ⟨_, rfl, ?_, ⟨hb13.os, hb13.tape, hb13.output, hb13.size, fun k hk _ => hb13.block k hk⟩, .inr rfl⟩
    rw [hlen]
    exact ⟨by rw [nats_len, hlen]; omega, .inr ⟨w.heap.size, G, _, rfl, hB, hN3, hG1, hG2, splice2_len i c G l cur h hn hcs hi hG1, splice2_take i c l cur h hn hct hi⟩⟩
  clear hN hN2 hN3 hcell hcell' hown hb1 hb2 hb3 hct hcs hc2 hg1 hg hB
  have e1 : (i : Int) ≤ (c : Int) := by omega
  have e2 : ¬ (c = i) := by omega
  have e3 : ¬ (G = i) := by omega
  have e4 : ¬ (G = i + 1) := by omega
  have e5 : ((i : Int) + 1).toNat = i + 1 := by omega
  unfold maxLen at hG2
  have t1 : ((i : Int) == (c : Int)) = false := by rw [beq_eq_false_iff_ne]; omega
  clear hn hld hbl hgl
  go_enter Tryz.func213, Tryz.ntmps213
  go_wp2_with (at_builtin; refine Lib.wpList_append_run _ rfl _ _ _ _ rfl _ _ rfl rfl _ _ (hr1 _) ?_)
  go_region
  go_wp2_with fail
  go_ret
  exact HP.out

theorem splice3_len (i n c : Nat) (l : List Nat) (cur : Array Value) (h : Nat) (hn : l.length = n) (hcs : cur.size = c) (hi : i < n) (hc : n + 1 ≤ c) :
    ((cur.toList.take (i + 1) ++ nats (l.drop i) ++ cur.toList.drop (i + 1 + (nats (l.drop i)).length)).toArray.toList.take i ++ nats [h] ++ (cur.toList.take (i + 1) ++ nats (l.drop i) ++ cur.toList.drop (i + 1 + (nats (l.drop i)).length)).toArray.toList.drop (i + (nats [h]).length)).toArray.size = c * 1 := by
  have e1 : cur.toList.length = c := by simpa using hcs
  simp only [List.size_toArray, List.length_append, List.length_take, List.length_drop, nats_len, List.length_cons, List.length_nil, e1, hn]
  omega
theorem splice3_take (i n : Nat) (l : List Nat) (cur : Array Value) (h : Nat) (hn : l.length = n) (hct : cur.toList.take n = nats l) (hi : i < n) :
    ((cur.toList.take (i + 1) ++ nats (l.drop i) ++ cur.toList.drop (i + 1 + (nats (l.drop i)).length)).toArray.toList.take i ++ nats [h] ++ (cur.toList.take (i + 1) ++ nats (l.drop i) ++ cur.toList.drop (i + 1 + (nats (l.drop i)).length)).toArray.toList.drop (i + (nats [h]).length)).toArray.toList.take ((n + 1) * 1) = nats (l.take i ++ h :: l.drop i) := by
  have hcl : n ≤ cur.toList.length := by
    have := congrArg List.length hct
    rw [List.length_take, nats_len, hn] at this; omega
  have e0 : (cur.toList.take (i + 1)).length = i + 1 := by rw [List.length_take]; omega
  have e3 : cur.toList.take i = nats (l.take i) := by
    rw [nats_take, ← hct, List.take_take, Nat.min_eq_left (by omega)]
  have e4 : (cur.toList.take (i + 1) ++ nats (l.drop i) ++ cur.toList.drop (i + 1 + (nats (l.drop i)).length)).take i = nats (l.take i) := by
    rw [List.append_assoc, List.take_append_of_le_length (by omega), List.take_take, Nat.min_eq_left (by omega), e3]
  have e5 : (cur.toList.take (i + 1) ++ nats (l.drop i) ++ cur.toList.drop (i + 1 + (nats (l.drop i)).length)).drop (i + 1) = nats (l.drop i) ++ cur.toList.drop (i + 1 + (nats (l.drop i)).length) := by
    rw [List.append_assoc, List.drop_left' e0]
  have e6 : (nats (l.take i) ++ nats [h] ++ nats (l.drop i)).length = n + 1 := by simp [nats]; omega
  rw [List.toList_toArray, List.toList_toArray, e4, nats_len [h], List.length_singleton, e5, Nat.mul_one, ← List.append_assoc, List.take_left' e6, ← nats_append, ← nats_append]
  congr 1
  simp

set_option maxHeartbeats 3200000 in
/-- within, with room: in place -/
theorem insert_room {w : World} {B : Nat} {ad : Addr} {l : List Nat} {h g i n c : Nat} (hown : w.ownsRow B 43 1 (.slice (some ad) n c) n (nats l)) (hg : w.heap[g]? = some (.cells #[.int .u64 (h : Int)] 43 (0, 0))) (hne : g ≠ ad.block) (hn : l.length = n) (hl : n ≤ 100000) (hi : i < n) (hc : n + 1 ≤ c) :
    Calls Tryz.prog 213 #[.slice (some ad) n c, .int .i64 (i : Int), .slice (some ⟨g, 0, none⟩) 1 1] w (InsPost B w (.slice (some ad) n c) (l.take i ++ h :: l.drop i)) := by
  have hown' := hown
  obtain ⟨hxs, e | ⟨b, c', cur, e, hBb, hb, _, hcm, hcs, hct⟩⟩ := hown
  · simp at e
  cases e
  clear hown'
  rw [Nat.mul_one] at hcs hct
  have hbl : b < w.heap.size := lt_of_heap hb
  have hld : (nats (l.drop i)).length = n - i := by rw [nats_len, List.length_drop, hn]
  obtain ⟨w1, hr1, hb1, hk1⟩ := copy_row (w := w.drew) (k := i + 1) hb (xs := nats (l.drop i)) (src := ⟨b, i, none⟩) (fun j u hj => by
    rw [Addr.add_at]
    show World.cell? w _ = _
    rw [cell_of_row _ _ _ _ _ _ hb, ← Array.getElem?_toList]
    rw [nats_drop, List.getElem?_drop, ← hct, List.getElem?_take] at hj
    split at hj
    · exact hj
    · cases hj) (nats_one _) (by rw [hld]; omega) (n - i) (c - (i + 1)) (n + 1 - i) (c - i) (by rw [hld]; show n - i = min (n + 1 - i) (n - i); omega)
  rw [hld] at hr1
  have hg1 : w1.heap[g]? = some (.cells #[.int .u64 (h : Int)] 43 (0, 0)) := (hk1.block g (lt_of_heap hg) (fun e => hne (Option.some.inj e))).trans hg
  obtain ⟨w2, hr2, hb2, hk2⟩ := copy_row (k := i) hb1 (xs := nats [h]) (src := ⟨g, 0, none⟩) (fun j u hj => by
    rw [Addr.add_at, Nat.zero_add, cell_of_row _ _ _ _ _ _ hg1]
    simpa [nats] using hj) (nats_one _) (by
      have e1 : cur.toList.length = c := by simpa using hcs
      simp only [List.size_toArray, List.length_append, List.length_take, List.length_drop, nats_len, List.length_cons, List.length_nil, e1, hn]
      omega) (n + 1 - i) (c - i) 1 1 (by show 1 = min 1 (n + 1 - i); omega)
  rw [nats_len [h], List.length_singleton] at hr2
  have hov : ∀ lb cb, (callFunc 216 #[.slice (some ⟨g, 0, none⟩) 1 1, .slice (some ⟨b, i + 1, none⟩) lb cb]).run Tryz.prog w = .ok (.value (.bool false)) w := fun lb cb => by
    rw [run_callFunc_extern Tryz.func216 (by kernel_rfl) (by kernel_rfl) (by kernel_rfl) (e := Extern.SlicesOverlaps.overlaps #[208, 208] #[4]) (by kernel_rfl),
      Lib.run_overlaps_apart w 208 4 43 Tryz.underlying208 1 Tryz.sizeOf43 ⟨g, 0, none⟩ ⟨b, i + 1, none⟩ 1 1 lb cb hne 43 43 1 cur.size (by simp [World.shape?, hg]) (by simp [World.shape?, hb]) (by omega) (free_of_row hg 0) (free_of_row hg 1)]
    rfl
  have HP : Hid (InsPost B w (.slice (some ⟨b, 0, none⟩) n c) (l.take i ++ h :: l.drop i) (.returned (.slice (some ⟨b, 0, none⟩) (n + 1) c)) w2) := by
    have hlen : (l.take i ++ h :: l.drop i).length = n + 1 := by simp; omega
    refine Lib.hid ⟨_, rfl, ?_, ⟨hk2.os.trans hk1.os, hk2.tape.trans hk1.tape, hk2.output.trans hk1.output, Nat.le_trans hk1.size hk2.size, fun k hk hk' => (hk2.block k (Nat.lt_of_lt_of_le hk hk1.size) hk').trans (hk1.block k hk hk')⟩, .inl rfl⟩
    rw [hlen]
    exact ⟨by rw [nats_len, hlen]; omega, .inr ⟨b, c, _, rfl, hBb, hb2, hc, hcm, splice3_len i n c l cur h hn hcs hi hc, splice3_take i n l cur h hn hct hi⟩⟩
  clear hb hb1 hb2 hk1 hk2 hct hcs hg1 hg hxs hn hld hbl hne hBb
  unfold maxLen at hcm
  have e1 : (i : Int) ≤ (n : Int) := by omega
  have e2 : ¬ (c = i) := by omega
  have e4 : ¬ (c = i + 1) := by omega
  have e5 : ((i : Int) + 1).toNat = i + 1 := by omega
  have e6 : ((n : Int) + 1).toNat = n + 1 := by omega
  have t1 : ((i : Int) == (n : Int)) = false := by rw [beq_eq_false_iff_ne]; omega
  have t2 : decide ((c : Int) < (n : Int) + 1) = false := decide_eq_false (by omega)
  go_enter Tryz.func213, Tryz.ntmps213
  go_wp2_with (simp only [hov])
  go_region
  go_wp2_with fail
  go_ret
  exact HP.out

/-- slices.Insert of one number -/
theorem insert_any {w : World} {B : Nat} {v : Value} {l : List Nat} {h g i : Nat} (hown : w.ownsRow B 43 1 v l.length (nats l)) (hB : B ≤ w.heap.size) (hg : w.heap[g]? = some (.cells #[.int .u64 (h : Int)] 43 (0, 0))) (hne : ∀ k, v.ownBlock = some k → g ≠ k) (hl : l.length ≤ 100000) (hi : i ≤ l.length) :
    Calls Tryz.prog 213 #[v, .int .i64 (i : Int), .slice (some ⟨g, 0, none⟩) 1 1] w (InsPost B w v (l.take i ++ h :: l.drop i)) := by
  by_cases hi' : i = l.length
  · subst hi'
    rw [List.take_length, List.drop_length]
    exact insert_end hown hB hg hl
  · obtain ⟨a, c, rfl, hc, _⟩ := ownsRow_form hown
    have : ∃ ad, a = some ad := by
      rcases hown.2 with ⟨e, h0⟩ | ⟨b, _, _, e, _⟩
      · omega
      · cases e; exact ⟨_, rfl⟩
    obtain ⟨ad, rfl⟩ := this
    by_cases hroom : l.length + 1 ≤ c
    · exact insert_room hown hg (hne ad.block rfl) rfl hl (by omega) hroom
    · exact insert_grow hown hB hg rfl hl (by omega) (by omega)
end Go.Proofs.YtlhpbfjelgmkeaaGreat
