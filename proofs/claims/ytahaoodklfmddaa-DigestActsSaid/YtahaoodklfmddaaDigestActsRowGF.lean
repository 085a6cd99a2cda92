/- The texts Push RqSk RqTop RqCount, one behind the other; each one's own comment says what it holds. -/
import Derived.Test.YtahaoodklfmddaaGen
import Derived.Maps.AppendAt
import Derived.Test.YtahaoodklfmddaaDigSk
import Derived.Test.YtahaoodklfmddaaDigRow
import Derived.Test.YtahaoodklfmddaaDigestActsRowGE
import Derived.Test.YtahaoodklfmddaaDigestActsRowGB
/- One struct more behind a row of the call's own. Conditions: none. -/
set_option maxRecDepth 100000
namespace Go.Proofs.Ytahaoodklfmddaa
open Go.RowKit Go.Maps Go.Sort

/-- an append of one element whose cells were laid just ahead -/
theorem push_row {P : Program} {t e : TypeId} {z : Value} {size by' : Nat} (ht : P.underlying t = some (.slice e)) (hinfo : (P.info? e).map (fun i => (i.zero, i.size, i.bytes)) = some (some z, size, by')) (hzs : z.cells.size = size) (hsz : 0 < size)
    {w : World} {B : Nat} {v : Value} {n : Nat} {xs : List Value} (hown : w.ownsRow B e size v n xs) (hB : B ≤ w.heap.size) (news : List Value) (hl : news.length = size) (h1 : ∀ u ∈ news, u.oneCell' = true) (hbytes : (n + 1) * by' ≤ 140737488355328) (hn : n + 1 ≤ 9223372036854775807) :
    ∃ v' w', (∀ ty, (Builtin.append_ #[t, t] ty #[v, .slice (some ⟨w.heap.size, 0, none⟩) 1 1]).run P (w.alloc (.cells news.toArray e)) = .ok v' w') ∧
      w'.ownsRow B e size v' (n + 1) (xs ++ news) ∧ w.grownBy w' v.ownBlock ∧ (v'.ownBlock = v.ownBlock ∨ v'.ownBlock = some (w.heap.size + 1)) := by
  obtain ⟨i, hi, hz0, hz1, hz2⟩ := info_parts hinfo
  have hown' : (w.alloc (.cells news.toArray e)).ownsRow B e size v n xs := hown.alloc _
  have hnew : ∀ j u, news[j]? = some u → (w.alloc (.cells news.toArray e)).cell? ((⟨w.heap.size, 0, none⟩ : Addr).add j) = some u := fun j u hj => by
    rw [Addr.add_at, Nat.zero_add, cell_of_row _ _ _ _ _ _ (heap_alloc_new w _)]
    simpa using hj
  obtain ⟨v', w', hr, h2, h3, _, h5⟩ := run_append_own_at (P := P) (w := w.alloc (.cells news.toArray e)) B t 0 e i z size by' ht hi hz0 hz1 hz2 hzs hsz v n xs hown' ⟨w.heap.size, 0, none⟩ 1 1 news (by omega) hnew h1 (by unfold maxLen; omega) hbytes (by simp; omega)
  refine ⟨v', w', fun ty => hr, h2, (World.grownBy_alloc w _ v.ownBlock).andThen h3 (fun j hj => .inr hj), ?_⟩
  rcases h5 with h5 | h5
  · exact .inl h5
  · exact .inr (by simpa using h5)
end Go.Proofs.Ytahaoodklfmddaa
/- The document's digest in memory: rows of nodes, its smallest calls. Conditions: none. -/
set_option maxRecDepth 100000
namespace Go.Proofs.Ytahaoodklfmddaa
open Go.RowKit Go.Maps Go.Sort

/-- a row of the document's nodes -/
def RowQ (B : Nat) (v : Value) (L : DL) (w : World) : Prop := w.ownsRow B 69 3 v L.length (flatN L)
theorem RowQ.form {w : World} {B : Nat} {v : Value} {L : DL} (h : RowQ B v L w) : ∃ a c, v = .slice a L.length c ∧ L.length ≤ c ∧ c ≤ maxLen := ownsRow_form h
theorem RowQ.cell {w : World} {B : Nat} {v : Value} {L : DL} (h : RowQ B v L w) {j : Nat} {y : Nat × Int} (hy : L[j]? = some y) : ∃ g c, v = .slice (some ⟨g, 0, none⟩) L.length c ∧ g < w.heap.size ∧ B ≤ g ∧
    w.cell? ⟨g, j * 3, none⟩ = some (.int .i64 ((y.1 / 18446744073709551616 : Nat) : Int)) ∧ w.cell? ⟨g, j * 3 + 1, none⟩ = some (.int .u64 ((y.1 % 18446744073709551616 : Nat) : Int)) ∧ w.cell? ⟨g, j * 3 + 2, none⟩ = some (.int .i64 y.2) := by
  have hj := (List.getElem?_eq_some_iff.1 hy).1
  rcases h.2 with ⟨_, h0⟩ | ⟨g, c, cur, e, hB, hg, _⟩
  · omega
  · have hh := World.ownsRow.cells h (g := g) (by rw [e]; rfl)
    obtain ⟨f0, f1, f2⟩ := flatN_at L j y hy
    have c0 := hh _ _ f0
    have c1 := hh _ _ f1
    have c2 := hh _ _ f2
    simp only [Addr.add_at, Nat.zero_add] at c0 c1 c2
    exact ⟨g, c, e, lt_of_heap hg, hB, c0, c1, c2⟩
theorem RowQ.of_block {w w' : World} {B : Nat} {v : Value} {L : DL} (h : RowQ B v L w) (hb : ∀ g, v.ownBlock = some g → w'.heap[g]? = w.heap[g]?) : RowQ B v L w' := ownsRow_of_block h hb
theorem RowQ.below {w w' : World} {B : Nat} {v : Value} {L : DL} (h : RowQ B v L w) (hb : Below w.heap.size w w') : RowQ B v L w' := ownsRow_below h hb
theorem RowQ.nil (B : Nat) (w : World) : RowQ B (.slice none 0 0) [] w := World.ownsRow_nil _ _ _ _
theorem infoQ : (Try.prog.info? 69).map (fun i => (i.zero, i.size, i.bytes)) = some (some (.agg #[.int .i64 0, .int .u64 0, .int .i64 0]), 3, 24) := by kernel_rfl
/-- a node more -/
theorem RowQ.push {w : World} {B : Nat} {v : Value} {L : DL} (h : RowQ B v L w) (hB : B ≤ w.heap.size) (q : Nat × Int) (hl : L.length ≤ 1000000) :
    ∃ v' w', Hid (∀ ty, (Builtin.append_ #[39, 39] ty #[v, .slice (some ⟨w.heap.size, 0, none⟩) 1 1]).run Try.prog (w.alloc (.cells #[.int .i64 ((q.1 / 18446744073709551616 : Nat) : Int), .int .u64 ((q.1 % 18446744073709551616 : Nat) : Int), .int .i64 q.2] 69)) = .ok v' w') ∧
      Hid (RowQ B v' (L ++ [q]) w' ∧ Below B w w' ∧ (∀ b, b < w.heap.size → v.ownBlock ≠ some b → w'.heap[b]? = w.heap[b]?) ∧ (v'.ownBlock = v.ownBlock ∨ v'.ownBlock = some (w.heap.size + 1))) := by
  obtain ⟨v', w', r, o, g, bl⟩ := push_row (P := Try.prog) Try.underlying39 infoQ rfl (by omega) h hB (encN q) rfl (encN_one q) (by omega) (by omega)
  refine ⟨v', w', Lib.hid r, Lib.hid ⟨?_, (Below.refl B w).grown g hB (fun k e => (h.lt k e).1), fun b hb hne => g.block b hb (fun e => hne e.symm), bl⟩⟩
  unfold RowQ
  rw [flatN_snoc, List.length_append]
  exact o
/-- the document's digest -/
structure RqAt (T : Tags) (i : Nat) (w : World) (p k : Nat) (n : Int) (v : Value) (L : DL) : Prop where
  head : w.heap[p]? = some (.cells #[.int .i64 k, v, .int .i64 n] 41 (0, 0))
  tp : T p = some i
  row : RowQ 0 v L w
  tb : ∀ g, v.ownBlock = some g → T g = some i
def Rd (p k : Nat) (n : Int) (L : DL) : Thing := fun T i w => ∃ v, RqAt T i w p k n v L
theorem RqAt.keep {T T' : Tags} {i : Nat} {w w' : World} {p k : Nat} {n : Int} {v : Value} {L : DL} (h : RqAt T i w p k n v L) (hT : ∀ k, k < w.heap.size → T' k = T k) (hw : ∀ k, k < w.heap.size → (T k = none ∨ T k = some i) → w'.heap[k]? = w.heap[k]?) : RqAt T' i w' p k n v L :=
  ⟨(hw p (lt_of_heap h.head) (.inr h.tp)).trans h.head, (hT p (lt_of_heap h.head)).trans h.tp, h.row.of_block fun g hg => hw g (h.row.lt g hg).2 (.inr (h.tb g hg)), fun g hg => (hT g (h.row.lt g hg).2).trans (h.tb g hg)⟩
theorem Rd.framed (p k : Nat) (n : Int) (L : DL) : Framed (Rd p k n L) := by
  rintro T T' i w w' ⟨v, h⟩ hT hw
  exact ⟨v, h.keep hT hw⟩
theorem RqAt.below {T : Tags} {i : Nat} {w w' : World} {p k : Nat} {n : Int} {v : Value} {L : DL} (h : RqAt T i w p k n v L) (hb : Below w.heap.size w w') : RqAt T i w' p k n v L := h.keep (fun _ _ => rfl) (fun k hk _ => hb.block k hk)
theorem RqAt.cells {T : Tags} {i : Nat} {w : World} {p k : Nat} {n : Int} {v : Value} {L : DL} (h : RqAt T i w p k n v L) :
    w.cell? ⟨p, 0, none⟩ = some (.int .i64 k) ∧ w.cell? ⟨p, 1, none⟩ = some v ∧ w.cell? ⟨p, 2, none⟩ = some (.int .i64 n) ∧ ∀ j, w.frozen? ⟨p, j, none⟩ = false :=
  ⟨by rw [cell_of_row _ _ _ _ _ _ h.head]; rfl, by rw [cell_of_row _ _ _ _ _ _ h.head]; rfl, by rw [cell_of_row _ _ _ _ _ _ h.head]; rfl, free_of_row h.head⟩
theorem RqAt.ne {T : Tags} {i : Nat} {w : World} {p k : Nat} {n : Int} {v : Value} {L : DL} (h : RqAt T i w p k n v L) : v.ownBlock ≠ some p := fun e => by
  rcases h.row.2 with ⟨rfl, _⟩ | ⟨g, c, cur, rfl, _, hg, _⟩
  · simp [Value.ownBlock] at e
  · have : g = p := by simpa [Value.ownBlock] using e
    subst this
    have e2 := h.head
    rw [hg] at e2
    injection e2 with e2
    injection e2 with _ e3
    exact absurd e3 (by decide)
/-- a node as a value -/
def nodeV (q : Nat × Int) : Value := .agg #[.int .i64 ((q.1 / 18446744073709551616 : Nat) : Int), .int .u64 ((q.1 % 18446744073709551616 : Nat) : Int), .int .i64 q.2]
theorem two_below (w : World) (x y : Obj) : Below w.heap.size w ((w.alloc x).alloc y) := ((Below.refl _ _).alloc (Nat.le_refl _) _).alloc (by simp) _
set_option maxHeartbeats 1600000 in
theorem rqalike_any (x y : Nat × Int) (w : World) : Calls Try.prog 45 #[nodeV x, nodeV y] w fun e w' => e = .returned (.bool (decide (x.1 = y.1))) ∧ Below w.heap.size w w' := by
  unfold nodeV
  have hx := cd_self x.1
  have hy := cd_self y.1
  unfold cd at hx hy
  obtain ⟨a, ha⟩ : ∃ a, x.1 / 18446744073709551616 = a := ⟨_, rfl⟩
  obtain ⟨b, hb⟩ : ∃ b, x.1 % 18446744073709551616 = b := ⟨_, rfl⟩
  obtain ⟨c, hc⟩ : ∃ c, y.1 / 18446744073709551616 = c := ⟨_, rfl⟩
  obtain ⟨d, hd⟩ : ∃ d, y.1 % 18446744073709551616 = d := ⟨_, rfl⟩
  have hB := two_below w (.cells #[.int .i64 (a : Int), .int .u64 (b : Int), .int .i64 x.2] 69) (.cells #[.int .i64 (c : Int), .int .u64 (d : Int), .int .i64 y.2] 69)
  have HB := Lib.hid hB
  by_cases h1 : a = c
  · by_cases h2 : b = d
    · have e : decide (x.1 = y.1) = true := decide_eq_true (by omega)
      have t0 : ((a : Int) == (c : Int)) = true := by simp [h1]
      have t1 : ((b : Int) == (d : Int)) = true := by simp [h2]
      rw [e, ha, hb, hc, hd]
      clear hx hy ha hb hc hd h1 h2 e hB
      go_enter Try.func45, Try.ntmps45
      go_wp2_with fail
      go_ret
      exact ⟨rfl, HB.out⟩
    · have e : decide (x.1 = y.1) = false := decide_eq_false (by omega)
      have t0 : ((a : Int) == (c : Int)) = true := by simp [h1]
      have t1 : ((b : Int) == (d : Int)) = false := by simp; omega
      rw [e, ha, hb, hc, hd]
      clear hx hy ha hb hc hd h1 h2 e hB
      go_enter Try.func45, Try.ntmps45
      go_wp2_with fail
      go_ret
      exact ⟨rfl, HB.out⟩
  · have e : decide (x.1 = y.1) = false := decide_eq_false (by omega)
    have t0 : ((a : Int) == (c : Int)) = false := by simp; omega
    rw [e, ha, hb, hc, hd]
    clear hx hy ha hb hc hd h1 e hB
    go_enter Try.func45, Try.ntmps45
    go_wp2_with fail
    go_ret
    exact ⟨rfl, HB.out⟩
set_option maxHeartbeats 1600000 in
theorem rqahead_any (x y : Nat × Int) (w : World) : Calls Try.prog 46 #[nodeV x, nodeV y] w fun e w' => e = .returned (.bool (decide (x.1 < y.1))) ∧ Below w.heap.size w w' := by
  unfold nodeV
  have hx := cd_self x.1
  have hy := cd_self y.1
  unfold cd at hx hy
  have lx := Nat.mod_lt x.1 (show 0 < 18446744073709551616 by omega)
  have ly := Nat.mod_lt y.1 (show 0 < 18446744073709551616 by omega)
  obtain ⟨a, ha⟩ : ∃ a, x.1 / 18446744073709551616 = a := ⟨_, rfl⟩
  obtain ⟨b, hb⟩ : ∃ b, x.1 % 18446744073709551616 = b := ⟨_, rfl⟩
  obtain ⟨c, hc⟩ : ∃ c, y.1 / 18446744073709551616 = c := ⟨_, rfl⟩
  obtain ⟨d, hd⟩ : ∃ d, y.1 % 18446744073709551616 = d := ⟨_, rfl⟩
  have hB := two_below w (.cells #[.int .i64 (a : Int), .int .u64 (b : Int), .int .i64 x.2] 69) (.cells #[.int .i64 (c : Int), .int .u64 (d : Int), .int .i64 y.2] 69)
  have HB := Lib.hid hB
  by_cases h1 : a < c
  · have e : decide (x.1 < y.1) = true := decide_eq_true (by omega)
    have t0 : decide ((a : Int) < (c : Int)) = true := decide_eq_true (by omega)
    have t0' : decide (a < c) = true := decide_eq_true h1
    rw [e, ha, hb, hc, hd]
    clear hx hy lx ly ha hb hc hd h1 e hB
    go_enter Try.func46, Try.ntmps46
    go_wp2_with fail
    go_ret
    exact ⟨rfl, HB.out⟩
  · have t0 : decide ((a : Int) < (c : Int)) = false := decide_eq_false (by omega)
    have t0' : decide (a < c) = false := decide_eq_false h1
    by_cases h2 : a = c
    · have t2 : ((a : Int) == (c : Int)) = true := by simp [h2]
      by_cases h3 : b < d
      · have e : decide (x.1 < y.1) = true := decide_eq_true (by omega)
        have t1 : decide ((b : Int) < (d : Int)) = true := decide_eq_true (by omega)
        have t1' : decide (b < d) = true := decide_eq_true h3
        rw [e, ha, hb, hc, hd]
        clear hx hy lx ly ha hb hc hd h1 h2 h3 e hB
        go_enter Try.func46, Try.ntmps46
        go_wp2_with fail
        go_ret
        exact ⟨rfl, HB.out⟩
      · have e : decide (x.1 < y.1) = false := decide_eq_false (by omega)
        have t1 : decide ((b : Int) < (d : Int)) = false := decide_eq_false (by omega)
        have t1' : decide (b < d) = false := decide_eq_false h3
        rw [e, ha, hb, hc, hd]
        clear hx hy lx ly ha hb hc hd h1 h2 h3 e hB
        go_enter Try.func46, Try.ntmps46
        go_wp2_with fail
        go_ret
        exact ⟨rfl, HB.out⟩
    · have e : decide (x.1 < y.1) = false := decide_eq_false (by omega)
      have t2 : ((a : Int) == (c : Int)) = false := by simp; omega
      rw [e, ha, hb, hc, hd]
      clear hx hy lx ly ha hb hc hd h1 h2 e hB
      go_enter Try.func46, Try.ntmps46
      go_wp2_with fail
      go_ret
      exact ⟨rfl, HB.out⟩
end Go.Proofs.Ytahaoodklfmddaa
/- The document's digest: the greatest number of a node. Conditions: a node. -/
set_option maxRecDepth 100000
namespace Go.Proofs.Ytahaoodklfmddaa
open Go.RowKit Go.Maps Go.Sort Go.Shelf

set_option maxHeartbeats 1600000 in
theorem rqtop_any {x : Nat × Int} (hx : NodeC x.1) (w : World) : Calls Try.prog 50 #[nodeV x] w fun e w' => e = .returned (.int .u64 ((gr x.1 : Nat) : Int)) ∧ Below w.heap.size w w' := by
  have hg : gr x.1 = x.1 % 18446744073709551616 * 2 ^ (x.1 / 18446744073709551616) + (2 ^ (x.1 / 18446744073709551616) - 1) := by unfold gr; rw [asN_eq hx]
  have hb := great_bits hx.1 hx.2
  rw [← hg] at hb
  have h64 : x.1 / 18446744073709551616 = 64 → gr x.1 = 18446744073709551615 := fun e => by
    have h0 := hx.2
    rw [e] at h0 hg
    rw [hg, show x.1 % 18446744073709551616 = 0 by simpa using h0]
  have hl := hx.1
  unfold nodeV
  generalize gr x.1 = g at *
  obtain ⟨l, hle⟩ : ∃ l, x.1 / 18446744073709551616 = l := ⟨_, rfl⟩
  obtain ⟨u, hu⟩ : ∃ u, x.1 % 18446744073709551616 = u := ⟨_, rfl⟩
  obtain ⟨c, hc⟩ : ∃ c, x.2 = c := ⟨_, rfl⟩
  rw [hle] at hb h64 hl ⊢
  rw [hu] at hb ⊢
  rw [hc]
  have HB : Hid (Below w.heap.size w (w.alloc (.cells #[.int .i64 (l : Int), .int .u64 (u : Int), .int .i64 c] 69))) := Lib.hid ((Below.refl _ w).alloc (Nat.le_refl _) _)
  clear hg hle hu hc hx
  by_cases e : l = 64
  · have eg := h64 e
    subst e
    subst eg
    clear hb h64 hl
    go_enter Try.func50, Try.ntmps50
    go_wp2_with fail
    go_ret
    exact ⟨rfl, HB.out⟩
  · have t0 : ((l : Int) == 64) = false := by simp; omega
    have hl0 : (0 : Int) ≤ (l : Int) := by omega
    have wl : IntKind.u64.wrap (l : Int) = (l : Int) := by rw [IntKind.wrap_u64]; omega
    clear h64
    go_enter Try.func50, Try.ntmps50
    go_wp2_with fail
    go_ret
    exact ⟨rfl, HB.out⟩
end Go.Proofs.Ytahaoodklfmddaa
/- What the document's digest counts at a place. Conditions: few nodes. -/
set_option maxRecDepth 100000
namespace Go.Proofs.Ytahaoodklfmddaa
open Go.RowKit Go.Maps Go.Sort

theorem dcnt_first : ∀ {L : DL} {j : Nat} {y : Nat × Int} {c : Nat}, L[j]? = some y → y.1 = c → (∀ q ∈ L.take j, q.1 ≠ c) → dcnt L c = y.2
  | [], j, y, c, h, _, _ => by simp at h
  | p :: r, 0, y, c, h, e, _ => by
    simp at h
    subst h
    simp [dcnt, e]
  | p :: r, j + 1, y, c, h, e, hn => by
    have h1 : p.1 ≠ c := hn p (by simp)
    have h2 := dcnt_first (L := r) (by simpa using h) e (fun q hq => hn q (by simp [hq]))
    simp [dcnt, h1, h2]
theorem dtake_more {N : DL} {j : Nat} {p : Nat × Int} (h : N[j]? = some p) : N.take (j + 1) = N.take j ++ [p] := by
  obtain ⟨hl, e⟩ := List.getElem?_eq_some_iff.1 h
  rw [List.take_succ_eq_append_getElem hl, e]
set_option maxHeartbeats 1600000 in
theorem rqcount_at {w : World} {p B lv pr : Nat} {v : Value} {L : DL} (c1 : w.cell? ⟨p, 1, none⟩ = some v) (hR : RowQ B v L w) (hl : L.length ≤ 100000) (hp : pr < 18446744073709551616) :
    Calls Try.prog 47 #[.pointer (some ⟨p, 0, none⟩), .int .i64 (lv : Int), .int .u64 (pr : Int)] w fun e w' => e = .returned (.int .i64 (dcnt L (cd lv pr))) ∧ Below w.heap.size w w' := by
  obtain ⟨a, c, rfl, _⟩ := hR.form
  have HR := Lib.hid hR
  have HL := Lib.hid hl
  have HP := Lib.hid hp
  clear hR hl hp
  go_enter Try.func47, Try.ntmps47
  go_wp2_with fail
  go_loopw [14] (fun s wr => ∃ j : Nat, s = .int .i64 j ∧ j ≤ L.length ∧ Hid (∀ q ∈ L.take j, q.1 ≠ cd lv pr) ∧ Hid (Below w.heap.size w wr)) (fun s _ => L.length - (intOf s).toNat)
  case atStart => exact ⟨0, rfl, Nat.zero_le _, Lib.hid (by simp), Lib.hid (Below.refl _ _)⟩
  case round =>
    obtain ⟨j, rfl, hj, HN, HB⟩ := hrel
    by_cases hlt : j < L.length
    · obtain ⟨y, hy⟩ : ∃ y, L[j]? = some y := ⟨_, List.getElem?_eq_getElem hlt⟩
      obtain ⟨g, c', hv, hg, _, r0, r1, r2⟩ := HR.out.cell hy
      obtain ⟨rfl, rfl⟩ : a = some ⟨g, 0, none⟩ ∧ c = c' := by injection hv with h1 _ h2; exact ⟨h1, h2⟩
      have x0 : wr.cell? ⟨g, j * 3, none⟩ = some (.int .i64 ((y.1 / 18446744073709551616 : Nat) : Int)) := by rw [HB.out.cell (World.block_lt_of_cell? w _ r0)]; exact r0
      have x1 : wr.cell? ⟨g, j * 3 + 1, none⟩ = some (.int .u64 ((y.1 % 18446744073709551616 : Nat) : Int)) := by rw [HB.out.cell (World.block_lt_of_cell? w _ r1)]; exact r1
      have x2 : wr.cell? ⟨g, j * 3 + 2, none⟩ = some (.int .i64 y.2) := by rw [HB.out.cell (World.block_lt_of_cell? w _ r2)]; exact r2
      have b2 : (j : Int) < (L.length : Int) := Int.ofNat_lt.2 hlt
      have hw64 : IntKind.i64.wrap ((j : Int) + 1) = (j : Int) + 1 := by have := HL.out; rw [IntKind.wrap_i64]; omega
      have HY := Lib.hid hy
      have hcd : y.1 = cd lv pr ↔ (y.1 / 18446744073709551616 = lv ∧ y.1 % 18446744073709551616 = pr) := by
        constructor
        · intro e
          rw [e]
          exact cd_lev HP.out
        · rintro ⟨e1, e2⟩
          rw [← e1, ← e2]
          exact (cd_self _).symm
      have HCD := Lib.hid hcd
      have HBN : Hid (∀ o, Below w.heap.size w (wr.alloc o)) := Lib.hid (fun o => HB.out.alloc HB.out.size o)
      obtain ⟨l2, hl2⟩ : ∃ l2, y.1 / 18446744073709551616 = l2 := ⟨_, rfl⟩
      obtain ⟨p2, hp2⟩ : ∃ p2, y.1 % 18446744073709551616 = p2 := ⟨_, rfl⟩
      rw [hl2] at x0 HCD
      rw [hp2] at x1 HCD
      obtain ⟨cn, hcn⟩ : ∃ cn, y.2 = cn := ⟨_, rfl⟩
      rw [hcn] at x2
      have HCN := Lib.hid hcn
      clear hy r0 r1 r2 hv hcd hl2 hp2 hcn HB hg
      by_cases e1 : l2 = lv
      · have t0 : ((l2 : Int) == (lv : Int)) = true := by simp [e1]
        by_cases e2 : p2 = pr
        · have t1 : ((p2 : Int) == (pr : Int)) = true := by simp [e2]
          have HF : Hid (cn = dcnt L (cd lv pr)) := Lib.hid (by rw [← HCN.out]; exact (dcnt_first HY.out (HCD.out.2 ⟨e1, e2⟩) HN.out).symm)
          clear e1 e2
          go_wp2_with fail
          refine bodyPost_ret (v := .int .i64 cn) ?_ rfl ⟨by rw [HF.out], HBN.out _⟩
          simp [results, Try.results47, go_sem]
        · have t1 : ((p2 : Int) == (pr : Int)) = false := by simp; omega
          have HNN : Hid (∀ q ∈ L.take (j + 1), q.1 ≠ cd lv pr) := Lib.hid fun q hq => by
            rw [dtake_more HY.out] at hq
            rcases List.mem_append.1 hq with hq | hq
            · exact HN.out q hq
            · rw [List.mem_singleton] at hq
              subst hq
              exact fun e => e2 (HCD.out.1 e).2
          clear e1 e2 HN
          go_wp2_with fail
          go_roundw
          case rel => exact ⟨j + 1, by go_num, hlt, HNN, Lib.hid (HBN.out _)⟩
          case measure => simp [intOf]; omega
      · have t0 : ((l2 : Int) == (lv : Int)) = false := by simp; omega
        have HNN : Hid (∀ q ∈ L.take (j + 1), q.1 ≠ cd lv pr) := Lib.hid fun q hq => by
          rw [dtake_more HY.out] at hq
          rcases List.mem_append.1 hq with hq | hq
          · exact HN.out q hq
          · rw [List.mem_singleton] at hq
            subst hq
            exact fun e => e1 (HCD.out.1 e).1
        clear e1 HN
        go_wp2_with fail
        go_roundw
        case rel => exact ⟨j + 1, by go_num, hlt, HNN, Lib.hid (HBN.out _)⟩
        case measure => simp [intOf]; omega
    · obtain rfl : j = L.length := by omega
      have HF : Hid ((0 : Int) = dcnt L (cd lv pr)) := Lib.hid (dcnt_none (fun q hq => by have := HN.out; rw [List.take_length] at this; exact this q hq)).symm
      clear HN
      go_wp2_with fail
      go_ret
      exact ⟨ret_int HF.out, HB.out⟩
end Go.Proofs.Ytahaoodklfmddaa
