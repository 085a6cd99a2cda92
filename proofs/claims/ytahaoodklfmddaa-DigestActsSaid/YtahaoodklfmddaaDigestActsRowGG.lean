/- The texts RqAdd, one behind the other; each one's own comment says what it holds. -/
import Derived.Test.YtahaoodklfmddaaDigestActsRowGF
/- The document's digest: so many more, or fewer, at a place. Conditions: nothing wraps, few nodes. -/
set_option maxRecDepth 100000
namespace Go.Proofs.Ytahaoodklfmddaa
open Go.RowKit Go.Maps Go.Sort

/-- one node gone over -/
def addS (c : Nat) (y : Int) (s : DL × Bool) (q : Nat × Int) : DL × Bool :=
  if q.1 = c then (s.1 ++ (if 0 < q.2 + y then [(q.1, q.2 + y)] else []), true)
  else if s.2 = false ∧ c < q.1 then ((s.1 ++ [(c, y)]) ++ (if 0 < q.2 then [q] else []), true)
  else (s.1 ++ (if 0 < q.2 then [q] else []), s.2)
def addF (c : Nat) (y : Int) (s : DL × Bool) : DL := if s.2 then s.1 else s.1 ++ [(c, y)]
def addR (c : Nat) (y : Int) (L : DL) : DL := addF c y (L.foldl (addS c y) ([], false))
theorem fold_done (c : Nat) (y : Int) : ∀ (L acc : DL), (∀ q ∈ L, q.1 ≠ c) → (∀ q ∈ L, 1 ≤ q.2) → L.foldl (addS c y) (acc, true) = (acc ++ L, true)
  | [], acc, _, _ => by simp
  | p :: r, acc, hn, hp => by
    have h1 := hn p (List.mem_cons_self ..)
    have h2 := hp p (List.mem_cons_self ..)
    have e : addS c y (acc, true) p = (acc ++ [p], true) := by
      unfold addS
      rw [if_neg h1, if_neg (by simp), if_pos (by omega)]
    rw [List.foldl_cons, e, fold_done c y r _ (fun q hq => hn q (List.mem_cons_of_mem _ hq)) (fun q hq => hp q (List.mem_cons_of_mem _ hq))]
    simp
theorem addR_put_acc (c : Nat) (y : Int) : ∀ (L acc : DL), DAsc L → (∀ q ∈ L, 1 ≤ q.2) → 1 ≤ dcnt L c + y → addF c y (L.foldl (addS c y) (acc, false)) = acc ++ putD c (dcnt L c + y) L
  | [], acc, _, _, _ => by simp [addF, putD, dcnt]
  | p :: r, acc, hA, hp, h1 => by
    have hp1 := hp p (List.mem_cons_self ..)
    have hpr : ∀ q ∈ r, 1 ≤ q.2 := fun q hq => hp q (List.mem_cons_of_mem _ hq)
    have hh := dasc_head hA
    by_cases e : p.1 = c
    · have hd : dcnt (p :: r) c = p.2 := by simp [dcnt, e]
      rw [hd] at h1 ⊢
      have e1 : addS c y (acc, false) p = (acc ++ [(p.1, p.2 + y)], true) := by unfold addS; rw [if_pos e, if_pos (by omega)]
      rw [List.foldl_cons, e1, fold_done c y r _ (fun q hq => by have := hh q hq; omega) hpr]
      simp only [addF, if_true]
      unfold putD
      rw [if_neg (by omega), if_pos e]
      simp [e]
    · have hd : dcnt (p :: r) c = dcnt r c := by simp [dcnt, e]
      by_cases g : c < p.1
      · have h0 : dcnt r c = 0 := dcnt_none fun q hq => by have := hh q hq; omega
        rw [hd, h0]
        have e1 : addS c y (acc, false) p = ((acc ++ [(c, y)]) ++ [p], true) := by unfold addS; rw [if_neg e, if_pos ⟨rfl, g⟩, if_pos (by omega)]
        rw [List.foldl_cons, e1, fold_done c y r _ (fun q hq => by have := hh q hq; omega) hpr]
        simp only [addF, if_true]
        unfold putD
        rw [if_pos g]
        simp
      · have e1 : addS c y (acc, false) p = (acc ++ [p], false) := by unfold addS; rw [if_neg e, if_neg (by simp [g]), if_pos (by omega)]
        rw [List.foldl_cons, e1, hd, addR_put_acc c y r _ (dasc_tail hA) hpr (by rw [← hd]; exact h1)]
        conv => rhs; unfold putD
        rw [if_neg g, if_neg e]
        simp
theorem addR_put {c : Nat} {y : Int} {L : DL} (hA : DAsc L) (hp : ∀ q ∈ L, 1 ≤ q.2) (h1 : 1 ≤ dcnt L c + y) : addR c y L = putD c (dcnt L c + y) L := by
  have := addR_put_acc c y L [] hA hp h1
  simpa [addR] using this
theorem addR_del_acc (c : Nat) (y : Int) : ∀ (L acc : DL), DAsc L → (∀ q ∈ L, 1 ≤ q.2) → (∃ q ∈ L, q.1 = c) → dcnt L c + y = 0 → addF c y (L.foldl (addS c y) (acc, false)) = acc ++ delD c L
  | [], _, _, _, h, _ => by obtain ⟨q, hq, _⟩ := h; cases hq
  | p :: r, acc, hA, hp, hc, h0 => by
    have hp1 := hp p (List.mem_cons_self ..)
    have hpr : ∀ q ∈ r, 1 ≤ q.2 := fun q hq => hp q (List.mem_cons_of_mem _ hq)
    have hh := dasc_head hA
    by_cases e : p.1 = c
    · have hd : dcnt (p :: r) c = p.2 := by simp [dcnt, e]
      rw [hd] at h0
      have e1 : addS c y (acc, false) p = (acc, true) := by unfold addS; rw [if_pos e, if_neg (by omega)]; simp
      rw [List.foldl_cons, e1, fold_done c y r _ (fun q hq => by have := hh q hq; omega) hpr]
      have e2 : delD c (p :: r) = r := by
        unfold delD
        rw [List.filter_cons_of_neg (by simp [e])]
        exact List.filter_eq_self.2 fun q hq => by have := hh q hq; simp; omega
      rw [e2]
      simp [addF]
    · have hd : dcnt (p :: r) c = dcnt r c := by simp [dcnt, e]
      obtain ⟨q, hq, eq⟩ := hc
      rcases List.mem_cons.1 hq with rfl | hq
      · exact absurd eq e
      have g : ¬ c < p.1 := by have := hh q hq; omega
      have e1 : addS c y (acc, false) p = (acc ++ [p], false) := by unfold addS; rw [if_neg e, if_neg (by simp [g]), if_pos (by omega)]
      rw [List.foldl_cons, e1, addR_del_acc c y r _ (dasc_tail hA) hpr ⟨q, hq, eq⟩ (by rw [← hd]; exact h0)]
      have e2 : delD c (p :: r) = p :: delD c r := by
        unfold delD
        rw [List.filter_cons_of_pos (by simp [e])]
      rw [e2]
      simp
theorem addR_del {c : Nat} {y : Int} {L : DL} (hA : DAsc L) (hp : ∀ q ∈ L, 1 ≤ q.2) (hc : ∃ q ∈ L, q.1 = c) (h0 : dcnt L c + y = 0) : addR c y L = delD c L := by
  have := addR_del_acc c y L [] hA hp hc h0
  simpa [addR] using this
theorem ownsRow_rebase3q {w : World} {A B : Nat} {e : TypeId} {size : Nat} {v : Value} {n : Nat} {xs : List Value} (h : w.ownsRow A e size v n xs) (hb : ∀ g, v.ownBlock = some g → B ≤ g) : w.ownsRow B e size v n xs := by
  refine ⟨h.1, ?_⟩
  rcases h.2 with h2 | ⟨g, cap, cur, rfl, _, r⟩
  · exact .inl h2
  · exact .inr ⟨g, cap, cur, rfl, hb g rfl, r⟩
/-- where add stands -/
def AddSt (w W0 : World) (L : DL) (c : Nat) (y : Int) (j : Nat) (v : Value) (dn : Bool) (wr : World) : Prop :=
  ∃ out, (L.take j).foldl (addS c y) ([], false) = (out, dn) ∧ out.length ≤ 2 * j ∧ RowQ (w.heap.size + 1) v out wr ∧ Below (w.heap.size + 1) W0 wr
theorem AddSt.step {w W0 W : World} {L : DL} {c : Nat} {y : Int} {j : Nat} {v' : Value} {dn dn' : Bool} {out out' : DL} {q : Nat × Int} (hq : L[j]? = some q) (h : (L.take j).foldl (addS c y) ([], false) = (out, dn)) (hs : addS c y (out, dn) q = (out', dn')) (hl : out.length ≤ 2 * j)
    (hr : RowQ (w.heap.size + 1) v' out' W) (hb : Below (w.heap.size + 1) W0 W) : AddSt w W0 L c y (j + 1) v' dn' W := by
  refine ⟨out', by rw [dtake_more hq, List.foldl_append, h]; exact hs, ?_, hr, hb⟩
  have : out'.length ≤ out.length + 2 := by
    have e := congrArg Prod.fst hs
    simp only at e
    rw [← e]
    unfold addS
    split
    · split <;> simp
    · split
      · split <;> simp
      · split <;> simp
  omega
theorem adds_next {L : DL} {c : Nat} {y : Int} {j : Nat} {q : Nat × Int} {s : DL × Bool} (hq : L[j]? = some q) (h : (L.take j).foldl (addS c y) ([], false) = s) : (L.take (j + 1)).foldl (addS c y) ([], false) = addS c y s q := by
  rw [dtake_more hq, List.foldl_append, h]
  rfl
/-- the list put in its place -/
theorem rqadd_end {T : Tags} {i : Nat} {w V : World} {p k : Nat} {n : Int} {v v' : Value} {L M : DL} (h : RqAt T i w p k n v L) (hr : RowQ (w.heap.size + 1) v' M V) (hb : Below w.heap.size w V) : Goes T i w (Rd p k n M) (V.setCell ⟨p, 1, none⟩ v') := by
  have hp := lt_of_heap h.head
  have hd : V.heap[p]? = some (.cells #[.int .i64 k, v, .int .i64 n] 41 (0, 0)) := (hb.block p hp).trans h.head
  refine ⟨T.one w.heap.size (some i), T.one_next w _, (Else.of_below (O := fun x => T x = some i) hb).setCell (.inl h.tp) _, v', heap_set hd v', by unfold Tags.one; rw [if_pos hp]; exact h.tp, ?_, fun g hg => by unfold Tags.one; rw [if_neg (by have := (hr.lt g hg).1; omega)]⟩
  exact RowQ.of_block (ownsRow_rebase3q hr (fun g hg => Nat.zero_le _)) (fun g hg => Below.heap_setCell _ ⟨p, 1, none⟩ _ g (fun e => by have := (hr.lt g hg).1; simp at e; omega))
set_option maxHeartbeats 6400000 in
theorem rqadd_at {T : Tags} {i : Nat} {w : World} {p k : Nat} {n : Int} {v : Value} {L : DL} (h : RqAt T i w p k n v L) (x : Nat × Int) (hl : L.length ≤ 100000) (hI : ∀ q ∈ L, InI (q.2 + x.2)) (hpos : ∀ q ∈ L, 1 ≤ q.2) :
    Calls Try.prog 26 #[.pointer (some ⟨p, 0, none⟩), nodeV x] w fun e w' => e = .returned (.tuple #[]) ∧ Hid (Goes T i w (Rd p k n (addR x.1 x.2 L)) w') := by
  obtain ⟨c0, c1, c2, _⟩ := h.cells
  obtain ⟨a, cap, rfl, _⟩ := h.row.form
  have KA := Lib.hid (fun (y : Nat × Int) (W : World) => rqalike_any x y W)
  have KH := Lib.hid (fun (y : Nat × Int) (W : World) => rqahead_any x y W)
  obtain ⟨c, hc⟩ : ∃ c, x.1 = c := ⟨_, rfl⟩
  obtain ⟨y, hy⟩ : ∃ y, x.2 = y := ⟨_, rfl⟩
  rw [hy] at hI
  obtain ⟨lx, hlx⟩ : ∃ lx : Int, ((c / 18446744073709551616 : Nat) : Int) = lx := ⟨_, rfl⟩
  obtain ⟨px, hpx⟩ : ∃ px : Int, ((c % 18446744073709551616 : Nat) : Int) = px := ⟨_, rfl⟩
  have hxv : nodeV x = .agg #[.int .i64 lx, .int .u64 px, .int .i64 y] := by unfold nodeV; rw [hc, hlx, hpx, hy]
  obtain ⟨W0, hW0⟩ : ∃ W0, w.alloc (.cells #[.int .i64 lx, .int .u64 px, .int .i64 y] 69) = W0 := ⟨_, rfl⟩
  obtain ⟨B, hB⟩ : ∃ B, w.heap.size = B := ⟨_, rfl⟩
  have hbW : Below w.heap.size w W0 := by rw [← hW0]; exact (Below.refl _ _).alloc (Nat.le_refl _) _
  have hxb : W0.heap[B]? = some (.cells #[.int .i64 lx, .int .u64 px, .int .i64 y] 69 (0, 0)) := by rw [← hW0, ← hB]; exact heap_alloc_new _ _
  have hsW : W0.heap.size = w.heap.size + 1 := by rw [← hW0]; simp
  have d1 : W0.cell? ⟨p, 1, none⟩ = some (.slice a L.length cap) := by rw [hbW.cell (World.block_lt_of_cell? w _ c1)]; exact c1
  have HH := Lib.hid h
  have HL := Lib.hid hl
  have HI := Lib.hid (And.intro hI hpos)
  have HW := Lib.hid (And.intro hbW (And.intro hxb hsW))
  have HX := Lib.hid (And.intro hc (And.intro hlx (And.intro hpx (And.intro hxv hy))))
  have X0 : Hid (AddSt w W0 L c y 0 (.slice none 0 0) false W0) := Lib.hid ⟨[], rfl, Nat.le_refl _, RowQ.nil _ _, Below.refl _ _⟩
  rw [hc, hy]
  rw [hxv, hc] at KA KH
  rw [hxv]
  clear h hl hI hpos hbW hxb hsW hxv hlx hpx hc hy c0 c1 c2
  go_enter Try.func26, Try.ntmps26
  go_wp2_with fail
  (try rw [hW0])
  (try rw [hB])
  clear hW0
  go_loopw [4, 5, 13] (fun s4 s5 s13 wr => ∃ (v : Value) (dn : Bool) (j : Nat), v = s4 ∧ s5 = .bool dn ∧ s13 = .int .i64 j ∧ j ≤ L.length ∧ Hid (AddSt w W0 L c y j v dn wr)) (fun _ _ s _ => L.length - (intOf s).toNat)
  case atStart => exact ⟨_, false, 0, rfl, rfl, rfl, Nat.zero_le _, X0⟩
  case round =>
    clear X0
    obtain ⟨v, dn, j, rfl, rfl, rfl, hj, HS⟩ := hrel
    by_cases hlt : j < L.length
    · obtain ⟨q, hq⟩ : ∃ q, L[j]? = some q := ⟨_, List.getElem?_eq_getElem hlt⟩
      obtain ⟨g, c', hv, hg, _, r0, r1, r2⟩ := HH.out.row.cell hq
      obtain ⟨rfl, rfl⟩ : a = some ⟨g, 0, none⟩ ∧ cap = c' := by injection hv with h1 _ h2; exact ⟨h1, h2⟩
      obtain ⟨out, ho1, ho2, ho3, ho4⟩ := HS.out
      have hbwr : Below w.heap.size w wr := HW.out.1.trans (ho4.mono (by omega))
      have x0 : wr.cell? ⟨g, j * 3, none⟩ = some (.int .i64 ((q.1 / 18446744073709551616 : Nat) : Int)) := by rw [hbwr.cell (World.block_lt_of_cell? w _ r0)]; exact r0
      have x1 : wr.cell? ⟨g, j * 3 + 1, none⟩ = some (.int .u64 ((q.1 % 18446744073709551616 : Nat) : Int)) := by rw [hbwr.cell (World.block_lt_of_cell? w _ r1)]; exact r1
      have x2 : wr.cell? ⟨g, j * 3 + 2, none⟩ = some (.int .i64 q.2) := by rw [hbwr.cell (World.block_lt_of_cell? w _ r2)]; exact r2
      have hqI := HI.out.1 q (List.mem_of_getElem? hq)
      have hqp := HI.out.2 q (List.mem_of_getElem? hq)
      have wq : IntKind.i64.wrap (q.2 + y) = q.2 + y := by rw [IntKind.wrap_i64]; unfold InI at hqI; omega
      have b2 : (j : Int) < (L.length : Int) := Int.ofNat_lt.2 hlt
      have hw64 : IntKind.i64.wrap ((j : Int) + 1) = (j : Int) + 1 := by have := HL.out; rw [IntKind.wrap_i64]; omega
      have KAq := fun W => KA.out q W
      have KHq := Lib.hid (fun W => KH.out q W)
      unfold nodeV at KAq KHq
      obtain ⟨lq, hlq⟩ : ∃ lq : Int, ((q.1 / 18446744073709551616 : Nat) : Int) = lq := ⟨_, rfl⟩
      obtain ⟨pq, hpq⟩ : ∃ pq : Int, ((q.1 % 18446744073709551616 : Nat) : Int) = pq := ⟨_, rfl⟩
      obtain ⟨cq, hcq⟩ : ∃ cq : Int, q.2 = cq := ⟨_, rfl⟩
      rw [hlq] at x0 KAq KHq
      rw [hpq] at x1 KAq KHq
      rw [hcq] at x2 wq KAq KHq hqp
      obtain ⟨qc, hqc⟩ : ∃ qc, q.1 = qc := ⟨_, rfl⟩
      rw [hqc] at KAq KHq
      obtain ⟨G, hG⟩ : ∃ G, wr.heap.size = G := ⟨_, rfl⟩
      obtain ⟨W1, hW1⟩ : ∃ W1, wr.alloc (.cells #[.int .i64 lq, .int .u64 pq, .int .i64 cq] 69) = W1 := ⟨_, rfl⟩
      have hyb : W1.heap[G]? = some (.cells #[.int .i64 lq, .int .u64 pq, .int .i64 cq] 69 (0, 0)) := by rw [← hW1, ← hG]; exact heap_alloc_new _ _
      have hb1 : Below wr.heap.size wr W1 := by rw [← hW1]; exact (Below.refl _ _).alloc (Nat.le_refl _) _
      have hBw : B < wr.heap.size := by have := ho4.size; have := HW.out.2.2; omega
      have hxb1 : W1.heap[B]? = some (.cells #[.int .i64 lx, .int .u64 px, .int .i64 y] 69 (0, 0)) := by rw [hb1.block B hBw, ho4.block B (by omega)]; exact HW.out.2.1
      have f0 : W1.cell? ⟨G, 0, none⟩ = some (.int .i64 lq) := by rw [cell_of_row _ _ _ _ _ _ hyb]; rfl
      have f1 : W1.cell? ⟨G, 1, none⟩ = some (.int .u64 pq) := by rw [cell_of_row _ _ _ _ _ _ hyb]; rfl
      have f2 : W1.cell? ⟨G, 2, none⟩ = some (.int .i64 cq) := by rw [cell_of_row _ _ _ _ _ _ hyb]; rfl
      have e0 : W1.cell? ⟨B, 0, none⟩ = some (.int .i64 lx) := by rw [cell_of_row _ _ _ _ _ _ hxb1]; rfl
      have e1 : W1.cell? ⟨B, 1, none⟩ = some (.int .u64 px) := by rw [cell_of_row _ _ _ _ _ _ hxb1]; rfl
      have e2 : W1.cell? ⟨B, 2, none⟩ = some (.int .i64 y) := by rw [cell_of_row _ _ _ _ _ _ hxb1]; rfl
      have KA1 := KAq W1
      have HST := Lib.hid (And.intro ho1 (And.intro ho2 (And.intro (ho3.below hb1) (ho4.trans (hb1.mono (by have := ho4.size; have := HW.out.2.2; omega))))))
      have HGB := Lib.hid (show (∀ b, v.ownBlock = some b → b < G) ∧ B < G ∧ B + 1 ≤ G ∧ W1.heap.size = G + 1 from ⟨fun b hb => by have := (ho3.lt b hb).2; omega, by omega, by omega, by rw [← hW1]; simp; omega⟩)
      have HBX := Lib.hid (And.intro hyb hxb1)
      have HQ := Lib.hid (And.intro hq (And.intro hlq (And.intro hpq (And.intro hcq hqc))))
      obtain ⟨va, vc, rfl, _⟩ := ho3.form
      clear hv hg r0 r1 r2 ho1 ho2 ho3 ho4 hbwr hqI hlq hpq hcq hqc hyb hb1 hBw hxb1 hq KAq HS
      go_wp2_with fail
      (try rw [hG])
      (try rw [hW1])
      refine KA1.mono ?_
      rintro e w2 ⟨rfl, hb2⟩
      have hyb2 : w2.heap[G]? = some (.cells #[.int .i64 lq, .int .u64 pq, .int .i64 cq] 69 (0, 0)) := (hb2.block G (lt_of_heap HBX.out.1)).trans HBX.out.1
      have hxb2 : w2.heap[B]? = some (.cells #[.int .i64 lx, .int .u64 px, .int .i64 y] 69 (0, 0)) := (hb2.block B (lt_of_heap HBX.out.2)).trans HBX.out.2
      have hr2 := HST.out.2.2.1.below hb2
      have hbB2 : Below (w.heap.size + 1) W0 w2 := HST.out.2.2.2.trans (hb2.mono (by have := HGB.out; omega))
      have HB2 := Lib.hid (And.intro hyb2 (And.intro hxb2 (And.intro hr2 hbB2)))
      clear KA1 f0 f1 f2 e0 e1 e2 hyb2 hxb2 hr2 hbB2 hb2
      by_cases hcq : c = qc
      · have hdec : decide (c = qc) = true := decide_eq_true hcq
        rw [hdec]
        have f2 : w2.cell? ⟨G, 2, none⟩ = some (.int .i64 cq) := by rw [cell_of_row _ _ _ _ _ _ HB2.out.1]; rfl
        have e2 : w2.cell? ⟨B, 2, none⟩ = some (.int .i64 y) := by rw [cell_of_row _ _ _ _ _ _ HB2.out.2.1]; rfl
        have z2 := free_of_row HB2.out.1 2
        obtain ⟨W3, hW3⟩ : ∃ W3, w2.setCell ⟨G, 2, none⟩ (.int .i64 (cq + y)) = W3 := ⟨_, rfl⟩
        have hyb3 : W3.heap[G]? = some (.cells #[.int .i64 lq, .int .u64 pq, .int .i64 (cq + y)] 69 (0, 0)) := by rw [← hW3]; exact heap_set HB2.out.1 _
        have g0 : W3.cell? ⟨G, 0, none⟩ = some (.int .i64 lq) := by rw [cell_of_row _ _ _ _ _ _ hyb3]; rfl
        have g1 : W3.cell? ⟨G, 1, none⟩ = some (.int .u64 pq) := by rw [cell_of_row _ _ _ _ _ _ hyb3]; rfl
        have g2 : W3.cell? ⟨G, 2, none⟩ = some (.int .i64 (cq + y)) := by rw [cell_of_row _ _ _ _ _ _ hyb3]; rfl
        have hr3 : RowQ (w.heap.size + 1) (.slice va out.length vc) out W3 := HB2.out.2.2.1.of_block fun b hb => by rw [← hW3]; exact Below.heap_setCell _ ⟨G, 2, none⟩ _ b (fun e => by have := HGB.out.1 b hb; simp at e; omega)
        have hb3 : Below (w.heap.size + 1) W0 W3 := by rw [← hW3]; exact HB2.out.2.2.2.setCell (by show w.heap.size + 1 ≤ G; have := HGB.out; omega) _
        have hfs : ∀ o, addS c y (out, dn) q = (out ++ o, true) ↔ (if 0 < cq + y then [(q.1, cq + y)] else []) = o := fun o => by
          unfold addS
          rw [if_pos (HQ.out.2.2.2.2.trans hcq.symm), HQ.out.2.2.2.1]
          simp
        by_cases hpz : 0 < cq + y
        · have t0 : decide ((0 : Int) < cq + y) = true := decide_eq_true hpz
          obtain ⟨v4, w4, r4, o4⟩ := hr3.push (Nat.le_trans (by have := hb3.size; have := HW.out.2.2; omega) (Nat.le_refl _)) (q.1, cq + y) (by have := HST.out.2.1; have := HL.out; omega)
          rw [show (((q.1, cq + y) : Nat × Int).1 / 18446744073709551616 : Nat) = q.1 / 18446744073709551616 from rfl, show (((q.1, cq + y) : Nat × Int).1 % 18446744073709551616 : Nat) = q.1 % 18446744073709551616 from rfl, HQ.out.2.1, HQ.out.2.2.1] at r4
          have HN : Hid (AddSt w W0 L c y (j + 1) v4 true w4) := Lib.hid (AddSt.step HQ.out.1 HST.out.1 ((hfs _).2 (if_pos hpz)) HST.out.2.1 o4.out.1 (hb3.trans o4.out.2.1))
          have HOL := Lib.hid o4.out.1.form
          generalize out.length = ol at *
          clear hdec hpz hyb3 hr3 hb3 hfs o4 hcq
          go_wp2_with (at_builtin; refine wpList_append_run rfl _ _ 39 rfl rfl rfl (r4.out _) ?_)
          go_roundw
          case rel => exact ⟨v4, true, j + 1, rfl, rfl, by go_num, hlt, HN⟩
          case measure => simp [intOf]; omega
        · have t0 : decide ((0 : Int) < cq + y) = false := decide_eq_false hpz
          have HN : Hid (AddSt w W0 L c y (j + 1) (.slice va out.length vc) true W3) := Lib.hid (AddSt.step (out' := out) HQ.out.1 HST.out.1 (by have := (hfs []).2 (if_neg hpz); simpa using this) HST.out.2.1 hr3 hb3)
          generalize out.length = ol at *
          clear hdec hpz hyb3 hr3 hb3 hfs hcq
          go_wp2_with fail
          go_roundw
          case rel => exact ⟨_, true, j + 1, rfl, rfl, by go_num, hlt, HN⟩
          case measure => simp [intOf]; omega
      · have hdec : decide (c = qc) = false := decide_eq_false hcq
        rw [hdec]
        have hne : ¬ q.1 = c := fun e => hcq (e.symm.trans HQ.out.2.2.2.2)
        have HNE := Lib.hid hne
        have hp0 : decide ((0 : Int) < cq) = true := decide_eq_true (by omega)
        have hif : (if 0 < q.2 then [q] else []) = [q] := if_pos (by rw [HQ.out.2.2.2.1]; omega)
        have HIF := Lib.hid hif
        have HQ1 : Hid (∀ (P : World → Prop), True) := Lib.hid (fun _ => trivial)
        have KT : Hid (∀ (V : World) (vv : Value) (out1 : DL), Below (w.heap.size + 1) W0 V → RowQ (w.heap.size + 1) vv out1 V → out1.length ≤ 300000 → ∃ v4 w4, (∀ ty, (Builtin.append_ #[39, 39] ty #[vv, .slice (some ⟨V.heap.size, 0, none⟩) 1 1]).run Try.prog (V.alloc (.cells #[.int .i64 lq, .int .u64 pq, .int .i64 cq] 69)) = .ok v4 w4) ∧ RowQ (w.heap.size + 1) v4 (out1 ++ [q]) w4 ∧ Below (w.heap.size + 1) W0 w4) := Lib.hid fun V vv out1 hbV hrV hlV => by
          obtain ⟨v4, w4, r4, o4⟩ := hrV.push (by have := hbV.size; have := HW.out.2.2; omega) q (by omega)
          rw [HQ.out.2.1, HQ.out.2.2.1, HQ.out.2.2.2.1] at r4
          exact ⟨v4, w4, r4.out, o4.out.1, hbV.trans o4.out.2.1⟩
        clear hcq hdec hne hif HQ1
        cases dn
        · have KH2 := KHq.out w2
          have f0 : w2.cell? ⟨G, 0, none⟩ = some (.int .i64 lq) := by rw [cell_of_row _ _ _ _ _ _ HB2.out.1]; rfl
          have f1 : w2.cell? ⟨G, 1, none⟩ = some (.int .u64 pq) := by rw [cell_of_row _ _ _ _ _ _ HB2.out.1]; rfl
          have f2 : w2.cell? ⟨G, 2, none⟩ = some (.int .i64 cq) := by rw [cell_of_row _ _ _ _ _ _ HB2.out.1]; rfl
          have e0 : w2.cell? ⟨B, 0, none⟩ = some (.int .i64 lx) := by rw [cell_of_row _ _ _ _ _ _ HB2.out.2.1]; rfl
          have e1 : w2.cell? ⟨B, 1, none⟩ = some (.int .u64 px) := by rw [cell_of_row _ _ _ _ _ _ HB2.out.2.1]; rfl
          have e2 : w2.cell? ⟨B, 2, none⟩ = some (.int .i64 y) := by rw [cell_of_row _ _ _ _ _ _ HB2.out.2.1]; rfl
          go_wp2_with fail
          refine KH2.mono ?_
          rintro e w3 ⟨rfl, hb3⟩
          have hyb3 : w3.heap[G]? = some (.cells #[.int .i64 lq, .int .u64 pq, .int .i64 cq] 69 (0, 0)) := (hb3.block G (lt_of_heap HB2.out.1)).trans HB2.out.1
          have hxb3 : w3.heap[B]? = some (.cells #[.int .i64 lx, .int .u64 px, .int .i64 y] 69 (0, 0)) := (hb3.block B (lt_of_heap HB2.out.2.1)).trans HB2.out.2.1
          have hr3 := HB2.out.2.2.1.below hb3
          have hbB3 : Below (w.heap.size + 1) W0 w3 := HB2.out.2.2.2.trans (hb3.mono (by have := HB2.out.2.2.2.size; have := HW.out.2.2; omega))
          have hGw3 : G < w3.heap.size := lt_of_heap hyb3
          clear KH2 f0 f1 f2 e0 e1 e2
          by_cases hlt3 : c < qc
          · have hdec : decide (c < qc) = true := decide_eq_true hlt3
            rw [hdec]
            have e0 : w3.cell? ⟨B, 0, none⟩ = some (.int .i64 lx) := by rw [cell_of_row _ _ _ _ _ _ hxb3]; rfl
            have e1 : w3.cell? ⟨B, 1, none⟩ = some (.int .u64 px) := by rw [cell_of_row _ _ _ _ _ _ hxb3]; rfl
            have e2 : w3.cell? ⟨B, 2, none⟩ = some (.int .i64 y) := by rw [cell_of_row _ _ _ _ _ _ hxb3]; rfl
            obtain ⟨v4, w4, r4, o4⟩ := hr3.push (by have := hbB3.size; have := HW.out.2.2; omega) (c, y) (by have := HST.out.2.1; have := HL.out; omega)
            rw [show (((c, y) : Nat × Int).1 / 18446744073709551616 : Nat) = c / 18446744073709551616 from rfl, show (((c, y) : Nat × Int).1 % 18446744073709551616 : Nat) = c % 18446744073709551616 from rfl, HX.out.2.1, HX.out.2.2.1] at r4
            have hyb4 : w4.heap[G]? = some (.cells #[.int .i64 lq, .int .u64 pq, .int .i64 cq] 69 (0, 0)) := (o4.out.2.2.1 G hGw3 (fun e => by have := HGB.out.1 G e; omega)).trans hyb3
            have g0 : w4.cell? ⟨G, 0, none⟩ = some (.int .i64 lq) := by rw [cell_of_row _ _ _ _ _ _ hyb4]; rfl
            have g1 : w4.cell? ⟨G, 1, none⟩ = some (.int .u64 pq) := by rw [cell_of_row _ _ _ _ _ _ hyb4]; rfl
            have g2 : w4.cell? ⟨G, 2, none⟩ = some (.int .i64 cq) := by rw [cell_of_row _ _ _ _ _ _ hyb4]; rfl
            obtain ⟨v5, w5, r5, o5, ob5⟩ := KT.out w4 v4 (out ++ [(c, y)]) (hbB3.trans o4.out.2.1) o4.out.1 (by have := HST.out.2.1; have := HL.out; rw [List.length_append]; simp; omega)
            have HN : Hid (AddSt w W0 L c y (j + 1) v5 true w5) := Lib.hid (AddSt.step HQ.out.1 HST.out.1 (by
              unfold addS
              rw [if_neg HNE.out, if_pos ⟨rfl, by rw [HQ.out.2.2.2.2]; exact hlt3⟩, HIF.out]) HST.out.2.1 o5 ob5)
            have R5 := Lib.hid r5
            obtain ⟨va4, vc4, hv4, _⟩ := o4.out.1.form
            obtain ⟨n4, hn4⟩ : ∃ n4, (out ++ [(c, y)]).length = n4 := ⟨_, rfl⟩
            rw [hn4] at hv4
            subst hv4
            generalize out.length = ol at *
            clear hdec hlt3 hyb3 hxb3 hr3 hbB3 hGw3 o4 hyb4 o5 ob5 r5 hn4 KT
            go_wp2_with (at_builtin; first | (refine wpList_append_run rfl _ _ 39 rfl rfl rfl (r4.out _) ?_; clear r4) | (refine wpList_append_run rfl _ _ 39 rfl rfl rfl (R5.out _) ?_))
            go_roundw
            case rel => exact ⟨v5, true, j + 1, rfl, rfl, by go_num, hlt, HN⟩
            case measure => simp [intOf]; omega
          · have hdec : decide (c < qc) = false := decide_eq_false hlt3
            rw [hdec]
            have g0 : w3.cell? ⟨G, 0, none⟩ = some (.int .i64 lq) := by rw [cell_of_row _ _ _ _ _ _ hyb3]; rfl
            have g1 : w3.cell? ⟨G, 1, none⟩ = some (.int .u64 pq) := by rw [cell_of_row _ _ _ _ _ _ hyb3]; rfl
            have g2 : w3.cell? ⟨G, 2, none⟩ = some (.int .i64 cq) := by rw [cell_of_row _ _ _ _ _ _ hyb3]; rfl
            obtain ⟨v5, w5, r5, o5, ob5⟩ := KT.out w3 _ out hbB3 hr3 (by have := HST.out.2.1; have := HL.out; omega)
            have HN : Hid (AddSt w W0 L c y (j + 1) v5 false w5) := Lib.hid (AddSt.step HQ.out.1 HST.out.1 (by
              unfold addS
              rw [if_neg HNE.out, if_neg (fun e => hlt3 (by rw [← HQ.out.2.2.2.2]; exact e.2)), HIF.out]) HST.out.2.1 o5 ob5)
            have R5 := Lib.hid r5
            generalize out.length = ol at *
            clear hdec hlt3 hyb3 hxb3 hr3 hbB3 hGw3 o5 ob5 r5 KT
            go_wp2_with (at_builtin; refine wpList_append_run rfl _ _ 39 rfl rfl rfl (R5.out _) ?_)
            go_roundw
            case rel => exact ⟨v5, false, j + 1, rfl, rfl, by go_num, hlt, HN⟩
            case measure => simp [intOf]; omega
        · have g0 : w2.cell? ⟨G, 0, none⟩ = some (.int .i64 lq) := by rw [cell_of_row _ _ _ _ _ _ HB2.out.1]; rfl
          have g1 : w2.cell? ⟨G, 1, none⟩ = some (.int .u64 pq) := by rw [cell_of_row _ _ _ _ _ _ HB2.out.1]; rfl
          have g2 : w2.cell? ⟨G, 2, none⟩ = some (.int .i64 cq) := by rw [cell_of_row _ _ _ _ _ _ HB2.out.1]; rfl
          obtain ⟨v5, w5, r5, o5, ob5⟩ := KT.out w2 _ out HB2.out.2.2.2 HB2.out.2.2.1 (by have := HST.out.2.1; have := HL.out; omega)
          have HN : Hid (AddSt w W0 L c y (j + 1) v5 true w5) := Lib.hid (AddSt.step HQ.out.1 HST.out.1 (by
            unfold addS
            rw [if_neg HNE.out, if_neg (fun e => by cases e.1), HIF.out]) HST.out.2.1 o5 ob5)
          have R5 := Lib.hid r5
          generalize out.length = ol at *
          clear o5 ob5 r5 KT
          go_wp2_with (at_builtin; refine wpList_append_run rfl _ _ 39 rfl rfl rfl (R5.out _) ?_)
          go_roundw
          case rel => exact ⟨v5, true, j + 1, rfl, rfl, by go_num, hlt, HN⟩
          case measure => simp [intOf]; omega
    · obtain rfl : j = L.length := by omega
      obtain ⟨out, ho1, ho2, ho3, ho4⟩ := HS.out
      rw [List.take_length] at ho1
      have hbwr : Below w.heap.size w wr := HW.out.1.trans (ho4.mono (by omega))
      have hpl := lt_of_heap HH.out.head
      have hdw : wr.heap[p]? = some (.cells #[.int .i64 k, .slice a L.length cap, .int .i64 n] 41 (0, 0)) := (hbwr.block p hpl).trans HH.out.head
      cases dn
      · have hxb : wr.heap[B]? = some (.cells #[.int .i64 lx, .int .u64 px, .int .i64 y] 69 (0, 0)) := by rw [ho4.block B (by omega)]; exact HW.out.2.1
        have e0 : wr.cell? ⟨B, 0, none⟩ = some (.int .i64 lx) := by rw [cell_of_row _ _ _ _ _ _ hxb]; rfl
        have e1 : wr.cell? ⟨B, 1, none⟩ = some (.int .u64 px) := by rw [cell_of_row _ _ _ _ _ _ hxb]; rfl
        have e2 : wr.cell? ⟨B, 2, none⟩ = some (.int .i64 y) := by rw [cell_of_row _ _ _ _ _ _ hxb]; rfl
        obtain ⟨v4, w4, r4, o4⟩ := ho3.push (by have := ho4.size; have := HW.out.2.2; omega) (c, y) (by have := HL.out; omega)
        rw [show (((c, y) : Nat × Int).1 / 18446744073709551616 : Nat) = c / 18446744073709551616 from rfl, show (((c, y) : Nat × Int).1 % 18446744073709551616 : Nat) = c % 18446744073709551616 from rfl, HX.out.2.1, HX.out.2.2.1] at r4
        have hb4 : Below w.heap.size w w4 := hbwr.trans (o4.out.2.1.mono (by omega))
        have hd4 : w4.heap[p]? = some (.cells #[.int .i64 k, .slice a L.length cap, .int .i64 n] 41 (0, 0)) := (hb4.block p hpl).trans HH.out.head
        have q1 : w4.cell? ⟨p, 1, none⟩ = some (.slice a L.length cap) := by rw [cell_of_row _ _ _ _ _ _ hd4]; rfl
        have q2 := free_of_row hd4 1
        have HF : Hid (Goes T i w (Rd p k n (addR c y L)) (w4.setCell ⟨p, 1, none⟩ v4)) := Lib.hid (by
          have := rqadd_end HH.out o4.out.1 hb4
          rw [show addR c y L = out ++ [(c, y)] by unfold addR; rw [ho1]; rfl]
          exact this)
        obtain ⟨va, vc, rfl, _⟩ := ho3.form
        obtain ⟨va4, vc4, hv4, _⟩ := o4.out.1.form
        obtain ⟨n4, hn4⟩ : ∃ n4, (out ++ [(c, y)]).length = n4 := ⟨_, rfl⟩
        rw [hn4] at hv4
        subst hv4
        generalize out.length = ol at *
        clear ho1 ho2 ho3 ho4 hbwr hpl hdw hxb o4 hb4 hd4 HS hn4
        go_wp2_with (at_builtin; refine wpList_append_run rfl _ _ 39 rfl rfl rfl (r4.out _) ?_)
        go_end0
        exact ⟨rfl, HF⟩
      · have q1 : wr.cell? ⟨p, 1, none⟩ = some (.slice a L.length cap) := by rw [cell_of_row _ _ _ _ _ _ hdw]; rfl
        have q2 := free_of_row hdw 1
        have HF : Hid (Goes T i w (Rd p k n (addR c y L)) (wr.setCell ⟨p, 1, none⟩ v)) := Lib.hid (by
          have := rqadd_end HH.out ho3 hbwr
          rw [show addR c y L = out by unfold addR; rw [ho1]; rfl]
          exact this)
        obtain ⟨va, vc, rfl, _⟩ := ho3.form
        generalize out.length = ol at *
        clear ho1 ho2 ho3 ho4 hbwr hpl hdw HS
        go_wp2_with fail
        go_end0
        exact ⟨rfl, HF⟩
end Go.Proofs.Ytahaoodklfmddaa
