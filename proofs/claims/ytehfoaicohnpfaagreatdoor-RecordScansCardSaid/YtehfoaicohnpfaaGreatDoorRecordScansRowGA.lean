/- The texts Hold2 Push RecB RecC RecD, one behind the other; each one's own comment says what it holds. -/
import Derived.Test.YtehfoaicohnpfaaGreatDoorGen
import Derived.Maps.AppendAt
import Derived.Test.YtehfoaicohnpfaaGreatDoorRecA
import Derived.Test.YtehfoaicohnpfaaGreatDoorSched3
/- Slices of structs of two cells, of texts, of columns and measures, in memory. Conditions: none. -/
set_option maxRecDepth 100000
namespace Go.Proofs.YtehfoaicohnpfaaGreatDoor
open Go.RowKit Go.Maps Go.Sort

def colC (c : ByteArray × Int) : Value × Value := (.string c.1, .int .i64 c.2)
def meaC (m : Int × ByteArray) : Value × Value := (.int .i64 m.1, .string m.2)
def strs (l : List ByteArray) : List Value := l.map Value.string
theorem strs_len (l : List ByteArray) : (strs l).length = l.length := by simp [strs]
/-- a slice of structs of two cells holds these -/
def Holds2 (w : World) (v : Value) (l : List (Value × Value)) : Prop :=
  ∃ a c, v = .slice a l.length c ∧ l.length ≤ c ∧ ((a = none ∧ l = [] ∧ c = 0) ∨ ∃ ad : Addr, a = some ad ∧ ∀ i x, l[i]? = some x →
    w.cell? (ad.add (i * 2)) = some x.1 ∧ w.cell? ⟨(ad.add (i * 2)).block, (ad.add (i * 2)).off + 1, none⟩ = some x.2)
theorem Holds2.kept {w w' : World} {v : Value} {l : List (Value × Value)} (h : Holds2 w v l) (hc : ∀ (a : Addr) u, w.cell? a = some u → w'.cell? a = some u) : Holds2 w' v l := by
  obtain ⟨a, c, h1, h2, h3⟩ := h
  refine ⟨a, c, h1, h2, ?_⟩
  rcases h3 with h3 | ⟨ad, h3, h4⟩
  · exact .inl h3
  · exact .inr ⟨ad, h3, fun i x hx => ⟨hc _ _ (h4 i x hx).1, hc _ _ (h4 i x hx).2⟩⟩
theorem Holds2.form {w : World} {v : Value} {l : List (Value × Value)} (h : Holds2 w v l) : ∃ a c, v = .slice a l.length c ∧ l.length ≤ c := by
  obtain ⟨a, c, h1, h2, _⟩ := h
  exact ⟨a, c, h1, h2⟩
theorem Holds2.at_ {w : World} {a : Option Addr} {n c : Nat} {l : List (Value × Value)} (h : Holds2 w (.slice a n c) l) {i : Nat} {x : Value × Value} (hx : l[i]? = some x) : ∃ ad : Addr, a = some ad ∧ w.cell? (ad.add (i * 2)) = some x.1 ∧ w.cell? ⟨(ad.add (i * 2)).block, (ad.add (i * 2)).off + 1, none⟩ = some x.2 := by
  obtain ⟨a', c', h1, _, h3⟩ := h
  cases h1
  rcases h3 with ⟨_, e, _⟩ | ⟨ad, h3, h4⟩
  · subst e; simp at hx
  · exact ⟨ad, h3, h4 i x hx⟩
theorem kept_of_below {w w' : World} (hb : Below w.heap.size w w') : ∀ (p : Addr) u, w.cell? p = some u → w'.cell? p = some u := fun p u hp => by rw [hb.cell (World.block_lt_of_cell? w p hp)]; exact hp
theorem Holds2.below {w w' : World} {v : Value} {l : List (Value × Value)} (h : Holds2 w v l) (hb : Below w.heap.size w w') : Holds2 w' v l := h.kept (kept_of_below hb)
/-- cells of structs of two cells -/
def fl2 (ps : List (Value × Value)) : List Value := ps.flatMap fun x => [x.1, x.2]
theorem fl2_at : ∀ (l : List (Value × Value)) (i : Nat) (x : Value × Value), l[i]? = some x → (fl2 l)[i * 2]? = some x.1 ∧ (fl2 l)[i * 2 + 1]? = some x.2
  | [], i, x, h => by simp at h
  | q :: r, 0, x, h => by
    simp at h
    subst h
    simp [fl2]
  | q :: r, i + 1, x, h => by
    have := fl2_at r i x (by simpa using h)
    unfold fl2 at this ⊢
    rw [List.flatMap_cons, show (i + 1) * 2 = i * 2 + 2 by omega, show i * 2 + 2 + 1 = (i * 2 + 1) + 2 by omega]
    exact this
/-- a new block of structs of two cells -/
theorem holds2_new (w : World) (T : TypeId) (l : List (Value × Value)) (n : Nat) (hn : l.length = n) (cs : Array Value) (hc : cs.toList = fl2 l) : Holds2 (w.alloc (.cells cs T)) (.slice (some ⟨w.heap.size, 0, none⟩) n n) l := by
  subst hn
  refine ⟨_, _, rfl, Nat.le_refl _, .inr ⟨_, rfl, fun i x hx => ?_⟩⟩
  obtain ⟨a0, a1⟩ := fl2_at l i x hx
  have hb : (w.alloc (.cells cs T)).heap[w.heap.size]? = some (.cells cs T (0, 0)) := heap_alloc_new w _
  rw [Addr.add_at, Nat.zero_add, cell_of_row _ _ _ _ _ _ hb, cell_of_row _ _ _ _ _ _ hb, ← Array.getElem?_toList, ← Array.getElem?_toList, hc]
  exact ⟨a0, a1⟩
end Go.Proofs.YtehfoaicohnpfaaGreatDoor
/- One struct more behind a row of the call's own. Conditions: none. -/
set_option maxRecDepth 100000
namespace Go.Proofs.YtehfoaicohnpfaaGreatDoor
open Go.RowKit Go.Maps Go.Sort

/-- an append of one element whose cells were laid just ahead -/
theorem push_row {P : Program} {t e : TypeId} {z : Value} {size by' : Nat} (ht : P.underlying t = some (.slice e)) (hinfo : (P.info? e).map (fun i => (i.zero, i.size, i.bytes)) = some (some z, size, by')) (hzs : z.cells.size = size) (hsz : 0 < size)
    {w : World} {B : Nat} {v : Value} {n : Nat} {xs : List Value} (hown : w.ownsRow B e size v n xs) (hB : B ≤ w.heap.size) (news : List Value) (hl : news.length = size) (h1 : ∀ u ∈ news, u.oneCell' = true) (hbytes : (n + 1) * by' ≤ 140737488355328) (hn : n + 1 ≤ 9223372036854775807) :
    ∃ v' w', (∀ ty, (Builtin.append_ #[t, t] ty #[v, .slice (some ⟨w.heap.size, 0, none⟩) 1 1]).run P (w.alloc (.cells news.toArray e)) = .ok v' w') ∧
      w'.ownsRow B e size v' (n + 1) (xs ++ news) ∧ w.grownBy w' v.ownBlock ∧ (v'.ownBlock = v.ownBlock ∨ v'.ownBlock = some (w.heap.size + 1)) := by
  obtain ⟨i, hi, hz0, hz1, hz2⟩ := info_parts hinfo
  have hown' : (w.alloc (.cells news.toArray e)).ownsRow B e size v n xs := hown.alloc _
  have hnew : ∀ j u, news[j]? = some u → (w.alloc (.cells news.toArray e)).cell? ((⟨w.heap.size, 0, none⟩ : Addr).add j) = some u := fun j u hj => by
    rw [Addr.add_at, Nat.zero_add, cell_of_row _ _ _ _ _ _ (heap_alloc_new w _)]
    simpa using hj
  obtain ⟨v', w', hr, h2, h3, _, h5⟩ := run_append_own_at (P := P) (w := w.alloc (.cells news.toArray e)) B t 0 e i z size by' ht hi hz0 hz1 hz2 hzs hsz v n xs hown' ⟨w.heap.size, 0, none⟩ 1 1 news (by omega) hnew h1 (by unfold maxLen; omega) hbytes (by simp; omega)
  refine ⟨v', w', fun ty => hr, h2, (World.grownBy_alloc w _ v.ownBlock).andThen h3 (fun j hj => .inr hj), ?_⟩
  rcases h5 with h5 | h5
  · exact .inl h5
  · exact .inr (by simpa using h5)
end Go.Proofs.YtehfoaicohnpfaaGreatDoor
/- The program's reader of records: a table. Conditions: at most 1000000 bytes. -/
set_option maxRecDepth 100000
namespace Go.Proofs.YtehfoaicohnpfaaGreatDoor
open Go.RowKit Go.Maps Go.Sort Go.Lib

theorem fl2_snoc (l : List (Value × Value)) (x : Value × Value) : fl2 (l ++ [x]) = fl2 l ++ [x.1, x.2] := by simp [fl2]
theorem info_col : (Tryz.prog.info? 48).map (fun i => (i.zero, i.size, i.bytes)) = some (some (.agg #[.string ⟨#[]⟩, .int .i64 0]), 2, 24) := by kernel_rfl
theorem info_mea : (Tryz.prog.info? 78).map (fun i => (i.zero, i.size, i.bytes)) = some (some (.agg #[.int .i64 0, .string ⟨#[]⟩]), 2, 24) := by kernel_rfl
/-- what a row is no part of -/
theorem row_ne {w : World} {B : Nat} {e : TypeId} {k : Nat} {v : Value} {n : Nat} {xs : List Value} (h : w.ownsRow B e k v n xs) {b : Nat} {cs : Array Value} {t : TypeId} {fr : Nat × Nat} (hb : w.heap[b]? = some (.cells cs t fr)) (ht : t ≠ e) : ∀ g, v.ownBlock = some g → g ≠ b := fun g hg he => by
  subst he
  rcases h.2 with ⟨e1, _⟩ | ⟨g', cap, cur, e1, _, hh, _⟩
  · rw [e1] at hg; simp [Value.ownBlock] at hg
  · rw [e1] at hg
    have : g' = g := by simpa [Value.ownBlock] using hg
    subst this
    rw [hb] at hh
    simp at hh
    exact ht hh.2.1
/-- a table that is read: its block, its columns' row, the source -/
structure TabSt (w : World) (p b : Nat) (nm : ByteArray) (cv : Value) (acc : List (ByteArray × Int)) (l : List UInt8) (wr : World) : Prop where
  els : Else (fun k => k = p) w wr
  src : SrcAt wr p l
  plt : p < w.heap.size
  ble : w.heap.size < b
  box : wr.heap[b]? = some (.cells #[.string nm, cv] 36 (0, 0))
  row : wr.ownsRow w.heap.size 48 2 cv acc.length (fl2 (acc.map colC))
  res : wr.heap[w.heap.size]? = some (.cells #[.string ⟨#[]⟩, .slice none 0 0] 36 (0, 0))
theorem TabSt.cells {w : World} {p b : Nat} {nm : ByteArray} {cv : Value} {acc : List (ByteArray × Int)} {l : List UInt8} {wr : World} (h : TabSt w p b nm cv acc l wr) : wr.cell? ⟨b, 0, none⟩ = some (.string nm) ∧ wr.cell? ⟨b, 1, none⟩ = some cv ∧ ∀ j, wr.frozen? ⟨b, j, none⟩ = false :=
  ⟨by rw [cell_of_row _ _ _ _ _ _ h.box]; rfl, by rw [cell_of_row _ _ _ _ _ _ h.box]; rfl, free_of_row h.box⟩
theorem TabSt.step {w : World} {p b : Nat} {nm : ByteArray} {cv : Value} {acc : List (ByteArray × Int)} {l l' : List UInt8} {wr w' : World} (h : TabSt w p b nm cv acc l wr) (he : Else (fun k => k = p) wr w') (hs : SrcAt w' p l') : TabSt w p b nm cv acc l' w' where
  els := h.els.trans he (fun x hx => .inl hx)
  src := hs
  plt := h.plt
  ble := h.ble
  box := (he.block b (lt_of_heap h.box) (by have := h.plt; have := h.ble; omega)).trans h.box
  row := ownsRow_of_block h.row fun g hg => he.block g (h.row.lt g hg).2 (by have := (h.row.lt g hg).1; have := h.plt; omega)
  res := (he.block _ (lt_of_heap h.res) (by have := h.plt; omega)).trans h.res
theorem TabSt.drew {w : World} {p b : Nat} {nm : ByteArray} {cv : Value} {acc : List (ByteArray × Int)} {l : List UInt8} {wr : World} (h : TabSt w p b nm cv acc l wr) : TabSt w p b nm cv acc l wr.drew :=
  ⟨h.els.drew, h.src.next (below_drew1 wr), h.plt, h.ble, h.box, h.row, h.res⟩
/-- a column more -/
theorem TabSt.push {w : World} {p b : Nat} {nm : ByteArray} {cv : Value} {acc : List (ByteArray × Int)} {l : List UInt8} {wr : World} (h : TabSt w p b nm cv acc l wr) (x : ByteArray × Int) (hl : acc.length ≤ 1000) :
    ∃ cv' X, (∀ ty, (Builtin.append_ #[34, 34] ty #[cv, .slice (some ⟨wr.heap.size, 0, none⟩) 1 1]).run Tryz.prog (wr.alloc (.cells #[.string x.1, .int .i64 x.2] 48)) = .ok cv' X) ∧ X.frozen? ⟨b, 1, none⟩ = false ∧ X.cell? ⟨b, 1, none⟩ = some cv ∧
      TabSt w p b nm cv' (acc ++ [x]) l (X.setCell ⟨b, 1, none⟩ cv') := by
  have hB : w.heap.size ≤ wr.heap.size := h.els.size
  obtain ⟨cv', X, hr, ho, hg, _⟩ := push_row (P := Tryz.prog) (t := 34) Tryz.underlying34 info_col rfl (by omega) h.row hB [.string x.1, .int .i64 x.2] rfl (fun u hu => by simp at hu; rcases hu with rfl | rfl <;> rfl) (by omega) (by omega)
  have hnb := row_ne h.row h.box (by decide)
  have hnr := row_ne h.row h.res (by decide)
  have hlt := fun g hg => (h.row.lt g hg)
  have bX : X.heap[b]? = wr.heap[b]? := hg.block b (lt_of_heap h.box) (fun e => hnb b e.symm rfl)
  have rX : X.heap[w.heap.size]? = wr.heap[w.heap.size]? := hg.block _ (lt_of_heap h.res) (fun e => hnr _ e.symm rfl)
  have ho' : X.ownsRow w.heap.size 48 2 cv' (acc ++ [x]).length (fl2 ((acc ++ [x]).map colC)) := by
    rw [List.length_append, List.map_append, List.map_cons, List.map_nil, fl2_snoc]
    exact ho
  have hnb' := row_ne ho' (bX.trans h.box) (by decide)
  have hX : Else (fun k => k = p) w X := h.els.trans (Else.of_grown hg) (fun k hk => .inr (hlt k hk).1)
  have hpl := h.plt
  have sX : SrcAt X p l := h.src.frame fun k hk => hg.block k (by omega) (fun e => by have := (hlt k e.symm).1; omega)
  refine ⟨cv', X, hr, free_of_row (bX.trans h.box) 1, by rw [cell_of_row _ _ _ _ _ _ (bX.trans h.box)]; rfl, ?_⟩
  exact {
    els := hX.setCell (p := ⟨b, 1, none⟩) (.inr (Nat.le_of_lt h.ble)) cv'
    src := sX.frame fun k hk => Below.heap_setCell _ _ _ k (by have := h.ble; show k ≠ b; omega)
    plt := h.plt
    ble := h.ble
    box := heap_set (bX.trans h.box) cv'
    row := ownsRow_of_block ho' fun g hg' => Below.heap_setCell _ _ _ g (hnb' g hg')
    res := (Below.heap_setCell _ _ _ _ (by have := h.ble; show w.heap.size ≠ b; omega)).trans (rX.trans h.res) }
theorem TabSt.rcells {w : World} {p b : Nat} {nm : ByteArray} {cv : Value} {acc : List (ByteArray × Int)} {l : List UInt8} {wr : World} (h : TabSt w p b nm cv acc l wr) : wr.cell? ⟨w.heap.size, 0, none⟩ = some (.string ⟨#[]⟩) ∧ wr.cell? ⟨w.heap.size, 1, none⟩ = some (.slice none 0 0) ∧ ∀ j, wr.frozen? ⟨w.heap.size, j, none⟩ = false :=
  ⟨by rw [cell_of_row _ _ _ _ _ _ h.res]; rfl, by rw [cell_of_row _ _ _ _ _ _ h.res]; rfl, free_of_row h.res⟩
/-- a table that was read -/
def TabOk (B : Nat) (q : ByteArray × List (ByteArray × Int)) (v : Value) (w : World) : Prop := ∃ cv, v = .agg #[.string q.1, cv] ∧ w.ownsRow B 48 2 cv q.2.length (fl2 (q.2.map colC))
/-- two cells of a block, stored into -/
theorem set_two {w : World} {r : Nat} {x y : Value} {t : TypeId} (h : w.heap[r]? = some (.cells #[x, y] t (0, 0))) (u v : Value) :
    ((w.setCell ⟨r, 0, none⟩ u).setCell ⟨r, 1, none⟩ v).cell? ⟨r, 0, none⟩ = some u ∧ ((w.setCell ⟨r, 0, none⟩ u).setCell ⟨r, 1, none⟩ v).cell? ⟨r, 1, none⟩ = some v ∧ ∀ k, k ≠ r → ((w.setCell ⟨r, 0, none⟩ u).setCell ⟨r, 1, none⟩ v).heap[k]? = w.heap[k]? := by
  have h2 := heap_set (j := 1) (heap_set (j := 0) h u) v
  exact ⟨by rw [cell_of_row _ _ _ _ _ _ h2]; rfl, by rw [cell_of_row _ _ _ _ _ _ h2]; rfl, fun k hk => (Below.heap_setCell _ _ _ k hk).trans (Below.heap_setCell _ _ _ k hk)⟩
theorem TabSt.done {w : World} {p b : Nat} {nm : ByteArray} {cv : Value} {acc : List (ByteArray × Int)} {l : List UInt8} {wr : World} (h : TabSt w p b nm cv acc l wr) :
    ((wr.setCell ⟨w.heap.size, 0, none⟩ (.string nm)).setCell ⟨w.heap.size, 1, none⟩ cv).cell? ⟨w.heap.size, 0, none⟩ = some (.string nm) ∧ ((wr.setCell ⟨w.heap.size, 0, none⟩ (.string nm)).setCell ⟨w.heap.size, 1, none⟩ cv).cell? ⟨w.heap.size, 1, none⟩ = some cv ∧
    OutS p w (some ((nm, acc), l)) (TabOk w.heap.size) (.returned (.agg #[.string nm, cv])) ((wr.setCell ⟨w.heap.size, 0, none⟩ (.string nm)).setCell ⟨w.heap.size, 1, none⟩ cv) := by
  obtain ⟨a, b', c⟩ := set_two h.res (.string nm) cv
  have hplt := h.plt
  refine ⟨a, b', OutS.yes ?_ ⟨cv, rfl, ?_⟩ (h.src.frame fun k hk => c k (by omega))⟩
  · exact (h.els.setCell (p := ⟨w.heap.size, 0, none⟩) (.inr (Nat.le_refl _)) _).setCell (p := ⟨w.heap.size, 1, none⟩) (.inr (Nat.le_refl _)) _
  · exact ownsRow_of_block h.row fun g hg => c g (row_ne h.row h.res (by decide) g hg)
end Go.Proofs.YtehfoaicohnpfaaGreatDoor
/- The program's reader of records: a table. Conditions: at most 1000000 bytes. -/
set_option maxRecDepth 100000
namespace Go.Proofs.YtehfoaicohnpfaaGreatDoor
open Go.RowKit Go.Maps Go.Sort Go.Lib

theorem below_o (w : World) (o : Obj) : Below w.heap.size w (w.alloc o) := (Below.refl _ _).alloc (Nat.le_refl _) o
theorem TabSt.start {w w1 : World} {p : Nat} {nm : ByteArray} {l : List UInt8} (hp : p < w.heap.size) (he : Else (fun k => k = p) (w.alloc (.cells #[.string ⟨#[]⟩, .slice none 0 0] 36)) w1) (hs : SrcAt w1 p l) :
    TabSt w p w1.heap.size nm (.slice none 0 0) [] l (w1.alloc (.cells #[.string nm, .slice none 0 0] 36)) := by
  have h1 := he.size
  rw [show (w.alloc (.cells #[.string ⟨#[]⟩, .slice none 0 0] 36)).heap.size = w.heap.size + 1 by simp] at h1
  have hb := below_o w1 (.cells #[.string nm, .slice none 0 0] 36)
  exact {
    els := (((Else.refl _ w).alloc _).trans he (fun x hx => .inl hx)).low hb
    src := hs.next hb
    plt := hp
    ble := by omega
    box := heap_alloc_new w1 _
    row := World.ownsRow_nil _ _ _ _
    res := (hb.block _ (by omega)).trans ((he.block _ (by simp) (by omega)).trans (heap_alloc_new w _)) }
/-- how far the columns are read -/
structure ColRel (nm : ByteArray) (n : Nat) (TR : Option ((ByteArray × List (ByteArray × Int)) × List UInt8)) (i : Nat) (acc : List (ByteArray × Int)) (l : List UInt8) : Prop where
  len : acc.length = i
  le : l.length ≤ 1000000
  eq : ((pMany pCol (n - i) l).bind fun s => some ((nm, acc ++ s.1), s.2)) = TR
set_option maxHeartbeats 3200000 in
theorem table_at {w : World} {p : Nat} {l : List UInt8} (h : SrcAt w p l) (hl : l.length ≤ 1000000) :
    Calls Tryz.prog 55 #[.pointer (some ⟨p, 0, none⟩)] w (OutS p w (pTab l) (TabOk w.heap.size)) := by
  have hplt := h.lt
  obtain ⟨TR, hTR⟩ : ∃ TR, pTab l = TR := ⟨_, rfl⟩
  rw [hTR]
  obtain ⟨W0, hW0⟩ : ∃ W0, w.alloc (.cells #[.string ⟨#[]⟩, .slice none 0 0] 36) = W0 := ⟨_, rfl⟩
  have hb0 : Below w.heap.size w W0 := by rw [← hW0]; exact below_o _ _
  have E0 : Else (fun k => k = p) w W0 := Else.of_below hb0
  rcases txt_cases (h.next hb0) hl with ⟨e, K⟩ | ⟨nm, l1, e, hl1, _, K⟩
  · obtain rfl : TR = none := by rw [← hTR]; unfold pTab; rw [e]; rfl
    have HE := Lib.hid E0
    clear h hl e hTR hb0 E0
    go_enter Tryz.func55, Tryz.ntmps55
    go_wp2_with fail
    refine K.mono ?_
    rintro e w1 ⟨rfl, he⟩
    go_wp2_with fail
    simp only [bodyPost]
    exact ⟨trivial, OutS.no (HE.out.trans he (fun x hx => .inl hx))⟩
  have e2 : ((pCnt 8 l1).bind fun c => (pMany pCol c.1 c.2).bind fun s => some ((nm, s.1), s.2)) = TR := by rw [← hTR]; unfold pTab; rw [e]; rfl
  have HT := Lib.hid e2
  have HST := Lib.hid (fun (w1 : World) (he : Else (fun k => k = p) W0 w1) (hs : SrcAt w1 p l1) => TabSt.start (nm := nm) hplt (by rw [hW0]; exact he) hs)
  clear h hl e e2 hTR hb0 E0 hplt
  go_enter Tryz.func55, Tryz.ntmps55
  go_wp2_with fail
  refine K.mono ?_
  rintro e w1 ⟨rfl, hs, he⟩
  have ST := HST.out w1 he hs
  obtain ⟨b, hb⟩ : ∃ b, w1.heap.size = b := ⟨_, rfl⟩
  rw [hb] at ST
  clear hs he HST K hW0
  go_wp2_with fail
  (try rw [hb])
  obtain ⟨W1, hW1⟩ : ∃ W1, w1.alloc (.cells #[.string nm, .slice none 0 0] 36) = W1 := ⟨_, rfl⟩
  rw [hW1] at ST ⊢
  rcases cnt_cases ST.src hl1 8 with ⟨e, K⟩ | ⟨n, l2, e, hl2, hn8, K⟩
  · obtain rfl : TR = none := by rw [← HT.out, e]; rfl
    have HE := Lib.hid ST.els
    clear ST e hl1 HT
    refine K.mono ?_
    rintro e w2 ⟨rfl, he2⟩
    go_wp2_with fail
    simp only [bodyPost]
    exact ⟨trivial, OutS.no (HE.out.trans he2 (fun x hx => .inl hx))⟩
  have hR : ((pMany pCol n l2).bind fun s => some ((nm, s.1), s.2)) = TR := by rw [← HT.out, e]; rfl
  have HST := Lib.hid (fun (w2 : World) (he : Else (fun k => k = p) W1 w2) (hs : SrcAt w2 p l2) => ST.step he hs)
  have HR := Lib.hid hR
  have HL2 := Lib.hid hl2
  have HN := Lib.hid hn8
  clear ST e hl1 hR hl2 hn8 HT
  refine K.mono ?_
  rintro e w2 ⟨rfl, hs, he⟩
  have ST := Lib.hid (HST.out w2 he hs)
  clear hs he HST K hW1
  go_wp2_with fail
  go_loopw [9] (fun k wr => ∃ (i : Nat) (cv : Value) (acc : List (ByteArray × Int)) (l3 : List UInt8), k = .int .i64 i ∧ i ≤ n ∧ Hid (TabSt w p b nm cv acc l3 wr) ∧ Hid (ColRel nm n TR i acc l3)) (fun k _ => n - (RowKit.intOf k).toNat)
  case atStart => exact ⟨0, _, [], l2, rfl, Nat.zero_le _, ST, Lib.hid ⟨rfl, HL2.out, by simpa using HR.out⟩⟩
  case round =>
    clear ST HR HL2
    obtain ⟨i, cv, acc, l3, rfl, hin, ST, HR⟩ := hrel
    by_cases hlt : i < n
    · obtain ⟨ha, hl3, hR⟩ := HR.out
      have hw64 := wi_next hlt (Nat.le_trans HN.out (by decide))
      have b0 : (0 : Int) ≤ (i : Int) := Int.natCast_nonneg i
      have b1 : (i : Int) < (n : Int) := Int.ofNat_lt.2 hlt
      rw [sub_next hlt] at hR
      have SD := ST.out.drew
      have c1 := SD.cells.2.1
      have TS := Lib.hid (fun (w4 : World) (l' : List UInt8) (he : Else (fun k => k = p) wr.drew w4) (hs : SrcAt w4 p l') => SD.step he hs)
      have EW := Lib.hid SD.els
      rcases txt_cases SD.src hl3 with ⟨e, K⟩ | ⟨s, l4, e, hl4, _, K⟩
      · obtain rfl : TR = none := by rw [← hR]; unfold pMany pCol; rw [e]; rfl
        clear SD ST HR ha hl3 hR TS
        go_wp2_with fail
        refine wp_region_mixP (fun W => W.cell? ⟨b, 1, none⟩ = some cv) 10 [(true, 0), (true, 1), (true, 2), (true, 4), (false, 3), (false, 5), (true, 6), (false, 7), (false, 8), (true, 9), (false, 10)] ?_ (by kernel_rfl) (by decide +kernel) rfl (by decide +kernel) c1 ?_
        · intro c a d v w h
          cases d <;> exact h
        iterate 4
          refine wpMix_take (v := ?_) rfl rfl ?_ ?_
          rotate_left
          · (intro W hW; (try dsimp only at hW); go_simp) <;> with_reducible rfl
          simp only [Act.put, List.setIfInBounds_toArray, List.set_cons_zero, List.set_cons_succ]
        refine wpMix_run rfl ?_
        intro K' hK
        go_wp2_with fail
        refine K.mono ?_
        rintro e w' ⟨rfl, he⟩
        exact ⟨rfl, OutS.no (EW.out.trans he (fun x hx => .inl hx))⟩
      · have TS1 := Lib.hid (fun (w4 : World) (he : Else (fun k => k = p) wr.drew w4) (hs : SrcAt w4 p l4) => TS.out w4 l4 he hs)
        rcases Classical.em (pNum l4 = none) with e2 | e2
        · obtain rfl : TR = none := by rw [← hR]; unfold pMany pCol; rw [e]; simp only [Option.bind_some]; rw [e2]; rfl
          have KN := Lib.hid (fun (w4 : World) (h : SrcAt w4 p l4) => num_at h hl4)
          rw [e2] at KN
          clear SD ST HR ha hl3 hR TS hl4
          go_wp2_with fail
          refine wp_region_mixP (fun W => W.cell? ⟨b, 1, none⟩ = some cv) 10 [(true, 0), (true, 1), (true, 2), (true, 4), (false, 3), (false, 5), (true, 6), (false, 7), (false, 8), (true, 9), (false, 10)] ?_ (by kernel_rfl) (by decide +kernel) rfl (by decide +kernel) c1 ?_
          · intro c a d v w h
            cases d <;> exact h
          iterate 4
            refine wpMix_take (v := ?_) rfl rfl ?_ ?_
            rotate_left
            · (intro W hW; (try dsimp only at hW); go_simp) <;> with_reducible rfl
            simp only [Act.put, List.setIfInBounds_toArray, List.set_cons_zero, List.set_cons_succ]
          refine wpMix_run rfl ?_
          intro K' hK
          go_wp2_with fail
          refine K.mono ?_
          rintro e w3 ⟨rfl, hs, he⟩
          have c3 := (TS1.out w3 he hs).cells.2.1
          have K2 := KN.out w3 hs
          go_wp2_with fail
          refine hK.out _ _ (fun _ => c3) ?_
          clear hK K'
          refine wpMix_run rfl ?_
          intro K' hK
          go_wp2_with fail
          refine K2.mono ?_
          intro e w4 h4
          rcases h4.of with ⟨x, l', h1, _⟩ | ⟨_, rfl, he4⟩
          · cases h1
          · exact ⟨rfl, OutS.no ((EW.out.trans he (fun x hx => .inl hx)).trans he4 (fun x hx => .inl hx))⟩
        · obtain ⟨⟨z, l5⟩, e2⟩ := Option.ne_none_iff_exists'.1 e2
          have hl5 : l5.length ≤ 1000000 := by have := (pNum_some e2).2.2.2.2.1; omega
          have KN := Lib.hid (fun (w4 : World) (h : SrcAt w4 p l4) => num_at h hl4)
          rw [e2] at KN
          have ec : pCol l3 = some ((s, z), l5) := by unfold pCol; rw [e]; simp only [Option.bind_some]; rw [e2]; rfl
          have HR2 : Hid (ColRel nm n TR (i + 1) (acc ++ [(s, z)]) l5) := Lib.hid ⟨by rw [List.length_append, ha]; rfl, hl5, by
            rw [← hR]
            conv => rhs; unfold pMany
            rw [ec]
            simp only [Option.bind_some]
            cases pMany pCol (n - (i + 1)) l5 with
            | none => rfl
            | some q => simp⟩
          have hal : acc.length ≤ 1000 := by have := HN.out; omega
          clear SD ST HR ha hl3 hR TS hl4 ec hl5
          go_wp2_with fail
          refine wp_region_mixP (fun W => W.cell? ⟨b, 1, none⟩ = some cv) 10 [(true, 0), (true, 1), (true, 2), (true, 4), (false, 3), (false, 5), (true, 6), (false, 7), (false, 8), (true, 9), (false, 10)] ?_ (by kernel_rfl) (by decide +kernel) rfl (by decide +kernel) c1 ?_
          · intro c a d v w h
            cases d <;> exact h
          iterate 4
            refine wpMix_take (v := ?_) rfl rfl ?_ ?_
            rotate_left
            · (intro W hW; (try dsimp only at hW); go_simp) <;> with_reducible rfl
            simp only [Act.put, List.setIfInBounds_toArray, List.set_cons_zero, List.set_cons_succ]
          refine wpMix_run rfl ?_
          intro K' hK
          go_wp2_with fail
          refine K.mono ?_
          rintro e w3 ⟨rfl, hs, he⟩
          have S3 := TS1.out w3 he hs
          have c3 := S3.cells.2.1
          have K2 := KN.out w3 hs
          have HS3 := Lib.hid S3
          clear S3 KN TS1 hs he
          go_wp2_with fail
          refine hK.out _ _ (fun _ => c3) ?_
          clear hK K'
          refine wpMix_run rfl ?_
          intro K' hK
          go_wp2_with fail
          refine K2.mono ?_
          intro e w4 h4
          rcases h4.of with ⟨x, l', h1, v, rfl, h2, h3, he4⟩ | ⟨h1, _⟩
          rotate_left
          · cases h1
          cases h1
          subst h2
          have S4 := HS3.out.step he4 h3
          have c4 := S4.cells.2.1
          obtain ⟨cv', X, hr, f1, cX, S5⟩ := S4.push (s, z) hal
          obtain ⟨va, vc, hcv, _⟩ := ownsRow_form S5.row
          generalize (acc ++ [(s, z)]).length = N at hcv
          subst hcv
          have R1 := Lib.hid hr
          have HS5 := Lib.hid S5
          clear S4 S5 hr K2 he4 h3 HS3 h4 hal
          go_wp2_with fail
          refine hK.out _ _ (fun _ => c4) ?_
          clear hK K'
          refine wpMix_take (v := ?_) rfl rfl ?_ ?_
          rotate_left
          · (intro W hW; (try dsimp only at hW); go_simp) <;> with_reducible rfl
          simp only [Act.put, List.setIfInBounds_toArray, List.set_cons_zero, List.set_cons_succ]
          refine wpMix_run rfl ?_
          intro K' hK
          go_wp2_with fail
          refine hK.out _ _ (fun _ => (by rw [(below_o w4 _).cell (World.block_lt_of_cell? w4 _ c4)]; exact c4)) ?_
          clear hK K'
          refine wpMix_run rfl ?_
          intro K' hK
          go_wp2_with (at_builtin; refine wpList_append_run rfl _ _ 34 rfl rfl rfl (R1.out _) ?_)
          refine hK.out _ _ (fun _ => cX) ?_
          clear hK K'
          refine wpMix_take (v := ?_) rfl rfl ?_ ?_
          rotate_left
          · (intro W hW; (try dsimp only at hW); go_simp) <;> with_reducible rfl
          simp only [Act.put, List.setIfInBounds_toArray, List.set_cons_zero, List.set_cons_succ]
          refine wpMix_run rfl ?_
          intro K' hK
          go_wp2_with fail
          refine hK.out _ _ (fun h => absurd rfl h) ?_
          clear hK K'
          refine wpMix_nilP ?_
          go_wp2_with fail
          go_roundw
          case rel => exact ⟨i + 1, _, _, _, by go_num, hlt, HS5, HR2⟩
          case measure => simp [RowKit.intOf]; omega
    · have hei : i = n := end_eq hin hlt
      obtain ⟨_, _, hR⟩ := HR.out
      subst hei
      rw [Nat.sub_self] at hR
      obtain rfl : TR = some ((nm, acc), l3) := by rw [← hR]; simp [pMany]
      obtain ⟨va, vc, hcv, _⟩ := ownsRow_form ST.out.row
      generalize acc.length = N at hcv
      subst hcv
      obtain ⟨z0, z1, zf⟩ := ST.out.cells
      have FIN := Lib.hid ST.out.done
      obtain ⟨r0, r1, rf⟩ := ST.out.rcells
      clear hR HR ST
      go_wp2_with fail
      have hr0 := FIN.out.1
      have hr1 := FIN.out.2.1
      refine bodyPost_ret (v := .agg #[.string nm, .slice va N vc]) ?_ rfl FIN.out.2.2
      simp [results, Tryz.results55, go_sem, hr0, hr1]
end Go.Proofs.YtehfoaicohnpfaaGreatDoor
/- The program's reader of records: a rollup. Conditions: at most 1000000 bytes. -/
set_option maxRecDepth 100000
namespace Go.Proofs.YtehfoaicohnpfaaGreatDoor
open Go.RowKit Go.Maps Go.Sort Go.Lib

theorem info_str : (Tryz.prog.info? 9).map (fun i => (i.zero, i.size, i.bytes)) = some (some (.string ⟨#[]⟩), 1, 16) := by kernel_rfl
theorem strs_snoc (l : List ByteArray) (x : ByteArray) : strs (l ++ [x]) = strs l ++ [.string x] := by simp [strs]
/-- rows of unlike types share no block -/
theorem rows_ne {w : World} {B B' : Nat} {e e' : TypeId} {k k' : Nat} {v v' : Value} {n n' : Nat} {xs xs' : List Value} (h : w.ownsRow B e k v n xs) (h' : w.ownsRow B' e' k' v' n' xs') (ht : e ≠ e') : ∀ g, v.ownBlock = some g → ∀ g', v'.ownBlock = some g' → g ≠ g' := fun g hg g' hg' => by
  rcases h'.2 with ⟨e1, _⟩ | ⟨g2, cap, cur, e1, _, hh, _⟩
  · rw [e1] at hg'; simp [Value.ownBlock] at hg'
  · rw [e1] at hg'
    have : g2 = g' := by simpa [Value.ownBlock] using hg'
    subst this
    exact row_ne h hh (Ne.symm ht) g hg
/-- a rollup that is read -/
structure RolSt (w : World) (p b : Nat) (rn rt : ByteArray) (dv mv : Value) (D : List ByteArray) (M : List (Int × ByteArray)) (l : List UInt8) (wr : World) : Prop where
  els : Else (fun k => k = p) w wr
  src : SrcAt wr p l
  plt : p < w.heap.size
  ble : w.heap.size < b
  box : wr.heap[b]? = some (.cells #[.string rn, .string rt, dv, mv] 40 (0, 0))
  drow : wr.ownsRow w.heap.size 9 1 dv D.length (strs D)
  mrow : wr.ownsRow w.heap.size 78 2 mv M.length (fl2 (M.map meaC))
  res : wr.heap[w.heap.size]? = some (.cells #[.string ⟨#[]⟩, .string ⟨#[]⟩, .slice none 0 0, .slice none 0 0] 40 (0, 0))
section
variable {w : World} {p b : Nat} {rn rt : ByteArray} {dv mv : Value} {D : List ByteArray} {M : List (Int × ByteArray)} {l : List UInt8} {wr : World}
theorem RolSt.cells (h : RolSt w p b rn rt dv mv D M l wr) : wr.cell? ⟨b, 0, none⟩ = some (.string rn) ∧ wr.cell? ⟨b, 1, none⟩ = some (.string rt) ∧ wr.cell? ⟨b, 2, none⟩ = some dv ∧ wr.cell? ⟨b, 3, none⟩ = some mv ∧ ∀ j, wr.frozen? ⟨b, j, none⟩ = false :=
  ⟨by rw [cell_of_row _ _ _ _ _ _ h.box]; rfl, by rw [cell_of_row _ _ _ _ _ _ h.box]; rfl, by rw [cell_of_row _ _ _ _ _ _ h.box]; rfl, by rw [cell_of_row _ _ _ _ _ _ h.box]; rfl, free_of_row h.box⟩
theorem RolSt.rcells (h : RolSt w p b rn rt dv mv D M l wr) : wr.cell? ⟨w.heap.size, 0, none⟩ = some (.string ⟨#[]⟩) ∧ wr.cell? ⟨w.heap.size, 1, none⟩ = some (.string ⟨#[]⟩) ∧ wr.cell? ⟨w.heap.size, 2, none⟩ = some (.slice none 0 0) ∧ wr.cell? ⟨w.heap.size, 3, none⟩ = some (.slice none 0 0) ∧ ∀ j, wr.frozen? ⟨w.heap.size, j, none⟩ = false :=
  ⟨by rw [cell_of_row _ _ _ _ _ _ h.res]; rfl, by rw [cell_of_row _ _ _ _ _ _ h.res]; rfl, by rw [cell_of_row _ _ _ _ _ _ h.res]; rfl, by rw [cell_of_row _ _ _ _ _ _ h.res]; rfl, free_of_row h.res⟩
theorem RolSt.step {l' : List UInt8} {w' : World} (h : RolSt w p b rn rt dv mv D M l wr) (he : Else (fun k => k = p) wr w') (hs : SrcAt w' p l') : RolSt w p b rn rt dv mv D M l' w' where
  els := h.els.trans he (fun x hx => .inl hx)
  src := hs
  plt := h.plt
  ble := h.ble
  box := (he.block b (lt_of_heap h.box) (by have := h.plt; have := h.ble; omega)).trans h.box
  drow := ownsRow_of_block h.drow fun g hg => he.block g (h.drow.lt g hg).2 (by have := (h.drow.lt g hg).1; have := h.plt; omega)
  mrow := ownsRow_of_block h.mrow fun g hg => he.block g (h.mrow.lt g hg).2 (by have := (h.mrow.lt g hg).1; have := h.plt; omega)
  res := (he.block _ (lt_of_heap h.res) (by have := h.plt; omega)).trans h.res
theorem RolSt.drew (h : RolSt w p b rn rt dv mv D M l wr) : RolSt w p b rn rt dv mv D M l wr.drew :=
  ⟨h.els.drew, h.src.next (below_drew1 wr), h.plt, h.ble, h.box, h.drow, h.mrow, h.res⟩
theorem RolSt.start {w1 : World} (hp : p < w.heap.size) (he : Else (fun k => k = p) (w.alloc (.cells #[.string ⟨#[]⟩, .string ⟨#[]⟩, .slice none 0 0, .slice none 0 0] 40)) w1) (hs : SrcAt w1 p l) :
    RolSt w p w1.heap.size rn rt (.slice none 0 0) (.slice none 0 0) [] [] l (w1.alloc (.cells #[.string rn, .string rt, .slice none 0 0, .slice none 0 0] 40)) := by
  have h1 := he.size
  rw [show (w.alloc (.cells #[.string ⟨#[]⟩, .string ⟨#[]⟩, .slice none 0 0, .slice none 0 0] 40)).heap.size = w.heap.size + 1 by simp] at h1
  have hb := below_o w1 (.cells #[.string rn, .string rt, .slice none 0 0, .slice none 0 0] 40)
  exact {
    els := (((Else.refl _ w).alloc _).trans he (fun x hx => .inl hx)).low hb
    src := hs.next hb
    plt := hp
    ble := by omega
    box := heap_alloc_new w1 _
    drow := World.ownsRow_nil _ _ _ _
    mrow := World.ownsRow_nil _ _ _ _
    res := (hb.block _ (by omega)).trans ((he.block _ (by simp) (by omega)).trans (heap_alloc_new w _)) }
/-- a dim more -/
theorem RolSt.pushD (h : RolSt w p b rn rt dv mv D M l wr) (x : ByteArray) (hl : D.length ≤ 1000) :
    ∃ cv' X, (∀ ty, (Builtin.append_ #[37, 37] ty #[dv, .slice (some ⟨wr.heap.size, 0, none⟩) 1 1]).run Tryz.prog (wr.alloc (.cells #[.string x] 9)) = .ok cv' X) ∧ X.frozen? ⟨b, 2, none⟩ = false ∧ X.cell? ⟨b, 2, none⟩ = some dv ∧
      RolSt w p b rn rt cv' mv (D ++ [x]) M l (X.setCell ⟨b, 2, none⟩ cv') := by
  have hB : w.heap.size ≤ wr.heap.size := h.els.size
  obtain ⟨cv', X, hr, ho, hg, _⟩ := push_row (P := Tryz.prog) (t := 37) Tryz.underlying37 info_str rfl (by omega) h.drow hB [.string x] rfl (fun u hu => by simp at hu; subst hu; rfl) (by omega) (by omega)
  have hnb := row_ne h.drow h.box (by decide)
  have hnr := row_ne h.drow h.res (by decide)
  have hnm := rows_ne h.drow h.mrow (by decide)
  have hlt := fun g hg => (h.drow.lt g hg)
  have bX : X.heap[b]? = wr.heap[b]? := hg.block b (lt_of_heap h.box) (fun e => hnb b e.symm rfl)
  have rX : X.heap[w.heap.size]? = wr.heap[w.heap.size]? := hg.block _ (lt_of_heap h.res) (fun e => hnr _ e.symm rfl)
  have ho' : X.ownsRow w.heap.size 9 1 cv' (D ++ [x]).length (strs (D ++ [x])) := by
    rw [List.length_append, strs_snoc]
    exact ho
  have hm' : X.ownsRow w.heap.size 78 2 mv M.length (fl2 (M.map meaC)) := ownsRow_of_block h.mrow fun g hg' => hg.block g (h.mrow.lt g hg').2 (fun e => hnm g e.symm g hg' rfl)
  have hnb' := row_ne ho' (bX.trans h.box) (by decide)
  have hnm' := row_ne hm' (bX.trans h.box) (by decide)
  have hX : Else (fun k => k = p) w X := h.els.trans (Else.of_grown hg) (fun k hk => .inr (hlt k hk).1)
  have hpl := h.plt
  have sX : SrcAt X p l := h.src.frame fun k hk => hg.block k (by omega) (fun e => by have := (hlt k e.symm).1; omega)
  refine ⟨cv', X, hr, free_of_row (bX.trans h.box) 2, by rw [cell_of_row _ _ _ _ _ _ (bX.trans h.box)]; rfl, ?_⟩
  exact {
    els := hX.setCell (p := ⟨b, 2, none⟩) (.inr (Nat.le_of_lt h.ble)) cv'
    src := sX.frame fun k hk => Below.heap_setCell _ _ _ k (by have := h.ble; show k ≠ b; omega)
    plt := h.plt
    ble := h.ble
    box := heap_set (bX.trans h.box) cv'
    drow := ownsRow_of_block ho' fun g hg' => Below.heap_setCell _ _ _ g (hnb' g hg')
    mrow := ownsRow_of_block hm' fun g hg' => Below.heap_setCell _ _ _ g (hnm' g hg')
    res := (Below.heap_setCell _ _ _ _ (by have := h.ble; show w.heap.size ≠ b; omega)).trans (rX.trans h.res) }
/-- a measure more -/
theorem RolSt.pushM (h : RolSt w p b rn rt dv mv D M l wr) (x : Int × ByteArray) (hl : M.length ≤ 1000) :
    ∃ cv' X, (∀ ty, (Builtin.append_ #[38, 38] ty #[mv, .slice (some ⟨wr.heap.size, 0, none⟩) 1 1]).run Tryz.prog (wr.alloc (.cells #[.int .i64 x.1, .string x.2] 78)) = .ok cv' X) ∧ X.frozen? ⟨b, 3, none⟩ = false ∧ X.cell? ⟨b, 3, none⟩ = some mv ∧
      RolSt w p b rn rt dv cv' D (M ++ [x]) l (X.setCell ⟨b, 3, none⟩ cv') := by
  have hB : w.heap.size ≤ wr.heap.size := h.els.size
  obtain ⟨cv', X, hr, ho, hg, _⟩ := push_row (P := Tryz.prog) (t := 38) Tryz.underlying38 info_mea rfl (by omega) h.mrow hB [.int .i64 x.1, .string x.2] rfl (fun u hu => by simp at hu; rcases hu with rfl | rfl <;> rfl) (by omega) (by omega)
  have hnb := row_ne h.mrow h.box (by decide)
  have hnr := row_ne h.mrow h.res (by decide)
  have hnm := rows_ne h.mrow h.drow (by decide)
  have hlt := fun g hg => (h.mrow.lt g hg)
  have bX : X.heap[b]? = wr.heap[b]? := hg.block b (lt_of_heap h.box) (fun e => hnb b e.symm rfl)
  have rX : X.heap[w.heap.size]? = wr.heap[w.heap.size]? := hg.block _ (lt_of_heap h.res) (fun e => hnr _ e.symm rfl)
  have ho' : X.ownsRow w.heap.size 78 2 cv' (M ++ [x]).length (fl2 ((M ++ [x]).map meaC)) := by
    rw [List.length_append, List.map_append, List.map_cons, List.map_nil, fl2_snoc]
    exact ho
  have hd' : X.ownsRow w.heap.size 9 1 dv D.length (strs D) := ownsRow_of_block h.drow fun g hg' => hg.block g (h.drow.lt g hg').2 (fun e => hnm g e.symm g hg' rfl)
  have hnb' := row_ne ho' (bX.trans h.box) (by decide)
  have hnd' := row_ne hd' (bX.trans h.box) (by decide)
  have hX : Else (fun k => k = p) w X := h.els.trans (Else.of_grown hg) (fun k hk => .inr (hlt k hk).1)
  have hpl := h.plt
  have sX : SrcAt X p l := h.src.frame fun k hk => hg.block k (by omega) (fun e => by have := (hlt k e.symm).1; omega)
  refine ⟨cv', X, hr, free_of_row (bX.trans h.box) 3, by rw [cell_of_row _ _ _ _ _ _ (bX.trans h.box)]; rfl, ?_⟩
  exact {
    els := hX.setCell (p := ⟨b, 3, none⟩) (.inr (Nat.le_of_lt h.ble)) cv'
    src := sX.frame fun k hk => Below.heap_setCell _ _ _ k (by have := h.ble; show k ≠ b; omega)
    plt := h.plt
    ble := h.ble
    box := heap_set (bX.trans h.box) cv'
    drow := ownsRow_of_block hd' fun g hg' => Below.heap_setCell _ _ _ g (hnd' g hg')
    mrow := ownsRow_of_block ho' fun g hg' => Below.heap_setCell _ _ _ g (hnb' g hg')
    res := (Below.heap_setCell _ _ _ _ (by have := h.ble; show w.heap.size ≠ b; omega)).trans (rX.trans h.res) }
/-- a rollup that was read -/
def RolOk (B : Nat) (q : ByteArray × ByteArray × List ByteArray × List (Int × ByteArray)) (v : Value) (w : World) : Prop :=
  ∃ dv mv, v = .agg #[.string q.1, .string q.2.1, dv, mv] ∧ w.ownsRow B 9 1 dv q.2.2.1.length (strs q.2.2.1) ∧ w.ownsRow B 78 2 mv q.2.2.2.length (fl2 (q.2.2.2.map meaC))
def set4 (w : World) (r : Nat) (u v x y : Value) : World := (((w.setCell ⟨r, 0, none⟩ u).setCell ⟨r, 1, none⟩ v).setCell ⟨r, 2, none⟩ x).setCell ⟨r, 3, none⟩ y
/-- four cells of a block, stored into -/
theorem set_four {w : World} {r : Nat} {a b c d : Value} {t : TypeId} (h : w.heap[r]? = some (.cells #[a, b, c, d] t (0, 0))) (u v x y : Value) :
    (set4 w r u v x y).cell? ⟨r, 0, none⟩ = some u ∧ (set4 w r u v x y).cell? ⟨r, 1, none⟩ = some v ∧ (set4 w r u v x y).cell? ⟨r, 2, none⟩ = some x ∧ (set4 w r u v x y).cell? ⟨r, 3, none⟩ = some y ∧ ∀ k, k ≠ r → (set4 w r u v x y).heap[k]? = w.heap[k]? := by
  have h2 := heap_set (j := 3) (heap_set (j := 2) (heap_set (j := 1) (heap_set (j := 0) h u) v) x) y
  unfold set4
  exact ⟨by rw [cell_of_row _ _ _ _ _ _ h2]; rfl, by rw [cell_of_row _ _ _ _ _ _ h2]; rfl, by rw [cell_of_row _ _ _ _ _ _ h2]; rfl, by rw [cell_of_row _ _ _ _ _ _ h2]; rfl, fun k hk => (Below.heap_setCell _ _ _ k hk).trans ((Below.heap_setCell _ _ _ k hk).trans ((Below.heap_setCell _ _ _ k hk).trans (Below.heap_setCell _ _ _ k hk)))⟩
theorem RolSt.done (h : RolSt w p b rn rt dv mv D M l wr) :
    (set4 wr w.heap.size (.string rn) (.string rt) dv mv).cell? ⟨w.heap.size, 0, none⟩ = some (.string rn) ∧ (set4 wr w.heap.size (.string rn) (.string rt) dv mv).cell? ⟨w.heap.size, 1, none⟩ = some (.string rt) ∧
    (set4 wr w.heap.size (.string rn) (.string rt) dv mv).cell? ⟨w.heap.size, 2, none⟩ = some dv ∧ (set4 wr w.heap.size (.string rn) (.string rt) dv mv).cell? ⟨w.heap.size, 3, none⟩ = some mv ∧
    OutS p w (some ((rn, rt, D, M), l)) (RolOk w.heap.size) (.returned (.agg #[.string rn, .string rt, dv, mv])) (set4 wr w.heap.size (.string rn) (.string rt) dv mv) := by
  obtain ⟨a0, a1, a2, a3, c⟩ := set_four h.res (.string rn) (.string rt) dv mv
  have hplt := h.plt
  refine ⟨a0, a1, a2, a3, OutS.yes ?_ ⟨dv, mv, rfl, ?_, ?_⟩ (h.src.frame fun k hk => c k (by omega))⟩
  · exact (((h.els.setCell (p := ⟨w.heap.size, 0, none⟩) (.inr (Nat.le_refl _)) _).setCell (p := ⟨w.heap.size, 1, none⟩) (.inr (Nat.le_refl _)) _).setCell (p := ⟨w.heap.size, 2, none⟩) (.inr (Nat.le_refl _)) _).setCell (p := ⟨w.heap.size, 3, none⟩) (.inr (Nat.le_refl _)) _
  · exact ownsRow_of_block h.drow fun g hg => c g (row_ne h.drow h.res (by decide) g hg)
  · exact ownsRow_of_block h.mrow fun g hg => c g (row_ne h.mrow h.res (by decide) g hg)
end
/-- how far the dims are read -/
structure DimRel (F : Option (List ByteArray × List UInt8) → Option ((ByteArray × ByteArray × List ByteArray × List (Int × ByteArray)) × List UInt8)) (n : Nat) (TR : Option ((ByteArray × ByteArray × List ByteArray × List (Int × ByteArray)) × List UInt8)) (i : Nat) (acc : List ByteArray) (l : List UInt8) : Prop where
  len : acc.length = i
  le : l.length ≤ 1000000
  eq : F ((pMany pTxt (n - i) l).bind fun s => some (acc ++ s.1, s.2)) = TR
structure MeaRel (F : Option (List (Int × ByteArray) × List UInt8) → Option ((ByteArray × ByteArray × List ByteArray × List (Int × ByteArray)) × List UInt8)) (n : Nat) (TR : Option ((ByteArray × ByteArray × List ByteArray × List (Int × ByteArray)) × List UInt8)) (i : Nat) (acc : List (Int × ByteArray)) (l : List UInt8) : Prop where
  len : acc.length = i
  le : l.length ≤ 1000000
  eq : F ((pMany pMea (n - i) l).bind fun s => some (acc ++ s.1, s.2)) = TR
def FM (rn rt : ByteArray) (D : List ByteArray) (o : Option (List (Int × ByteArray) × List UInt8)) : Option ((ByteArray × ByteArray × List ByteArray × List (Int × ByteArray)) × List UInt8) := o.bind fun m => some ((rn, rt, D, m.1), m.2)
def FD (rn rt : ByteArray) (o : Option (List ByteArray × List UInt8)) : Option ((ByteArray × ByteArray × List ByteArray × List (Int × ByteArray)) × List UInt8) := o.bind fun d => (pCnt 16 d.2).bind fun k => FM rn rt d.1 (pMany pMea k.1 k.2)
theorem many_none {α : Type} {p : Ps α} {k : Nat} {l : List UInt8} (h : p l = none) : pMany p (k + 1) l = none := by unfold pMany; rw [h]; rfl
theorem many_some {α : Type} {p : Ps α} {k : Nat} {l l' : List UInt8} {x : α} (acc : List α) (h : p l = some (x, l')) : ((pMany p (k + 1) l).bind fun s => some (acc ++ s.1, s.2)) = (pMany p k l').bind fun s => some ((acc ++ [x]) ++ s.1, s.2) := by
  conv => lhs; unfold pMany
  rw [h]
  simp only [Option.bind_some]
  cases pMany p k l' with
  | none => rfl
  | some q => simp
set_option maxHeartbeats 6400000 in
theorem rollup_at {w : World} {p : Nat} {l : List UInt8} (h : SrcAt w p l) (hl : l.length ≤ 1000000) :
    Calls Tryz.prog 56 #[.pointer (some ⟨p, 0, none⟩)] w (OutS p w (pRol l) (RolOk w.heap.size)) := by
  have hplt := h.lt
  obtain ⟨TR, hTR⟩ : ∃ TR, pRol l = TR := ⟨_, rfl⟩
  rw [hTR]
  obtain ⟨W0, hW0⟩ : ∃ W0, w.alloc (.cells #[.string ⟨#[]⟩, .string ⟨#[]⟩, .slice none 0 0, .slice none 0 0] 40) = W0 := ⟨_, rfl⟩
  have hb0 : Below w.heap.size w W0 := by rw [← hW0]; exact below_o _ _
  have E0 : Else (fun k => k = p) w W0 := Else.of_below hb0
  rcases txt_cases (h.next hb0) hl with ⟨e, K⟩ | ⟨rn, l0, e, hl0, _, K⟩
  · obtain rfl : TR = none := by rw [← hTR]; unfold pRol; rw [e]; rfl
    have HE := Lib.hid E0
    clear h hl e hTR hb0 E0
    go_enter Tryz.func56, Tryz.ntmps56
    go_wp2_with fail
    refine K.mono ?_
    rintro e w1 ⟨rfl, he⟩
    go_wp2_with fail
    simp only [bodyPost]
    exact ⟨trivial, OutS.no (HE.out.trans he (fun x hx => .inl hx))⟩
  have e1 : ((pTxt l0).bind fun t => (pCnt 8 t.2).bind fun c => FD rn t.1 (pMany pTxt c.1 c.2)) = TR := by rw [← hTR]; unfold pRol; rw [e]; rfl
  have HST0 := Lib.hid (fun (w1 : World) (he : Else (fun k => k = p) W0 w1) => E0.trans he (fun x hx => .inl hx))
  have HST := Lib.hid (fun (rt : ByteArray) (l1 : List UInt8) (w1 : World) (he : Else (fun k => k = p) W0 w1) (hs : SrcAt w1 p l1) => RolSt.start (rn := rn) (rt := rt) hplt (by rw [hW0]; exact he) hs)
  have HT := Lib.hid e1
  clear h hl e e1 hTR hb0 E0 hplt
  go_enter Tryz.func56, Tryz.ntmps56
  go_wp2_with fail
  refine K.mono ?_
  rintro e w1 ⟨rfl, hs1, he1⟩
  clear K
  rcases txt_cases hs1 hl0 with ⟨e, K⟩ | ⟨rt, l1, e, hl1, _, K⟩
  · obtain rfl : TR = none := by rw [← HT.out, e]; rfl
    have HE := Lib.hid (HST0.out w1 he1)
    clear hl0 e HT HST HST0 hs1 he1
    go_wp2_with fail
    refine K.mono ?_
    rintro e w2 ⟨rfl, he2⟩
    go_wp2_with fail
    simp only [bodyPost]
    exact ⟨trivial, OutS.no (HE.out.trans he2 (fun x hx => .inl hx))⟩
  have e2 : ((pCnt 8 l1).bind fun c => FD rn rt (pMany pTxt c.1 c.2)) = TR := by rw [← HT.out, e]; rfl
  replace HT := Lib.hid e2
  have HS := Lib.hid (HST.out rt l1)
  clear e e2 hl0 HST HST0 hs1
  have HE1 := Lib.hid he1
  clear he1
  go_wp2_with fail
  refine K.mono ?_
  rintro e w1b ⟨rfl, hs, he⟩
  have ST := HS.out w1b (HE1.out.trans he (fun x hx => .inl hx)) hs
  obtain ⟨b, hb⟩ : ∃ b, w1b.heap.size = b := ⟨_, rfl⟩
  rw [hb] at ST
  clear hs he HS K hW0 HE1
  go_wp2_with fail
  (try rw [hb])
  obtain ⟨W1, hW1⟩ : ∃ W1, w1b.alloc (.cells #[.string rn, .string rt, .slice none 0 0, .slice none 0 0] 40) = W1 := ⟨_, rfl⟩
  rw [hW1] at ST ⊢
  rcases cnt_cases ST.src hl1 8 with ⟨e, K⟩ | ⟨n, l2, e, hl2, hn8, K⟩
  · obtain rfl : TR = none := by rw [← HT.out, e]; rfl
    have HE := Lib.hid ST.els
    clear ST e hl1 HT
    refine K.mono ?_
    rintro e w2 ⟨rfl, he2⟩
    go_wp2_with fail
    simp only [bodyPost]
    exact ⟨trivial, OutS.no (HE.out.trans he2 (fun x hx => .inl hx))⟩
  have hR : FD rn rt (pMany pTxt n l2) = TR := by rw [← HT.out, e]; rfl
  have HST := Lib.hid (fun (w2 : World) (he : Else (fun k => k = p) W1 w2) (hs : SrcAt w2 p l2) => ST.step he hs)
  have HR := Lib.hid hR
  have HL2 := Lib.hid hl2
  have HN := Lib.hid hn8
  clear ST e hl1 hR hl2 hn8 HT
  refine K.mono ?_
  rintro e w2 ⟨rfl, hs, he⟩
  have ST := Lib.hid (HST.out w2 he hs)
  clear hs he HST K hW1
  go_wp2_with fail
  go_loopw [11] (fun k wr => ∃ (i : Nat) (cv : Value) (acc : List ByteArray) (l3 : List UInt8), k = .int .i64 i ∧ i ≤ n ∧ Hid (RolSt w p b rn rt cv (.slice none 0 0) acc [] l3 wr) ∧ Hid (DimRel (FD rn rt) n TR i acc l3)) (fun k _ => n - (RowKit.intOf k).toNat)
  case atStart => exact ⟨0, _, [], l2, rfl, Nat.zero_le _, ST, Lib.hid ⟨rfl, HL2.out, by rw [← HR.out]; congr 1; simp only [Nat.sub_zero, List.nil_append]; cases pMany pTxt n l2 <;> rfl⟩⟩
  case round =>
    clear ST HR HL2
    obtain ⟨i, cv, acc, l3, rfl, hin, ST, HR⟩ := hrel
    by_cases hlt : i < n
    · obtain ⟨ha, hl3, hR⟩ := HR.out
      have hw64 := wi_next hlt (Nat.le_trans HN.out (by decide))
      have b0 : (0 : Int) ≤ (i : Int) := Int.natCast_nonneg i
      have b1 : (i : Int) < (n : Int) := Int.ofNat_lt.2 hlt
      rw [sub_next hlt] at hR
      have SD := ST.out.drew
      have c1 := SD.cells.2.2.1
      have TS := Lib.hid (fun (w4 : World) (l' : List UInt8) (he : Else (fun k => k = p) wr.drew w4) (hs : SrcAt w4 p l') => SD.step he hs)
      have EW := Lib.hid SD.els
      rcases txt_cases SD.src hl3 with ⟨e, K⟩ | ⟨s, l4, e, hl4, _, K⟩
      · obtain rfl : TR = none := by rw [← hR, many_none e]; rfl
        clear SD ST HR ha hl3 hR TS
        go_wp2_with fail
        refine wp_region_mixP (fun W => W.cell? ⟨b, 2, none⟩ = some cv) 7 [(true, 0), (true, 1), (true, 2), (false, 3), (false, 4), (false, 5), (true, 6), (false, 7)] ?_ (by kernel_rfl) (by decide +kernel) rfl (by decide +kernel) c1 ?_
        · intro c a d v w h
          cases d <;> exact h
        iterate 3
          refine wpMix_take (v := ?_) rfl rfl ?_ ?_
          rotate_left
          · (intro W hW; (try dsimp only at hW); go_simp) <;> with_reducible rfl
          simp only [Act.put, List.setIfInBounds_toArray, List.set_cons_zero, List.set_cons_succ]
        refine wpMix_run rfl ?_
        intro K' hK
        go_wp2_with fail
        refine K.mono ?_
        rintro e w' ⟨rfl, he⟩
        exact ⟨rfl, OutS.no (EW.out.trans he (fun x hx => .inl hx))⟩
      · have HR2 : Hid (DimRel (FD rn rt) n TR (i + 1) (acc ++ [s]) l4) := Lib.hid ⟨by rw [List.length_append, ha]; rfl, hl4, by rw [← hR, many_some acc e]⟩
        have hal : acc.length ≤ 1000 := by have := HN.out; omega
        have TS1 := Lib.hid (fun (w4 : World) (he : Else (fun k => k = p) wr.drew w4) (hs : SrcAt w4 p l4) => TS.out w4 l4 he hs)
        clear SD ST HR ha hl3 hR TS hl4 e
        go_wp2_with fail
        refine wp_region_mixP (fun W => W.cell? ⟨b, 2, none⟩ = some cv) 7 [(true, 0), (true, 1), (true, 2), (false, 3), (false, 4), (false, 5), (true, 6), (false, 7)] ?_ (by kernel_rfl) (by decide +kernel) rfl (by decide +kernel) c1 ?_
        · intro c a d v w h
          cases d <;> exact h
        iterate 3
          refine wpMix_take (v := ?_) rfl rfl ?_ ?_
          rotate_left
          · (intro W hW; (try dsimp only at hW); go_simp) <;> with_reducible rfl
          simp only [Act.put, List.setIfInBounds_toArray, List.set_cons_zero, List.set_cons_succ]
        refine wpMix_run rfl ?_
        intro K' hK
        go_wp2_with fail
        refine K.mono ?_
        rintro e w4 ⟨rfl, hs, he⟩
        have S4 := TS1.out w4 he hs
        have c4 := S4.cells.2.2.1
        obtain ⟨cv', X, hr, f1, cX, S5⟩ := S4.pushD s hal
        obtain ⟨va, vc, hcv, _⟩ := ownsRow_form S5.drow
        generalize (acc ++ [s]).length = N at hcv
        subst hcv
        have R1 := Lib.hid hr
        have HS5 := Lib.hid S5
        clear S4 S5 hr hs he TS1 hal K
        go_wp2_with fail
        refine hK.out _ _ (fun _ => c4) ?_
        clear hK K'
        refine wpMix_run rfl ?_
        intro K' hK
        go_wp2_with fail
        refine hK.out _ _ (fun _ => (by rw [(below_o w4 _).cell (World.block_lt_of_cell? w4 _ c4)]; exact c4)) ?_
        clear hK K'
        refine wpMix_run rfl ?_
        intro K' hK
        go_wp2_with (at_builtin; refine wpList_append_run rfl _ _ 37 rfl rfl rfl (R1.out _) ?_)
        refine hK.out _ _ (fun _ => cX) ?_
        clear hK K'
        refine wpMix_take (v := ?_) rfl rfl ?_ ?_
        rotate_left
        · (intro W hW; (try dsimp only at hW); go_simp) <;> with_reducible rfl
        simp only [Act.put, List.setIfInBounds_toArray, List.set_cons_zero, List.set_cons_succ]
        refine wpMix_run rfl ?_
        intro K' hK
        go_wp2_with fail
        refine hK.out _ _ (fun h => absurd rfl h) ?_
        clear hK K'
        refine wpMix_nilP ?_
        go_wp2_with fail
        go_roundw
        case rel => exact ⟨i + 1, _, _, _, by go_num, hlt, HS5, HR2⟩
        case measure => simp [RowKit.intOf]; omega
    · have hei : i = n := end_eq hin hlt
      obtain ⟨hal, hl3, hR⟩ := HR.out
      subst hei
      rw [Nat.sub_self] at hR
      have hR1 : FD rn rt (some (acc, l3)) = TR := by rw [← hR]; simp [pMany]
      have hD8 := HN.out
      clear hR HR HN
      rcases cnt_cases ST.out.src hl3 16 with ⟨e, K⟩ | ⟨n2, l5, e, hl5, hn16, K⟩
      · obtain rfl : TR = none := by rw [← hR1]; unfold FD; simp only [Option.bind_some]; rw [e]; rfl
        have HE := Lib.hid ST.out.els
        clear ST e hl3 hR1 hal hD8
        go_wp2_with fail
        refine K.mono ?_
        rintro e w2 ⟨rfl, he2⟩
        go_wp2_with fail
        simp only [bodyPost]
        exact ⟨trivial, OutS.no (HE.out.trans he2 (fun x hx => .inl hx))⟩
      have hR2 : FM rn rt acc (pMany pMea n2 l5) = TR := by rw [← hR1]; unfold FD; simp only [Option.bind_some]; rw [e]; rfl
      have HST := Lib.hid (fun (w2 : World) (he : Else (fun k => k = p) wr w2) (hs : SrcAt w2 p l5) => ST.out.step he hs)
      have HR := Lib.hid hR2
      have HL5 := Lib.hid hl5
      have HN2 := Lib.hid hn16
      clear ST e hl3 hR1 hR2 hl5 hn16 hal hD8
      go_wp2_with fail
      refine K.mono ?_
      rintro e w3 ⟨rfl, hs, he⟩
      have ST := Lib.hid (HST.out w3 he hs)
      clear hs he HST K
      go_wp2_with fail
      obtain ⟨V0, rfl⟩ : ∃ V, V = wr := ⟨_, rfl⟩
      go_loopw [23] (fun k wr => ∃ (j : Nat) (mv : Value) (am : List (Int × ByteArray)) (l6 : List UInt8), k = .int .i64 j ∧ j ≤ n2 ∧ Hid (RolSt w p b rn rt cv mv acc am l6 wr) ∧ Hid (MeaRel (FM rn rt acc) n2 TR j am l6)) (fun k _ => n2 - (RowKit.intOf k).toNat)
      case atStart => exact ⟨0, _, [], l5, rfl, Nat.zero_le _, ST, Lib.hid ⟨rfl, HL5.out, by rw [← HR.out]; congr 1; simp only [Nat.sub_zero, List.nil_append]; cases pMany pMea n2 l5 <;> rfl⟩⟩
      case round =>
        clear ST HR HL5
        obtain ⟨j, mv, am, l6, rfl, hjn, ST, HR⟩ := hrel
        by_cases hjt : j < n2
        · obtain ⟨ha, hl6, hR⟩ := HR.out
          have hw64 := wi_next hjt (Nat.le_trans HN2.out (by decide))
          have b0 : (0 : Int) ≤ (j : Int) := Int.natCast_nonneg j
          have b1 : (j : Int) < (n2 : Int) := Int.ofNat_lt.2 hjt
          rw [sub_next hjt] at hR
          have SD := ST.out.drew
          have c1 := SD.cells.2.2.2.1
          have TS := Lib.hid (fun (w4 : World) (l' : List UInt8) (he : Else (fun k => k = p) wr.drew w4) (hs : SrcAt w4 p l') => SD.step he hs)
          have EW := Lib.hid SD.els
          rcases num_cases SD.src hl6 with ⟨e, K⟩ | ⟨z, l7, e, hl7, _, _, K⟩
          · obtain rfl : TR = none := by rw [← hR, many_none (by unfold pMea; rw [e]; rfl)]; rfl
            clear SD ST HR ha hl6 hR TS
            go_wp2_with fail
            refine wp_region_mixP (fun W => W.cell? ⟨b, 3, none⟩ = some mv) 10 [(true, 0), (true, 1), (true, 2), (true, 4), (false, 3), (false, 5), (true, 6), (false, 7), (false, 8), (true, 9), (false, 10)] ?_ (by kernel_rfl) (by decide +kernel) rfl (by decide +kernel) c1 ?_
            · intro c a d v w h
              cases d <;> exact h
            iterate 4
              refine wpMix_take (v := ?_) rfl rfl ?_ ?_
              rotate_left
              · (intro W hW; (try dsimp only at hW); go_simp) <;> with_reducible rfl
              simp only [Act.put, List.setIfInBounds_toArray, List.set_cons_zero, List.set_cons_succ]
            refine wpMix_run rfl ?_
            intro K' hK
            go_wp2_with fail
            refine K.mono ?_
            rintro e w' ⟨rfl, he⟩
            exact ⟨rfl, OutS.no (EW.out.trans he (fun x hx => .inl hx))⟩
          · have TS1 := Lib.hid (fun (w4 : World) (he : Else (fun k => k = p) wr.drew w4) (hs : SrcAt w4 p l7) => TS.out w4 l7 he hs)
            have KN := Lib.hid (fun (w4 : World) (h : SrcAt w4 p l7) => text_at h hl7)
            rcases Classical.em (pTxt l7 = none) with e2 | e2
            · obtain rfl : TR = none := by rw [← hR, many_none (by unfold pMea; rw [e]; simp only [Option.bind_some]; rw [e2]; rfl)]; rfl
              rw [e2] at KN
              clear SD ST HR ha hl6 hR TS hl7
              go_wp2_with fail
              refine wp_region_mixP (fun W => W.cell? ⟨b, 3, none⟩ = some mv) 10 [(true, 0), (true, 1), (true, 2), (true, 4), (false, 3), (false, 5), (true, 6), (false, 7), (false, 8), (true, 9), (false, 10)] ?_ (by kernel_rfl) (by decide +kernel) rfl (by decide +kernel) c1 ?_
              · intro c a d v w h
                cases d <;> exact h
              iterate 4
                refine wpMix_take (v := ?_) rfl rfl ?_ ?_
                rotate_left
                · (intro W hW; (try dsimp only at hW); go_simp) <;> with_reducible rfl
                simp only [Act.put, List.setIfInBounds_toArray, List.set_cons_zero, List.set_cons_succ]
              refine wpMix_run rfl ?_
              intro K' hK
              go_wp2_with fail
              refine K.mono ?_
              rintro e w3 ⟨rfl, hs, he⟩
              have c3 := (TS1.out w3 he hs).cells.2.2.2.1
              have K2 := KN.out w3 hs
              go_wp2_with fail
              refine hK.out _ _ (fun _ => c3) ?_
              clear hK K'
              refine wpMix_run rfl ?_
              intro K' hK
              go_wp2_with fail
              refine K2.mono ?_
              intro e w4 h4
              rcases h4.of with ⟨x, l', h1, _⟩ | ⟨_, rfl, he4⟩
              · cases h1
              · exact ⟨rfl, OutS.no ((EW.out.trans he (fun x hx => .inl hx)).trans he4 (fun x hx => .inl hx))⟩
            · obtain ⟨⟨s, l8⟩, e2⟩ := Option.ne_none_iff_exists'.1 e2
              have hl8 : l8.length ≤ 1000000 := by have := (pTxt_some e2).2.2; omega
              rw [e2] at KN
              have ec : pMea l6 = some ((z, s), l8) := by unfold pMea; rw [e]; simp only [Option.bind_some]; rw [e2]; rfl
              have HR2 : Hid (MeaRel (FM rn rt acc) n2 TR (j + 1) (am ++ [(z, s)]) l8) := Lib.hid ⟨by rw [List.length_append, ha]; rfl, hl8, by rw [← hR, many_some am ec]⟩
              have hal : am.length ≤ 1000 := by have := HN2.out; omega
              clear SD ST HR ha hl6 hR TS hl7 ec hl8
              go_wp2_with fail
              refine wp_region_mixP (fun W => W.cell? ⟨b, 3, none⟩ = some mv) 10 [(true, 0), (true, 1), (true, 2), (true, 4), (false, 3), (false, 5), (true, 6), (false, 7), (false, 8), (true, 9), (false, 10)] ?_ (by kernel_rfl) (by decide +kernel) rfl (by decide +kernel) c1 ?_
              · intro c a d v w h
                cases d <;> exact h
              iterate 4
                refine wpMix_take (v := ?_) rfl rfl ?_ ?_
                rotate_left
                · (intro W hW; (try dsimp only at hW); go_simp) <;> with_reducible rfl
                simp only [Act.put, List.setIfInBounds_toArray, List.set_cons_zero, List.set_cons_succ]
              refine wpMix_run rfl ?_
              intro K' hK
              go_wp2_with fail
              refine K.mono ?_
              rintro e w3 ⟨rfl, hs, he⟩
              have S3 := TS1.out w3 he hs
              have c3 := S3.cells.2.2.2.1
              have K2 := KN.out w3 hs
              have HS3 := Lib.hid S3
              clear S3 KN TS1 hs he
              go_wp2_with fail
              refine hK.out _ _ (fun _ => c3) ?_
              clear hK K'
              refine wpMix_run rfl ?_
              intro K' hK
              go_wp2_with fail
              refine K2.mono ?_
              intro e w4 h4
              rcases h4.of with ⟨x, l', h1, v, rfl, h2, h3, he4⟩ | ⟨h1, _⟩
              rotate_left
              · cases h1
              cases h1
              subst h2
              have S4 := HS3.out.step he4 h3
              have c4 := S4.cells.2.2.2.1
              obtain ⟨cv', X, hr, f1, cX, S5⟩ := S4.pushM (z, s) hal
              obtain ⟨va, vc, hcv, _⟩ := ownsRow_form S5.mrow
              generalize (am ++ [(z, s)]).length = N at hcv
              subst hcv
              have R1 := Lib.hid hr
              have HS5 := Lib.hid S5
              clear S4 S5 hr K2 he4 h3 HS3 h4 hal
              go_wp2_with fail
              refine hK.out _ _ (fun _ => c4) ?_
              clear hK K'
              refine wpMix_take (v := ?_) rfl rfl ?_ ?_
              rotate_left
              · (intro W hW; (try dsimp only at hW); go_simp) <;> with_reducible rfl
              simp only [Act.put, List.setIfInBounds_toArray, List.set_cons_zero, List.set_cons_succ]
              refine wpMix_run rfl ?_
              intro K' hK
              go_wp2_with fail
              refine hK.out _ _ (fun _ => (by rw [(below_o w4 _).cell (World.block_lt_of_cell? w4 _ c4)]; exact c4)) ?_
              clear hK K'
              refine wpMix_run rfl ?_
              intro K' hK
              go_wp2_with (at_builtin; refine wpList_append_run rfl _ _ 38 rfl rfl rfl (R1.out _) ?_)
              refine hK.out _ _ (fun _ => cX) ?_
              clear hK K'
              refine wpMix_take (v := ?_) rfl rfl ?_ ?_
              rotate_left
              · (intro W hW; (try dsimp only at hW); go_simp) <;> with_reducible rfl
              simp only [Act.put, List.setIfInBounds_toArray, List.set_cons_zero, List.set_cons_succ]
              refine wpMix_run rfl ?_
              intro K' hK
              go_wp2_with fail
              refine hK.out _ _ (fun h => absurd rfl h) ?_
              clear hK K'
              refine wpMix_nilP ?_
              go_wp2_with fail
              go_roundw
              case rel => exact ⟨j + 1, _, _, _, by go_num, hjt, HS5, HR2⟩
              case measure => simp [RowKit.intOf]; omega
        · have hej : j = n2 := end_eq hjn hjt
          obtain ⟨_, _, hR⟩ := HR.out
          subst hej
          rw [Nat.sub_self] at hR
          obtain rfl : TR = some ((rn, rt, acc, am), l6) := by rw [← hR]; simp [pMany, FM]
          obtain ⟨va, vc, hcv, _⟩ := ownsRow_form ST.out.drow
          generalize acc.length = N at hcv
          subst hcv
          obtain ⟨ua, uc, hmv, _⟩ := ownsRow_form ST.out.mrow
          generalize am.length = N2 at hmv
          subst hmv
          obtain ⟨z0, z1, z2, z3, zf⟩ := ST.out.cells
          have FIN := Lib.hid ST.out.done
          obtain ⟨r0, r1, r2, r3, rf⟩ := ST.out.rcells
          clear hR HR ST
          go_wp2_with fail
          have hr0 := FIN.out.1
          have hr1 := FIN.out.2.1
          have hr2 := FIN.out.2.2.1
          have hr3 := FIN.out.2.2.2.1
          unfold set4 at hr0 hr1 hr2 hr3
          refine bodyPost_ret (v := .agg #[.string rn, .string rt, .slice va N vc, .slice ua N2 uc]) ?_ rfl FIN.out.2.2.2.2
          simp [results, Tryz.results56, go_sem, hr0, hr1, hr2, hr3]
end Go.Proofs.YtehfoaicohnpfaaGreatDoor
