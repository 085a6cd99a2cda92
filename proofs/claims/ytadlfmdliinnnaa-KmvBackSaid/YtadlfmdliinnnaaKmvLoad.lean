/- Contract of kmv's Load at the bytes of a sketch. Conditions: good settings. -/
import Derived.Test.YtadlfmdliinnnaaKmvRead
import Derived.Test.YtadlfmdliinnnaaKmvOrder
set_option maxRecDepth 100000
namespace Go.Proofs.Ytadlfmdliinnnaa
open Go.RowKit Go.Maps Go.Sort

/-- thing i goes on -/
theorem SideT.goes {w0 w w' : World} {T : Tags} {E : List (Nat × Thing)} {i : Nat} {A A' : Thing} (h : SideT w0 T ((i, A) :: E) w) (hi : ∀ e ∈ E, e.1 ≠ i) (hF : Framed A') (hg : Goes T i w A' w') : Side w0 ((i, A') :: E) w' := by
  obtain ⟨T', hn, hk, hA⟩ := hg
  have hs : SideT w0 T E w := ⟨h.base, h.old, fun e he => h.at_ e (List.mem_cons_of_mem _ he)⟩
  have hs' := hs.next hn hk hi
  refine ⟨T', hs'.base, hs'.old, fun e he => ?_⟩
  rcases List.mem_cons.1 he with rfl | he
  · exact ⟨hF, hA⟩
  · exact hs'.at_ e he

theorem bytesL_drop (L : List (List Nat)) (m : Nat) (h : m < L.length) : bytesL (L.drop m) = copB L[m] ++ bytesL (L.drop (m + 1)) := by
  unfold bytesL
  rw [List.drop_eq_getElem_cons h, List.flatMap_cons]

/-- what Load leaves -/
def LoadAt (w0 : World) (E : List (Nat × Thing)) (i : Nat) (V : SkV) (tail : List UInt8) (e : Ending) (w' : World) : Prop :=
  (tail = [] ∧ ∃ p, e = .returned (.tuple #[.pointer (some ⟨p, 0, none⟩), .int .i64 0]) ∧ Side w0 ((i, Sk p V) :: E) w') ∨ (tail ≠ [] ∧ e = .returned (.tuple #[.pointer none, .int .i64 8]) ∧ Side w0 E w')

/-- the state of Load's loop -/
def LoadSt (w0 : World) (E : List (Nat × Thing)) (i : Nat) (t : Nat) (S : List (Nat × Nat)) (L : List (List Nat)) (tail : List UInt8) (p m : Nat) (b : Value) (wr : World) : Prop :=
  Side w0 ((i, Sk p ⟨t, S, copPart L m⟩) :: E) wr ∧ Holds wr b (u8s (bytesL (L.drop m) ++ tail))

theorem Holds.setCell8 {w : World} {v : Value} {xs : List UInt8} (h : Holds w v (u8s xs)) {a : Addr} {oa : Option Addr} {ol oc : Nat} (hc : w.cell? a = some (.slice oa ol oc)) (u : Value) : Holds (w.setCell a u) v (u8s xs) := by
  obtain ⟨a', c, h1, h2, h3⟩ := h
  refine ⟨a', c, h1, h2, ?_⟩
  rcases h3 with h3 | ⟨ad, h3, h4⟩
  · exact .inl h3
  · refine .inr ⟨ad, h3, fun j x hj => ?_⟩
    have h5 := h4 j x hj
    rw [World.cell?_setCell_other]
    · exact h5
    · rintro rfl
      rw [hc] at h5
      simp only [u8s, List.getElem?_map] at hj
      cases hx : xs[j]? with
      | none => rw [hx] at hj; cases hj
      | some b =>
        rw [hx] at hj
        rw [← Option.some.inj hj] at h5
        cases h5
theorem holds_if {w : World} {ad : Addr} {n c U : Nat} {xs : List Value} (h : Holds w (.slice (some (ad.add U)) (n - U) (c - U)) xs) (hc : n ≤ c) : Holds w (.slice (if c = U then some ad else some (ad.add U)) (n - U) (c - U)) xs := by
  by_cases e : c = U
  · rw [if_pos e]
    have hl := h.len
    have : xs = [] := List.eq_nil_of_length_eq_zero (by omega)
    subst this
    exact ⟨some ad, c - U, by rw [show n - U = 0 by omega]; rfl, by simp, .inr ⟨ad, rfl, fun j u hj => by simp at hj⟩⟩
  · rw [if_neg e]; exact h

theorem LoadSt.row {w0 w : World} {E : List (Nat × Thing)} {i t : Nat} {S : List (Nat × Nat)} {L : List (List Nat)} {tail : List UInt8} {p m : Nat} {b : Value} (h : LoadSt w0 E i t S L tail p m b w) (hi : ∀ e ∈ E, e.1 ≠ i) (hm : m < L.length) :
    ∃ cb oa ol oc, w.cell? ⟨p, 0, none⟩ = some (.int .i64 t) ∧ w.cell? ⟨p, 2, none⟩ = some (.slice (some ⟨cb, 0, none⟩) L.length L.length) ∧ w.cell? ⟨cb, m, none⟩ = some (.slice oa ol oc) ∧ w.frozen? ⟨cb, m, none⟩ = false ∧ p < w.heap.size ∧ cb < w.heap.size ∧
      (∀ w1 v, Below w.heap.size w w1 → w1.ownsRow w.heap.size 32 1 v L[m].length (nats L[m]) → GoodL t L[m] → Side w0 ((i, Sk p ⟨t, S, copPart L (m + 1)⟩) :: E) (w1.setCell ⟨cb, m, none⟩ v)) := by
  obtain ⟨⟨T, hT⟩, _⟩ := h
  obtain ⟨_, sa, sc, cb, rows, g⟩ := hT.at_ _ (List.mem_cons_self ..)
  have hlen : (copPart L m).length = L.length := copPart_len L m (by omega)
  have hmL : m < ({ t := t, seeds := S, L := copPart L m } : SkV).L.length := by show m < (copPart L m).length; omega
  obtain ⟨v, hv, c3, f3, hvo, _⟩ := g.at_ hmL
  obtain ⟨oa, oc, rfl, _, _⟩ := ownsRow_form hvo
  obtain ⟨c0, _, c2⟩ := g.cells
  have c2' : w.cell? ⟨p, 2, none⟩ = some (.slice (some ⟨cb, 0, none⟩) L.length L.length) := by rw [← hlen]; exact c2
  refine ⟨cb, oa, _, oc, c0, c2', c3, f3, lt_of_heap g.head, lt_of_heap g.tab, fun w1 u hb ho hl => ?_⟩
  have hlt := lt_of_heap g.tab
  refine hT.goes hi (Sk.framed p _) ?_
  rw [← copPart_next L m hm]
  have htab := (hb.block _ hlt).trans g.tab
  refine g.put (l' := L[m]) hv hb.os hb.tape hb.output (by simpa [World.setCell] using hb.size) (fun k hk hne _ => ?_) ?_ (ownsRow_rebase (ownsRow_setCell_below ho hlt u) fun _ _ => Nat.zero_le _) (fun x hx => .inr (ho.lt x hx).1) hl
  · rw [Below.heap_setCell _ _ _ _ hne]; exact hb.block k hk
  · rw [heap_set htab]; simp

theorem side_new2 {w0 w : World} {E : List (Nat × Thing)} (h : Side w0 E w) (i : Nat) {sa : Option Addr} {n sc : Nat} {S : List (Nat × Nat)} (hs : SetAt w sa n sc S) (t : Nat) (k m : Int) (hg : goodB t S k m = true) :
    Calls Try.prog 9 #[setV t sa n sc k m] w fun e w' => ∃ p, e = .returned (.pointer (some ⟨p, 0, none⟩)) ∧ Side w0 ((i, Sk p (SkV.empty t S)) :: E) w' ∧ Below w.heap.size w w' := by
  obtain ⟨T, hT⟩ := h
  refine (new_any hs t k m hg T i).mono ?_
  rintro e w' ⟨p, he, hb, T', hn, hA⟩
  exact ⟨p, he, Side.add hT hn hb (Sk.framed p _) hA, hb⟩

set_option maxHeartbeats 6400000 in
theorem load_main {w0 W : World} {E : List (Nat × Thing)} {i : Nat} (h : Side w0 E W) (hi : ∀ e ∈ E, e.1 ≠ i) {sa : Option Addr} {n sc : Nat} {S : List (Nat × Nat)} (hs : SetAt W sa n sc S) (t : Nat) (k m : Int) (hg : goodB t S k m = true)
    {L : List (List Nat)} (hV : SkV.Good ⟨t, S, L⟩) {a : Option Addr} {bn bc : Nat} {tail : List UInt8} (hB : Holds W (.slice a bn bc) (u8s (bytesL L ++ tail))) (hb : bn ≤ 100000) :
    Calls Try.prog 27 #[setV t sa n sc k m, .slice a bn bc] W (LoadAt w0 E i ⟨t, S, L⟩ tail) := by
  have hb0 := (Below.refl W.heap.size W).alloc (Nat.le_refl _) (setO t sa n sc k m)
  have hw1 := alloc1 W (setO t sa n sc k m)
  obtain ⟨c0, c1, c2, c3⟩ := setO_cell hw1
  have KN := side_new2 (h.below hb0) i (hs.below hb0) t k m hg
  have e0 : SkV.empty t S = ⟨t, S, copPart L 0⟩ := by
    have := hV.len
    simp only at this
    simp [SkV.empty, copPart, this]
  rw [e0] at KN
  have HB := Lib.hid (hB.below hb0)
  have HI := Lib.hid hi
  have HV := Lib.hid hV
  have hN7 : L.length ≤ 7 := by rw [show L.length = S.length from hV.len]; exact hV.set.n7
  have ht64 : t ≤ 64 := hV.set.t64
  clear h hs hg hB hi hV e0 hb0
  generalize hN : L.length = N at *
  have HN := Lib.hid hN
  clear hN
  unfold setV at KN ⊢
  unfold setO at KN c0 c1 c2 c3 HB hw1
  go_enter Try.func27, Try.ntmps27
  go_wp2_with fail
  refine KN.mono ?_
  rintro e w1 ⟨p, rfl, s1, hb1⟩
  have HS : Hid (LoadSt w0 E i t S L tail p 0 (.slice a bn bc) w1) := Lib.hid ⟨s1, HB.out.below hb1⟩
  obtain ⟨cb0, c9⟩ : ∃ cb, w1.cell? ⟨p, 2, none⟩ = some (.slice (some ⟨cb, 0, none⟩) N N) := by
    obtain ⟨T, hT⟩ := s1
    obtain ⟨_, sa, sc, cb, rows, g⟩ := hT.at_ _ (List.mem_cons_self ..)
    refine ⟨cb, ?_⟩
    have := g.cells.2.2
    simp only at this
    rw [copPart_len L 0 (Nat.zero_le _), HN.out] at this
    exact this
  clear c0 c1 c2 c3 KN HB hw1 s1 hb1
  go_wp2_with fail
  go_loopw [1, 19] (fun b j wr => ∃ (q : Nat) (a : Option Addr) (bn bc : Nat), j = .int .i64 q ∧ q ≤ N ∧ b = .slice a bn bc ∧ bn ≤ 100000 ∧ Hid (LoadSt w0 E i t S L tail p q (.slice a bn bc) wr)) (fun _ j _ => N - (intOf j).toNat)
  case atStart => exact ⟨0, a, bn, bc, rfl, Nat.zero_le _, rfl, hb, HS.out⟩
  case round =>
    obtain ⟨q, a, bn, bc, rfl, hq, rfl, hb, HR⟩ := hrel
    clear c9
    by_cases hlt : q < N
    · have hqL : q < L.length := by rw [HN.out]; exact hlt
      obtain ⟨cb, oa, ol, oc, c0, c2, c3, f3, hp, hcb, hput⟩ := HR.out.row HI.out hqL
      rw [HN.out] at c2
      have hgl := HV.out.row _ (List.getElem_mem hqL)
      have hH := HR.out.2
      rw [bytesL_drop L q hqL, List.append_assoc] at hH
      have hpos : 0 < (copB L[q]).length := by unfold copB; rw [List.length_append]; have := dig_pos L[q].length; omega
      have hle : (copB L[q]).length ≤ bn := by have := hH.len.1; rw [u8s_len, List.length_append] at this; omega
      obtain ⟨ad, rfl⟩ := hH.ptr (by omega)
      have K := Lib.hid (read_copy hH hgl ht64 hb)
      have HP := Lib.hid (fun w1 v hb ho => hput w1 v hb ho hgl)
      have HH := Lib.hid hH
      generalize L[q] = l at *
      obtain ⟨U, hU⟩ : ∃ U, U = (copB l).length := ⟨_, rfl⟩
      rw [← hU] at hpos hle
      unfold ReadAt at K
      rw [← hU] at K
      have HU := Lib.hid hU
      clear hU hH hput hgl HR
      have t2 : ((U : Int) == 0) = false := by rw [beq_eq_false_iff_ne]; omega
      have q0 : (0 : Int) ≤ (q : Int) := by omega
      have q1 : (q : Int) < (N : Int) := by omega
      go_wp2_with fail
      refine K.out.mono ?_
      rintro e w2 ⟨v, rfl, ho, hb2⟩
      have c2' : w2.cell? ⟨p, 2, none⟩ = some (.slice (some ⟨cb, 0, none⟩) N N) := (hb2.cell (p := ⟨p, 2, none⟩) hp).trans c2
      have c3' : w2.cell? ⟨cb, q, none⟩ = some (.slice oa ol oc) := (hb2.cell (p := ⟨cb, q, none⟩) hcb).trans c3
      have f3' : w2.frozen? ⟨cb, q, none⟩ = false := (hb2.frozen (p := ⟨cb, q, none⟩) hcb).trans f3
      have hsz := hb2.size
      have S2 := Lib.hid (HP.out w2 v hb2 ho)
      have hHd := (HH.out.below hb2).drop U hle
      rw [u8s_drop, HU.out, List.drop_left] at hHd
      have S3 : Hid (LoadSt w0 E i t S L tail p (q + 1) (.slice (if bc = U then some ad else some (ad.add U)) (bn - U) (bc - U)) (w2.setCell ⟨cb, q, none⟩ v)) :=
        Lib.hid ⟨S2.out, (holds_if (by rw [HU.out]; exact hHd) HH.out.len.2).setCell8 c3' v⟩
      obtain ⟨a1, k1, rfl, _, _⟩ := ownsRow_form ho
      clear ho hb2 K HP HH c0 c2 c3 f3 HS hHd S2 HU
      go_wp2_with fail
      go_roundw
      case rel => exact ⟨q + 1, _, _, _, by go_num, by omega, rfl, by omega, S3⟩
      case measure => simp [intOf]; omega
    · have hqe : q = N := by omega
      have hR := HR.out
      rw [hqe, ← HN.out] at hR
      have e1 : copPart L L.length = L := by simp [copPart]
      have e2 : bytesL (L.drop L.length) = [] := by simp [bytesL]
      obtain ⟨hS, hH⟩ := hR
      rw [e1] at hS
      rw [e2, List.nil_append] at hH
      have hbl : tail.length = bn := by have := hH.len.1; rwa [u8s_len] at this
      cases bn with
      | zero =>
        have HP : Hid (LoadAt w0 E i ⟨t, S, L⟩ tail (.returned (.tuple #[.pointer (some ⟨p, 0, none⟩), .int .i64 0])) wr) := Lib.hid (.inl ⟨List.eq_nil_of_length_eq_zero hbl, p, rfl, hS⟩)
        clear HR hS hH hqe HS
        go_wp2_with fail
        refine bodyPost_ret (v := .tuple #[.pointer (some ⟨p, 0, none⟩), .int .i64 0]) (by simp [results, Try.results27, go_sem]) rfl ?_
        exact HP.out
      | succ bn =>
        have HP : Hid (LoadAt w0 E i ⟨t, S, L⟩ tail (.returned (.tuple #[.pointer none, .int .i64 8])) wr) := Lib.hid (.inr ⟨fun e => by rw [e] at hbl; simp at hbl, rfl, hS.sub fun x hx => List.mem_cons_of_mem _ hx⟩)
        clear HR hS hH hqe HS
        go_wp2_with fail
        refine bodyPost_ret (v := .tuple #[.pointer none, .int .i64 8]) (by simp [results, Try.results27, go_sem]) rfl ?_
        exact HP.out
end Go.Proofs.Ytadlfmdliinnnaa
