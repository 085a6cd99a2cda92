/- What the document's own dictionary is in memory; contracts of its New, Find, Value. Conditions: a dictionary that was made. -/
import Derived.Test.YtdbaeghhlhkobaaDictBack
import Derived.Test.YtdbaeghhlhkobaaSched
set_option maxRecDepth 100000
namespace Go.Proofs.Ytdbaeghhlhkobaa
open Go.RowKit Go.Maps Go.Sort Go.Lib

/-- the document's own dictionary in memory -/
structure RkAt (T : Tags) (i : Nat) (w : World) (p : Nat) (K : Int) (v : Value) (L : List VV) : Prop where
  head : w.heap[p]? = some (.cells #[.int .i64 K, v] 56 (0, 0))
  tp : T p = some i
  row : RowV 0 v L w
  tr : ∀ g, v.ownBlock = some g → T g = some i
  k1 : 1 ≤ K
  k4 : K ≤ 4
  len : L.length ≤ 512
  ty : ∀ x ∈ L, x.ty
def Rt (p : Nat) (K : Int) (L : List VV) : Thing := fun T i w => ∃ v, RkAt T i w p K v L
theorem Rt.framed (p : Nat) (K : Int) (L : List VV) : Framed (Rt p K L) := by
  rintro T T' i w w' ⟨v, h⟩ hT hw
  have hl := h.row.lt
  exact ⟨v, {
    head := (hw p (lt_of_heap h.head) (.inr h.tp)).trans h.head
    tp := (hT p (lt_of_heap h.head)).trans h.tp
    row := h.row.of_block fun g hg => hw g (hl g hg) (.inr (h.tr g hg))
    tr := fun g hg => (hT g (hl g hg)).trans (h.tr g hg)
    k1 := h.k1
    k4 := h.k4
    len := h.len
    ty := h.ty }⟩
section
variable {T : Tags} {i : Nat} {w : World} {p : Nat} {K : Int} {v : Value} {L : List VV}
theorem RkAt.below (h : RkAt T i w p K v L) {w' : World} (hb : Below w.heap.size w w') : RkAt T i w' p K v L :=
  ⟨(hb.block p (lt_of_heap h.head)).trans h.head, h.tp, h.row.below hb, h.tr, h.k1, h.k4, h.len, h.ty⟩
theorem RkAt.cells (h : RkAt T i w p K v L) : w.cell? ⟨p, 0, none⟩ = some (.int .i64 K) ∧ w.cell? ⟨p, 1, none⟩ = some v ∧ ∀ j, w.frozen? ⟨p, j, none⟩ = false :=
  ⟨by rw [cell_of_row _ _ _ _ _ _ h.head]; rfl, by rw [cell_of_row _ _ _ _ _ _ h.head]; rfl, free_of_row h.head⟩
theorem RkAt.ne (h : RkAt T i w p K v L) : ∀ g, v.ownBlock = some g → g ≠ p := fun g hg e => by
  obtain ⟨cur, hc⟩ := h.row.kind g hg
  subst e
  rw [h.head] at hc
  simp at hc
theorem rt_goes (h : RkAt T i w p K v L) {w' : World} (hb : Below w.heap.size w w') : Goes T i w (Rt p K L) w' :=
  (Goes.start (A := Rt p K L) ⟨v, h⟩).below (Rt.framed p K L) hb
theorem rnew_any {K : Int} (h1 : 1 ≤ K) (h4 : K ≤ 4) (T : Tags) (i : Nat) (w : World) :
    Calls Try.prog 9 #[.int .i64 K] w fun e w' => ∃ p, e = .returned (.pointer (some ⟨p, 0, none⟩)) ∧ Below w.heap.size w w' ∧ ∃ T', Next T w T' ∧ Rt p K [] T' i w' := by
  have t0 : decide (K < 1) = false := decide_eq_false (by omega)
  have t1 : decide (4 < K) = false := decide_eq_false (by omega)
  have hb1 := (Below.refl w.heap.size w).alloc (Nat.le_refl _) (.cells #[.int .i64 K, .slice none 0 0] 56)
  have FIN : Hid (∃ p, (Ending.returned (.pointer (some ⟨w.heap.size, 0, none⟩)) : Ending) = .returned (.pointer (some ⟨p, 0, none⟩)) ∧ Below w.heap.size w (w.alloc (.cells #[.int .i64 K, .slice none 0 0] 56)) ∧
      ∃ T', Next T w T' ∧ Rt p K [] T' i (w.alloc (.cells #[.int .i64 K, .slice none 0 0] 56))) := Lib.hid ⟨_, rfl, hb1, T.one w.heap.size (some i), T.one_next w _, .slice none 0 0, {
      head := heap_alloc_new w _
      tp := by unfold Tags.one; rw [if_neg (by omega)]
      row := RowV.nil _ _
      tr := fun g hg => by simp [Value.ownBlock] at hg
      k1 := h1
      k4 := h4
      len := by simp
      ty := fun x hx => by cases hx }⟩
  clear h1 h4 hb1
  go_enter Try.func9, Try.ntmps9
  go_wp2_with fail
  go_ret
  exact FIN.out
theorem rnew_no {K : Int} (h : K < 1 ∨ 4 < K) (w : World) :
    Calls Try.prog 9 #[.int .i64 K] w fun e w' => e = .returned (.pointer none) ∧ w = w' := by
  by_cases g : K < 1
  · have t0 : decide (K < 1) = true := decide_eq_true g
    clear h g
    go_enter Try.func9, Try.ntmps9
    go_wp2_with fail
    go_ret
    exact ⟨rfl, rfl⟩
  · have t0 : decide (K < 1) = false := decide_eq_false g
    have t1 : decide (4 < K) = true := decide_eq_true (by omega)
    clear h g
    go_enter Try.func9, Try.ntmps9
    go_wp2_with fail
    go_ret
    exact ⟨rfl, rfl⟩
theorem rvalue_any (h : RkAt T i w p K v L) (id : Int) : Calls Try.prog 18 #[.pointer (some ⟨p, 0, none⟩), .int .i64 id] w fun e w' =>
    e = .returned (.tuple #[((atV L id).getD VV.none_).val, .bool (atV L id).isSome]) ∧ Below w.heap.size w w' := by
  obtain ⟨a, c, rfl, hc, _⟩ := h.row.form2
  have hb0 := (Below.refl w.heap.size w).alloc (Nat.le_refl _) (.cells #[.int .i64 0, .int .i64 0, .string ⟨#[]⟩] 29)
  have h1 := h.below hb0
  obtain ⟨_, c2, _⟩ := h1.cells
  have HV := Lib.hid h1.row.holds
  have HB := Lib.hid hb0
  by_cases g0 : id < 0
  · have t0 : decide (id < 0) = true := decide_eq_true g0
    have e : atV L id = none := if_neg (by omega)
    rw [e]
    clear h h1 hb0 g0 e
    go_enter Try.func18, Try.ntmps18
    go_wp2_with fail
    refine bodyPost_ret (v := .tuple #[VV.none_.val, .bool false]) ?_ rfl ⟨rfl, HB.out⟩
    simp [results, Try.results18, go_sem, VV.none_]
  · have t0 : decide (id < 0) = false := decide_eq_false g0
    obtain ⟨j, rfl⟩ : ∃ j : Nat, id = j := ⟨id.toNat, by omega⟩
    have ea : atV L (j : Int) = L[j]? := by
      unfold atV
      rw [if_pos (by omega)]
      rfl
    rw [ea]
    by_cases g1 : L.length ≤ j
    · have e : L[j]? = none := List.getElem?_eq_none g1
      rw [e]
      generalize L.length = n at *
      have t1 : decide ((n : Int) ≤ (j : Int)) = true := decide_eq_true (by omega)
      clear h h1 hb0 g0 e ea
      go_enter Try.func18, Try.ntmps18
      go_wp2_with fail
      refine bodyPost_ret (v := .tuple #[VV.none_.val, .bool false]) ?_ rfl ⟨rfl, HB.out⟩
      simp [results, Try.results18, go_sem, VV.none_]
    · obtain ⟨x, hx⟩ : ∃ x, L[j]? = some x := ⟨L[j]'(by omega), List.getElem?_eq_getElem _⟩
      rw [hx]
      obtain ⟨ad, rfl, d0, d1, d2⟩ := HV.out.at_ hx
      generalize L.length = n at *
      have t1 : decide ((n : Int) ≤ (j : Int)) = false := decide_eq_false (by omega)
      have b0 : (0 : Int) ≤ (j : Int) := Int.natCast_nonneg j
      have b1 : (j : Int) < (n : Int) := by omega
      obtain ⟨k, m, s⟩ := x
      simp only at d0 d1 d2
      clear h h1 hb0 g0 ea hx HV
      go_enter Try.func18, Try.ntmps18
      go_wp2_with fail
      refine bodyPost_ret (v := .tuple #[.agg #[.int .i64 k, .int .i64 m, .string s], .bool true]) ?_ rfl ⟨rfl, (Below.refl _ _).alloc (Nat.le_refl _) _⟩
      simp [results, Try.results18, go_sem]
theorem pos_drop {L : List VV} {x y : VV} {m : Nat} (hy : L[m]? = some y) : posV (L.drop m) x = if y.is x then some 0 else (posV (L.drop (m + 1)) x).map (· + 1) := by
  obtain ⟨hm, rfl⟩ := List.getElem?_eq_some_iff.1 hy
  rw [List.drop_eq_getElem_cons hm]
  rfl
set_option maxHeartbeats 1600000 in
theorem rfind_any (h : RkAt T i w p K v L) (x : VV) : Calls Try.prog 14 #[.pointer (some ⟨p, 0, none⟩), x.val] w fun e w' =>
    e = .returned (.tuple #[.int .i64 (((posV L x).getD 0 : Nat) : Int), .bool (posV L x).isSome]) ∧ Below w.heap.size w w' := by
  obtain ⟨a, c, rfl, hc, _⟩ := h.row.form2
  have hb0 := (Below.refl w.heap.size w).alloc (Nat.le_refl _) (.cells #[.int .i64 x.k, .int .i64 x.n, .string x.s] 29)
  have h1 := h.below hb0
  obtain ⟨_, c2, _⟩ := h1.cells
  have HV := Lib.hid h1.row.holds
  have HB := Lib.hid hb0
  have HC3 := Lib.hid (C3.new w (.int .i64 x.k) (.int .i64 x.n) (.string x.s) 29)
  have hl := h.len
  obtain ⟨n, hn⟩ : ∃ n, L.length = n := ⟨_, rfl⟩
  obtain ⟨o, ho⟩ : ∃ o, posV L x = o := ⟨_, rfl⟩
  rw [hn] at hc c2 HV hl
  rw [ho]
  have HN := Lib.hid hn
  have HO := Lib.hid ho
  have HL := Lib.hid hl
  have KU := guard_val
  obtain ⟨k, y, s⟩ := x
  simp only at *
  have KE := fun W q m r => eql_val W q m r k y s
  clear h h1 hb0 hn ho hl
  go_enter Try.func14, Try.ntmps14
  go_wp2_with fail
  obtain ⟨w1, hw1⟩ : ∃ w1, w.alloc (.cells #[.int .i64 k, .int .i64 y, .string s] 29) = w1 := ⟨_, rfl⟩
  have hz : w.heap.size < w1.heap.size := by rw [← hw1]; simp
  have HZ := Lib.hid hz
  rw [hw1] at HV HB HC3 ⊢
  clear hw1 hz c2
  go_loopw [13] (fun q wr => ∃ m : Nat, q = .int .i64 m ∧ m ≤ n ∧ Hid (Below w1.heap.size w1 wr ∧ o = (posV (L.drop m) ⟨k, y, s⟩).map (· + m))) (fun q _ => n - (RowKit.intOf q).toNat)
  case atStart => exact ⟨0, rfl, Nat.zero_le _, Below.refl _ _, by rw [List.drop_zero, HO.out]; cases o <;> rfl⟩
  case round =>
    obtain ⟨m, rfl, hm, HS⟩ := hrel
    by_cases hlt : m < n
    · obtain ⟨z, hz⟩ : ∃ z, L[m]? = some z := ⟨L[m]'(HN.out ▸ hlt), List.getElem?_eq_getElem _⟩
      obtain ⟨hb, hE⟩ := HS.out
      rw [pos_drop hz] at hE
      obtain ⟨ad, rfl, d0, d1, d2⟩ := (HV.out.below hb).at_ hz
      have hw64 := wi_step hlt (by have := HL.out; omega)
      have b0 : (0 : Int) ≤ (m : Int) := Int.natCast_nonneg m
      have b1 : (m : Int) < (n : Int) := Int.ofNat_lt.2 hlt
      obtain ⟨bb, hbb⟩ : ∃ bb, z.is ⟨k, y, s⟩ = bb := ⟨_, rfl⟩
      rw [hbb] at hE
      obtain ⟨zk, zn, zs⟩ := z
      have KE1 : ∀ W, (binOp .eql 29 (.agg #[.int .i64 zk, .int .i64 zn, .string zs]) (.agg #[.int .i64 k, .int .i64 y, .string s])).run Try.prog W = .ok (.bool bb) W := fun W => by
        have := KE W zk zn zs
        have e : sameV zk zn zs k y s = bb := hbb
        rw [e] at this; exact this
      have hbn := (Below.refl wr.heap.size wr).alloc (Nat.le_refl _) (.cells #[.int .i64 zk, .int .i64 zn, .string zs] 29)
      obtain ⟨f0, f1, f2⟩ := (HC3.out.keep hb HZ.out).keep hbn (by have := hb.size; have := HZ.out; omega)
      have HBn := Lib.hid (hb.trans (hbn.mono hb.size))
      simp only at d0 d1 d2
      cases bb with
      | true =>
        simp only [if_true, Option.map_some, Nat.zero_add] at hE
        subst hE
        have FB := Lib.hid (HB.out.trans (HBn.out.mono HB.out.size))
        clear hz hb hbn HBn HS KE hbb HB HC3 HV
        go_wp2_with fail
        go_ret2
        exact ⟨rfl, FB.out⟩
      | false =>
        simp only [Bool.false_eq_true, if_false, Option.map_map] at hE
        have HF : Hid (Below w1.heap.size w1 (wr.alloc (.cells #[.int .i64 zk, .int .i64 zn, .string zs] 29)) ∧ o = (posV (L.drop (m + 1)) ⟨k, y, s⟩).map (· + (m + 1))) := Lib.hid ⟨HBn.out, by
          rw [hE]
          congr 1
          funext q
          simp
          omega⟩
        clear hz hb hbn HBn HS KE hbb hE
        go_wp2_with fail
        go_roundw
        case rel => exact ⟨m + 1, by go_num, hlt, HF⟩
        case measure => simp [RowKit.intOf]; omega
    · obtain ⟨hb, hE⟩ := HS.out
      have e : L.drop m = [] := List.drop_eq_nil_of_le (by have := HN.out; omega)
      rw [e] at hE
      have eo : o = none := hE
      subst eo
      have FB := Lib.hid (HB.out.trans (hb.mono HB.out.size))
      clear hb hE HS HB HC3 HV e
      go_wp2_with fail
      go_ret2
      exact ⟨rfl, FB.out⟩
end
end Go.Proofs.Ytdbaeghhlhkobaa
