/- What a dictionary is in memory; contracts of its calls but Add, Copy and Room. Conditions: a dictionary that was made. -/
import Derived.Test.YtdbaeghhlhkobaaDictFits
import Derived.Test.YtdbaeghhlhkobaaSched2
set_option maxRecDepth 100000
namespace Go.Proofs.Ytdbaeghhlhkobaa
open Go.RowKit Go.Maps Go.Sort Go.Lib

/-- a dictionary in memory -/
structure DkAt (T : Tags) (i : Nat) (w : World) (p : Nat) (K : Int) (b : Nat) (v : Value) (L : List VV) : Prop where
  head : w.heap[p]? = some (.cells #[.int .i64 K, .map (some b), v] 50 (0, 0))
  tp : T p = some i
  map : MAt w b L
  tb : T b = some i
  row : RowV 0 v L w
  tr : ∀ g, v.ownBlock = some g → T g = some i
  k1 : 1 ≤ K
  k4 : K ≤ 4
  len : L.length ≤ 512
  ty : ∀ x ∈ L, x.ty
def Dt (p : Nat) (K : Int) (L : List VV) : Thing := fun T i w => ∃ b v, DkAt T i w p K b v L
theorem Dt.framed (p : Nat) (K : Int) (L : List VV) : Framed (Dt p K L) := by
  rintro T T' i w w' ⟨b, v, h⟩ hT hw
  have hl := h.row.lt
  exact ⟨b, v, {
    head := (hw p (lt_of_heap h.head) (.inr h.tp)).trans h.head
    tp := (hT p (lt_of_heap h.head)).trans h.tp
    map := h.map.of_block (hw b h.map.lt (.inr h.tb))
    tb := (hT b h.map.lt).trans h.tb
    row := h.row.of_block fun g hg => hw g (hl g hg) (.inr (h.tr g hg))
    tr := fun g hg => (hT g (hl g hg)).trans (h.tr g hg)
    k1 := h.k1
    k4 := h.k4
    len := h.len
    ty := h.ty }⟩
section
variable {T : Tags} {i : Nat} {w : World} {p : Nat} {K : Int} {b : Nat} {v : Value} {L : List VV}
theorem DkAt.below (h : DkAt T i w p K b v L) {w' : World} (hb : Below w.heap.size w w') : DkAt T i w' p K b v L :=
  ⟨(hb.block p (lt_of_heap h.head)).trans h.head, h.tp, h.map.of_block (hb.block b h.map.lt), h.tb, h.row.below hb, h.tr, h.k1, h.k4, h.len, h.ty⟩
theorem DkAt.cells (h : DkAt T i w p K b v L) : w.cell? ⟨p, 0, none⟩ = some (.int .i64 K) ∧ w.cell? ⟨p, 1, none⟩ = some (.map (some b)) ∧ w.cell? ⟨p, 2, none⟩ = some v ∧ ∀ j, w.frozen? ⟨p, j, none⟩ = false :=
  ⟨by rw [cell_of_row _ _ _ _ _ _ h.head]; rfl, by rw [cell_of_row _ _ _ _ _ _ h.head]; rfl, by rw [cell_of_row _ _ _ _ _ _ h.head]; rfl, free_of_row h.head⟩
theorem DkAt.ne (h : DkAt T i w p K b v L) : p ≠ b ∧ ∀ g, v.ownBlock = some g → g ≠ p ∧ g ≠ b := by
  obtain ⟨es, clock, hm⟩ := h.map.isMap
  refine ⟨fun e => ?_, fun g hg => ⟨fun e => ?_, fun e => ?_⟩⟩
  · subst e; rw [h.head] at hm; cases hm
  · obtain ⟨cur, hc⟩ := h.row.kind g hg
    subst e
    rw [h.head] at hc
    simp at hc
  · obtain ⟨cur, hc⟩ := h.row.kind g hg
    subst e
    rw [hm] at hc; cases hc

theorem dmade_at (hk : 1 ≤ K) (c0 : w.cell? ⟨p, 0, none⟩ = some (.int .i64 K)) :
    Calls Try.prog 26 #[.pointer (some ⟨p, 0, none⟩)] w fun e w' => e = .returned (.bool true) ∧ w = w' := by
  have h2 : (K != 0) = true := by rw [bne_iff_ne]; omega
  have h3 : (K == 0) = false := by rw [beq_eq_false_iff_ne]; omega
  clear hk
  go_enter Try.func26, Try.ntmps26
  go_wp2_with fail
  go_ret
  exact ⟨rfl, rfl⟩
theorem dlen_at (hk : 1 ≤ K) {a : Option Addr} {n c : Nat} (c0 : w.cell? ⟨p, 0, none⟩ = some (.int .i64 K)) (c2 : w.cell? ⟨p, 2, none⟩ = some (.slice a n c)) :
    Calls Try.prog 22 #[.pointer (some ⟨p, 0, none⟩)] w fun e w' => e = .returned (.int .i64 n) ∧ w = w' := by
  have KM := dmade_at hk c0
  clear hk
  go_enter Try.func22, Try.ntmps22
  go_wp2_with fail
  refine KM.mono ?_
  rintro e w' ⟨rfl, rfl⟩
  clear KM
  go_wp2_with fail
  go_ret
  exact ⟨rfl, rfl⟩
theorem dkind_at (hk : 1 ≤ K) (c0 : w.cell? ⟨p, 0, none⟩ = some (.int .i64 K)) :
    Calls Try.prog 23 #[.pointer (some ⟨p, 0, none⟩)] w fun e w' => e = .returned (.int .i64 K) ∧ w = w' := by
  have KM := dmade_at hk c0
  clear hk
  go_enter Try.func23, Try.ntmps23
  go_wp2_with fail
  refine KM.mono ?_
  rintro e w' ⟨rfl, rfl⟩
  clear KM
  go_wp2_with fail
  go_ret
  exact ⟨rfl, rfl⟩
theorem dlen_any (h : DkAt T i w p K b v L) : Calls Try.prog 22 #[.pointer (some ⟨p, 0, none⟩)] w fun e w' => e = .returned (.int .i64 L.length) ∧ w = w' := by
  obtain ⟨a, c, rfl, _⟩ := h.row.form2
  exact dlen_at h.k1 h.cells.1 h.cells.2.2.1
theorem dkind_any (h : DkAt T i w p K b v L) : Calls Try.prog 23 #[.pointer (some ⟨p, 0, none⟩)] w fun e w' => e = .returned (.int .i64 K) ∧ w = w' :=
  dkind_at h.k1 h.cells.1
theorem dvalues_any (h : DkAt T i w p K b v L) : Calls Try.prog 24 #[.pointer (some ⟨p, 0, none⟩)] w (ClonedV w L) := by
  have KM := dmade_at h.k1 h.cells.1
  have KC := clone_vals h.row (by have := h.len; omega)
  obtain ⟨_, _, c2, _⟩ := h.cells
  clear h
  go_enter Try.func24, Try.ntmps24
  go_wp2_with fail
  refine KM.mono ?_
  rintro e w' ⟨rfl, rfl⟩
  clear KM
  go_wp2_with fail
  refine KC.mono ?_
  rintro e w1 ⟨v1, rfl, ho, hb⟩
  have HP : Hid (ClonedV w L (.returned v1) w1) := Lib.hid ⟨_, rfl, ho, hb⟩
  clear ho hb KC
  go_wp2_with fail
  go_ret
  exact HP.out
/-- the value with an id -/
def atV (L : List VV) (id : Int) : Option VV := if 0 ≤ id then L[id.toNat]? else none
theorem dvalue_any (h : DkAt T i w p K b v L) (id : Int) : Calls Try.prog 17 #[.pointer (some ⟨p, 0, none⟩), .int .i64 id] w fun e w' =>
    e = .returned (.tuple #[((atV L id).getD VV.none_).val, .bool (atV L id).isSome]) ∧ Below w.heap.size w w' := by
  obtain ⟨a, c, rfl, hc, _⟩ := h.row.form2
  have hb0 := (Below.refl w.heap.size w).alloc (Nat.le_refl _) (.cells #[.int .i64 0, .int .i64 0, .string ⟨#[]⟩] 29)
  have h1 := h.below hb0
  have KL := dlen_at h.k1 h1.cells.1 h1.cells.2.2.1
  obtain ⟨_, _, c2, _⟩ := h1.cells
  have HV := Lib.hid h1.row.holds
  have HB := Lib.hid hb0
  by_cases g0 : id < 0
  · have t0 : decide (id < 0) = true := decide_eq_true g0
    have e : atV L id = none := if_neg (by omega)
    rw [e]
    clear h h1 hb0 g0 e
    go_enter Try.func17, Try.ntmps17
    go_wp2_with fail
    refine bodyPost_ret (v := .tuple #[VV.none_.val, .bool false]) ?_ rfl ⟨rfl, HB.out⟩
    simp [results, Try.results17, go_sem, VV.none_]
  · have t0 : decide (id < 0) = false := decide_eq_false g0
    obtain ⟨j, rfl⟩ : ∃ j : Nat, id = j := ⟨id.toNat, by omega⟩
    have ea : atV L (j : Int) = L[j]? := by
      unfold atV
      rw [if_pos (by omega)]
      rfl
    rw [ea]
    by_cases g1 : L.length ≤ j
    · have e : L[j]? = none := List.getElem?_eq_none g1
      rw [e]
      generalize L.length = n at *
      have t1 : decide ((n : Int) ≤ (j : Int)) = true := decide_eq_true (by omega)
      clear h h1 hb0 g0 e ea
      go_enter Try.func17, Try.ntmps17
      go_wp2_with fail
      refine KL.mono ?_
      rintro e w' ⟨rfl, rfl⟩
      clear KL
      go_wp2_with fail
      refine bodyPost_ret (v := .tuple #[VV.none_.val, .bool false]) ?_ rfl ⟨rfl, HB.out⟩
      simp [results, Try.results17, go_sem, VV.none_]
    · obtain ⟨x, hx⟩ : ∃ x, L[j]? = some x := ⟨L[j]'(by omega), List.getElem?_eq_getElem _⟩
      rw [hx]
      obtain ⟨ad, rfl, d0, d1, d2⟩ := HV.out.at_ hx
      generalize L.length = n at *
      have t1 : decide ((n : Int) ≤ (j : Int)) = false := decide_eq_false (by omega)
      have b0 : (0 : Int) ≤ (j : Int) := Int.natCast_nonneg j
      have b1 : (j : Int) < (n : Int) := by omega
      obtain ⟨k, m, s⟩ := x
      simp only at d0 d1 d2
      clear h h1 hb0 g0 ea hx HV
      go_enter Try.func17, Try.ntmps17
      go_wp2_with fail
      refine KL.mono ?_
      rintro e w' ⟨rfl, rfl⟩
      clear KL
      go_wp2_with fail
      refine bodyPost_ret (v := .tuple #[.agg #[.int .i64 k, .int .i64 m, .string s], .bool true]) ?_ rfl ⟨rfl, (Below.refl _ _).alloc (Nat.le_refl _) _⟩
      simp [results, Try.results17, go_sem]
theorem dfind_any (h : DkAt T i w p K b v L) {x : VV} (hx : x.ty) : Calls Try.prog 13 #[.pointer (some ⟨p, 0, none⟩), x.val] w fun e w' =>
    e = .returned (.tuple #[.int .i64 (((posV L x).getD 0 : Nat) : Int), .bool (posV L x).isSome]) ∧ Below w.heap.size w w' := by
  have hb0 := (Below.refl w.heap.size w).alloc (Nat.le_refl _) (.cells #[.int .i64 x.k, .int .i64 x.n, .string x.s] 29)
  have h1 := h.below hb0
  have KM := dmade_at h.k1 h1.cells.1
  obtain ⟨_, c1, _, _⟩ := h1.cells
  have HM : ∀ q, (Instr.lookup 48 (.map (some b)) (.agg #[.int .i64 x.k, .int .i64 x.n, .string x.s]) true).run Try.prog ((w.alloc (.cells #[.int .i64 x.k, .int .i64 x.n, .string x.s] 29)).drewN q) = .ok (.tuple #[.int .i64 (((posV L x).getD 0 : Nat) : Int), .bool (posV L x).isSome]) ((w.alloc (.cells #[.int .i64 x.k, .int .i64 x.n, .string x.s] 29)).drewN q) := fun q => (h1.map.of_block (w' := (w.alloc (.cells #[.int .i64 x.k, .int .i64 x.n, .string x.s] 29)).drewN q) rfl).look hx
  have HB := Lib.hid hb0
  obtain ⟨k, n, s⟩ := x
  simp only at *
  generalize (posV L ⟨k, n, s⟩).getD 0 = q at *
  generalize (posV L ⟨k, n, s⟩).isSome = o at *
  clear h h1 hb0 hx
  go_enter Try.func13, Try.ntmps13
  go_wp2_with fail
  refine KM.mono ?_
  rintro e w' ⟨rfl, rfl⟩
  clear KM
  go_wp2_with fail
  go_quiet (fail)
  go_wp2_with fail
  go_ret2
  exact ⟨rfl, below_dN HB.out _⟩
theorem dnew_any {K : Int} (h1 : 1 ≤ K) (h4 : K ≤ 4) (T : Tags) (i : Nat) (w : World) :
    Calls Try.prog 8 #[.int .i64 K] w fun e w' => ∃ p, e = .returned (.pointer (some ⟨p, 0, none⟩)) ∧ Below w.heap.size w w' ∧ ∃ T', Next T w T' ∧ Dt p K [] T' i w' := by
  have t0 : decide (K < 1) = false := decide_eq_false (by omega)
  have t1 : decide (4 < K) = false := decide_eq_false (by omega)
  have hb1 := (Below.refl w.heap.size w).alloc (Nat.le_refl _) (.map #[] 0)
  have hb2 := hb1.alloc hb1.size (.cells #[.int .i64 K, .map (some w.heap.size), .slice none 0 0] 50)
  have FIN : Hid (∃ p, (Ending.returned (.pointer (some ⟨w.heap.size + 1, 0, none⟩)) : Ending) = .returned (.pointer (some ⟨p, 0, none⟩)) ∧ Below w.heap.size w ((w.alloc (.map #[] 0)).alloc (.cells #[.int .i64 K, .map (some w.heap.size), .slice none 0 0] 50)) ∧
      ∃ T', Next T w T' ∧ Dt p K [] T' i ((w.alloc (.map #[] 0)).alloc (.cells #[.int .i64 K, .map (some w.heap.size), .slice none 0 0] 50))) := by
    have hz : (w.alloc (.map #[] 0)).heap.size = w.heap.size + 1 := by simp
    have hn := heap_alloc_new (w.alloc (.map #[] 0)) (.cells #[.int .i64 K, .map (some w.heap.size), .slice none 0 0] 50)
    rw [hz] at hn
    refine ⟨_, rfl, hb2, T.one w.heap.size (some i), T.one_next w _, w.heap.size, .slice none 0 0, {
      head := hn
      tp := by unfold Tags.one; rw [if_neg (by omega)]
      map := (MAt.made w).of_block (heap_alloc_old _ _ (by omega))
      tb := by unfold Tags.one; rw [if_neg (by omega)]
      row := RowV.nil _ _
      tr := fun g hg => by simp [Value.ownBlock] at hg
      k1 := h1
      k4 := h4
      len := by simp
      ty := fun x hx => by cases hx }⟩
  have hmm := @run_makeMap Try.prog
  clear h1 h4 hb1 hb2
  go_enter Try.func8, Try.ntmps8
  go_wp2_with fail
  go_ret
  exact FIN.out
theorem dnew_no {K : Int} (h : K < 1 ∨ 4 < K) (w : World) :
    Calls Try.prog 8 #[.int .i64 K] w fun e w' => e = .returned (.pointer none) ∧ w = w' := by
  by_cases g : K < 1
  · have t0 : decide (K < 1) = true := decide_eq_true g
    clear h g
    go_enter Try.func8, Try.ntmps8
    go_wp2_with fail
    go_ret
    exact ⟨rfl, rfl⟩
  · have t0 : decide (K < 1) = false := decide_eq_false g
    have t1 : decide (4 < K) = true := decide_eq_true (by omega)
    clear h g
    go_enter Try.func8, Try.ntmps8
    go_wp2_with fail
    go_ret
    exact ⟨rfl, rfl⟩
end
end Go.Proofs.Ytdbaeghhlhkobaa
