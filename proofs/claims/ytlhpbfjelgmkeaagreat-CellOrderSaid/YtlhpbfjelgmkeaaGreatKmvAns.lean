/- Contracts of kmv's answer and Answers. Conditions: a sketch that was made. -/
import Derived.Test.YtlhpbfjelgmkeaaGreatKmvNew
import Derived.Test.YtlhpbfjelgmkeaaGreatFieldF
set_option maxRecDepth 100000
namespace Go.Proofs.YtlhpbfjelgmkeaaGreat
open Go.RowKit Go.Maps Go.Sort

/-- the answer of a copy -/
def ansOf (t : Nat) (l : List Nat) : Nat := if l.length < t then l.length else mdQ (t - 1) 2305843009213693951 (l.getD (t - 1) 0)
/-- a list that rises: its member k is at least k -/
theorem up_ge : ∀ (l : List Nat), Up l → ∀ (b : Nat), (∀ x ∈ l, b ≤ x) → ∀ k (hk : k < l.length), b + k ≤ l[k]
  | [], _, _, _, k, hk => by simp at hk
  | y :: r, hu, b, hb, 0, _ => by simpa using hb y (List.mem_cons_self ..)
  | y :: r, hu, b, hb, k + 1, hk => by
    have h := List.pairwise_cons.1 hu
    have hy := hb y (List.mem_cons_self ..)
    have := up_ge r h.2 (b + 1) (fun x hx => by have := h.1 x hx; omega) k (by simpa using hk)
    rw [List.getElem_cons_succ]; omega
theorem mdQ_le {a c : Nat} (h : a ≤ c) (h0 : 0 < c) : mdQ a 2305843009213693951 c ≤ 2305843009213693951 := by
  unfold mdQ
  split
  · omega
  · calc a * 2305843009213693951 / c ≤ c * 2305843009213693951 / c := Nat.div_le_div_right (Nat.mul_le_mul_right _ h)
      _ = 2305843009213693951 := Nat.mul_div_cancel_left _ h0
theorem ansOf_le {t : Nat} {l : List Nat} (ht2 : 2 ≤ t) (ht : t ≤ 64) (h : GoodL t l) : ansOf t l ≤ 2305843009213693951 := by
  unfold ansOf
  split
  · omega
  · have hk : t - 1 < l.length := by omega
    have h1 := up_ge l h.up 0 (fun _ _ => Nat.zero_le _) (t - 1) hk
    rw [List.getD_eq_getElem?_getD, List.getElem?_eq_getElem hk]
    exact mdQ_le (by simpa using h1) (by simp; omega)

set_option maxHeartbeats 1600000 in
theorem answer_any {w : World} {p t n c : Nat} {a : Option Addr} {l : List Nat} (c0 : w.cell? ⟨p, 0, none⟩ = some (.int .i64 t)) (h : Holds w (.slice a n c) (nats l)) (hn : l.length = n) (hg : GoodL t l) (ht2 : 2 ≤ t) (ht : t ≤ 64) :
    Calls Tryz.prog 112 #[.pointer (some ⟨p, 0, none⟩), .slice a n c] w (Draws (.int .i64 (ansOf t l : Int)) w) := by
  have hle := ansOf_le ht2 ht hg
  by_cases hlt : n < t
  · have e : ansOf t l = n := by unfold ansOf; rw [if_pos (by omega), hn]
    have t1 : decide (n < t) = true := decide_eq_true hlt
    rw [e]
    clear e hle h hg
    go_enter Tryz.func112, Tryz.ntmps112
    go_wp2_with fail
    go_ret
    exact ⟨rfl, 0, (World.drewN_zero _).symm⟩
  · have hk : t - 1 < l.length := by omega
    have e : ansOf t l = mdQ (t - 1) 2305843009213693951 l[t - 1] := by unfold ansOf; rw [if_neg (by omega), List.getD_eq_getElem?_getD, List.getElem?_eq_getElem hk]; rfl
    obtain ⟨ad, rfl⟩ := h.ptr (by omega)
    have hc := h.cell (nats_at hk)
    have hx := hg.lt _ (List.getElem_mem hk)
    have t1 : decide (n < t) = false := decide_eq_false hlt
    rw [e] at hle ⊢
    generalize l[t - 1] = x at *
    obtain ⟨s, hs⟩ : ∃ s, s = t - 1 := ⟨_, rfl⟩
    rw [← hs] at hc hle ⊢
    have KM := fun W => mulDiv_any s 2305843009213693951 x W (by omega) (by decide) (by omega)
    have es : (t : Int) - 1 = (s : Int) := by omega
    have b0 : (0 : Int) ≤ (s : Int) := by omega
    have b1 : (s : Int) < (n : Int) := by omega
    generalize mdQ s 2305843009213693951 x = q at *
    generalize mdB s 2305843009213693951 x = qb at *
    have hq : IntKind.i64.wrap (q : Int) = (q : Int) := by rw [IntKind.wrap_i64]; omega
    have KM := Lib.hid KM
    clear e h hg hk hx hs hle hn
    go_enter Tryz.func112, Tryz.ntmps112
    go_wp2_with fail
    go_quiet ((exact Calls.quiet_of (KM.out _)))
    go_wp2_with fail
    go_ret
    exact ⟨rfl, _, rfl⟩

theorem infoInt : (Tryz.prog.info? 3).map (fun i => (i.zero, i.size, i.bytes)) = some (some (.int .i64 0), 1, 8) := by kernel_rfl
def ints (l : List Nat) : List Value := l.map fun n : Nat => .int .i64 (n : Int)
theorem mk_ints (w : World) (n : Nat) (hn : n ≤ 1000) :
    (Instr.makeSlice 27 (.int .i64 (n : Int)) (.int .i64 (n : Int))).run Tryz.prog w = .ok (.slice (some ⟨w.heap.size, 0, none⟩) n n) (w.alloc (.cells (ints (List.replicate n 0)).toArray 3)) := by
  obtain ⟨i, hi, hz0, hz1, hz2⟩ := info_parts infoInt
  have := run_make (P := Tryz.prog) w 27 3 i (.int .i64 0) Tryz.underlying27 hi hz0 .i64 .i64 (n : Int) n (by omega) (by omega) (by rw [hz2]; omega) (by omega)
  rw [this, hz1]
  simp only [Int.toNat_natCast, Nat.mul_one, Value.cells]
  have e : madeCells #[Value.int .i64 0] n = (ints (List.replicate n 0)).toArray := by
    apply Array.toList_inj.1
    rw [toList_madeCells_one]
    simp [ints]
  rw [e]
/-- the answers behind m rounds -/
def SkV.answers (V : SkV) : List Nat := V.L.map (ansOf V.t)
def ansPart (A : List Nat) (m : Nat) : List Nat := A.take m ++ List.replicate (A.length - m) 0
theorem ansPart_next (A : List Nat) (m : Nat) (h : m < A.length) : (ansPart A m).set m A[m] = ansPart A (m + 1) := by
  unfold ansPart
  rw [List.set_append_right _ _ (by simp; omega), List.length_take, Nat.min_eq_left (by omega), Nat.sub_self, show A.length - m = (A.length - (m + 1)) + 1 by omega, List.replicate_succ, List.set_cons_zero, List.take_succ_eq_append_getElem h, List.append_assoc]
  rfl
theorem set_ints {w : World} {g j : Nat} {xs : List Nat} (h : w.heap[g]? = some (.cells (ints xs).toArray 3 (0, 0))) (c : Nat) : (w.setCell ⟨g, j, none⟩ (.int .i64 (c : Int))).heap[g]? = some (.cells (ints (xs.set j c)).toArray 3 (0, 0)) := by
  rw [heap_set h]
  congr 2
  apply Array.toList_inj.1
  simp [ints, List.map_set]

theorem cell_ints {w : World} {g j : Nat} {xs : List Nat} (h : w.heap[g]? = some (.cells (ints xs).toArray 3 (0, 0))) (hj : j < xs.length) : w.cell? ⟨g, j, none⟩ = some (.int .i64 (xs[j] : Int)) := by
  rw [cell_of_row _ _ _ _ _ _ h]
  simp [ints, hj]
theorem ansPart_len (A : List Nat) (m : Nat) (h : m ≤ A.length) : (ansPart A m).length = A.length := by simp [ansPart]; omega
/-- a new row of the answers -/
def AnsAt (w : World) (A : List Nat) (e : Ending) (w' : World) : Prop :=
  ∃ g, e = .returned (.slice (some ⟨g, 0, none⟩) A.length A.length) ∧ w.heap.size ≤ g ∧ w'.heap[g]? = some (.cells (ints A).toArray 3 (0, 0)) ∧ Below w.heap.size w w'

set_option maxHeartbeats 1600000 in
theorem answers_any {T : Tags} {i : Nat} {w : World} {p : Nat} {V : SkV} (h : Sk p V T i w) :
    Calls Tryz.prog 70 #[.pointer (some ⟨p, 0, none⟩)] w (AnsAt w V.answers) := by
  obtain ⟨sa, sc, cb, rows, g⟩ := h
  obtain ⟨c0, c1, c2⟩ := g.cells
  have hset := g.good.set
  have hlen := g.good.len
  have hn7 : V.L.length ≤ 7 := by rw [hlen]; exact hset.n7
  have KM := made_yes c0 hset.t2
  have hmk := fun W => mk_ints W V.L.length (by omega)
  have hb0 := (Below.refl w.heap.size w).alloc (Nat.le_refl _) (.cells (ints (List.replicate V.L.length 0)).toArray 3)
  have ha0 := alloc1 w (.cells (ints (List.replicate V.L.length 0)).toArray 3)
  have e0 : List.replicate V.L.length 0 = ansPart V.answers 0 := by simp [ansPart, SkV.answers]
  have hA : V.answers.length = V.L.length := by simp [SkV.answers]
  rw [e0] at hmk hb0 ha0
  have HI := Lib.hid (And.intro ha0 hb0)
  have HG := Lib.hid g
  clear hb0 ha0 e0 g
  unfold AnsAt
  rw [hA]
  have HL := Lib.hid hA
  generalize hN : V.L.length = N at *
  have HN := Lib.hid hN
  clear hN hA hlen
  go_enter Tryz.func70, Tryz.ntmps70
  go_wp2_with fail
  refine KM.mono ?_
  rintro e w' ⟨rfl, rfl⟩
  clear KM
  go_wp2_with fail
  go_loopw [4, 16] (fun _ k wr => ∃ m : Nat, k = .int .i64 m ∧ m ≤ N ∧ Hid (wr.heap[w.heap.size]? = some (.cells (ints (ansPart V.answers m)).toArray 3 (0, 0)) ∧ Below w.heap.size w wr)) (fun _ k _ => N - (intOf k).toNat)
  case atStart => exact ⟨0, rfl, Nat.zero_le _, HI.out⟩
  case round =>
    obtain ⟨m, rfl, hm, HR⟩ := hrel
    clear c0 c1 c2
    by_cases hlt : m < N
    · obtain ⟨sa1, sc1, cb1, rows1, g1⟩ := HG.out.below HR.out.2
      have hmL : m < V.L.length := by rw [HN.out]; exact hlt
      obtain ⟨c0, c1, c2⟩ := g1.cells
      rw [HN.out] at c2
      obtain ⟨v, hv, c3, f3, hown, hgl⟩ := g1.at_ hmL
      obtain ⟨a, c, rfl, hc, hcm⟩ := ownsRow_form hown
      have KA := answer_any c0 (Holds.of_row (by rw [nats_len]; exact hown)) rfl hgl hset.t2 hset.t64
      have hAm : m < V.answers.length := by rw [HL.out]; exact hlt
      have eA : V.answers[m] = ansOf V.t V.L[m] := by simp [SkV.answers]
      rw [← eA] at KA
      have hA2 := set_ints (j := m) HR.out.1 V.answers[m]
      rw [ansPart_next _ _ hAm] at hA2
      have c4 := cell_ints HR.out.1 (j := m) (by rw [ansPart_len _ _ (by omega)]; omega)
      generalize (ansPart V.answers m)[m]'(by rw [ansPart_len _ _ (by omega)]; omega) = old at c4
      have f4 := free_of_row HR.out.1 m
      have b0 : (0 : Int) ≤ (m : Int) := by omega
      have b1 : (m : Int) < (N : Int) := by omega
      have HA2 := Lib.hid hA2
      have HK := Lib.hid KA
      have hbl := HR.out.2.size
      clear hA2 KA g1 hown hgl hv hc hcm eA
      go_wp2_with fail
      refine HK.out.mono ?_
      rintro e w1 ⟨rfl, q, rfl⟩
      clear HK
      go_wp2_with fail
      go_roundw
      case rel => exact ⟨m + 1, by go_num, by omega, Lib.hid ⟨HA2.out, (below_dN HR.out.2 q).setCell (Nat.le_refl _) _⟩⟩
      case measure => simp [intOf]; omega
    · have hme : m = N := by omega
      have HP : Hid (wr.heap[w.heap.size]? = some (.cells (ints V.answers).toArray 3 (0, 0)) ∧ Below w.heap.size w wr) := Lib.hid (by
        have := HR.out
        rw [hme, ← HL.out] at this
        simpa [ansPart] using this)
      clear HR hme
      go_wp2_with fail
      go_ret
      exact ⟨_, rfl, Nat.le_refl _, HP.out.1, HP.out.2⟩
end Go.Proofs.YtlhpbfjelgmkeaaGreat
