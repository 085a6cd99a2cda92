/- Contract of the reference's Load at any bytes. Conditions: at most 100000 bytes. -/
import Derived.Test.YtkmonecolkamjaaHeavyLoadAny
import Derived.Test.YtkmonecolkamjaaRHeavyTop
import Derived.Test.YtkmonecolkamjaaCodecRefGet
set_option maxRecDepth 100000
namespace Go.Proofs.Ytkmonecolkamjaa
open Go.RowKit Go.Maps Go.Sort Go.Shelf

/-- bytes behind U of them, where they lie -/
theorem cut_at {w : World} {ad : Addr} {bn bc U : Nat} {xs : List UInt8} (hH : Holds w (.slice (some ad) bn bc) (u8s xs)) (hU : U ≤ bn) :
    ∃ A, (if bc = U then ad else ad.add U) = A ∧ (if bc = U then some ad else some (ad.add U)) = some A ∧ Holds w (.slice (some A) (bn - U) (bc - U)) (u8s (xs.drop U)) := by
  have hl := hH.len
  rw [u8s_len] at hl
  have HH := holds_if (hH.drop U hU) hl.2
  rw [u8s_drop] at HH
  by_cases e : bc = U
  · rw [if_pos e] at HH ⊢
    exact ⟨ad, rfl, by rw [if_pos e], HH⟩
  · rw [if_neg e] at HH ⊢
    exact ⟨ad.add U, rfl, by rw [if_neg e], HH⟩
theorem rget_at {w : World} {a : Option Addr} {n c : Nat} {xs : List UInt8} (hH : Holds w (.slice a n c) (u8s xs)) (hn : n ≤ 100000) :
    ∃ x k, getN xs = (x, k) ∧ x < 18446744073709551616 ∧ k ≤ n ∧ ∀ W, Below w.heap.size w W → Hid (Calls Try.prog 38 #[.slice a n c] W fun e w' => e = .returned (.tuple #[.int .u64 (x : Int), .int .i64 (k : Int)]) ∧ W = w') := by
  have hl := hH.len
  rw [u8s_len] at hl
  obtain ⟨g1, g2⟩ := getN_le xs
  have K := fun W (hb : Below w.heap.size w W) => refGet_any (hH.below hb) (by omega)
  generalize getN xs = g at *
  exact ⟨g.1, g.2, rfl, g2, by omega, K⟩

/-- what the reference's Load leaves, whatever the bytes -/
def RLoadG (w0 : World) (E : List (Nat × Thing)) (i m : Nat) (l : List UInt8) (e : Ending) (w' : World) : Prop :=
  (∃ V p, OkV m V ∧ l = V.bytes ∧ e = .returned (.tuple #[.pointer (some ⟨p, 0, none⟩), .int .i64 0]) ∧ Side w0 ((i, RK p V) :: E) w') ∨
  ((∀ V, OkV m V → l ≠ V.bytes) ∧ e = .returned (.tuple #[.pointer none, .int .i64 8]) ∧ Side w0 E w')

/-- how far the bytes are read: total, count, counters; the rest -/
def Rd (l : List UInt8) (t n : Nat) (L : CL) (r : List UInt8) : Prop := l = bytesW (t :: n :: cwords L) ++ r
theorem ok_words {m : Nat} {V : HV} (ok : OkV m V) : ∀ u ∈ V.words, u < 18446744073709551616 := words_lt ok.1 ok.2.2.2.2
/-- bytes of a sketch that were read so far: its total, count and first counters -/
theorem Rd.of {m : Nat} {V : HV} (ok : OkV m V) {t n : Nat} {L : CL} {r : List UInt8} (ht : t < 18446744073709551616) (hn : n < 18446744073709551616) (hL : ∀ q ∈ L, InI q.1 ∧ InI q.2 ∧ 0 ≤ q.2) (h : Rd V.bytes t n L r) (hk : L.length ≤ V.L.length) :
    V.n = t ∧ V.L.length = n ∧ V.L.take L.length = L ∧ r = bytesW (cwords (V.L.drop L.length)) := by
  have hw : ∀ u ∈ t :: n :: cwords L, u < 18446744073709551616 := fun u hu => by
    rcases List.mem_cons.1 hu with rfl | hu
    · exact ht
    · rcases List.mem_cons.1 hu with rfl | hu
      · exact hn
      · exact cwords_lt (fun p hp => ⟨(hL p hp).1, (hL p hp).2.1⟩) u hu
  obtain ⟨ws, e1, e2⟩ := bytesW_split _ _ _ hw (ok_words ok) h.symm (by
    unfold HV.words
    simp only [List.length_cons, cwords_len]; omega)
  unfold HV.words at e1
  simp only [List.cons_append, List.cons.injEq] at e1
  obtain ⟨e3, e4, e5⟩ := e1
  have e6 : cwords V.L = cwords (V.L.take L.length) ++ cwords (V.L.drop L.length) := by rw [← cwords_append, List.take_append_drop]
  rw [e6] at e5
  have hl : (cwords (V.L.take L.length)).length = (cwords L).length := by rw [cwords_len, cwords_len, List.length_take]; omega
  obtain ⟨e7, e8⟩ := List.append_inj e5 hl
  refine ⟨e3, e4, ?_, by rw [e2, ← e8]⟩
  -- the counters' numbers tell the counters
  have key : ∀ (A B : CL), (∀ q ∈ A, InI q.1 ∧ 0 ≤ q.2) → (∀ q ∈ B, InI q.1 ∧ 0 ≤ q.2) → cwords A = cwords B → A = B := by
    intro A
    induction A with
    | nil =>
      intro B _ _ h
      have := congrArg List.length h
      rw [cwords_len, cwords_len] at this
      exact (List.eq_nil_of_length_eq_zero (by simp at this; omega)).symm
    | cons p A ih =>
      intro B hA hB h
      cases B with
      | nil =>
        have := congrArg List.length h
        rw [cwords_len, cwords_len] at this
        simp at this
      | cons q B =>
        unfold cwords at h ih
        simp only [List.flatMap_cons, List.cons_append, List.nil_append, List.cons.injEq] at h
        obtain ⟨h1, h2, h3⟩ := h
        have p1 := hA p (List.mem_cons_self ..)
        have q1 := hB q (List.mem_cons_self ..)
        have z1 := zag_zigH p1.1
        rw [h1, zag_zigH q1.1] at z1
        have : p = q := Prod.ext z1.symm (by omega)
        rw [this, ih B (fun x hx => hA x (List.mem_cons_of_mem _ hx)) (fun x hx => hB x (List.mem_cons_of_mem _ hx)) h3]
  exact key _ _ (fun q hq => ⟨(ok.2.2.2.2 q (List.mem_of_mem_take hq)).1, by have := ok.1.pos q (List.mem_of_mem_take hq); omega⟩) (fun q hq => ⟨(hL q hq).1, (hL q hq).2.2⟩) e7
/-- a counter more -/
theorem Rd.next {l : List UInt8} {t n : Nat} {L : CL} {r : List UInt8} (h : Rd l t n L r) {x C a1 a2 : Nat} (h1 : getN r = (x, a1)) (n1 : a1 ≠ 0) (h2 : getN (r.drop a1) = (C, a2)) (n2 : a2 ≠ 0) (hx : x < 18446744073709551616) : Rd l t n (L ++ [(zagN x, (C : Int))]) (r.drop (a1 + a2)) := by
  obtain ⟨_, d1, _⟩ := getN_inv (l := r) (by rw [h1]; exact n1)
  obtain ⟨_, d2, _⟩ := getN_inv (l := r.drop a1) (by rw [h2]; exact n2)
  rw [h1] at d1
  rw [h2, List.drop_drop] at d2
  have hz : zigH (zagN x) = x := by
    by_cases g : x % 2 = 1
    · unfold zigH
      rw [zag_odd g, zig_neg (by omega)]; omega
    · unfold zigH
      rw [zag_even g, zig_pos (by omega)]; omega
  unfold Rd at h ⊢
  rw [h, cwords_append]
  have e : cwords [(zagN x, (C : Int))] = [x, C] := by simp [cwords, hz]
  rw [e, ← List.cons_append, ← List.cons_append, bytesW_append, List.append_assoc]
  congr 1
  conv => lhs; rw [d1, d2]
  simp [bytesW]

/-- what bytes of a sketch give next -/
theorem Rd.at_ok {m : Nat} {V : HV} (ok : OkV m V) {l : List UInt8} (e : l = V.bytes) {t n : Nat} {L : CL} {r : List UInt8} (ht : t < 18446744073709551616) (hn : n < 18446744073709551616) (hL : ∀ q ∈ L, InI q.1 ∧ InI q.2 ∧ 0 ≤ q.2) (h : Rd l t n L r) (hV : V.L.length = n) (hk : L.length < n) {x C a1 a2 : Nat} (h1 : getN r = (x, a1)) (h2 : getN (r.drop a1) = (C, a2)) :
    a1 ≠ 0 ∧ a2 ≠ 0 ∧ 1 ≤ C ∧ C ≤ 1099511627776 ∧ V.L.take (L.length + 1) = L ++ [(zagN x, (C : Int))] := by
  subst e
  obtain ⟨_, _, e3, e4⟩ := Rd.of ok ht hn hL h (by omega)
  obtain ⟨q, hq⟩ : ∃ q, V.L[L.length]? = some q := ⟨_, List.getElem?_eq_getElem (by omega)⟩
  obtain ⟨hq', eq⟩ := List.getElem?_eq_some_iff.1 hq
  have hqm := List.mem_of_getElem? hq
  have hI := ok.2.2.2.2 q hqm
  have hp := ok.1.pos q hqm
  have hle := le_total ok.1.pos q hqm
  have hs := ok.1.sum
  have hn40 := ok.2.2.1
  have hr : r = dig (zigH q.1) ++ (dig q.2.toNat ++ bytesW (cwords (V.L.drop (L.length + 1)))) := by
    rw [e4, List.drop_eq_getElem_cons hq', eq]
    simp [cwords, bytesW]
  have z2 := (zigH_eq hI.1).2
  have k1 : getN r = (zigH q.1, (dig (zigH q.1)).length) := by rw [hr]; exact get_dig0 _ z2
  rw [h1] at k1
  obtain ⟨x1, x2⟩ := Prod.mk.inj k1
  have k2 : getN (r.drop a1) = (q.2.toNat, (dig q.2.toNat).length) := by
    rw [x2, hr, List.drop_left]
    exact get_dig0 _ (by omega)
  rw [h2] at k2
  obtain ⟨x3, x4⟩ := Prod.mk.inj k2
  have := dig_pos (zigH q.1)
  have := dig_pos q.2.toNat
  refine ⟨by omega, by omega, by omega, by omega, ?_⟩
  rw [List.take_succ_eq_append_getElem hq', eq, e3, x1, zag_zigH hI.1, show (C : Int) = q.2 by omega]

/-- the sketch while Load fills it -/
structure LSt (W wr : World) (P m : Nat) (v : Value) (L : CL) : Prop where
  head : wr.heap[P]? = some (.cells #[.int .i64 m, v, .int .i64 0] 65 (0, 0))
  own : OwnC W L v wr
  hP : W.heap.size ≤ P
  ne : v.ownBlock ≠ some P
  asc : Asc L
  inI : ∀ p ∈ L, InI p.1 ∧ InI p.2
theorem LSt.cells {W wr : World} {P m : Nat} {v : Value} {L : CL} (h : LSt W wr P m v L) : wr.cell? ⟨P, 1, none⟩ = some v ∧ wr.frozen? ⟨P, 1, none⟩ = false ∧ wr.frozen? ⟨P, 2, none⟩ = false ∧ P < wr.heap.size ∧ wr.cell? ⟨P, 2, none⟩ = some (.int .i64 0) :=
  ⟨by rw [cell_of_row _ _ _ _ _ _ h.head]; rfl, free_of_row h.head 1, free_of_row h.head 2, lt_of_heap h.head, by rw [cell_of_row _ _ _ _ _ _ h.head]; rfl⟩
theorem LSt.below {W wr w' : World} {P m : Nat} {v : Value} {L : CL} (h : LSt W wr P m v L) (hb : Below wr.heap.size wr w') : LSt W w' P m v L :=
  ⟨(hb.block P (lt_of_heap h.head)).trans h.head, h.own.below hb, h.hP, h.ne, h.asc, h.inI⟩
theorem LSt.next {W wr : World} {P m : Nat} {v : Value} {L : CL} (h : LSt W wr P m v L) (x c : Int) (hl : L.length ≤ 1000) (hA : Asc (L ++ [(x, c)])) (hx : InI x ∧ InI c) :
    ∃ g k w', (∀ ty, (Builtin.append_ #[63, 63] ty #[v, .slice (some ⟨wr.heap.size, 0, none⟩) 1 1]).run Try.prog (wr.alloc (.cells #[.int .i64 x, .int .i64 c] 70)) = .ok (.slice (some ⟨g, 0, none⟩) (L.length + 1) k) w') ∧
      w'.cell? ⟨P, 1, none⟩ = some v ∧ w'.frozen? ⟨P, 1, none⟩ = false ∧ wr.grownBy w' v.ownBlock ∧ LSt W (w'.setCell ⟨P, 1, none⟩ (.slice (some ⟨g, 0, none⟩) (L.length + 1) k)) P m (.slice (some ⟨g, 0, none⟩) (L.length + 1) k) (L ++ [(x, c)]) := by
  have hPl := lt_of_heap h.head
  obtain ⟨g, k, w', hrun, hO, hgr, hgw⟩ := h.own.push x c (by omega)
  have hh : w'.heap[P]? = some (.cells #[.int .i64 m, v, .int .i64 0] 65 (0, 0)) := by
    rw [hgr.block P hPl (fun e => h.ne e.symm)]
    exact h.head
  have hne : g ≠ P := fun e => by
    rcases hgw with e' | e'
    · exact h.ne (by rw [e', e])
    · omega
  refine ⟨g, k, w', hrun, by rw [cell_of_row _ _ _ _ _ _ hh]; rfl, free_of_row hh 1, hgr, {
    head := by rw [heap_set hh]; rfl
    own := ⟨hO.1.of_block fun y hy => Below.heap_setCell _ _ _ _ (fun e => by
      have e1 : g = y := by simpa [Value.ownBlock] using hy
      have e2 : y = P := e
      omega), hO.2.setCell h.hP _⟩
    hP := h.hP
    ne := fun e => hne (by simpa [Value.ownBlock] using e)
    asc := hA
    inI := fun q hq => by
      rcases List.mem_append.1 hq with hq | hq
      · exact h.inI q hq
      · simp at hq; subst hq; exact hx }⟩
theorem asc_snoc {L : CL} (h : Asc L) {x : Int × Int} (hx : ∀ q ∈ L, q.1 < x.1) : Asc (L ++ [x]) :=
  List.pairwise_append.2 ⟨h, List.pairwise_singleton _ _, fun a ha b hb => by simp at hb; subst hb; exact hx a ha⟩
theorem asc_last {L : CL} (h : Asc L) {k : Nat} {y : Int × Int} (hy : L[k]? = some y) (hk : L.length = k + 1) : ∀ q ∈ L, q.1 ≤ y.1 := fun q hq => by
  obtain ⟨i, hi, rfl⟩ := List.mem_iff_getElem.1 hq
  obtain ⟨hk', e⟩ := List.getElem?_eq_some_iff.1 hy
  rcases Nat.lt_or_ge i k with g | g
  · have := List.pairwise_iff_getElem.1 h i k hi hk' g
    rw [e] at this
    omega
  · obtain rfl : i = k := by omega
    rw [e]; exact Int.le_refl _
/-- the thing that it is in the end -/
theorem LSt.side {w0 W wr : World} {E : List (Nat × Thing)} {T : Tags} (hT : SideT w0 T E W) {P m t : Nat} {v : Value} {L : CL} (h : LSt W wr P m v L) (i : Nat) (hG : (⟨m, t, L⟩ : HV).Good) : Side w0 ((i, RK P ⟨m, t, L⟩) :: E) (wr.setCell ⟨P, 2, none⟩ (.int .i64 (t : Int))) := by
  have hge : ∀ g, v.ownBlock = some g → W.heap.size ≤ g := ownsRow_ge h.own.1
  refine Side.add hT (T' := fun k => if k < W.heap.size then T k else if k = P then some i else none) (fun k hk => if_pos hk) (h.own.2.setCell h.hP _) (RK.framed P _) ⟨⟨v, ?_⟩, hG⟩
  exact {
    head := heap_set h.head _
    tp := by rw [if_neg (by have := h.hP; omega), if_pos rfl]
    row := RowC.of_block (ownsRow_rebase2 h.own.1 fun _ _ => Nat.zero_le _) fun g hg => Below.heap_setCell _ _ _ _ (fun e => h.ne (by rw [hg]; exact congrArg some e))
    tr := fun g hg => by
      have := hge g hg
      rw [if_neg (by omega), if_neg (fun e => h.ne (by rw [hg, e]))]
    asc := h.asc
    inI := h.inI }

set_option maxHeartbeats 2000000 in
theorem rload_gen {w0 W : World} {E : List (Nat × Thing)} (h : Side w0 E W) (i m : Nat) (h1 : 1 ≤ m) (h64 : m ≤ 64) {a : Option Addr} {bn bc : Nat} {l : List UInt8} (hH : Holds W (.slice a bn bc) (u8s l)) (hbn : bn ≤ 100000) :
    Calls Try.prog 20 #[.int .i64 m, .slice a bn bc] W (RLoadG w0 E i m l) := by
  obtain ⟨T, hT⟩ := h
  have KN := rnew_at (w := W) h1 h64
  obtain ⟨w1, hw1⟩ : ∃ w1, W.alloc (.cells #[.int .i64 m, .slice none 0 0, .int .i64 0] 65) = w1 := ⟨_, rfl⟩
  obtain ⟨P, hP⟩ : ∃ P, W.heap.size = P := ⟨_, rfl⟩
  have hB1 : Below W.heap.size W w1 := by rw [← hw1]; exact (Below.refl _ W).alloc (Nat.le_refl _) _
  have hk1 : LSt W w1 P m (.slice none 0 0) [] := by
    rw [← hw1, ← hP]
    exact ⟨heap_alloc_new W _, ⟨RowC.nil _ _, (Below.refl _ W).alloc (Nat.le_refl _) _⟩, Nat.le_refl _, fun e => by simp [Value.ownBlock] at e, List.Pairwise.nil, fun p hp => by cases hp⟩
  rw [hw1, hP] at KN
  -- no sketch has these bytes
  have NO : Hid (∀ w', Below W.heap.size W w' → (∀ V, OkV m V → l ≠ V.bytes) → RLoadG w0 E i m l (.returned (.tuple #[.pointer none, .int .i64 8])) w') := Lib.hid fun w' hb hn => .inr ⟨hn, rfl, ⟨T, hT.below hb⟩⟩
  obtain ⟨t, i1, g1, ht, hi1, K1⟩ := rget_at hH hbn
  have hl := hH.len
  rw [u8s_len] at hl
  have K1' := K1 w1 hB1
  have wm : IntKind.u64.wrap (m : Int) = (m : Int) := by rw [IntKind.wrap_u64]; omega
  have HT := Lib.hid hT
  have HB1 := Lib.hid hB1
  have HK1 := Lib.hid hk1
  have hV : ∀ V, OkV m V → l = V.bytes → t = V.n ∧ i1 ≠ 0 := fun V ok e => by
    have h2 : getN l = (V.n, (dig V.n).length) := by
      rw [e, show V.bytes = dig V.n ++ bytesW (V.L.length :: cwords V.L) by unfold HV.bytes HV.words; rw [bytesW_cons]]
      exact get_dig0 _ (by have := ok.1.n50; omega)
    rw [g1] at h2
    have := dig_pos V.n
    exact ⟨(Prod.mk.inj h2).1, by rw [(Prod.mk.inj h2).2]; omega⟩
  have HVV := Lib.hid hV
  by_cases e1 : i1 = 0
  · subst e1
    have FIN : Hid (RLoadG w0 E i m l (.returned (.tuple #[.pointer none, .int .i64 8])) w1) := Lib.hid (NO.out w1 hB1 fun V ok e => (hV V ok e).2 rfl)
    clear NO hV HVV hT hB1 hk1 hH g1 K1 h1 h64 hw1 HT HB1 HK1 hl
    go_enter Try.func20, Try.ntmps20
    go_wp2_with fail
    refine KN.mono ?_
    rintro e w' ⟨rfl, rfl⟩
    clear KN hP
    go_wp2_with fail
    refine K1'.out.mono ?_
    rintro e w' ⟨rfl, rfl⟩
    clear K1'
    go_wp2_with fail
    refine bodyPost_ret (v := .tuple #[.pointer none, .int .i64 8]) (by simp [results, Try.results20, go_sem]) rfl ?_
    exact FIN.out
  have z1 : ((i1 : Int) == 0) = false := by simp; omega
  by_cases e2 : 1099511627776 < t
  · have t2 : decide ((1099511627776 : Int) < (t : Int)) = true := decide_eq_true (by omega)
    have FIN : Hid (RLoadG w0 E i m l (.returned (.tuple #[.pointer none, .int .i64 8])) w1) := Lib.hid (NO.out w1 hB1 fun V ok e => by have := (hV V ok e).1; have := ok.2.2.1; omega)
    clear NO hV HVV hT hB1 hk1 hH g1 K1 h1 h64 hw1 HT HB1 HK1 hl
    go_enter Try.func20, Try.ntmps20
    go_wp2_with fail
    refine KN.mono ?_
    rintro e w' ⟨rfl, rfl⟩
    clear KN hP
    go_wp2_with fail
    refine K1'.out.mono ?_
    rintro e w' ⟨rfl, rfl⟩
    clear K1'
    go_wp2_with fail
    refine bodyPost_ret (v := .tuple #[.pointer none, .int .i64 8]) (by simp [results, Try.results20, go_sem]) rfl ?_
    exact FIN.out
  have t2 : decide ((1099511627776 : Int) < (t : Int)) = false := decide_eq_false (by omega)
  obtain ⟨ad, rfl⟩ := hH.ptr (by omega)
  obtain ⟨A1, if1, if1', hH1⟩ := cut_at hH hi1
  obtain ⟨n, k2, g2, hn, hk2, K2⟩ := rget_at hH1 (by omega)
  have K2' := K2 w1 hB1
  have p1 : (i1 : Int) ≤ (bn : Int) := by omega
  have p2 : (bn : Int) ≤ (bc : Int) := by omega
  have hV2 : ∀ V, OkV m V → l = V.bytes → n = V.L.length ∧ k2 ≠ 0 := fun V ok e => by
    have e3 := (hV V ok e).1
    have h3 : (l.drop i1) = dig V.L.length ++ bytesW (cwords V.L) := by
      obtain ⟨_, d1, d2⟩ := getN_inv (l := l) (by rw [g1]; exact e1)
      have d3 : i1 = (dig t).length := by rw [g1] at d2; exact d2
      rw [d3, e3, e, show V.bytes = dig V.n ++ bytesW (V.L.length :: cwords V.L) by unfold HV.bytes HV.words; rw [bytesW_cons]]
      rw [List.drop_left, bytesW_cons]
    have h2 : getN (l.drop i1) = (V.L.length, (dig V.L.length).length) := by
      rw [h3]
      exact get_dig0 _ (by have := ok.1.len; have := ok.1.m64; omega)
    rw [g2] at h2
    have := dig_pos V.L.length
    exact ⟨(Prod.mk.inj h2).1, by rw [(Prod.mk.inj h2).2]; omega⟩
  by_cases e3 : k2 = 0 ∨ m < n
  · have FIN : Hid (RLoadG w0 E i m l (.returned (.tuple #[.pointer none, .int .i64 8])) w1) := Lib.hid (NO.out w1 hB1 fun V ok e => by
      have a1 := hV2 V ok e
      have a2 := ok.1.len
      have a3 := ok.2.1
      rcases e3 with e3 | e3
      · exact a1.2 e3
      · omega)
    clear NO hV HVV hT hB1 hk1 hH g1 K1 h1 h64 hw1 HT HB1 HK1 hl hV2 hH1 g2 K2
    go_enter Try.func20, Try.ntmps20
    go_wp2_with fail
    refine KN.mono ?_
    rintro e w' ⟨rfl, rfl⟩
    clear KN hP
    go_wp2_with fail
    refine K1'.out.mono ?_
    rintro e w' ⟨rfl, rfl⟩
    clear K1'
    go_wp2_with fail
    refine K2'.out.mono ?_
    rintro e w' ⟨rfl, rfl⟩
    clear K2'
    by_cases e4 : k2 = 0
    · subst e4
      go_wp2_with fail
      refine bodyPost_ret (v := .tuple #[.pointer none, .int .i64 8]) (by simp [results, Try.results20, go_sem]) rfl ?_
      exact FIN.out
    · have z2 : ((k2 : Int) == 0) = false := by simp; omega
      have z3 : decide ((m : Int) < (n : Int)) = true := decide_eq_true (by omega)
      have z4 : m < n := by omega
      clear e3 e4
      go_wp2_with fail
      refine bodyPost_ret (v := .tuple #[.pointer none, .int .i64 8]) (by simp [results, Try.results20, go_sem]) rfl ?_
      exact FIN.out
  have e3' : k2 ≠ 0 ∧ n ≤ m := by omega
  have z2 : ((k2 : Int) == 0) = false := by simp; omega
  have z3 : decide ((m : Int) < (n : Int)) = false := decide_eq_false (by omega)
  have z4 : ¬ m < n := by omega
  obtain ⟨S, hS⟩ : ∃ S, i1 + k2 = S := ⟨_, rfl⟩
  have wS : IntKind.i64.wrap ((i1 : Int) + (k2 : Int)) = (S : Int) := by rw [IntKind.wrap_i64]; omega
  have eS : (i1 : Int) + (k2 : Int) = (S : Int) := by omega
  obtain ⟨A2, if2, if2', hH2⟩ := cut_at hH (show S ≤ bn by omega)
  have p3 : (S : Int) ≤ (bn : Int) := by omega
  have hRd0 : Rd l t n [] (l.drop S) := by
    obtain ⟨_, d1, _⟩ := getN_inv (l := l) (by rw [g1]; exact e1)
    obtain ⟨_, d2, _⟩ := getN_inv (l := l.drop i1) (by rw [g2]; exact e3'.1)
    rw [g1] at d1
    rw [g2, List.drop_drop, hS] at d2
    unfold Rd
    simp only at d1 d2
    conv => lhs; rw [d1, d2]
    simp [bytesW, cwords]
  have HX0 : Hid (∃ v L r, L.length = 0 ∧ LSt W w1 P m v L ∧ Holds W (.slice (some A2) (bn - S) (bc - S)) (u8s r) ∧ Rd l t n L r ∧ (∀ q ∈ L, 1 ≤ q.2 ∧ q.2 ≤ 1099511627776) ∧ total L = ((0 : Nat) : Int)) := Lib.hid ⟨_, [], _, rfl, hk1, hH2, hRd0, (fun q hq => by cases hq), rfl⟩
  have HV2 := Lib.hid hV2
  have HNM := Lib.hid (And.intro e3' (And.intro h1 h64))
  have HTL := Lib.hid (And.intro ht hn)
  have ht40 : t ≤ 1099511627776 := by omega
  have hn64 : n ≤ 64 := by omega
  have p4 : S ≤ bn := by omega
  clear hV HVV hT hB1 hk1 hH g1 K1 h1 h64 hw1 HB1 HK1 hl hV2 hH1 g2 K2 hH2 hRd0 e3 e3' hS e1 e2 hi1 hk2
  go_enter Try.func20, Try.ntmps20
  go_wp2_with fail
  refine KN.mono ?_
  rintro e w' ⟨rfl, rfl⟩
  clear KN
  go_wp2_with fail
  refine K1'.out.mono ?_
  rintro e w'2 ⟨rfl, rfl⟩
  clear K1'
  go_wp2_with fail
  refine K2'.out.mono ?_
  rintro e w'2 ⟨rfl, rfl⟩
  clear K2'
  go_wp2_with fail
  clear if1 if1' if2 if2' p1 p2 wm z1 z2 z3 z4 t2 wS eS p3
  go_loopw [1, 11, 12] (fun s1 s11 s12 wr => ∃ (k s : Nat) (Ak : Addr) (rn rc : Nat), s1 = .slice (some Ak) rn rc ∧ s11 = .int .u64 s ∧ s12 = .int .u64 k ∧ k ≤ n ∧ rn ≤ bn ∧ s ≤ k * 1099511627776 ∧ Hid (∃ v L r, L.length = k ∧ LSt W wr P m v L ∧ Holds W (.slice (some Ak) rn rc) (u8s r) ∧ Rd l t n L r ∧ (∀ q ∈ L, 1 ≤ q.2 ∧ q.2 ≤ 1099511627776) ∧ total L = (s : Int))) (fun _ _ s _ => n - (intOf s).toNat)
  case atStart => exact ⟨0, 0, A2, _, _, rfl, rfl, rfl, Nat.zero_le _, by omega, Nat.zero_le _, HX0.out⟩
  case round =>
    clear HX0
    obtain ⟨k, s, Ak, rn, rc, rfl, rfl, rfl, hk, hrn, hs, HX⟩ := hrel
    obtain ⟨v, L, r, hLk, hLS, hHr, hRd, hLp, hLt⟩ := HX.out
    have hrl := hHr.len
    rw [u8s_len] at hrl
    by_cases hlt : k < n
    · have hz : (k : Int) < (n : Int) := by omega
      obtain ⟨x1, a1, g1, hx1, ha1, K1⟩ := rget_at hHr (by omega)
      have K1' := K1 wr hLS.own.2
      have hL3 : ∀ q ∈ L, InI q.1 ∧ InI q.2 ∧ 0 ≤ q.2 := fun q hq => ⟨(hLS.inI q hq).1, (hLS.inI q hq).2, by have := hLp q hq; omega⟩
      have hOK : ∀ V, OkV m V → l = V.bytes → ∀ C a2, getN (r.drop a1) = (C, a2) → a1 ≠ 0 ∧ a2 ≠ 0 ∧ 1 ≤ C ∧ C ≤ 1099511627776 ∧ V.L.take (k + 1) = L ++ [(zagN x1, (C : Int))] := fun V ok e C a2 g => by
        have := Rd.at_ok ok e HTL.out.1 HTL.out.2 hL3 hRd (HV2.out V ok e).1.symm (by omega) g1 g
        rw [hLk] at this
        exact this
      by_cases e1 : a1 = 0
      · subst e1
        have FIN : Hid (RLoadG w0 E i m l (.returned (.tuple #[.pointer none, .int .i64 8])) wr) := Lib.hid (NO.out wr hLS.own.2 fun V ok e => (hOK V ok e _ _ rfl).1 rfl)
        clear hOK hL3 K1 g1 HX hLS hHr hRd hLp hLt NO
        go_wp2_with fail
        refine K1'.out.mono ?_
        rintro e w' ⟨rfl, rfl⟩
        clear K1'
        go_wp2_with fail
        refine bodyPost_ret (v := .tuple #[.pointer none, .int .i64 8]) (by simp [results, Try.results20, go_sem]) rfl ?_
        exact FIN.out
      have z1 : ((a1 : Int) == 0) = false := by simp; omega
      obtain ⟨A3, if3, if3', hH3⟩ := cut_at hHr ha1
      obtain ⟨C, a2, g2, hC, ha2, K2⟩ := rget_at hH3 (by omega)
      have K2' := K2 wr hLS.own.2
      have p1 : (a1 : Int) ≤ (rn : Int) := by omega
      have p2 : (rn : Int) ≤ (rc : Int) := by omega
      by_cases e2 : a2 = 0 ∨ C < 1 ∨ 1099511627776 < C
      · have FIN : Hid (RLoadG w0 E i m l (.returned (.tuple #[.pointer none, .int .i64 8])) wr) := Lib.hid (NO.out wr hLS.own.2 fun V ok e => by
          have := hOK V ok e _ _ g2
          omega)
        clear hOK hL3 K1 g1 HX hLS hHr hRd hLp hLt NO g2 K2 hH3
        go_wp2_with fail
        refine K1'.out.mono ?_
        rintro e w' ⟨rfl, rfl⟩
        clear K1'
        go_wp2_with fail
        refine K2'.out.mono ?_
        rintro e w' ⟨rfl, rfl⟩
        clear K2' if3 if3'
        by_cases e3 : a2 = 0
        · subst e3
          go_wp2_with fail
          refine bodyPost_ret (v := .tuple #[.pointer none, .int .i64 8]) (by simp [results, Try.results20, go_sem]) rfl ?_
          exact FIN.out
        · have z2 : ((a2 : Int) == 0) = false := by simp; omega
          by_cases e4 : C < 1
          · obtain rfl : C = 0 := by omega
            clear e2 e3 e4
            go_wp2_with fail
            refine bodyPost_ret (v := .tuple #[.pointer none, .int .i64 8]) (by simp [results, Try.results20, go_sem]) rfl ?_
            exact FIN.out
          · have z3 : decide ((C : Int) < 1) = false := decide_eq_false (by omega)
            have z4 : decide ((1099511627776 : Int) < (C : Int)) = true := decide_eq_true (by omega)
            have z5 : ¬ C < 1 := e4
            clear e2 e3
            go_wp2_with fail
            refine bodyPost_ret (v := .tuple #[.pointer none, .int .i64 8]) (by simp [results, Try.results20, go_sem]) rfl ?_
            exact FIN.out
      have e2' : a2 ≠ 0 ∧ 1 ≤ C ∧ C ≤ 1099511627776 := by omega
      have z2 : ((a2 : Int) == 0) = false := by simp; omega
      have z3 : decide ((C : Int) < 1) = false := decide_eq_false (by omega)
      have z4 : decide ((1099511627776 : Int) < (C : Int)) = false := decide_eq_false (by omega)
      have z5 : ¬ C < 1 := by omega
      have KZ := Lib.hid (refZag_any x1 wr hx1)
      have hIDi := zag_inI hx1
      have hRd2 := hRd.next g1 e1 g2 e2'.1 hx1
      obtain ⟨ID, hID⟩ : ∃ ID, zagN x1 = ID := ⟨_, rfl⟩
      rw [hID] at KZ hIDi hRd2
      simp only [hID] at hOK
      have v3 : IntKind.i64.wrap (C : Int) = (C : Int) := by rw [IntKind.wrap_i64]; omega
      obtain ⟨D, hD⟩ : ∃ D, a1 + a2 = D := ⟨_, rfl⟩
      have wD : IntKind.i64.wrap ((a1 : Int) + (a2 : Int)) = (D : Int) := by rw [IntKind.wrap_i64]; omega
      have eD : (a1 : Int) + (a2 : Int) = (D : Int) := by omega
      have hDr : D ≤ rn := by omega
      obtain ⟨A4, if4, if4', hH4⟩ := cut_at hHr hDr
      rw [hD] at hRd2
      have p3 : (D : Int) ≤ (rn : Int) := by omega
      obtain ⟨s', hs'⟩ : ∃ s', s + C = s' := ⟨_, rfl⟩
      have ws : IntKind.u64.wrap ((s : Int) + (C : Int)) = (s' : Int) := by rw [IntKind.wrap_u64]; omega
      have es : (s : Int) + (C : Int) = (s' : Int) := by omega
      have ws2 : IntKind.u64.wrap (s' : Int) = (s' : Int) := by rw [IntKind.wrap_u64]; omega
      obtain ⟨va, vc, hv, hvc, _⟩ := hLS.own.1.form2
      subst hv
      rw [hLk] at hLS
      obtain ⟨d1, d2, _, hPl, _⟩ := hLS.cells
      obtain ⟨G, hG⟩ : ∃ G, wr.heap.size = G := ⟨_, rfl⟩
      obtain ⟨W1, hW1⟩ : ∃ W1, wr.alloc (.cells #[.int .i64 ID, .int .i64 (C : Int)] 70) = W1 := ⟨_, rfl⟩
      have hbA : Below wr.heap.size wr W1 := by rw [← hW1]; exact (Below.refl _ wr).alloc (Nat.le_refl _) _
      have x0 : W1.cell? ⟨G, 0, none⟩ = some (.int .i64 ID) := by rw [← hW1, ← hG, cell_of_row _ _ _ _ _ _ (heap_alloc_new wr _)]; rfl
      have x1' : W1.cell? ⟨G, 1, none⟩ = some (.int .i64 (C : Int)) := by rw [← hW1, ← hG, cell_of_row _ _ _ _ _ _ (heap_alloc_new wr _)]; rfl
      have hL1 := hLS.below hbA
      obtain ⟨f1, f2, _, hPl1, _⟩ := hL1.cells
      -- the last counter so far
      have hlast : (k = 0 ∧ Asc (L ++ [(ID, (C : Int))])) ∨ ∃ J g y, Hid (k = J + 1) ∧ va = some ⟨g, 0, none⟩ ∧ W1.cell? ⟨g, J * 2, none⟩ = some (.int .i64 y) ∧ (y < ID → Asc (L ++ [(ID, (C : Int))])) ∧ (Asc (L ++ [(ID, (C : Int))]) → y < ID) := by
        rcases Nat.eq_zero_or_pos k with h0 | h0
        · have : L = [] := List.eq_nil_of_length_eq_zero (by omega)
          subst this
          exact .inl ⟨h0, List.pairwise_singleton _ _⟩
        · obtain ⟨J, hJ⟩ : ∃ J, k = J + 1 := ⟨k - 1, by omega⟩
          obtain ⟨g, c, y, ev, hy, r0, _⟩ := row_at hL1.own.1 (Below.refl _ _) (k := J) (by omega)
          cases ev
          refine .inr ⟨J, g, y.1, hJ, rfl, r0, fun hlt => asc_snoc hLS.asc fun q hq => ?_, fun hA => ?_⟩
          · have := asc_last hLS.asc hy (by omega) q hq
            show q.1 < ID; omega
          · exact (List.pairwise_append.1 hA).2.2 y (List.mem_of_getElem? hy) (ID, (C : Int)) (by simp)
      have hno : ¬ Asc (L ++ [(ID, (C : Int))]) → ∀ V, OkV m V → l ≠ V.bytes := fun hn V ok e => by
        have h3 := (hOK V ok e _ _ g2).2.2.2.2
        exact hn (h3 ▸ List.Pairwise.sublist (List.take_sublist _ _) ok.2.2.2.1)
      have NOW := Lib.hid fun nq (hn : ¬ Asc (L ++ [(ID, (C : Int))])) => NO.out (W1.drewN nq) ((hLS.own.2.trans (hbA.mono hLS.own.2.size)).trans ((below_drewN W1 nq).mono (by have := hLS.own.2.size; have := hbA.size; omega))) (hno hn)
      have HL1 := Lib.hid hL1
      have HNX : Hid (Holds W (.slice (some A4) (rn - D) (rc - D)) (u8s (r.drop D)) ∧ Rd l t n (L ++ [(ID, (C : Int))]) (r.drop D) ∧ (∀ q ∈ L ++ [(ID, (C : Int))], 1 ≤ q.2 ∧ q.2 ≤ 1099511627776) ∧ total (L ++ [(ID, (C : Int))]) = (s' : Int) ∧ (L ++ [(ID, (C : Int))]).length = k + 1 ∧ InI ID ∧ InI (C : Int)) := Lib.hid ⟨hH4, hRd2, fun q hq => by
          rcases List.mem_append.1 hq with hq | hq
          · exact hLp q hq
          · simp at hq; subst hq; exact ⟨by show (1 : Int) ≤ (C : Int); omega, by show (C : Int) ≤ _; omega⟩, by rw [total_append, hLt]; simp [total]; omega, by simp [hLk], hIDi, by unfold InI; omega⟩
      have HS2 : Hid (s' ≤ (k + 1) * 1099511627776) := Lib.hid (show s' ≤ (k + 1) * 1099511627776 by omega)
      have HGW : Hid (∀ y, (Value.slice va k vc).ownBlock = some y → y < G) := Lib.hid fun y hy => by rw [← hG]; exact (hLS.own.1.lt y hy).2
      have HLK := Lib.hid hLk
      clear hOK hL3 K1 g1 HX hLS hHr hRd hLp hLt NO g2 K2 hH3 hRd2 hH4 hIDi hbA hL1 hno d1 d2 hID e1 e2 e2' hs' hD hx1 hC hs
      rcases hlast with ⟨rfl, hasc⟩ | ⟨J, g, y, HJ, rfl, r0, hy1, hy2⟩
      · have HASC := Lib.hid hasc
        go_wp2_with fail
        refine K1'.out.mono ?_
        rintro e w' ⟨rfl, rfl⟩
        clear K1'
        go_wp2_with fail
        refine K2'.out.mono ?_
        rintro e w' ⟨rfl, rfl⟩
        clear K2' if3 if3' p1 z1
        go_wp2_with fail
        clear z2 z3 z4 z5
        refine KZ.out.mono ?_
        rintro e w' ⟨rfl, rfl⟩
        clear KZ
        go_wp2_with fail
        clear hW1 hG
        go_quiet (fail)
        obtain ⟨W2, hW2⟩ : ∃ W2, W1.drewN nq = W2 := ⟨_, rfl⟩
        have hL2 : LSt W W2 P m (.slice va 0 vc) L := by rw [← hW2]; exact HL1.out.below (below_drewN W1 nq)
        have y0 : W2.cell? ⟨G, 0, none⟩ = some (.int .i64 ID) := by rw [← hW2]; exact x0
        have y1 : W2.cell? ⟨G, 1, none⟩ = some (.int .i64 (C : Int)) := by rw [← hW2]; exact x1'
        have hG2 : G < W2.heap.size := World.block_lt_of_cell? W2 _ y0
        rw [hW2]
        clear hW2 nq x0 x1' f1 f2 HL1 NOW
        obtain ⟨g', k', w', hrun, q1, q2, hgr, hN⟩ := (hL2.below (below_drew1 W2)).next ID (C : Int) (by have := HLK.out; omega) hasc HNX.out.2.2.2.2.2
        rw [HLK.out] at hrun hN
        have HR1 : Hid (∀ ty, (Builtin.append_ #[63, 63] ty #[.slice va 0 vc, .slice (some ⟨W2.heap.size, 0, none⟩) 1 1]).run Try.prog (W2.alloc (.cells #[.int .i64 ID, .int .i64 (C : Int)] 70)).drew = .ok (.slice (some ⟨g', 0, none⟩) (0 + 1) k') w') := Lib.hid hrun
        have c1 := hL2.cells.1
        have HL2 := Lib.hid hL2
        have SA : Hid ((W2.alloc (.cells #[.int .i64 ID, .int .i64 (C : Int)] 70)).drew.cell? ⟨P, 1, none⟩ = some (.slice va 0 vc) ∧ (W2.alloc (.cells #[.int .i64 ID, .int .i64 (C : Int)] 70)).drew.cell? ⟨G, 0, none⟩ = some (.int .i64 ID) ∧ (W2.alloc (.cells #[.int .i64 ID, .int .i64 (C : Int)] 70)).drew.cell? ⟨G, 1, none⟩ = some (.int .i64 (C : Int))) := by
          have hb := (Below.refl _ W2).alloc (Nat.le_refl _) (.cells #[.int .i64 ID, .int .i64 (C : Int)] 70)
          exact ⟨(hb.cell (p := ⟨P, 1, none⟩) (World.block_lt_of_cell? W2 _ c1)).trans c1, (hb.cell (p := ⟨G, 0, none⟩) hG2).trans y0, (hb.cell (p := ⟨G, 1, none⟩) hG2).trans y1⟩
        have SB : Hid (w'.cell? ⟨P, 1, none⟩ = some (.slice va 0 vc) ∧ w'.cell? ⟨G, 0, none⟩ = some (.int .i64 ID) ∧ w'.cell? ⟨G, 1, none⟩ = some (.int .i64 (C : Int))) := by
          have hbk : w'.heap[G]? = W2.heap[G]? := hgr.block G hG2 (fun e => by have := HGW.out G e.symm; omega)
          exact ⟨q1, by rw [World.cell?_of_block (w := W2) hbk]; exact y0, by rw [World.cell?_of_block (w := W2) hbk]; exact y1⟩
        have HXN : Hid (∃ v L r, L.length = 0 + 1 ∧ LSt W (w'.setCell ⟨P, 1, none⟩ (.slice (some ⟨g', 0, none⟩) (0 + 1) k')) P m v L ∧ Holds W (.slice (some A4) (rn - D) (rc - D)) (u8s r) ∧ Rd l t n L r ∧ (∀ q ∈ L, 1 ≤ q.2 ∧ q.2 ≤ 1099511627776) ∧ total L = (s' : Int)) := Lib.hid ⟨_, _, _, HNX.out.2.2.2.2.1, hN, HNX.out.1, HNX.out.2.1, HNX.out.2.2.1, HNX.out.2.2.2.1⟩
        clear hrun hN hgr hL2 HNX hG2 HGW HLK hasc
        go_wp2_with fail
        refine wp_region_mix (fun W => W.cell? ⟨P, 1, none⟩ = some (.slice va 0 vc) ∧ W.cell? ⟨G, 0, none⟩ = some (.int .i64 ID) ∧ W.cell? ⟨G, 1, none⟩ = some (.int .i64 (C : Int))) 10 [(true, 0), (true, 1), (true, 2), (true, 3), (true, 4), (true, 5), (false, 6), (false, 7), (true, 8), (true, 9), (false, 10)] (by kernel_rfl) (by decide +kernel) rfl (by decide +kernel) ⟨c1, y0, y1⟩ ?_
        iterate 6
          refine wpMix_take (v := ?_) rfl rfl ?_ ?_
          rotate_left
          · (intro W hW; (try dsimp only at hW); go_simp) <;> with_reducible rfl
          simp only [Act.put, List.setIfInBounds_toArray, List.set_cons_zero, List.set_cons_succ]
        refine wpMix_run rfl ?_
        intro K hK
        go_wp2_with fail
        refine hK.out _ _ (fun _ => SA.out) ?_
        clear hK K
        refine wpMix_run rfl ?_
        intro K hK
        refine wpList_append_run rfl _ _ 63 rfl rfl rfl (HR1.out _) ?_
        go_wp2_with fail
        refine hK.out _ _ (fun _ => SB.out) ?_
        clear hK K
        iterate 2
          refine wpMix_take (v := ?_) rfl rfl ?_ ?_
          rotate_left
          · (intro W hW; (try dsimp only at hW); go_simp) <;> with_reducible rfl
          simp only [Act.put, List.setIfInBounds_toArray, List.set_cons_zero, List.set_cons_succ]
        refine wpMix_run rfl ?_
        intro K hK
        go_wp2_with fail
        refine hK.out _ _ (fun h => absurd rfl h) ?_
        clear hK K SA SB HR1 c1 y0 y1 q1 q2
        refine wpMix_nil ?_
        go_wp2_with fail
        go_roundw
        case rel => exact ⟨0 + 1, s', A4, _, _, rfl, by go_num, by go_num, by omega, by omega, HS2.out, HXN.out⟩
        case measure => simp [intOf]; omega
      · obtain ⟨k0, hk0⟩ : ∃ k0 : Nat, k0 = k := ⟨k, rfl⟩
        have t1 : (0 : Int) < (k : Int) := by have := HJ.out; omega
        have t1n : 0 < k := by omega
        have wj : IntKind.i64.wrap ((k : Int) - 1) = (J : Int) := by have := HJ.out; rw [IntKind.wrap_i64]; omega
        have tj : (k : Int) - 1 = (J : Int) := by have := HJ.out; omega
        have bj : (J : Int) < (k : Int) := by omega
        clear hk0 k0
        by_cases hyI : y < ID
        · have hasc := hy1 hyI
          have t2 : decide (ID ≤ y) = false := decide_eq_false (by omega)
          clear hy1 hy2 hyI
          go_wp2_with fail
          refine K1'.out.mono ?_
          rintro e w' ⟨rfl, rfl⟩
          clear K1'
          go_wp2_with fail
          refine K2'.out.mono ?_
          rintro e w' ⟨rfl, rfl⟩
          clear K2' if3 if3' p1 z1
          go_wp2_with fail
          clear z2 z3 z4 z5
          refine KZ.out.mono ?_
          rintro e w' ⟨rfl, rfl⟩
          clear KZ
          go_wp2_with fail
          clear hW1 hG
          go_quiet (fail)
          clear t1 t1n wj tj bj r0 t2
          obtain ⟨W2, hW2⟩ : ∃ W2, W1.drewN nq = W2 := ⟨_, rfl⟩
          have hL2 : LSt W W2 P m (.slice (some ⟨g, 0, none⟩) k vc) L := by rw [← hW2]; exact HL1.out.below (below_drewN W1 nq)
          have y0 : W2.cell? ⟨G, 0, none⟩ = some (.int .i64 ID) := by rw [← hW2]; exact x0
          have y1 : W2.cell? ⟨G, 1, none⟩ = some (.int .i64 (C : Int)) := by rw [← hW2]; exact x1'
          have hG2 : G < W2.heap.size := World.block_lt_of_cell? W2 _ y0
          rw [hW2]
          clear hW2 nq x0 x1' f1 f2 HL1 NOW
          obtain ⟨g', k', w', hrun, q1, q2, hgr, hN⟩ := (hL2.below (below_drew1 W2)).next ID (C : Int) (by have := HLK.out; omega) hasc HNX.out.2.2.2.2.2
          rw [HLK.out] at hrun hN
          have HR1 : Hid (∀ ty, (Builtin.append_ #[63, 63] ty #[.slice (some ⟨g, 0, none⟩) k vc, .slice (some ⟨W2.heap.size, 0, none⟩) 1 1]).run Try.prog (W2.alloc (.cells #[.int .i64 ID, .int .i64 (C : Int)] 70)).drew = .ok (.slice (some ⟨g', 0, none⟩) (k + 1) k') w') := Lib.hid hrun
          have c1 := hL2.cells.1
          have HL2 := Lib.hid hL2
          have SA : Hid ((W2.alloc (.cells #[.int .i64 ID, .int .i64 (C : Int)] 70)).drew.cell? ⟨P, 1, none⟩ = some (.slice (some ⟨g, 0, none⟩) k vc) ∧ (W2.alloc (.cells #[.int .i64 ID, .int .i64 (C : Int)] 70)).drew.cell? ⟨G, 0, none⟩ = some (.int .i64 ID) ∧ (W2.alloc (.cells #[.int .i64 ID, .int .i64 (C : Int)] 70)).drew.cell? ⟨G, 1, none⟩ = some (.int .i64 (C : Int))) := by
            have hb := (Below.refl _ W2).alloc (Nat.le_refl _) (.cells #[.int .i64 ID, .int .i64 (C : Int)] 70)
            exact ⟨(hb.cell (p := ⟨P, 1, none⟩) (World.block_lt_of_cell? W2 _ c1)).trans c1, (hb.cell (p := ⟨G, 0, none⟩) hG2).trans y0, (hb.cell (p := ⟨G, 1, none⟩) hG2).trans y1⟩
          have SB : Hid (w'.cell? ⟨P, 1, none⟩ = some (.slice (some ⟨g, 0, none⟩) k vc) ∧ w'.cell? ⟨G, 0, none⟩ = some (.int .i64 ID) ∧ w'.cell? ⟨G, 1, none⟩ = some (.int .i64 (C : Int))) := by
            have hbk : w'.heap[G]? = W2.heap[G]? := hgr.block G hG2 (fun e => by have := HGW.out G e.symm; omega)
            exact ⟨q1, by rw [World.cell?_of_block (w := W2) hbk]; exact y0, by rw [World.cell?_of_block (w := W2) hbk]; exact y1⟩
          have HXN : Hid (∃ v L r, L.length = k + 1 ∧ LSt W (w'.setCell ⟨P, 1, none⟩ (.slice (some ⟨g', 0, none⟩) (k + 1) k')) P m v L ∧ Holds W (.slice (some A4) (rn - D) (rc - D)) (u8s r) ∧ Rd l t n L r ∧ (∀ q ∈ L, 1 ≤ q.2 ∧ q.2 ≤ 1099511627776) ∧ total L = (s' : Int)) := Lib.hid ⟨_, _, _, HNX.out.2.2.2.2.1, hN, HNX.out.1, HNX.out.2.1, HNX.out.2.2.1, HNX.out.2.2.2.1⟩
          clear hrun hN hgr hL2 HNX hG2 HGW HLK hasc
          go_wp2_with fail
          refine wp_region_mix (fun W => W.cell? ⟨P, 1, none⟩ = some (.slice (some ⟨g, 0, none⟩) k vc) ∧ W.cell? ⟨G, 0, none⟩ = some (.int .i64 ID) ∧ W.cell? ⟨G, 1, none⟩ = some (.int .i64 (C : Int))) 10 [(true, 0), (true, 1), (true, 2), (true, 3), (true, 4), (true, 5), (false, 6), (false, 7), (true, 8), (true, 9), (false, 10)] (by kernel_rfl) (by decide +kernel) rfl (by decide +kernel) ⟨c1, y0, y1⟩ ?_
          iterate 6
            refine wpMix_take (v := ?_) rfl rfl ?_ ?_
            rotate_left
            · (intro W hW; (try dsimp only at hW); go_simp) <;> with_reducible rfl
            simp only [Act.put, List.setIfInBounds_toArray, List.set_cons_zero, List.set_cons_succ]
          refine wpMix_run rfl ?_
          intro K hK
          go_wp2_with fail
          refine hK.out _ _ (fun _ => SA.out) ?_
          clear hK K
          refine wpMix_run rfl ?_
          intro K hK
          refine wpList_append_run rfl _ _ 63 rfl rfl rfl (HR1.out _) ?_
          go_wp2_with fail
          refine hK.out _ _ (fun _ => SB.out) ?_
          clear hK K
          iterate 2
            refine wpMix_take (v := ?_) rfl rfl ?_ ?_
            rotate_left
            · (intro W hW; (try dsimp only at hW); go_simp) <;> with_reducible rfl
            simp only [Act.put, List.setIfInBounds_toArray, List.set_cons_zero, List.set_cons_succ]
          refine wpMix_run rfl ?_
          intro K hK
          go_wp2_with fail
          refine hK.out _ _ (fun h => absurd rfl h) ?_
          clear hK K SA SB HR1 c1 y0 y1 q1 q2
          refine wpMix_nil ?_
          go_wp2_with fail
          go_roundw
          case rel => exact ⟨k + 1, s', A4, _, _, rfl, by go_num, by go_num, by omega, by omega, HS2.out, HXN.out⟩
          case measure => simp [intOf]; omega
        · have t2 : decide (ID ≤ y) = true := decide_eq_true (by omega)
          have FIN := Lib.hid fun nq => NOW.out nq fun hA => hyI (hy2 hA)
          clear hy1 hy2 hyI NOW HNX HL1 if4 if4' wD eD ws ws2 es p3
          go_wp2_with fail
          refine K1'.out.mono ?_
          rintro e w' ⟨rfl, rfl⟩
          clear K1'
          go_wp2_with fail
          refine K2'.out.mono ?_
          rintro e w' ⟨rfl, rfl⟩
          clear K2' if3 if3' p1 z1
          go_wp2_with fail
          clear z2 z3 z4 z5
          refine KZ.out.mono ?_
          rintro e w' ⟨rfl, rfl⟩
          clear KZ
          go_wp2_with fail
          clear hW1 hG
          go_quiet (fail)
          go_wp2_with fail
          refine bodyPost_ret (v := .tuple #[.pointer none, .int .i64 8]) (by simp [results, Try.results20, go_sem]) rfl ?_
          exact FIN.out nq
    · obtain rfl : k = n := by omega
      clear HX
      have hL3 : ∀ q ∈ L, InI q.1 ∧ InI q.2 ∧ 0 ≤ q.2 := fun q hq => ⟨(hLS.inI q hq).1, (hLS.inI q hq).2, by have := hLp q hq; omega⟩
      have hOK : ∀ V, OkV m V → l = V.bytes → r = [] ∧ s ≤ t := fun V ok e => by
        subst e
        have hk' := (HV2.out V ok rfl).1
        obtain ⟨e1, e2, e3, e4⟩ := Rd.of ok HTL.out.1 HTL.out.2 hL3 hRd (by omega)
        rw [hLk, hk', List.take_length] at e3
        rw [hLk, hk', List.drop_length] at e4
        have h1 := ok.1.sum
        have h2 : total L = total V.L := by rw [e3]
        exact ⟨by rw [e4]; simp [bytesW, cwords], by omega⟩
      by_cases hbad : 0 < rn ∨ t < s
      · have FIN : Hid (RLoadG w0 E i m l (.returned (.tuple #[.pointer none, .int .i64 8])) wr) := Lib.hid (NO.out wr hLS.own.2 fun V ok e => by
          obtain ⟨a1, a2⟩ := hOK V ok e
          rcases hbad with h | h
          · rw [a1] at hrl; simp at hrl; omega
          · omega)
        clear hOK hL3 hLS hHr hRd hLp hLt NO hs
        by_cases h0 : 0 < rn
        · clear hbad
          go_wp2_with fail
          refine bodyPost_ret (v := .tuple #[.pointer none, .int .i64 8]) (by simp [results, Try.results20, go_sem]) rfl ?_
          exact FIN.out
        · have t3 : decide ((t : Int) < (s : Int)) = true := decide_eq_true (by omega)
          have t4 : t < s := by omega
          obtain rfl : rn = 0 := by omega
          clear hbad h0
          go_wp2_with fail
          refine bodyPost_ret (v := .tuple #[.pointer none, .int .i64 8]) (by simp [results, Try.results20, go_sem]) rfl ?_
          exact FIN.out
      · have h0 : rn = 0 := by omega
        subst h0
        have t3 : decide ((t : Int) < (s : Int)) = false := decide_eq_false (by omega)
        have t4 : ¬ t < s := by omega
        have hr : r = [] := List.eq_nil_of_length_eq_zero hrl.1
        subst hr
        have hG : (⟨m, t, L⟩ : HV).Good := ⟨HNM.out.2.1, HNM.out.2.2, by show t ≤ _; omega, by show L.length ≤ m; have := HNM.out.1.2; omega, fun q hq => (hLp q hq).1, by show total L ≤ (t : Int); omega⟩
        have hok : OkV m ⟨m, t, L⟩ := ⟨hG, rfl, ht40, hLS.asc, hLS.inI⟩
        have hlb : l = (⟨m, t, L⟩ : HV).bytes := by
          unfold Rd at hRd
          rw [List.append_nil] at hRd
          rw [hRd]
          unfold HV.bytes HV.words
          simp only [hLk]
        obtain ⟨_, _, f2, _, c2⟩ := hLS.cells
        have wt : IntKind.i64.wrap (t : Int) = (t : Int) := by rw [IntKind.wrap_i64]; omega
        have FIN : Hid (RLoadG w0 E i m l (.returned (.tuple #[.pointer (some ⟨P, 0, none⟩), .int .i64 0])) (wr.setCell ⟨P, 2, none⟩ (.int .i64 (t : Int)))) := Lib.hid (.inl ⟨_, P, hok, hlb, rfl, hLS.side HT.out i hG⟩)
        clear hOK hL3 hLS hHr hRd hLp hLt NO hs hbad hG hok hlb ht40
        go_wp2_with fail
        refine bodyPost_ret (v := .tuple #[.pointer (some ⟨P, 0, none⟩), .int .i64 0]) (by simp [results, Try.results20, go_sem]) rfl ?_
        exact FIN.out
theorem rload_arg {W : World} {m : Int} (h : m < 1 ∨ 64 < m) (v : Value) :
    Calls Try.prog 20 #[.int .i64 m, v] W fun e w' => e = .returned (.tuple #[.pointer none, .int .i64 2]) ∧ W = w' := by
  have K := rnew_no (w := W) h
  clear h
  go_enter Try.func20, Try.ntmps20
  go_wp2_with fail
  refine K.mono ?_
  rintro e w1 ⟨rfl, rfl⟩
  clear K
  go_wp2_with fail
  refine bodyPost_ret (v := .tuple #[.pointer none, .int .i64 2]) (by simp [results, Try.results20, go_sem]) rfl ?_
  exact ⟨rfl, rfl⟩
end Go.Proofs.Ytkmonecolkamjaa
