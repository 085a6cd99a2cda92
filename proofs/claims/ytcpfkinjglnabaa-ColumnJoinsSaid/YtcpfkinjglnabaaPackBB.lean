/- The texts ColO ColKP, one behind the other; each one's own comment says what it holds. -/
import Derived.Test.YtcpfkinjglnabaaPackBA
import Derived.Test.YtcpfkinjglnabaaPackAZ
import Derived.Lib.ItoaNum
/- Load of a vector. Conditions: at most 300000 bytes. -/
set_option maxRecDepth 100000
namespace Go.Proofs.Ytcpfkinjglnabaa
open Go.RowKit Go.Maps Go.Sort

def okL (bs : List UInt8) : Bool := goodC (readC bs) && decide (bytesC (readC bs) = bs)
def loadV (bs : List UInt8) : CV := if okL bs then readC bs else ⟨[], []⟩
def loadE (bs : List UInt8) : Int := if okL bs then 0 else 8
/-- a vector and an error come out -/
def OutL (w : World) (c : CV) (E : Int) (e : Ending) (w' : World) : Prop := ∃ a1 n1 k1 a2 n2 k2, e = .returned (.tuple #[.agg #[.slice a1 n1 k1, .slice a2 n2 k2], .int .i64 E]) ∧ Holds w' (.slice a1 n1 k1) (bls c.nl) ∧ Holds w' (.slice a2 n2 k2) (i64s c.il) ∧ Below w.heap.size w w'
theorem outL_none {w w' : World} {E : Int} (h : Below w.heap.size w w') : OutL w ⟨[], []⟩ E (.returned (.tuple #[.agg #[.slice none 0 0, .slice none 0 0], .int .i64 E])) w' := ⟨_, _, _, _, _, _, rfl, Holds.nil _, Holds.nil _, h⟩
theorem str_same (a b : List UInt8) : ((⟨a.toArray⟩ : ByteArray).toList == (⟨b.toArray⟩ : ByteArray).toList) = decide (a = b) := by
  rw [Bool.eq_iff_iff]
  simp
set_option maxHeartbeats 1600000 in
theorem cload_any {w : World} {a : Option Addr} {n k : Nat} {bs : List UInt8} (h : Holds w (.slice a n k) (u8s bs)) (hl : bs.length ≤ 300000) :
    Calls Try.prog 21 #[.slice a n k] w (OutL w (loadV bs) (loadE bs)) := by
  obtain ⟨W, hW⟩ : ∃ W, w.alloc (.cells #[.slice none 0 0, .slice none 0 0] 27) = W := ⟨_, rfl⟩
  have hb0 : Below w.heap.size w W := by rw [← hW]; exact below_box _ _
  have hs : W.heap.size = w.heap.size + 1 := by rw [← hW]; simp
  have hC := fun (w1 : World) (x y : Value) => @vclear1 w w1 27 x y
  rw [hW] at hC
  have HC := Lib.hid hC
  have HS := Lib.hid hs
  have HB0 := Lib.hid hb0
  have KR := cread_any (h.below hb0) hl
  have HH := Lib.hid (fun (V : World) (hv : Below w.heap.size w V) => h.below hv)
  clear h hb0 hs hC
  have hfin : ∀ (w1 w2 : World) (nv iv : Value), Below W.heap.size W w1 → Below (w1.alloc (.cells #[nv, iv] 27)).heap.size (w1.alloc (.cells #[nv, iv] 27)) w2 → w.heap.size + 1 ≤ w1.heap.size ∧ Below (w.heap.size + 1) W w2 ∧ Below w1.heap.size w1 w2 := fun w1 w2 nv iv h1 h2 => by
    have hx := below_box w1 (.cells #[nv, iv] 27)
    have h3 := hx.trans (h2.mono hx.size)
    refine ⟨by have := h1.size; have := HS.out; omega, ((h1.mono (by rw [HS.out]; omega)).trans (h3.mono (by have := h1.size; have := HS.out; omega))), h3⟩
  have HFI := Lib.hid hfin
  clear hfin
  by_cases hok : goodC (readC bs) = true
  case neg =>
    have hg : goodC (readC bs) = false := by simpa using hok
    have hv : loadV bs = ⟨[], []⟩ := by simp [loadV, okL, hg]
    have he : loadE bs = 8 := by simp [loadE, okL, hg]
    have hb : bytV (readC bs) = [] ∧ bytE (readC bs) = 2 := by simp [bytV, bytE, hg]
    rw [hv, he]
    have HK := Lib.hid (fun (V : World) (a1 a2 : Option Addr) (n1 k1 n2 k2 : Nat) (q1 : Holds V (.slice a1 n1 k1) (bls (readC bs).nl)) (q2 : Holds V (.slice a2 n2 k2) (i64s (readC bs).il)) => cbytes_any q1 q2)
    rw [hb.1, hb.2] at HK
    clear hok hg hv he hb hl
    generalize readC bs = R at *
    go_enter Try.func21, Try.ntmps21
    go_wp2_with fail
    clear hW
    refine KR.mono ?_
    rintro e w1 ⟨a1, n1, k1, a2, n2, k2, rfl, g1, g2, hb1, _, _⟩
    have hbx := below_box w1 (.cells #[.slice a1 n1 k1, .slice a2 n2 k2] 27)
    have KB := HK.out _ _ _ _ _ _ _ (g1.below hbx) (g2.below hbx)
    have HB1 := Lib.hid hb1
    clear KR HK g1 g2 hb1 hbx
    go_wp2_with fail
    refine KB.mono ?_
    rintro e w2 ⟨ba, bk, rfl, _, hb2⟩
    obtain ⟨f1, f2, f3⟩ := HFI.out _ _ _ _ HB1.out hb2
    obtain ⟨⟨y0, y1, y2, y3⟩, ⟨r0, r1⟩, x2⟩ := HC.out w2 (.slice none 0 0) (.slice none 0 0) f2
    clear KB hb2 f1 f2 f3
    go_wp2_with fail
    refine bodyPost_ret (v := .tuple #[.agg #[.slice none 0 0, .slice none 0 0], .int .i64 8]) ?_ rfl (outL_none x2)
    simp [results, Try.results21, go_sem, r0, r1]
  have hb : bytV (readC bs) = bytesC (readC bs) ∧ bytE (readC bs) = 0 := by simp [bytV, bytE, hok]
  have HK := Lib.hid (fun (V : World) (a1 a2 : Option Addr) (n1 k1 n2 k2 : Nat) (q1 : Holds V (.slice a1 n1 k1) (bls (readC bs).nl)) (q2 : Holds V (.slice a2 n2 k2) (i64s (readC bs).il)) => cbytes_any q1 q2)
  rw [hb.1, hb.2] at HK
  by_cases heq : bytesC (readC bs) = bs
  · have hv : loadV bs = readC bs := by simp [loadV, okL, hok, heq]
    have he : loadE bs = 0 := by simp [loadE, okL, hok, heq]
    rw [hv, he]
    have HEQ := Lib.hid heq
    clear hok hv he hb hl heq
    generalize readC bs = R at *
    obtain ⟨BR, hBR⟩ : ∃ BR, bytesC R = BR := ⟨_, rfl⟩
    rw [hBR] at HK HEQ
    obtain ⟨bl, hbl⟩ : ∃ bl, BR.length = bl := ⟨_, rfl⟩
    unfold OutB at HK
    rw [hbl] at HK
    clear hBR hbl
    go_enter Try.func21, Try.ntmps21
    go_wp2_with fail
    clear hW
    refine KR.mono ?_
    rintro e w1 ⟨a1, n1, k1, a2, n2, k2, rfl, g1, g2, hb1, r1f, r2f⟩
    have hbx := below_box w1 (.cells #[.slice a1 n1 k1, .slice a2 n2 k2] 27)
    have KB := HK.out _ _ _ _ _ _ _ (g1.below hbx) (g2.below hbx)
    have HB1 := Lib.hid hb1
    have HG := Lib.hid (And.intro g1 (And.intro g2 (And.intro r1f r2f)))
    clear KR HK g1 g2 hb1 hbx r1f r2f
    go_wp2_with fail
    refine KB.mono ?_
    rintro e w2 ⟨ba, bk, rfl, ht, hb2⟩
    obtain ⟨f1, f2, f3⟩ := HFI.out _ _ _ _ HB1.out hb2
    have hbw : Below w.heap.size w w2 := HB0.out.trans (f2.mono (by omega))
    have KE := Try.bytes_Equal_strs (.slice ba bl bk) (.slice a n k) _ _ w2 (toStr ht) (toStr (HH.out w2 hbw))
    rw [str_same, decide_eq_true HEQ.out] at KE
    have q0 : w2.cell? ⟨w1.heap.size, 0, none⟩ = some (.slice a1 n1 k1) := (box2 (hb2.mono (by simp))).1
    have q1 : w2.cell? ⟨w1.heap.size, 1, none⟩ = some (.slice a2 n2 k2) := (box2 (hb2.mono (by simp))).2
    obtain ⟨⟨y0, y1, y2, y3⟩, ⟨r0, r1⟩, x2⟩ := HC.out w2 (.slice a1 n1 k1) (.slice a2 n2 k2) f2
    have FIN : Hid (OutL w R 0 (.returned (.tuple #[.agg #[.slice a1 n1 k1, .slice a2 n2 k2], .int .i64 0])) ((w2.setCell ⟨w.heap.size, 0, none⟩ (.slice a1 n1 k1)).setCell ⟨w.heap.size, 1, none⟩ (.slice a2 n2 k2))) := Lib.hid (by
      have hne : ∀ k, k ≠ w.heap.size → ((w2.setCell ⟨w.heap.size, 0, none⟩ (.slice a1 n1 k1)).setCell ⟨w.heap.size, 1, none⟩ (.slice a2 n2 k2)).heap[k]? = w2.heap[k]? := fun k hk => by rw [vset_other hk, vset_other hk]
      have hsW := HS.out
      exact ⟨_, _, _, _, _, _, rfl, (HG.out.1.below f3).of_blocks (S := w.heap.size) (fun ad _ j => Addr.add_block ad j) (fun ad e _ => by have := HG.out.2.2.1 ad e; omega) hne,
        (HG.out.2.1.below f3).of_blocks (S := w.heap.size) (fun ad _ j => Addr.add_block ad j) (fun ad e _ => by have := HG.out.2.2.2 ad e; omega) hne, x2⟩)
    clear KB hb2 ht f1 f2 f3 hbw x2
    go_wp2_with fail
    refine KE.mono ?_
    rintro e w3 ⟨rfl, rfl⟩
    go_wp2_with fail
    refine bodyPost_ret (v := .tuple #[.agg #[.slice a1 n1 k1, .slice a2 n2 k2], .int .i64 0]) ?_ rfl FIN.out
    simp [results, Try.results21, go_sem, r0, r1]
  · have hv : loadV bs = ⟨[], []⟩ := by simp [loadV, okL, heq]
    have he : loadE bs = 8 := by simp [loadE, okL, heq]
    rw [hv, he]
    have HEQ := Lib.hid heq
    clear hok hv he hb hl heq
    generalize readC bs = R at *
    obtain ⟨BR, hBR⟩ : ∃ BR, bytesC R = BR := ⟨_, rfl⟩
    rw [hBR] at HK HEQ
    obtain ⟨bl, hbl⟩ : ∃ bl, BR.length = bl := ⟨_, rfl⟩
    unfold OutB at HK
    rw [hbl] at HK
    clear hBR hbl
    go_enter Try.func21, Try.ntmps21
    go_wp2_with fail
    clear hW
    refine KR.mono ?_
    rintro e w1 ⟨a1, n1, k1, a2, n2, k2, rfl, g1, g2, hb1, _, _⟩
    have hbx := below_box w1 (.cells #[.slice a1 n1 k1, .slice a2 n2 k2] 27)
    have KB := HK.out _ _ _ _ _ _ _ (g1.below hbx) (g2.below hbx)
    have HB1 := Lib.hid hb1
    clear KR HK g1 g2 hb1 hbx
    go_wp2_with fail
    refine KB.mono ?_
    rintro e w2 ⟨ba, bk, rfl, ht, hb2⟩
    obtain ⟨f1, f2, f3⟩ := HFI.out _ _ _ _ HB1.out hb2
    have hbw : Below w.heap.size w w2 := HB0.out.trans (f2.mono (by omega))
    have KE := Try.bytes_Equal_strs (.slice ba bl bk) (.slice a n k) _ _ w2 (toStr ht) (toStr (HH.out w2 hbw))
    rw [str_same, decide_eq_false HEQ.out] at KE
    obtain ⟨⟨y0, y1, y2, y3⟩, ⟨r0, r1⟩, x2⟩ := HC.out w2 (.slice none 0 0) (.slice none 0 0) f2
    clear KB hb2 ht f1 f2 f3 hbw
    go_wp2_with fail
    refine KE.mono ?_
    rintro e w3 ⟨rfl, rfl⟩
    go_wp2_with fail
    refine bodyPost_ret (v := .tuple #[.agg #[.slice none 0 0, .slice none 0 0], .int .i64 8]) ?_ rfl (outL_none x2)
    simp [results, Try.results21, go_sem, r0, r1]
end Go.Proofs.Ytcpfkinjglnabaa
/- How many bits a list's greatest number has; two rows of numbers side by side. Conditions: none. -/
set_option maxRecDepth 100000
namespace Go.Proofs.Ytcpfkinjglnabaa
open Go.RowKit Go.Maps Go.Sort

theorem bitLen_lt {x : Nat} (h : x < 18446744073709551616) : x < 2 ^ Lib.bitLen x := by
  by_cases h0 : x = 0
  · subst h0; decide
  · exact (Lib.bitLenAux_bounds 64 x h h0).2.2
theorem bitLen_le64 {x : Nat} (h : x < 18446744073709551616) : Lib.bitLen x ≤ 64 := Lib.bitLen_le x 64 (Nat.le_refl _) h
theorem bitLen_mono {a b : Nat} (h : a ≤ b) (hb : b < 18446744073709551616) : Lib.bitLen a ≤ Lib.bitLen b := Lib.bitLen_le _ _ (bitLen_le64 hb) (by have := bitLen_lt hb; omega)
theorem bitLen_or {a b : Nat} (ha : a < 18446744073709551616) (hb : b < 18446744073709551616) : Lib.bitLen (a ||| b) = max (Lib.bitLen a) (Lib.bitLen b) := by
  have hab := or_lt ha hb
  have h1 : Lib.bitLen (a ||| b) ≤ max (Lib.bitLen a) (Lib.bitLen b) := by
    refine Lib.bitLen_le _ _ (by have := bitLen_le64 ha; have := bitLen_le64 hb; omega) (Nat.or_lt_two_pow ?_ ?_)
    · exact Nat.lt_of_lt_of_le (bitLen_lt ha) (Nat.pow_le_pow_right (by omega) (by omega))
    · exact Nat.lt_of_lt_of_le (bitLen_lt hb) (Nat.pow_le_pow_right (by omega) (by omega))
  have h2 := bitLen_mono (Nat.left_le_or (n := a) (m := b)) hab
  have h3 := bitLen_mono (Nat.right_le_or (n := a) (m := b)) hab
  omega
theorem wdU_snoc (l : List UInt64) (u : UInt64) : wdU (l ++ [u]) = max (wdU l) (Lib.bitLen u.toNat) := by
  unfold wdU
  rw [orL_snoc, bitLen_or (orL_lt l) u.toNat_lt]
theorem wdU_nil : wdU [] = 0 := by decide
theorem idU_small {x : Int} (h0 : 0 ≤ x) (h1 : x < 512) : (idU x).toNat = x.toNat := by
  have := idU_eq x
  rw [IntKind.wrap_u64] at this
  omega
theorem orL_small : ∀ (l : List UInt64) (a : Nat), a < 512 → (∀ u ∈ l, u.toNat < 512) → l.foldl (fun a u => a ||| u.toNat) a < 512
  | [], _, h, _ => h
  | u :: r, _, h, hu => orL_small r _ (Nat.or_lt_two_pow (n := 9) h (hu u (by simp))) (fun v hv => hu v (by simp [hv]))
theorem wdU_small {l : List Int} (h : ∀ x ∈ l, 0 ≤ x ∧ x < 512) : wdU (idsU l) ≤ 9 :=
  Lib.bitLen_le _ 9 (by omega) (orL_small _ 0 (by omega) (fun u hu => by
    obtain ⟨x, hx, rfl⟩ := List.mem_map.1 hu
    have := h x hx
    rw [idU_small this.1 this.2]; omega))
theorem good_small {c : CV} (h : goodC c = true) : ∀ x ∈ c.il, 0 ≤ x ∧ x < 512 := fun x hx => by
  obtain ⟨i, hi, rfl⟩ := List.getElem_of_mem hx
  have := (good_iff.1 h).2.2 i hi
  rw [List.getD_eq_getElem?_getD (l := c.il), List.getElem?_eq_getElem hi, Option.getD_some] at this
  simp only [rowOk, Bool.and_eq_true, decide_eq_true_eq] at this
  exact this.1

def RowU (B : Nat) (v : Value) (L : List UInt64) (w : World) : Prop := w.ownsRow B 116 1 v L.length (u64s L)
theorem RowU.holds {B : Nat} {v : Value} {L : List UInt64} {w : World} (h : RowU B v L w) : Holds w v (u64s L) := Holds.of_row (by rw [u64s_len]; exact h)
theorem RowU.below {B : Nat} {v : Value} {L : List UInt64} {w w' : World} (h : RowU B v L w) (hb : Below w.heap.size w w') : RowU B v L w' := ownsRow_below h hb
theorem RowU.nil (B : Nat) (w : World) : RowU B (.slice none 0 0) [] w := World.ownsRow_nil _ _ _ _
/-- two rows, in unlike blocks -/
def Apart2 (v v' : Value) : Prop := ∀ g, v.ownBlock = some g → v'.ownBlock ≠ some g
/-- one more in the first of two rows -/
theorem pushU {B : Nat} {v o : Value} {L M : List UInt64} {W : World} (h : RowU B v L W) (h2 : RowU B o M W) (ha : Apart2 v o) (hB : B ≤ W.heap.size) (hl : L.length ≤ 1000000) {x : UInt64} {n : Int} (hn : n = (x.toNat : Int)) :
    ∃ v' w2, Hid (∀ ty, (Builtin.append_ #[118, 118] ty #[v, .slice (some ⟨W.heap.size, 0, none⟩) 1 1]).run Try.prog (W.alloc (.cells #[.int .u64 n] 116)) = .ok v' w2) ∧ Hid (RowU B v' (L ++ [x]) w2 ∧ RowU B o M w2 ∧ Apart2 v' o ∧ Below B W w2) := by
  have hb1 := (Below.refl B W).alloc hB (.cells #[.int .u64 n] 116)
  have hr := h.below (below_box W (.cells #[.int .u64 n] 116))
  have hr2 := h2.below (below_box W (.cells #[.int .u64 n] 116))
  have hs : Holds (W.alloc (.cells #[.int .u64 n] 116)) (.slice (some ⟨W.heap.size, 0, none⟩) 1 1) (u64s [x]) := Holds.of_heap (alloc1 W _) (by rw [hn]; rfl) 1 1 rfl (Nat.le_refl _)
  obtain ⟨v', w', r, o2, g, hown⟩ := app_any (P := Try.prog) Try.underlying118 infoU (by omega) rfl (by rw [u64s_len]; exact hr) (Nat.le_trans hB hb1.size) hs (u64s_one [x]) (by rw [u64s_len, u64s_len]; simp; omega)
  rw [← u64s_append, u64s_len] at o2
  have ha' : Apart2 v' o := fun k hk hko => by
    have hlt := (h2.lt k hko).2
    rcases hown with e | e
    · rw [e] at hk; exact ha k hk hko
    · rw [e] at hk
      simp only [Option.some.injEq, World.size_alloc] at hk
      omega
  refine ⟨v', w', Lib.hid r, Lib.hid ⟨o2, ?_, ha', hb1.grown g (Nat.le_trans hB hb1.size) (fun k e => (h.lt k e).1)⟩⟩
  exact ownsRow_of_block hr2 (fun k hk => g.block k (hr2.lt k hk).2 (fun e => ha k e.symm hk))
theorem Apart2.symm {v v' : Value} (h : Apart2 v v') : Apart2 v' v := fun g h1 h2 => h g h2 h1
/-- two bytes of one's own, and a list behind them -/
theorem app_lit2 {W W1 : World} {c d : UInt8} {x y : Int} (hx : x = (c.toNat : Int)) (hy : y = (d.toNat : Int)) {l : List UInt8} {sv : Value} (hb : Below (W.heap.size + 1) (W.alloc (.cells #[.int .u8 x, .int .u8 y] 5)) W1) (hs : Holds W1 sv (u8s l)) (hl : l.length ≤ 1000000) :
    ∃ a k W2, Hid (∀ ty, (Builtin.append_ #[68, 68] ty #[.slice (some ⟨W.heap.size, 0, none⟩) 2 2, sv]).run Try.prog W1 = .ok (.slice a (c :: d :: l).length k) W2) ∧ Hid (Holds W2 (.slice a (c :: d :: l).length k) (u8s (c :: d :: l)) ∧ Below W.heap.size W W2) := by
  have h0 : W1.heap[W.heap.size]? = some (.cells #[.int .u8 x, .int .u8 y] 5 (0, 0)) := (hb.block _ (by omega)).trans (heap_alloc_new W _)
  have hr : W1.ownsRow W.heap.size 5 1 (.slice (some ⟨W.heap.size, 0, none⟩) 2 2) [c, d].length (u8s [c, d]) := ⟨rfl, .inr ⟨_, 2, _, rfl, Nat.le_refl _, h0, Nat.le_refl _, by unfold maxLen; omega, rfl, by rw [hx, hy]; rfl⟩⟩
  have hB : W.heap.size ≤ W1.heap.size := by have := lt_of_heap h0; omega
  obtain ⟨v', w', r, o, g, _⟩ := app8 hr hB hs (by simp; omega)
  obtain ⟨a, k, rfl, _⟩ := ownsRow_form o
  refine ⟨a, k, w', Lib.hid r, Lib.hid ⟨?_, ?_⟩⟩
  · exact Holds.of_row (by rw [u8s_len]; exact o)
  · exact ((below_box W _).trans (hb.mono (by omega))).trans (below_grown g hB (fun k e => by simp [Value.ownBlock] at e; omega))
end Go.Proofs.Ytcpfkinjglnabaa
