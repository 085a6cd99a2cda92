/- The texts ColO ColKP ColP Words, one behind the other; each one's own comment says what it holds. -/
import Derived.Test.YtbijpjoljljlpaaColumnBackRowGD
import Derived.Lib.ItoaNum
import Derived.Test.YtbijpjoljljlpaaColumnBackRowGC
import Derived.Test.YtbijpjoljljlpaaTells
/- Load of a vector. Conditions: at most 300000 bytes. -/
set_option maxRecDepth 100000
namespace Go.Proofs.Ytbijpjoljljlpaa
open Go.RowKit Go.Maps Go.Sort

def okL (bs : List UInt8) : Bool := goodC (readC bs) && decide (bytesC (readC bs) = bs)
def loadV (bs : List UInt8) : CV := if okL bs then readC bs else ⟨[], []⟩
def loadE (bs : List UInt8) : Int := if okL bs then 0 else 8
/-- a vector and an error come out -/
def OutL (w : World) (c : CV) (E : Int) (e : Ending) (w' : World) : Prop := ∃ a1 n1 k1 a2 n2 k2, e = .returned (.tuple #[.agg #[.slice a1 n1 k1, .slice a2 n2 k2], .int .i64 E]) ∧ Holds w' (.slice a1 n1 k1) (bls c.nl) ∧ Holds w' (.slice a2 n2 k2) (i64s c.il) ∧ Below w.heap.size w w'
theorem outL_none {w w' : World} {E : Int} (h : Below w.heap.size w w') : OutL w ⟨[], []⟩ E (.returned (.tuple #[.agg #[.slice none 0 0, .slice none 0 0], .int .i64 E])) w' := ⟨_, _, _, _, _, _, rfl, Holds.nil _, Holds.nil _, h⟩
theorem str_same (a b : List UInt8) : ((⟨a.toArray⟩ : ByteArray).toList == (⟨b.toArray⟩ : ByteArray).toList) = decide (a = b) := by
  rw [Bool.eq_iff_iff]
  simp
set_option maxHeartbeats 1600000 in
theorem cload_any {w : World} {a : Option Addr} {n k : Nat} {bs : List UInt8} (h : Holds w (.slice a n k) (u8s bs)) (hl : bs.length ≤ 300000) :
    Calls Try.prog 7 #[.slice a n k] w (OutL w (loadV bs) (loadE bs)) := by
  obtain ⟨W, hW⟩ : ∃ W, w.alloc (.cells #[.slice none 0 0, .slice none 0 0] 25) = W := ⟨_, rfl⟩
  have hb0 : Below w.heap.size w W := by rw [← hW]; exact below_box _ _
  have hs : W.heap.size = w.heap.size + 1 := by rw [← hW]; simp
  have hC := fun (w1 : World) (x y : Value) => @vclear1 w w1 25 x y
  rw [hW] at hC
  have HC := Lib.hid hC
  have HS := Lib.hid hs
  have HB0 := Lib.hid hb0
  have KR := cread_any (h.below hb0) hl
  have HH := Lib.hid (fun (V : World) (hv : Below w.heap.size w V) => h.below hv)
  clear h hb0 hs hC
  have hfin : ∀ (w1 w2 : World) (nv iv : Value), Below W.heap.size W w1 → Below (w1.alloc (.cells #[nv, iv] 25)).heap.size (w1.alloc (.cells #[nv, iv] 25)) w2 → w.heap.size + 1 ≤ w1.heap.size ∧ Below (w.heap.size + 1) W w2 ∧ Below w1.heap.size w1 w2 := fun w1 w2 nv iv h1 h2 => by
    have hx := below_box w1 (.cells #[nv, iv] 25)
    have h3 := hx.trans (h2.mono hx.size)
    refine ⟨by have := h1.size; have := HS.out; omega, ((h1.mono (by rw [HS.out]; omega)).trans (h3.mono (by have := h1.size; have := HS.out; omega))), h3⟩
  have HFI := Lib.hid hfin
  clear hfin
  by_cases hok : goodC (readC bs) = true
  case neg =>
    have hg : goodC (readC bs) = false := by simpa using hok
    have hv : loadV bs = ⟨[], []⟩ := by simp [loadV, okL, hg]
    have he : loadE bs = 8 := by simp [loadE, okL, hg]
    have hb : bytV (readC bs) = [] ∧ bytE (readC bs) = 2 := by simp [bytV, bytE, hg]
    rw [hv, he]
    have HK := Lib.hid (fun (V : World) (a1 a2 : Option Addr) (n1 k1 n2 k2 : Nat) (q1 : Holds V (.slice a1 n1 k1) (bls (readC bs).nl)) (q2 : Holds V (.slice a2 n2 k2) (i64s (readC bs).il)) => cbytes_any q1 q2)
    rw [hb.1, hb.2] at HK
    clear hok hg hv he hb hl
    generalize readC bs = R at *
    go_enter Try.func7, Try.ntmps7
    go_wp2_with fail
    clear hW
    refine KR.mono ?_
    rintro e w1 ⟨a1, n1, k1, a2, n2, k2, rfl, g1, g2, hb1, _, _⟩
    have hbx := below_box w1 (.cells #[.slice a1 n1 k1, .slice a2 n2 k2] 25)
    have KB := HK.out _ _ _ _ _ _ _ (g1.below hbx) (g2.below hbx)
    have HB1 := Lib.hid hb1
    clear KR HK g1 g2 hb1 hbx
    go_wp2_with fail
    refine KB.mono ?_
    rintro e w2 ⟨ba, bk, rfl, _, hb2⟩
    obtain ⟨f1, f2, f3⟩ := HFI.out _ _ _ _ HB1.out hb2
    obtain ⟨⟨y0, y1, y2, y3⟩, ⟨r0, r1⟩, x2⟩ := HC.out w2 (.slice none 0 0) (.slice none 0 0) f2
    clear KB hb2 f1 f2 f3
    go_wp2_with fail
    refine bodyPost_ret (v := .tuple #[.agg #[.slice none 0 0, .slice none 0 0], .int .i64 8]) ?_ rfl (outL_none x2)
    simp [results, Try.results7, go_sem, r0, r1]
  have hb : bytV (readC bs) = bytesC (readC bs) ∧ bytE (readC bs) = 0 := by simp [bytV, bytE, hok]
  have HK := Lib.hid (fun (V : World) (a1 a2 : Option Addr) (n1 k1 n2 k2 : Nat) (q1 : Holds V (.slice a1 n1 k1) (bls (readC bs).nl)) (q2 : Holds V (.slice a2 n2 k2) (i64s (readC bs).il)) => cbytes_any q1 q2)
  rw [hb.1, hb.2] at HK
  by_cases heq : bytesC (readC bs) = bs
  · have hv : loadV bs = readC bs := by simp [loadV, okL, hok, heq]
    have he : loadE bs = 0 := by simp [loadE, okL, hok, heq]
    rw [hv, he]
    have HEQ := Lib.hid heq
    clear hok hv he hb hl heq
    generalize readC bs = R at *
    obtain ⟨BR, hBR⟩ : ∃ BR, bytesC R = BR := ⟨_, rfl⟩
    rw [hBR] at HK HEQ
    obtain ⟨bl, hbl⟩ : ∃ bl, BR.length = bl := ⟨_, rfl⟩
    unfold OutB at HK
    rw [hbl] at HK
    clear hBR hbl
    go_enter Try.func7, Try.ntmps7
    go_wp2_with fail
    clear hW
    refine KR.mono ?_
    rintro e w1 ⟨a1, n1, k1, a2, n2, k2, rfl, g1, g2, hb1, r1f, r2f⟩
    have hbx := below_box w1 (.cells #[.slice a1 n1 k1, .slice a2 n2 k2] 25)
    have KB := HK.out _ _ _ _ _ _ _ (g1.below hbx) (g2.below hbx)
    have HB1 := Lib.hid hb1
    have HG := Lib.hid (And.intro g1 (And.intro g2 (And.intro r1f r2f)))
    clear KR HK g1 g2 hb1 hbx r1f r2f
    go_wp2_with fail
    refine KB.mono ?_
    rintro e w2 ⟨ba, bk, rfl, ht, hb2⟩
    obtain ⟨f1, f2, f3⟩ := HFI.out _ _ _ _ HB1.out hb2
    have hbw : Below w.heap.size w w2 := HB0.out.trans (f2.mono (by omega))
    have KE := Try.bytes_Equal_strs (.slice ba bl bk) (.slice a n k) _ _ w2 (toStr ht) (toStr (HH.out w2 hbw))
    rw [str_same, decide_eq_true HEQ.out] at KE
    have q0 : w2.cell? ⟨w1.heap.size, 0, none⟩ = some (.slice a1 n1 k1) := (box2 (hb2.mono (by simp))).1
    have q1 : w2.cell? ⟨w1.heap.size, 1, none⟩ = some (.slice a2 n2 k2) := (box2 (hb2.mono (by simp))).2
    obtain ⟨⟨y0, y1, y2, y3⟩, ⟨r0, r1⟩, x2⟩ := HC.out w2 (.slice a1 n1 k1) (.slice a2 n2 k2) f2
    have FIN : Hid (OutL w R 0 (.returned (.tuple #[.agg #[.slice a1 n1 k1, .slice a2 n2 k2], .int .i64 0])) ((w2.setCell ⟨w.heap.size, 0, none⟩ (.slice a1 n1 k1)).setCell ⟨w.heap.size, 1, none⟩ (.slice a2 n2 k2))) := Lib.hid (by
      have hne : ∀ k, k ≠ w.heap.size → ((w2.setCell ⟨w.heap.size, 0, none⟩ (.slice a1 n1 k1)).setCell ⟨w.heap.size, 1, none⟩ (.slice a2 n2 k2)).heap[k]? = w2.heap[k]? := fun k hk => by rw [vset_other hk, vset_other hk]
      have hsW := HS.out
      exact ⟨_, _, _, _, _, _, rfl, (HG.out.1.below f3).of_blocks (S := w.heap.size) (fun ad _ j => Addr.add_block ad j) (fun ad e _ => by have := HG.out.2.2.1 ad e; omega) hne,
        (HG.out.2.1.below f3).of_blocks (S := w.heap.size) (fun ad _ j => Addr.add_block ad j) (fun ad e _ => by have := HG.out.2.2.2 ad e; omega) hne, x2⟩)
    clear KB hb2 ht f1 f2 f3 hbw x2
    go_wp2_with fail
    refine KE.mono ?_
    rintro e w3 ⟨rfl, rfl⟩
    go_wp2_with fail
    refine bodyPost_ret (v := .tuple #[.agg #[.slice a1 n1 k1, .slice a2 n2 k2], .int .i64 0]) ?_ rfl FIN.out
    simp [results, Try.results7, go_sem, r0, r1]
  · have hv : loadV bs = ⟨[], []⟩ := by simp [loadV, okL, heq]
    have he : loadE bs = 8 := by simp [loadE, okL, heq]
    rw [hv, he]
    have HEQ := Lib.hid heq
    clear hok hv he hb hl heq
    generalize readC bs = R at *
    obtain ⟨BR, hBR⟩ : ∃ BR, bytesC R = BR := ⟨_, rfl⟩
    rw [hBR] at HK HEQ
    obtain ⟨bl, hbl⟩ : ∃ bl, BR.length = bl := ⟨_, rfl⟩
    unfold OutB at HK
    rw [hbl] at HK
    clear hBR hbl
    go_enter Try.func7, Try.ntmps7
    go_wp2_with fail
    clear hW
    refine KR.mono ?_
    rintro e w1 ⟨a1, n1, k1, a2, n2, k2, rfl, g1, g2, hb1, _, _⟩
    have hbx := below_box w1 (.cells #[.slice a1 n1 k1, .slice a2 n2 k2] 25)
    have KB := HK.out _ _ _ _ _ _ _ (g1.below hbx) (g2.below hbx)
    have HB1 := Lib.hid hb1
    clear KR HK g1 g2 hb1 hbx
    go_wp2_with fail
    refine KB.mono ?_
    rintro e w2 ⟨ba, bk, rfl, ht, hb2⟩
    obtain ⟨f1, f2, f3⟩ := HFI.out _ _ _ _ HB1.out hb2
    have hbw : Below w.heap.size w w2 := HB0.out.trans (f2.mono (by omega))
    have KE := Try.bytes_Equal_strs (.slice ba bl bk) (.slice a n k) _ _ w2 (toStr ht) (toStr (HH.out w2 hbw))
    rw [str_same, decide_eq_false HEQ.out] at KE
    obtain ⟨⟨y0, y1, y2, y3⟩, ⟨r0, r1⟩, x2⟩ := HC.out w2 (.slice none 0 0) (.slice none 0 0) f2
    clear KB hb2 ht f1 f2 f3 hbw
    go_wp2_with fail
    refine KE.mono ?_
    rintro e w3 ⟨rfl, rfl⟩
    go_wp2_with fail
    refine bodyPost_ret (v := .tuple #[.agg #[.slice none 0 0, .slice none 0 0], .int .i64 8]) ?_ rfl (outL_none x2)
    simp [results, Try.results7, go_sem, r0, r1]
end Go.Proofs.Ytbijpjoljljlpaa
/- How many bits a list's greatest number has; two rows of numbers side by side. Conditions: none. -/
set_option maxRecDepth 100000
namespace Go.Proofs.Ytbijpjoljljlpaa
open Go.RowKit Go.Maps Go.Sort

theorem bitLen_lt {x : Nat} (h : x < 18446744073709551616) : x < 2 ^ Lib.bitLen x := by
  by_cases h0 : x = 0
  · subst h0; decide
  · exact (Lib.bitLenAux_bounds 64 x h h0).2.2
theorem bitLen_le64 {x : Nat} (h : x < 18446744073709551616) : Lib.bitLen x ≤ 64 := Lib.bitLen_le x 64 (Nat.le_refl _) h
theorem bitLen_mono {a b : Nat} (h : a ≤ b) (hb : b < 18446744073709551616) : Lib.bitLen a ≤ Lib.bitLen b := Lib.bitLen_le _ _ (bitLen_le64 hb) (by have := bitLen_lt hb; omega)
theorem bitLen_or {a b : Nat} (ha : a < 18446744073709551616) (hb : b < 18446744073709551616) : Lib.bitLen (a ||| b) = max (Lib.bitLen a) (Lib.bitLen b) := by
  have hab := or_lt ha hb
  have h1 : Lib.bitLen (a ||| b) ≤ max (Lib.bitLen a) (Lib.bitLen b) := by
    refine Lib.bitLen_le _ _ (by have := bitLen_le64 ha; have := bitLen_le64 hb; omega) (Nat.or_lt_two_pow ?_ ?_)
    · exact Nat.lt_of_lt_of_le (bitLen_lt ha) (Nat.pow_le_pow_right (by omega) (by omega))
    · exact Nat.lt_of_lt_of_le (bitLen_lt hb) (Nat.pow_le_pow_right (by omega) (by omega))
  have h2 := bitLen_mono (Nat.left_le_or (n := a) (m := b)) hab
  have h3 := bitLen_mono (Nat.right_le_or (n := a) (m := b)) hab
  omega
theorem wdU_snoc (l : List UInt64) (u : UInt64) : wdU (l ++ [u]) = max (wdU l) (Lib.bitLen u.toNat) := by
  unfold wdU
  rw [orL_snoc, bitLen_or (orL_lt l) u.toNat_lt]
theorem wdU_nil : wdU [] = 0 := by decide
theorem idU_small {x : Int} (h0 : 0 ≤ x) (h1 : x < 512) : (idU x).toNat = x.toNat := by
  have := idU_eq x
  rw [IntKind.wrap_u64] at this
  omega
theorem orL_small : ∀ (l : List UInt64) (a : Nat), a < 512 → (∀ u ∈ l, u.toNat < 512) → l.foldl (fun a u => a ||| u.toNat) a < 512
  | [], _, h, _ => h
  | u :: r, _, h, hu => orL_small r _ (Nat.or_lt_two_pow (n := 9) h (hu u (by simp))) (fun v hv => hu v (by simp [hv]))
theorem wdU_small {l : List Int} (h : ∀ x ∈ l, 0 ≤ x ∧ x < 512) : wdU (idsU l) ≤ 9 :=
  Lib.bitLen_le _ 9 (by omega) (orL_small _ 0 (by omega) (fun u hu => by
    obtain ⟨x, hx, rfl⟩ := List.mem_map.1 hu
    have := h x hx
    rw [idU_small this.1 this.2]; omega))
theorem good_small {c : CV} (h : goodC c = true) : ∀ x ∈ c.il, 0 ≤ x ∧ x < 512 := fun x hx => by
  obtain ⟨i, hi, rfl⟩ := List.getElem_of_mem hx
  have := (good_iff.1 h).2.2 i hi
  rw [List.getD_eq_getElem?_getD (l := c.il), List.getElem?_eq_getElem hi, Option.getD_some] at this
  simp only [rowOk, Bool.and_eq_true, decide_eq_true_eq] at this
  exact this.1

def RowU (B : Nat) (v : Value) (L : List UInt64) (w : World) : Prop := w.ownsRow B 44 1 v L.length (u64s L)
theorem RowU.holds {B : Nat} {v : Value} {L : List UInt64} {w : World} (h : RowU B v L w) : Holds w v (u64s L) := Holds.of_row (by rw [u64s_len]; exact h)
theorem RowU.below {B : Nat} {v : Value} {L : List UInt64} {w w' : World} (h : RowU B v L w) (hb : Below w.heap.size w w') : RowU B v L w' := ownsRow_below h hb
theorem RowU.nil (B : Nat) (w : World) : RowU B (.slice none 0 0) [] w := World.ownsRow_nil _ _ _ _
/-- two rows, in unlike blocks -/
def Apart2 (v v' : Value) : Prop := ∀ g, v.ownBlock = some g → v'.ownBlock ≠ some g
/-- one more in the first of two rows -/
theorem pushU {B : Nat} {v o : Value} {L M : List UInt64} {W : World} (h : RowU B v L W) (h2 : RowU B o M W) (ha : Apart2 v o) (hB : B ≤ W.heap.size) (hl : L.length ≤ 1000000) {x : UInt64} {n : Int} (hn : n = (x.toNat : Int)) :
    ∃ v' w2, Hid (∀ ty, (Builtin.append_ #[46, 46] ty #[v, .slice (some ⟨W.heap.size, 0, none⟩) 1 1]).run Try.prog (W.alloc (.cells #[.int .u64 n] 44)) = .ok v' w2) ∧ Hid (RowU B v' (L ++ [x]) w2 ∧ RowU B o M w2 ∧ Apart2 v' o ∧ Below B W w2) := by
  have hb1 := (Below.refl B W).alloc hB (.cells #[.int .u64 n] 44)
  have hr := h.below (below_box W (.cells #[.int .u64 n] 44))
  have hr2 := h2.below (below_box W (.cells #[.int .u64 n] 44))
  have hs : Holds (W.alloc (.cells #[.int .u64 n] 44)) (.slice (some ⟨W.heap.size, 0, none⟩) 1 1) (u64s [x]) := Holds.of_heap (alloc1 W _) (by rw [hn]; rfl) 1 1 rfl (Nat.le_refl _)
  obtain ⟨v', w', r, o2, g, hown⟩ := app_any (P := Try.prog) Try.underlying46 infoU (by omega) rfl (by rw [u64s_len]; exact hr) (Nat.le_trans hB hb1.size) hs (u64s_one [x]) (by rw [u64s_len, u64s_len]; simp; omega)
  rw [← u64s_append, u64s_len] at o2
  have ha' : Apart2 v' o := fun k hk hko => by
    have hlt := (h2.lt k hko).2
    rcases hown with e | e
    · rw [e] at hk; exact ha k hk hko
    · rw [e] at hk
      simp only [Option.some.injEq, World.size_alloc] at hk
      omega
  refine ⟨v', w', Lib.hid r, Lib.hid ⟨o2, ?_, ha', hb1.grown g (Nat.le_trans hB hb1.size) (fun k e => (h.lt k e).1)⟩⟩
  exact ownsRow_of_block hr2 (fun k hk => g.block k (hr2.lt k hk).2 (fun e => ha k e.symm hk))
theorem Apart2.symm {v v' : Value} (h : Apart2 v v') : Apart2 v' v := fun g h1 h2 => h g h2 h1
/-- two bytes of one's own, and a list behind them -/
theorem app_lit2 {W W1 : World} {c d : UInt8} {x y : Int} (hx : x = (c.toNat : Int)) (hy : y = (d.toNat : Int)) {l : List UInt8} {sv : Value} (hb : Below (W.heap.size + 1) (W.alloc (.cells #[.int .u8 x, .int .u8 y] 5)) W1) (hs : Holds W1 sv (u8s l)) (hl : l.length ≤ 1000000) :
    ∃ a k W2, Hid (∀ ty, (Builtin.append_ #[28, 28] ty #[.slice (some ⟨W.heap.size, 0, none⟩) 2 2, sv]).run Try.prog W1 = .ok (.slice a (c :: d :: l).length k) W2) ∧ Hid (Holds W2 (.slice a (c :: d :: l).length k) (u8s (c :: d :: l)) ∧ Below W.heap.size W W2) := by
  have h0 : W1.heap[W.heap.size]? = some (.cells #[.int .u8 x, .int .u8 y] 5 (0, 0)) := (hb.block _ (by omega)).trans (heap_alloc_new W _)
  have hr : W1.ownsRow W.heap.size 5 1 (.slice (some ⟨W.heap.size, 0, none⟩) 2 2) [c, d].length (u8s [c, d]) := ⟨rfl, .inr ⟨_, 2, _, rfl, Nat.le_refl _, h0, Nat.le_refl _, by unfold maxLen; omega, rfl, by rw [hx, hy]; rfl⟩⟩
  have hB : W.heap.size ≤ W1.heap.size := by have := lt_of_heap h0; omega
  obtain ⟨v', w', r, o, g, _⟩ := app8 hr hB hs (by simp; omega)
  obtain ⟨a, k, rfl, _⟩ := ownsRow_form o
  refine ⟨a, k, w', Lib.hid r, Lib.hid ⟨?_, ?_⟩⟩
  · exact Holds.of_row (by rw [u8s_len]; exact o)
  · exact ((below_box W _).trans (hb.mono (by omega))).trans (below_grown g hB (fun k e => by simp [Value.ownBlock] at e; omega))
end Go.Proofs.Ytbijpjoljljlpaa
/- A good vector's bytes lead back to it. Conditions: none. -/
set_option maxRecDepth 100000
namespace Go.Proofs.Ytbijpjoljljlpaa
open Go.RowKit Go.Maps Go.Sort

theorem pack_val {wd : Nat} (hw : wd ≤ 64) {l : List UInt64} (h : ∀ u ∈ l, u.toNat < 2 ^ wd) : packAns (wd : Int) l = (bytesN ((wd * l.length + 7) / 8) (bigN wd (nats l)), 0) := by
  unfold packAns
  rw [if_neg (by omega), if_pos (by simpa using h)]
  simp
theorem unpack_of_pack {wd : Nat} (hw : wd ≤ 64) {l : List UInt64} (h : ∀ u ∈ l, u.toNat < 2 ^ wd) (hl : l.length ≤ 100000) : unpackAns (wd : Int) (l.length : Int) (packAns (wd : Int) l).1 = (l, 0) := by
  obtain ⟨h1, h2⟩ := unpack_pack wd l h
  rw [pack_val hw h]
  unfold unpackAns
  rw [if_neg (by omega)]
  simp only [Int.toNat_natCast]
  rw [if_pos ⟨bytesN_len _ _, h1⟩, h2]
theorem marks_fit (l : List Bool) : ∀ u ∈ l.map markU, u.toNat < 2 ^ 1 := fun u hu => by
  obtain ⟨b, _, rfl⟩ := List.mem_map.1 hu
  cases b <;> decide
theorem unm_mark (l : List Bool) : (l.map markU).map unmU = l := by
  rw [List.map_map]
  conv => rhs; rw [← List.map_id l]
  apply List.map_congr_left
  intro b _
  cases b <;> decide
theorem sgn_id {l : List Int} (h : ∀ x ∈ l, 0 ≤ x ∧ x < 512) : (idsU l).map sgnU = l := by
  unfold idsU
  rw [List.map_map]
  conv => rhs; rw [← List.map_id l]
  apply List.map_congr_left
  intro x hx
  obtain ⟨h0, h1⟩ := h x hx
  simp only [Function.comp_apply, sgnU, idU_small h0 h1, id]
  rw [IntKind.wrap_i64]; omega
theorem mem_or : ∀ (l : List UInt64) (a : Nat), a < 18446744073709551616 → (a ≤ l.foldl (fun a u => a ||| u.toNat) a) ∧ ∀ u ∈ l, u.toNat ≤ l.foldl (fun a u => a ||| u.toNat) a
  | [], a, _ => ⟨Nat.le_refl _, fun u hu => by simp at hu⟩
  | v :: r, a, ha => by
    obtain ⟨h1, h2⟩ := mem_or r (a ||| v.toNat) (or_lt ha v.toNat_lt)
    refine ⟨Nat.le_trans Nat.left_le_or h1, fun u hu => ?_⟩
    rcases List.mem_cons.1 hu with rfl | hu
    · exact Nat.le_trans Nat.right_le_or h1
    · exact h2 u hu
theorem ids_fit (l : List UInt64) : ∀ u ∈ l, u.toNat < 2 ^ wdU l := fun u hu => by
  have h1 := (mem_or l 0 (by decide)).2 u hu
  have h2 := bitLen_lt (orL_lt l)
  unfold wdU
  exact Nat.lt_of_le_of_lt h1 h2
theorem mark_bytes_len {l : List Bool} : (packAns 1 (l.map markU)).1.length = (l.length + 7) / 8 := by
  have := pack_val (wd := 1) (by omega) (marks_fit l)
  rw [show ((1 : Nat) : Int) = 1 from rfl] at this
  rw [this, bytesN_len, List.length_map, Nat.one_mul]
theorem decA {l : List Int} (h : ∀ x ∈ l, 0 ≤ x ∧ x < 512) (hl : l.length ≤ 1000) : decI 0 l.length (encA (idsU l)) = l := by
  have hw := wdU_small h
  show ((unpackAns ((UInt8.ofNat (wdU (idsU l))).toNat : Int) (l.length : Int) (packAns (wdU (idsU l) : Int) (idsU l)).1).1.map sgnU) = l
  have e : (UInt8.ofNat (wdU (idsU l))).toNat = wdU (idsU l) := by rw [UInt8.toNat_ofNat']; omega
  have e2 : (idsU l).length = l.length := by simp [idsU]
  rw [e, ← e2, unpack_of_pack (by omega) (ids_fit _) (by omega)]
  exact sgn_id h
theorem decB {l : List Int} (h : ∀ x ∈ l, 0 ≤ x ∧ x < 512) (hl : l.length ≤ 1000) (N : Nat) : decI 1 N (encB (idsU l)) = l := by
  show (unrAns (runsB (runsOf (idsU l)))).1.map sgnU = l
  rw [unruns_runs _ (by simp [idsU]; omega)]
  exact sgn_id h
theorem decC {l : List Int} (h : ∀ x ∈ l, 0 ≤ x ∧ x < 512) (N : Nat) : decI 2 N (deltaL 0 l) = l := by
  show (undAns (deltaL 0 l)).1 = l
  rw [undeltas_deltas l (fun n hn => by have := h n hn; omega)]
/-- what stands behind the encoding's number -/
theorem short_cases (l : List Int) : (shortL l = 0 :: encA (idsU l)) ∨ (shortL l = 1 :: encB (idsU l)) ∨ (shortL l = 2 :: deltaL 0 l) := by
  unfold shortL best2 bA bB bC
  by_cases h1 : (1 :: encB (idsU l)).length < (0 :: encA (idsU l)).length
  · rw [if_pos h1]
    by_cases h2 : (2 :: deltaL 0 l).length < (1 :: encB (idsU l)).length
    · rw [if_pos h2]; exact .inr (.inr rfl)
    · rw [if_neg h2]; exact .inr (.inl rfl)
  · rw [if_neg h1]
    by_cases h2 : (2 :: deltaL 0 l).length < (0 :: encA (idsU l)).length
    · rw [if_pos h2]; exact .inr (.inr rfl)
    · rw [if_neg h2]; exact .inl rfl
/-- the parts of a good vector's bytes -/
theorem bytes_parts {c : CV} (hg : goodC c = true) {x : UInt8} {r : List UInt8} (hs : shortL c.il = x :: r) :
    (getN (bytesC c)).1 = c.il.length ∧ (getN (bytesC c)).2 = (dig c.il.length).length ∧ (getN (bytesC c)).2 ≠ 0 ∧ c.il.length ≤ 1000 ∧ (getN (bytesC c)).2 + (c.il.length + 7) / 8 < (bytesC c).length ∧
    (bytesC c)[(getN (bytesC c)).2 + (c.il.length + 7) / 8]? = some x ∧ (bytesC c).drop ((getN (bytesC c)).2 + (c.il.length + 7) / 8 + 1) = r ∧ ((bytesC c).take ((getN (bytesC c)).2 + (c.il.length + 7) / 8)).drop (getN (bytesC c)).2 = (packAns 1 (c.nl.map markU)).1 ∧
    (bytesC c).drop ((getN (bytesC c)).2 + (c.il.length + 7) / 8) = x :: r := by
  obtain ⟨hn, hl, _⟩ := good_iff.1 hg
  have hb : bytesC c = dig c.il.length ++ ((packAns 1 (c.nl.map markU)).1 ++ (x :: r)) := by rw [bytesC, hs, List.append_assoc]
  have hG : getN (bytesC c) = (c.il.length, (dig c.il.length).length) := by rw [hb]; exact get_dig0 _ (by omega)
  have hm : (packAns 1 (c.nl.map markU)).1.length = (c.il.length + 7) / 8 := by rw [mark_bytes_len, hn]
  have hpos : (dig c.il.length).length ≠ 0 := by
    have : dig c.il.length ≠ [] := by unfold dig; split <;> simp
    exact fun e => this (List.eq_nil_of_length_eq_zero e)
  rw [hG]
  generalize dig c.il.length = D at *
  generalize (packAns 1 (c.nl.map markU)).1 = M at *
  have hb2 : bytesC c = (D ++ M) ++ (x :: r) := by rw [hb, List.append_assoc]
  have hDM : (D ++ M).length = D.length + (c.il.length + 7) / 8 := by rw [List.length_append, hm]
  refine ⟨rfl, rfl, hpos, hl, ?_, ?_, ?_, ?_, ?_⟩
  · show D.length + _ < _
    rw [hb2, List.length_append, hDM, List.length_cons]; omega
  · show (bytesC c)[D.length + _]? = _
    rw [hb2, ← hDM, List.getElem?_append_right (Nat.le_refl _), Nat.sub_self]; rfl
  · show (bytesC c).drop (D.length + _ + 1) = _
    rw [hb2, ← hDM, List.drop_append]
    rw [List.drop_eq_nil_of_le (by omega), List.nil_append, show (D ++ M).length + 1 - (D ++ M).length = 1 by omega]
    rfl
  · show ((bytesC c).take (D.length + _)).drop D.length = _
    rw [hb2, ← hDM, List.take_left, List.drop_left]
  · show (bytesC c).drop (D.length + _) = _
    rw [hb2, ← hDM, List.drop_left]
theorem read_bytes {c : CV} (hg : goodC c = true) : readC (bytesC c) = c := by
  obtain ⟨hn, hl, _⟩ := good_iff.1 hg
  have hsm := good_small hg
  have key : ∀ (x : UInt8) (r : List UInt8), shortL c.il = x :: r → x.toNat < 3 → decI x.toNat c.il.length r = c.il → readC (bytesC c) = c := fun x r hs hx hd => by
    obtain ⟨p1, p2, p3, p4, p5, p6, p7, p8, _⟩ := bytes_parts hg hs
    unfold readC
    rw [p1]
    have hx2 : (bytesC c).getD ((getN (bytesC c)).2 + (c.il.length + 7) / 8) 0 = x := by rw [List.getD_eq_getElem?_getD, p6]; rfl
    rw [if_neg (by omega), if_neg (by omega), hx2, if_neg (by omega), p7, p8, hd]
    have hu : unpackAns 1 (c.il.length : Int) (packAns 1 (c.nl.map markU)).1 = (c.nl.map markU, 0) := by
      have := unpack_of_pack (wd := 1) (by omega) (marks_fit c.nl) (by rw [List.length_map]; omega)
      rw [List.length_map, hn] at this
      exact this
    rw [hu]
    simp only [unm_mark]
  rcases short_cases c.il with h | h | h
  · exact key _ _ h (by decide) (decA hsm hl)
  · exact key _ _ h (by decide) (decB hsm hl _)
  · exact key _ _ h (by decide) (decC hsm _)
theorem load_bytes {c : CV} (hg : goodC c = true) : loadV (bytesC c) = c ∧ loadE (bytesC c) = 0 := by
  have hr := read_bytes hg
  have hok : okL (bytesC c) = true := by unfold okL; rw [hr, hg]; simp
  exact ⟨by rw [loadV, hok, hr]; rfl, by rw [loadE, hok]; rfl⟩
end Go.Proofs.Ytbijpjoljljlpaa
/- Contract of talusref01.Words: are two lists of numbers alike. Conditions: small lists. -/
set_option maxRecDepth 100000
namespace Go.Proofs.Ytbijpjoljljlpaa
open Go.RowKit Go.Maps Go.Sort

theorem below_drew {w wr : World} {B : Nat} (h : Below B w wr) (n : Nat) : Below B w (wr.drewN n) := ⟨h.os, h.tape, h.output, h.size, h.block⟩

end Go.Proofs.Ytbijpjoljljlpaa
