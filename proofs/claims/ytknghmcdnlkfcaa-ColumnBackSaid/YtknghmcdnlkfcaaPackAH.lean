/- The texts Range CodecSteps Bits, one behind the other; each one's own comment says what it holds. -/
import Derived.Test.YtknghmcdnlkfcaaPackAA
import Derived.RangeFuncNested
import Derived.RangeFuncBound
import Derived.RangeFuncCalls
import Derived.RangeFuncLeaves
import Derived.Shelf.Abstract
import Derived.Shelf.RegionOpen
import Derived.OwnWalkIn
import Derived.TacticsInMore
import Derived.LoopNIn
import Derived.LoopIn
import Derived.Test.YtknghmcdnlkfcaaPackAB
import Derived.Outline
import Derived.Laws.BitsLemmas
import Derived.Laws.Bits64
/- A range over a function whose iterator tells a known list, and whose body always goes on: one law for the loop; the marks that such loops leave among a frame's deferred calls. Conditions: none. -/
set_option maxRecDepth 100000
namespace Go.Proofs.Ytknghmcdnlkfcaa
open Go.RowKit

/-- the iterator tells just this list; R: what it reads while it goes -/
def SeqIs (P : Program) (gf : Nat) (lb : Array Value) (encs : List (Array Value)) (R : World → Prop) : Prop :=
  ∀ (l : Nat) (J : Nat → World → Prop) (W : World), (∀ k X, J k X → R X) → (∀ k X, J k X → J k X.drew) →
    (∀ k (hk : k < encs.length) X, J k X → YieldAt Fence.wide 0 P l encs[k] X fun e X' => e = .returned (.bool true) ∧ J (k + 1) X') →
    J 0 W → CallsIn Fence.wide 0 P gf (#[.func (.yield l) #[] #[]] ++ lb) W fun e W' => (∃ v, e = .returned v) ∧ J encs.length W'

/-- how a body is left: it goes on -/
def goesOn (B : Nat) (J : World → Prop) (W : World) : Exit → Act → World → Prop
  | .normal, _, W' => KeepsFrom B W W' ∧ J W'
  | _, _, _ => False

theorem keeps_drew (B : Nat) (W : World) : KeepsFrom B W W.drew := (KeepsOthers.drew W).from B

theorem range_law {P : Program} {g : Operand} {ps : Array Tmp} {assign body : Code} {Q : Exit → Act → World → Prop} {a : Act} {w : World}
    {gf : Nat} {lb : Array Value} (hg : a.eval g = .func (.func gf) #[] lb) (eg : ∀ args w, (callFunc gf args).run P w = .ok (.enter gf args) w)
    {encs : List (Array Value)} (hps : ∀ x ∈ encs, x.size = ps.size) {R : World → Prop} (hseq : SeqIs P gf lb encs R)
    (J : Nat → World → Prop) (hJ : OwnFrom w.heap.size J) (hR : ∀ k X, J k X → R X) (h0 : J 0 w)
    (M : Nat × Act → World → Prop) (hM : OwnFrom w.heap.size M)
    (hassign : ∀ (l k : Nat) (hk : k < encs.length) (W : World) (K : Act → World → Prop), J k W → (∀ a₁ W₁, KeepsFrom w.heap.size W W₁ → M (k, a₁) W₁ → K a₁ W₁) →
      assign.wpIn (Fence.wide.inRound l) 0 P (Exit.then K (fun _ _ _ => False)) { tmps := (ps.zip encs[k]).foldl (fun t (p, v) => t.setIfInBounds p v) a.tmps, defers := [] } W)
    (hbody : ∀ (l k : Nat) (_ : k < encs.length) (a₁ : Act) (W : World), M (k, a₁) W → body.wpIn (Fence.wide.inRound l) 0 P (goesOn w.heap.size (J (k + 1)) W) a₁ W)
    (hdone : ∀ W, J encs.length W → W.heap[w.heap.size]? = some (.deferred (some [])) → Q .normal { a with defers := { target := .collected w.heap.size, args := #[] } :: a.defers } W) :
    (Code.rangeFunc g ps assign body).wpIn Fence.wide 0 P Q a w := by
  refine wpIn_rangeFunc ?_
  intro fn hfn
  obtain ⟨rec, hrec⟩ : ∃ rec : LoopState → Option Code → Loop, rec = fun st pe => { state := st, pending := pe, fn, tmps := a.tmps, params := ps, assign, body, defers := w.heap.size } := ⟨_, rfl⟩
  obtain ⟨W1, hW1⟩ : ∃ W1, (w.alloc (.deferred (some []))).alloc (.loop (rec .ready none)) = W1 := ⟨_, rfl⟩
  have hL1 : W1.heap[w.heap.size + 1]? = some (.loop (rec .ready none)) := by
    rw [← hW1]; have := World.alloc_heap_new (w.alloc (.deferred (some []))) (.loop (rec .ready none)); rwa [World.size_alloc] at this
  have hK1 : W1.heap[w.heap.size]? = some (.deferred (some [])) := by
    rw [← hW1]; exact (Below.heap_alloc _ _ _ (by simp)).trans (World.alloc_heap_new w _)
  have hI1 : J 0 W1 := by rw [← hW1]; exact hJ.alloc _ (hJ.alloc _ h0)
  have hdr : ∀ k X, J k X → J k X.drew := fun k X h => hJ k X X.drew none h ⟨rfl, rfl, rfl, Nat.le_refl _, fun _ _ _ => rfl⟩ (fun r e => by cases e)
  refine ⟨w.heap.size + 1, [{ target := .collected w.heap.size, args := #[] }], W1, { target := .fn (.func gf) lb, args := #[.func (.yield (w.heap.size + 1)) #[] #[]] }, W1, gf,
    #[.func (.yield (w.heap.size + 1)) #[] #[]] ++ lb, W1, ?_, ?_, ?_, ?_, (fun h => nomatch h), ?_⟩
  · rw [← hW1, hrec]; exact run_enterLoop_outer _ _ _ _ _
  · simp only [resolve, hg]
    simp [go_sem]
  · intro f' _; trivial
  · simp [invoke, go_sem, eg]
  · refine (hseq (w.heap.size + 1)
      (fun k W => J k W ∧ W.heap[w.heap.size + 1]? = some (.loop (rec .ready none)) ∧ W.heap[w.heap.size]? = some (.deferred (some [])))
      W1 (fun k X h => hR k X h.1) (fun k X h => ⟨hdr k X h.1, h.2.1, h.2.2⟩) ?_ ⟨hI1, hL1, hK1⟩).mono ?_
    · rintro k hk W ⟨hi, hl, hkk⟩
      have hlt : w.heap.size + 1 < W.heap.size := (Array.getElem?_eq_some_iff.1 hl).1
      have hy := run_yield (P := P) (args := encs[k]) hl (by rw [hrec]; exact hps _ (List.getElem_mem _))
      rw [hrec] at hy
      refine ⟨fn, _, assign, body, hy, roundIn_of_wpIn hfn (hassign _ k hk W _ hi ?_)⟩
      intro a₁ W₁ hke hm
      have hl1 := hke.same _ _ (by omega) hl rfl
      have hk1 := hke.same _ _ (Nat.le_refl _) hkk rfl
      refine ⟨_, run_beginRound hl1 (by rw [hrec]), ?_⟩
      have hlt1 : w.heap.size + 1 < W₁.heap.size := (Array.getElem?_eq_some_iff.1 hl1).1
      have hl2 : (W₁.putObj (w.heap.size + 1) (.loop { rec .ready none with state := .busy })).heap[w.heap.size + 1]? = some (.loop { rec .ready none with state := .busy }) := World.putObj_heap_same hlt1
      have hk2 : (W₁.putObj (w.heap.size + 1) (.loop { rec .ready none with state := .busy })).heap[w.heap.size]? = some (.deferred (some [])) := (World.putObj_heap_other (by omega)).trans hk1
      refine wpIn_mono (hbody _ k hk a₁ _ (hM.putObj (s := (k, a₁)) _ hm (by omega) hl1 rfl)) ?_
      rintro e a3 W3 hp
      cases e with
      | normal =>
        obtain ⟨hk3, hi3⟩ := hp
        have hl3 := hk3.same _ _ (by omega) hl2 rfl
        have hend := run_endRound (P := P) none hl3
        refine ⟨_, _, hend, rfl, hJ.putObj _ hi3 (by omega) hl3 rfl, ?_, (World.putObj_heap_other (by omega)).trans (hk3.same _ _ (Nat.le_refl _) hk2 rfl)⟩
        rw [World.putObj_heap_same (Array.getElem?_eq_some_iff.1 hl3).1, hrec]
        rfl
      | ret => exact hp.elim
      | exit id => exact hp.elim
      | goto t => exact hp.elim
      | panic ch => exact hp.elim
      | outgrown => exact hp.elim
    · rintro e W2 ⟨⟨v, rfl⟩, hi, hl, hk⟩
      have hend := run_endLoop (P := P) hl (by rw [hrec]; simp)
      rw [hrec] at hend
      exact ⟨none, _, hend, hdone _ (hJ.putObj _ hi (by omega) hl rfl) ((World.putObj_heap_other (by omega)).trans hk)⟩

/-- the marks among a frame's deferred calls: blocks from B on, no two the same, each open and empty -/
def Marks (B : Nat) (W : World) : List Deferred → Prop
  | [] => True
  | d :: ds => ∃ D, d = { target := .collected D, args := #[] } ∧ B ≤ D ∧ W.heap[D]? = some (.deferred (some [])) ∧ (∀ d' ∈ ds, d'.target ≠ .collected D) ∧ Marks B W ds
theorem Marks.kept {B : Nat} {W W' : World} : ∀ {ds : List Deferred}, Marks B W ds → (∀ (k : Nat), B ≤ k → W.heap[k]? = some (.deferred (some [])) → (∃ d ∈ ds, d.target = .collected k) → W'.heap[k]? = some (.deferred (some []))) → Marks B W' ds
  | [], _, _ => trivial
  | d :: ds, ⟨D, h1, h2, h3, h4, h5⟩, h => ⟨D, h1, h2, h D h2 h3 ⟨d, List.mem_cons_self, by rw [h1]⟩, h4, Marks.kept h5 (fun k hk hd ⟨d', hm, ht⟩ => h k hk hd ⟨d', List.mem_cons_of_mem _ hm, ht⟩)⟩
theorem Marks.lt {B : Nat} {W : World} : ∀ {ds : List Deferred}, Marks B W ds → ∀ d ∈ ds, ∀ D, d.target = .collected D → D < W.heap.size
  | [], _, _, h, _, _ => by cases h
  | d :: ds, ⟨D, h1, _, h3, _, h5⟩, d', hm, D', ht => by
    rcases List.mem_cons.1 hm with e | e
    · subst e; rw [h1] at ht; cases ht; exact (Array.getElem?_eq_some_iff.1 h3).1
    · exact Marks.lt h5 d' e D' ht
theorem Marks.keepsFrom {B : Nat} {W W' : World} {ds : List Deferred} (h : Marks B W ds) (hk : KeepsFrom B W W') : Marks B W' ds := h.kept (fun k hB hd _ => hk.same k _ hB hd rfl)

/-- the marks are taken up: only their blocks turn -/
structure Shut (B : Nat) (W W' : World) : Prop where
  os : W'.os = W.os
  tape : W'.tape = W.tape
  output : W'.output = W.output
  size : W'.heap.size = W.heap.size
  block : ∀ k, (k < B ∨ W.heap[k]? ≠ some (.deferred (some []))) → W'.heap[k]? = W.heap[k]?
theorem Shut.below {B : Nat} {W W' : World} (h : Shut B W W') : Below B W W' := ⟨h.os, h.tape, h.output, by rw [h.size]; exact Nat.le_refl _, fun k hk => h.block k (.inl hk)⟩
theorem Shut.cells {B : Nat} {W W' : World} (h : Shut B W W') {k : Nat} {c : Array Value} {t : TypeId} {fr : Nat × Nat} (hk : W.heap[k]? = some (.cells c t fr)) : W'.heap[k]? = some (.cells c t fr) :=
  (h.block k (.inr (by rw [hk]; simp))).trans hk

theorem leave_marks {P : Program} {fn : Func} {tmps : Array Value} {R : Ending → World → Prop} {B : Nat} {v : Value} (hres : ∀ w, (results fn tmps).run P w = .ok v w) :
    ∀ (ds : List Deferred) (W : World), Marks B W ds → (∀ W', Shut B W W' → R (.returned v) W') → LeavesInM Fence.wide 0 P fn tmps R ds .returning W := by
  intro ds
  induction ds with
  | nil => exact fun W _ h => ⟨v, hres W, h W ⟨rfl, rfl, rfl, rfl, fun _ _ => rfl⟩⟩
  | cons d ds ih =>
    rintro W ⟨D, rfl, hB, hD, hne, hm⟩ h
    refine ⟨by simp, .inl ⟨D, _, rfl, run_takeDeferred hD, ih _ (hm.kept fun k _ hk hd => ?_) fun W' hs => h W' ?_⟩⟩
    · obtain ⟨d', hd1, hd2⟩ := hd
      exact (World.putObj_heap_other (fun e => by subst e; exact hne d' hd1 hd2)).trans hk
    · refine ⟨hs.os, hs.tape, hs.output, by rw [hs.size]; simp, fun k hk => ?_⟩
      have hkD : k ≠ D := by
        rintro rfl
        rcases hk with hk | hk
        · omega
        · exact hk hD
      have e := World.putObj_heap_other (w := W) (o := .deferred none) hkD
      rw [hs.block k (by rw [e]; exact hk), e]
end Go.Proofs.Ytknghmcdnlkfcaa
/- Contracts of codec.steps and its iterator: where each byte's bits begin. Conditions: small numbers. -/
set_option maxRecDepth 100000
namespace Go.Proofs.Ytknghmcdnlkfcaa
open Go.RowKit Go.Maps Go.Sort
attribute [local go_sem] Oper.semAt_some

def stepsL (f w d : Nat) : List (Nat × Nat) := if h : d < w then (d, f + d) :: stepsL f w (d + (8 - (f + d) % 8)) else []
termination_by w - d
decreasing_by omega
theorem steps_in {f w d : Nat} (h : d < w) : stepsL f w d = (d, f + d) :: stepsL f w (d + (8 - (f + d) % 8)) := by rw [stepsL, dif_pos h]
theorem steps_out {f w d : Nat} (h : ¬ d < w) : stepsL f w d = [] := by rw [stepsL, dif_neg h]
def stepE (p : Nat × Nat) : Array Value := #[.int .i64 (p.1 : Int), .int .i64 (p.2 : Int)]
def stepsE (f w : Nat) : List (Array Value) := (stepsL f w 0).map stepE
theorem stepsE_at {f w d k : Nat} (h : (stepsL f w 0).drop k = stepsL f w d) (hd : d < w) : ∃ hk : k < (stepsE f w).length, (stepsE f w)[k] = #[.int .i64 (d : Int), .int .i64 ((f + d : Nat) : Int)] ∧ (stepsL f w 0).drop (k + 1) = stepsL f w (d + (8 - (f + d) % 8)) := by
  rw [steps_in hd] at h
  have hk : k < (stepsL f w 0).length := by
    rcases Nat.lt_or_ge k (stepsL f w 0).length with g | g
    · exact g
    · rw [List.drop_eq_nil_of_le g] at h; cases h
  rw [List.drop_eq_getElem_cons hk] at h
  injection h with h1 h2
  exact ⟨by simpa [stepsE] using hk, by simp [stepsE, h1, stepE], h2⟩

def stepsR (bw bf w f : Nat) (W : World) : Prop := W.cell? ⟨bw, 0, none⟩ = some (.int .i64 (w : Int)) ∧ W.cell? ⟨bf, 0, none⟩ = some (.int .i64 (f : Int))

set_option maxHeartbeats 800000 in
theorem steps_seq (bw bf w f : Nat) (hw : w ≤ 64) (hf : f ≤ 1000000000000) : SeqIs Try.prog 74 #[.pointer (some ⟨bw, 0, none⟩), .pointer (some ⟨bf, 0, none⟩)] (stepsE f w) (stepsR bw bf w f) := by
  intro l J W hR _ hY h0
  have HR := Lib.hid hR
  have HY := Lib.hid hY
  have H0 := Lib.hid h0
  clear hR hY h0
  refine callsIn_of_wp Try.func74 rfl trivial ?_ rfl
  simp only [Try.ntmps74, List.size_toArray, List.length_cons, List.length_nil, Nat.reduceAdd, Nat.reduceSub, Array.replicate_succ, Array.replicate_zero, List.push_toArray, List.append_toArray, List.nil_append, List.cons_append]
  gi_wp2
  gi_loopw [4] (fun d wr => ∃ k dn : Nat, d = .int .i64 (dn : Int) ∧ dn ≤ w + 8 ∧ k ≤ (stepsE f w).length ∧ Hid ((stepsL f w 0).drop k = stepsL f w dn ∧ J k wr)) (fun d _ => w - (intOf d).toNat)
  case atStart => exact ⟨0, 0, rfl, by omega, by omega, rfl, H0.out⟩
  case round =>
    obtain ⟨k, dn, rfl, hdn, hkl, HK⟩ := hrel
    obtain ⟨c1, c2⟩ := HR.out k _ HK.out.2
    by_cases hlt : dn < w
    · obtain ⟨hk, e1, e2⟩ := stepsE_at HK.out.1 hlt
      obtain ⟨fn, tmps, assign, body, hy, hRd⟩ := HY.out k hk wr HK.out.2
      rw [e1, show ((f + dn : Nat) : Int) = (f : Int) + (dn : Int) by omega] at hy
      have E2 := Lib.hid e2
      clear e1 e2
      gi_wp2
      refine ⟨rfl, hRd.mono ?_⟩
      rintro e W3 ⟨rfl, hJ⟩
      have HJ := Lib.hid hJ
      clear hJ c1 c2 hy hRd
      gi_wp2
      go_roundw
      case rel => exact ⟨k + 1, dn + (8 - (f + dn) % 8), by go_num, by omega, by omega, E2.out, HJ.out⟩
      case measure => simp [intOf]; omega
    · have e := HK.out.1
      rw [steps_out hlt, List.drop_eq_nil_iff] at e
      have e2 : k = (stepsE f w).length := by
        have h2 : (stepsE f w).length = (stepsL f w 0).length := by simp [stepsE]
        omega
      have HJ := Lib.hid HK.out.2
      rw [e2] at HJ
      clear e e2 hkl
      gi_wp2
      go_end0
      exact ⟨⟨_, rfl⟩, HJ.out⟩

set_option maxHeartbeats 400000 in
/-- steps: two boxes, and the iterator over them -/
theorem steps_any (f w : Int) (W : World) : Calls Try.prog 58 #[.int .i64 f, .int .i64 w] W fun e W' =>
    e = .returned (.func (.func 74) #[] #[.pointer (some ⟨W.heap.size + 1, 0, none⟩), .pointer (some ⟨W.heap.size, 0, none⟩)]) ∧ W' = (W.alloc (.cells #[.int .i64 f] 3)).alloc (.cells #[.int .i64 w] 3) := by
  go_enter Try.func58, Try.ntmps58
  go_wp2
  go_ret
  exact ⟨rfl, rfl⟩

set_option maxHeartbeats 400000 in
theorem packedBytes_any (w n : Nat) (hw : w ≤ 64) (hn : n ≤ 100000000000) (W : World) : Calls Try.prog 57 #[.int .i64 (w : Int), .int .i64 (n : Int)] W fun e W' => e = .returned (.int .i64 (((w * n + 7) / 8 : Nat) : Int)) ∧ W = W' := by
  have h1 : w * n ≤ 64 * 100000000000 := Nat.mul_le_mul hw hn
  have e : (w : Int) * (n : Int) = ((w * n : Nat) : Int) := by simp
  generalize w * n = m at *
  go_enter Try.func57, Try.ntmps57
  go_wp2
  go_ret
  exact ⟨ret_int (by omega), rfl⟩
end Go.Proofs.Ytknghmcdnlkfcaa
/- Bitwise operations on unsigned numbers as natural numbers. Conditions: none. -/
set_option maxRecDepth 100000
namespace Go.Proofs.Ytknghmcdnlkfcaa

theorem wu64 (n : Int) (h₀ : 0 ≤ n) (h₁ : n < 2 ^ 64) : IntKind.u64.wrap n = n := by rw [IntKind.wrap_u64]; omega
theorem wu32 (n : Int) (h₀ : 0 ≤ n) (h₁ : n < 2 ^ 32) : IntKind.u32.wrap n = n := by rw [IntKind.wrap_u32]; omega
theorem or_u64 (a b : Nat) (ha : a < 18446744073709551616) (hb : b < 18446744073709551616) : bits .or .u64 (a : Int) (b : Int) = ((a ||| b : Nat) : Int) := (bits_nat .u64 64 (Nat.le_refl _) wu64 a b ha hb).2
theorem and_u64 (a b : Nat) (ha : a < 18446744073709551616) (hb : b < 18446744073709551616) : bits .and .u64 (a : Int) (b : Int) = ((a &&& b : Nat) : Int) := (bits_nat .u64 64 (Nat.le_refl _) wu64 a b ha hb).1
theorem or_u32 (a b : Nat) (ha : a < 4294967296) (hb : b < 4294967296) : bits .or .u32 (a : Int) (b : Int) = ((a ||| b : Nat) : Int) := (bits_nat .u32 32 (Nat.le_refl _) wu32 a b ha hb).2
theorem and_u32 (a b : Nat) (ha : a < 4294967296) (hb : b < 4294967296) : bits .and .u32 (a : Int) (b : Int) = ((a &&& b : Nat) : Int) := (bits_nat .u32 32 (Nat.le_refl _) wu32 a b ha hb).1
theorem or_u8 (a b : Nat) (ha : a < 256) (hb : b < 256) : bits .or .u8 (a : Int) (b : Int) = ((a ||| b : Nat) : Int) := (bits_nat .u8 8 (Nat.le_refl _) wraps_u8 a b ha hb).2
theorem and_u8 (a b : Nat) (ha : a < 256) (hb : b < 256) : bits .and .u8 (a : Int) (b : Int) = ((a &&& b : Nat) : Int) := (bits_nat .u8 8 (Nat.le_refl _) wraps_u8 a b ha hb).1
theorem xor_u32 (a b : Nat) (ha : a < 4294967296) (hb : b < 4294967296) : bits .xor .u32 (a : Int) (b : Int) = ((a ^^^ b : Nat) : Int) := by
  have hx : a ^^^ b < 2 ^ 32 := Nat.xor_lt_two_pow (by omega) (by omega)
  have h1 : (BitVec.ofInt 32 (a : Int)).toNat = a := by
    rw [BitVec.ofInt_natCast, BitVec.toNat_ofNat]; exact Nat.mod_eq_of_lt (by omega)
  have h2 : (BitVec.ofInt 32 (b : Int)).toNat = b := by
    rw [BitVec.ofInt_natCast, BitVec.toNat_ofNat]; exact Nat.mod_eq_of_lt (by omega)
  show IntKind.u32.wrap ((BitVec.ofInt 32 (a : Int) ^^^ BitVec.ofInt 32 (b : Int)).toNat : Int) = _
  rw [BitVec.toNat_xor, h1, h2, IntKind.wrap_u32]
  omega
theorem or128 : ∀ x : Nat, x < 256 → x ||| 128 = x % 128 + 128 := by decide
theorem mask_u8 (j : Nat) (hj : j ≤ 8) (x : Nat) (hx : x < 256) : bits .and .u8 (x : Int) (2 ^ j - 1) = ((x % 2 ^ j : Nat) : Int) := by
  rw [bits_mask .u8 8 (Nat.le_refl _) wraps_u8 j hj (x : Int) (by omega) (by omega)]; simp
theorem and127 (x : Nat) (hx : x < 256) : bits .and .u8 (x : Int) 127 = ((x % 128 : Nat) : Int) := mask_u8 7 (by omega) x hx
theorem low_or128 (k : Nat) : bits .or .u8 ((k : Int) % 256) 128 = ((UInt8.ofNat (k % 128 + 128)).toNat : Int) := by
  have h := or_u8 (k % 256) 128 (Nat.mod_lt _ (by omega)) (by omega)
  have e : (((k % 256 : Nat)) : Int) = (k : Int) % 256 := by omega
  rw [e] at h
  rw [show (128 : Int) = ((128 : Nat) : Int) from rfl, h, or128 _ (Nat.mod_lt _ (by omega))]
  simp
  omega
theorem ofInt_nat64 (a : Nat) (ha : a < 18446744073709551616) : (BitVec.ofInt 64 (a : Int)).toNat = a := by
  rw [BitVec.ofInt_natCast, BitVec.toNat_ofNat]; exact Nat.mod_eq_of_lt (by omega)
theorem ofInt_nat32 (a : Nat) (ha : a < 4294967296) : (BitVec.ofInt 32 (a : Int)).toNat = a := by
  rw [BitVec.ofInt_natCast, BitVec.toNat_ofNat]; exact Nat.mod_eq_of_lt (by omega)
theorem not_u64 (a : Nat) (ha : a < 18446744073709551616) : bits .xor .u64 IntKind.u64.max (a : Int) = 18446744073709551615 - (a : Int) := by
  have e : BitVec.ofInt 64 IntKind.u64.max = BitVec.allOnes 64 := by decide
  show IntKind.u64.wrap ((BitVec.ofInt 64 IntKind.u64.max ^^^ BitVec.ofInt 64 (a : Int)).toNat : Int) = _
  rw [e, BitVec.allOnes_xor, BitVec.toNat_not, ofInt_nat64 a ha, IntKind.wrap_u64]
  omega
theorem not_u32 (a : Nat) (ha : a < 4294967296) : bits .xor .u32 IntKind.u32.max (a : Int) = 4294967295 - (a : Int) := by
  have e : BitVec.ofInt 32 IntKind.u32.max = BitVec.allOnes 32 := by decide
  show IntKind.u32.wrap ((BitVec.ofInt 32 IntKind.u32.max ^^^ BitVec.ofInt 32 (a : Int)).toNat : Int) = _
  rw [e, BitVec.allOnes_xor, BitVec.toNat_not, ofInt_nat32 a ha, IntKind.wrap_u32]
  omega
theorem not_i64 (a : Nat) (ha : a < 9223372036854775808) : bits .xor .i64 (-1) (a : Int) = -(a : Int) - 1 := by
  have e : BitVec.ofInt 64 (-1) = BitVec.allOnes 64 := by decide
  show IntKind.i64.wrap ((BitVec.ofInt 64 (-1) ^^^ BitVec.ofInt 64 (a : Int)).toNat : Int) = _
  rw [e, BitVec.allOnes_xor, BitVec.toNat_not, ofInt_nat64 a (by omega), IntKind.wrap_i64]
  omega
theorem and1_u64 (u : Nat) (h : u < 18446744073709551616) : bits .and .u64 (u : Int) 1 = ((u % 2 : Nat) : Int) := by
  have := and_u64 u 1 h (by omega)
  rw [Nat.and_one_is_mod] at this
  exact this
end Go.Proofs.Ytknghmcdnlkfcaa
