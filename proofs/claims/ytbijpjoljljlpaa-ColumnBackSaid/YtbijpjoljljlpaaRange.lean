/- A range over a function whose iterator tells a known list, and whose body always goes on: one law for the loop; the marks that such loops leave among a frame's deferred calls. Conditions: none. -/
import Derived.Test.YtbijpjoljljlpaaGen
import Derived.RangeFuncNested
import Derived.RangeFuncBound
import Derived.RangeFuncCalls
import Derived.RangeFuncLeaves
import Derived.Shelf.Abstract
import Derived.Shelf.RegionOpen
import Derived.OwnWalkIn
import Derived.TacticsInMore
import Derived.LoopNIn
import Derived.LoopIn
set_option maxRecDepth 100000
namespace Go.Proofs.Ytbijpjoljljlpaa
open Go.RowKit

/-- the iterator tells just this list; R: what it reads while it goes -/
def SeqIs (P : Program) (gf : Nat) (lb : Array Value) (encs : List (Array Value)) (R : World → Prop) : Prop :=
  ∀ (l : Nat) (J : Nat → World → Prop) (W : World), (∀ k X, J k X → R X) → (∀ k X, J k X → J k X.drew) →
    (∀ k (hk : k < encs.length) X, J k X → YieldAt Fence.wide 0 P l encs[k] X fun e X' => e = .returned (.bool true) ∧ J (k + 1) X') →
    J 0 W → CallsIn Fence.wide 0 P gf (#[.func (.yield l) #[] #[]] ++ lb) W fun e W' => (∃ v, e = .returned v) ∧ J encs.length W'

/-- how a body is left: it goes on -/
def goesOn (B : Nat) (J : World → Prop) (W : World) : Exit → Act → World → Prop
  | .normal, _, W' => KeepsFrom B W W' ∧ J W'
  | _, _, _ => False

theorem keeps_drew (B : Nat) (W : World) : KeepsFrom B W W.drew := (KeepsOthers.drew W).from B

theorem range_law {P : Program} {g : Operand} {ps : Array Tmp} {assign body : Code} {Q : Exit → Act → World → Prop} {a : Act} {w : World}
    {gf : Nat} {lb : Array Value} (hg : a.eval g = .func (.func gf) #[] lb) (eg : ∀ args w, (callFunc gf args).run P w = .ok (.enter gf args) w)
    {encs : List (Array Value)} (hps : ∀ x ∈ encs, x.size = ps.size) {R : World → Prop} (hseq : SeqIs P gf lb encs R)
    (J : Nat → World → Prop) (hJ : OwnFrom w.heap.size J) (hR : ∀ k X, J k X → R X) (h0 : J 0 w)
    (M : Nat × Act → World → Prop) (hM : OwnFrom w.heap.size M)
    (hassign : ∀ (l k : Nat) (hk : k < encs.length) (W : World) (K : Act → World → Prop), J k W → (∀ a₁ W₁, KeepsFrom w.heap.size W W₁ → M (k, a₁) W₁ → K a₁ W₁) →
      assign.wpIn (Fence.wide.inRound l) 0 P (Exit.then K (fun _ _ _ => False)) { tmps := (ps.zip encs[k]).foldl (fun t (p, v) => t.setIfInBounds p v) a.tmps, defers := [] } W)
    (hbody : ∀ (l k : Nat) (_ : k < encs.length) (a₁ : Act) (W : World), M (k, a₁) W → body.wpIn (Fence.wide.inRound l) 0 P (goesOn w.heap.size (J (k + 1)) W) a₁ W)
    (hdone : ∀ W, J encs.length W → W.heap[w.heap.size]? = some (.deferred (some [])) → Q .normal { a with defers := { target := .collected w.heap.size, args := #[] } :: a.defers } W) :
    (Code.rangeFunc g ps assign body).wpIn Fence.wide 0 P Q a w := by
  refine wpIn_rangeFunc ?_
  intro fn hfn
  obtain ⟨rec, hrec⟩ : ∃ rec : LoopState → Option Code → Loop, rec = fun st pe => { state := st, pending := pe, fn, tmps := a.tmps, params := ps, assign, body, defers := w.heap.size } := ⟨_, rfl⟩
  obtain ⟨W1, hW1⟩ : ∃ W1, (w.alloc (.deferred (some []))).alloc (.loop (rec .ready none)) = W1 := ⟨_, rfl⟩
  have hL1 : W1.heap[w.heap.size + 1]? = some (.loop (rec .ready none)) := by
    rw [← hW1]; have := World.alloc_heap_new (w.alloc (.deferred (some []))) (.loop (rec .ready none)); rwa [World.size_alloc] at this
  have hK1 : W1.heap[w.heap.size]? = some (.deferred (some [])) := by
    rw [← hW1]; exact (Below.heap_alloc _ _ _ (by simp)).trans (World.alloc_heap_new w _)
  have hI1 : J 0 W1 := by rw [← hW1]; exact hJ.alloc _ (hJ.alloc _ h0)
  have hdr : ∀ k X, J k X → J k X.drew := fun k X h => hJ k X X.drew none h ⟨rfl, rfl, rfl, Nat.le_refl _, fun _ _ _ => rfl⟩ (fun r e => by cases e)
  refine ⟨w.heap.size + 1, [{ target := .collected w.heap.size, args := #[] }], W1, { target := .fn (.func gf) lb, args := #[.func (.yield (w.heap.size + 1)) #[] #[]] }, W1, gf,
    #[.func (.yield (w.heap.size + 1)) #[] #[]] ++ lb, W1, ?_, ?_, ?_, ?_, (fun h => nomatch h), ?_⟩
  · rw [← hW1, hrec]; exact run_enterLoop_outer _ _ _ _ _
  · simp only [resolve, hg]
    simp [go_sem]
  · intro f' _; trivial
  · simp [invoke, go_sem, eg]
  · refine (hseq (w.heap.size + 1)
      (fun k W => J k W ∧ W.heap[w.heap.size + 1]? = some (.loop (rec .ready none)) ∧ W.heap[w.heap.size]? = some (.deferred (some [])))
      W1 (fun k X h => hR k X h.1) (fun k X h => ⟨hdr k X h.1, h.2.1, h.2.2⟩) ?_ ⟨hI1, hL1, hK1⟩).mono ?_
    · rintro k hk W ⟨hi, hl, hkk⟩
      have hlt : w.heap.size + 1 < W.heap.size := (Array.getElem?_eq_some_iff.1 hl).1
      have hy := run_yield (P := P) (args := encs[k]) hl (by rw [hrec]; exact hps _ (List.getElem_mem _))
      rw [hrec] at hy
      refine ⟨fn, _, assign, body, hy, roundIn_of_wpIn hfn (hassign _ k hk W _ hi ?_)⟩
      intro a₁ W₁ hke hm
      have hl1 := hke.same _ _ (by omega) hl rfl
      have hk1 := hke.same _ _ (Nat.le_refl _) hkk rfl
      refine ⟨_, run_beginRound hl1 (by rw [hrec]), ?_⟩
      have hlt1 : w.heap.size + 1 < W₁.heap.size := (Array.getElem?_eq_some_iff.1 hl1).1
      have hl2 : (W₁.putObj (w.heap.size + 1) (.loop { rec .ready none with state := .busy })).heap[w.heap.size + 1]? = some (.loop { rec .ready none with state := .busy }) := World.putObj_heap_same hlt1
      have hk2 : (W₁.putObj (w.heap.size + 1) (.loop { rec .ready none with state := .busy })).heap[w.heap.size]? = some (.deferred (some [])) := (World.putObj_heap_other (by omega)).trans hk1
      refine wpIn_mono (hbody _ k hk a₁ _ (hM.putObj (s := (k, a₁)) _ hm (by omega) hl1 rfl)) ?_
      rintro e a3 W3 hp
      cases e with
      | normal =>
        obtain ⟨hk3, hi3⟩ := hp
        have hl3 := hk3.same _ _ (by omega) hl2 rfl
        have hend := run_endRound (P := P) none hl3
        refine ⟨_, _, hend, rfl, hJ.putObj _ hi3 (by omega) hl3 rfl, ?_, (World.putObj_heap_other (by omega)).trans (hk3.same _ _ (Nat.le_refl _) hk2 rfl)⟩
        rw [World.putObj_heap_same (Array.getElem?_eq_some_iff.1 hl3).1, hrec]
        rfl
      | ret => exact hp.elim
      | exit id => exact hp.elim
      | goto t => exact hp.elim
      | panic ch => exact hp.elim
      | outgrown => exact hp.elim
    · rintro e W2 ⟨⟨v, rfl⟩, hi, hl, hk⟩
      have hend := run_endLoop (P := P) hl (by rw [hrec]; simp)
      rw [hrec] at hend
      exact ⟨none, _, hend, hdone _ (hJ.putObj _ hi (by omega) hl rfl) ((World.putObj_heap_other (by omega)).trans hk)⟩

/-- the marks among a frame's deferred calls: blocks from B on, no two the same, each open and empty -/
def Marks (B : Nat) (W : World) : List Deferred → Prop
  | [] => True
  | d :: ds => ∃ D, d = { target := .collected D, args := #[] } ∧ B ≤ D ∧ W.heap[D]? = some (.deferred (some [])) ∧ (∀ d' ∈ ds, d'.target ≠ .collected D) ∧ Marks B W ds
theorem Marks.kept {B : Nat} {W W' : World} : ∀ {ds : List Deferred}, Marks B W ds → (∀ (k : Nat), B ≤ k → W.heap[k]? = some (.deferred (some [])) → (∃ d ∈ ds, d.target = .collected k) → W'.heap[k]? = some (.deferred (some []))) → Marks B W' ds
  | [], _, _ => trivial
  | d :: ds, ⟨D, h1, h2, h3, h4, h5⟩, h => ⟨D, h1, h2, h D h2 h3 ⟨d, List.mem_cons_self, by rw [h1]⟩, h4, Marks.kept h5 (fun k hk hd ⟨d', hm, ht⟩ => h k hk hd ⟨d', List.mem_cons_of_mem _ hm, ht⟩)⟩
theorem Marks.lt {B : Nat} {W : World} : ∀ {ds : List Deferred}, Marks B W ds → ∀ d ∈ ds, ∀ D, d.target = .collected D → D < W.heap.size
  | [], _, _, h, _, _ => by cases h
  | d :: ds, ⟨D, h1, _, h3, _, h5⟩, d', hm, D', ht => by
    rcases List.mem_cons.1 hm with e | e
    · subst e; rw [h1] at ht; cases ht; exact (Array.getElem?_eq_some_iff.1 h3).1
    · exact Marks.lt h5 d' e D' ht
theorem Marks.keepsFrom {B : Nat} {W W' : World} {ds : List Deferred} (h : Marks B W ds) (hk : KeepsFrom B W W') : Marks B W' ds := h.kept (fun k hB hd _ => hk.same k _ hB hd rfl)

/-- the marks are taken up: only their blocks turn -/
structure Shut (B : Nat) (W W' : World) : Prop where
  os : W'.os = W.os
  tape : W'.tape = W.tape
  output : W'.output = W.output
  size : W'.heap.size = W.heap.size
  block : ∀ k, (k < B ∨ W.heap[k]? ≠ some (.deferred (some []))) → W'.heap[k]? = W.heap[k]?
theorem Shut.below {B : Nat} {W W' : World} (h : Shut B W W') : Below B W W' := ⟨h.os, h.tape, h.output, by rw [h.size]; exact Nat.le_refl _, fun k hk => h.block k (.inl hk)⟩
theorem Shut.cells {B : Nat} {W W' : World} (h : Shut B W W') {k : Nat} {c : Array Value} {t : TypeId} {fr : Nat × Nat} (hk : W.heap[k]? = some (.cells c t fr)) : W'.heap[k]? = some (.cells c t fr) :=
  (h.block k (.inr (by rw [hk]; simp))).trans hk

theorem leave_marks {P : Program} {fn : Func} {tmps : Array Value} {R : Ending → World → Prop} {B : Nat} {v : Value} (hres : ∀ w, (results fn tmps).run P w = .ok v w) :
    ∀ (ds : List Deferred) (W : World), Marks B W ds → (∀ W', Shut B W W' → R (.returned v) W') → LeavesInM Fence.wide 0 P fn tmps R ds .returning W := by
  intro ds
  induction ds with
  | nil => exact fun W _ h => ⟨v, hres W, h W ⟨rfl, rfl, rfl, rfl, fun _ _ => rfl⟩⟩
  | cons d ds ih =>
    rintro W ⟨D, rfl, hB, hD, hne, hm⟩ h
    refine ⟨by simp, .inl ⟨D, _, rfl, run_takeDeferred hD, ih _ (hm.kept fun k _ hk hd => ?_) fun W' hs => h W' ?_⟩⟩
    · obtain ⟨d', hd1, hd2⟩ := hd
      exact (World.putObj_heap_other (fun e => by subst e; exact hne d' hd1 hd2)).trans hk
    · refine ⟨hs.os, hs.tape, hs.output, by rw [hs.size]; simp, fun k hk => ?_⟩
      have hkD : k ≠ D := by
        rintro rfl
        rcases hk with hk | hk
        · omega
        · exact hk hD
      have e := World.putObj_heap_other (w := W) (o := .deferred none) hkD
      rw [hs.block k (by rw [e]; exact hk), e]
end Go.Proofs.Ytbijpjoljljlpaa
