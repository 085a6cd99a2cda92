/- A range over a function whose iterator tells a known list and then returns or panics, and whose body goes on or panics; iterators within iterators. Conditions: none. -/
import Derived.Test.YtbijpjoljljlpaaRange
set_option maxRecDepth 100000
namespace Go.Proofs.Ytbijpjoljljlpaa
open Go.RowKit

/-- a piece of code, walked in a frame of one function -/
def WpFor (P : Program) (f : FuncId) (c : Code) (Q : Exit → Act → World → Prop) (a : Act) (w : World) : Prop :=
  ∀ (b : Frame) (k : List Item) (cs : List Frame), b.roundOf = none → b.fn = f →
    ∃ e a' w', Q e a' w' ∧ ArrivesIn (Machine.fenced P Fence.wide) P (lone (b.atR a (.code c :: k)) cs w) b k cs e a' w'
theorem WpFor.of_wpIn {P : Program} {f : FuncId} {c : Code} {Q : Exit → Act → World → Prop} {a : Act} {w : World} (h : c.wpIn Fence.wide 0 P Q a w) : WpFor P f c Q a w :=
  fun b k cs hr _ => h b k cs hr trivial (room_wide _)
theorem WpFor.mono {P : Program} {f : FuncId} {c : Code} {Q Q' : Exit → Act → World → Prop} {a : Act} {w : World} (h : WpFor P f c Q a w) (hq : ∀ e a w, Q e a w → Q' e a w) : WpFor P f c Q' a w :=
  fun b k cs hr hf => let ⟨e, a', w', q, r⟩ := h b k cs hr hf; ⟨e, a', w', hq _ _ _ q, r⟩
theorem wpFor_seq {P : Program} {f : FuncId} {x y : Code} {Q : Exit → Act → World → Prop} {a : Act} {w : World} (h : WpFor P f x (Exit.then (WpFor P f y Q) Q) a w) : WpFor P f (Code.seq x y) Q a w := by
  intro b k cs hro hb
  have h0 : (lone (b.atR a (.code (.seq x y) :: k)) cs w).fenced P Fence.wide := fenced_calm (n := 0) trivial (room_wide _) rfl
  obtain ⟨e, a₁, w₁, hq, harr⟩ := h b (.code y :: k) cs hro hb
  cases e with
  | normal =>
    obtain ⟨e₂, a₂, w₂, hq₂, harr₂⟩ := hq b k cs hro hb
    exact ⟨e₂, a₂, w₂, hq₂, .of_steps (.head h0 stepR_seq harr) harr₂⟩
  | exit id => exact ⟨_, a₁, w₁, hq, .of_steps (.one h0 stepR_seq) (.pass (x := .code y) rfl (fun _ _ => .inl (by simp)) harr)⟩
  | goto l => exact ⟨_, a₁, w₁, hq, .of_steps (.one h0 stepR_seq) (.pass (x := .code y) rfl (fun _ _ => .inl (by simp)) harr)⟩
  | ret => exact ⟨_, a₁, w₁, hq, .of_steps (.one h0 stepR_seq) (.pass (x := .code y) rfl (fun _ _ => .inl (by simp)) harr)⟩
  | panic ch => exact ⟨_, a₁, w₁, hq, .of_steps (.one h0 stepR_seq) (.pass (x := .code y) rfl (fun _ _ => .inl (by simp)) harr)⟩
  | outgrown => exact ⟨_, a₁, w₁, hq, .of_steps (.one h0 stepR_seq) (.pass (x := .code y) rfl (fun _ _ => .inl (by simp)) harr)⟩
theorem wpFor_then {P : Program} {f : FuncId} {x y : Code} {Q : Exit → Act → World → Prop} {a : Act} {w : World} (h : x.wpIn Fence.wide 0 P (Exit.then (WpFor P f y Q) Q) a w) : WpFor P f (Code.seq x y) Q a w := wpFor_seq (.of_wpIn h)
/-- a block whose code leaves it by no exit -/
def noExit (Q : Exit → Act → World → Prop) : Exit → Act → World → Prop
  | .normal, a, w => Q .normal a w
  | .panic ch, a, w => Q (.panic ch) a w
  | _, _, _ => False
theorem wpFor_block {P : Program} {f : FuncId} {id : Nat} {c : Code} {Q : Exit → Act → World → Prop} {a : Act} {w : World} (h : WpFor P f c (noExit Q) a w) : WpFor P f (Code.block id c) Q a w := by
  intro b k cs hro hb
  have h0 : (lone (b.atR a (.code (.block id c) :: k)) cs w).fenced P Fence.wide := fenced_calm (n := 0) trivial (room_wide _) rfl
  obtain ⟨e, a₁, w₁, hq, harr⟩ := h b (.inBlock id :: k) cs hro hb
  cases e with
  | normal => exact ⟨.normal, a₁, w₁, hq, .head h0 stepR_block (StepsIn.trans harr (.one (fenced_calm (n := 0) trivial (room_wide _) rfl) stepR_inBlock))⟩
  | panic ch => exact ⟨_, a₁, w₁, hq, .of_steps (.one h0 stepR_block) harr⟩
  | exit id => exact hq.elim
  | goto l => exact hq.elim
  | ret => exact hq.elim
  | outgrown => exact hq.elim
theorem calls_of_wpFor {P : Program} {f : FuncId} {fn : Func} {c : Code} {args : Array Value} {w : World} {R : Ending → World → Prop} (hf : P.funcs[f]? = some fn) (hb : fn.body = some c)
    (h : WpFor P f c (bodyPostM Fence.wide 0 P fn R) { tmps := args ++ Array.replicate (fn.ntmps - args.size) undef, defers := [] } w) : Calls P f args w R := by
  refine (callsIn_wide (n := 0)).1 ⟨trivial, fun cs hr => ?_⟩
  let b : Frame := { (default : Frame) with fn := f, kind := .normal, roundOf := none }
  have henter : Frame.enter P f args .normal = b.atR { tmps := args ++ Array.replicate (fn.ntmps - args.size) undef, defers := [] } [.code c] := by
    simp [Frame.enter, Frame.atR, hf, hb, b]
  obtain ⟨e, a', w', hq, harr⟩ := h b [] cs rfl rfl
  rw [← henter] at harr
  cases e with
  | normal =>
    obtain ⟨e', w'', fr', hR, hs, hfn, hl⟩ := leaves_stepsInM a'.defers .returning w' { b.atR a' [] with mode := .returning } cs rfl rfl rfl hf rfl trivial hr hq
    exact ⟨e', w'', fr', hR, ComesIn.of_steps (StepsIn.trans harr (.one (fenced_calm (fr := b.atR a' []) trivial hr rfl) (stepR_end rfl))) hs, hfn, hl⟩
  | ret =>
    obtain ⟨todo, hs₀⟩ := harr.1 rfl
    obtain ⟨e', w'', fr', hR, hs, hfn, hl⟩ := leaves_stepsInM a'.defers .returning w' { b.atR a' todo with mode := .returning } cs rfl rfl rfl hf rfl trivial hr hq
    exact ⟨e', w'', fr', hR, ComesIn.of_steps hs₀ hs, hfn, hl⟩
  | panic chain =>
    obtain ⟨todo, hs₀⟩ := harr
    obtain ⟨e', w'', fr', hR, hs, hfn, hl⟩ := leaves_stepsInM a'.defers (.panicking chain) w' { b.atR a' todo with mode := .panicking chain } cs rfl rfl rfl hf rfl trivial hr hq
    exact ⟨e', w'', fr', hR, ComesIn.of_steps hs₀ hs, hfn, hl⟩
  | exit id => exact hq.elim
  | goto l => exact hq.elim
  | outgrown => exact ⟨.outgrown, w', b, hq, harr.resolve_left (by simp [b]), rfl, trivial⟩
/-- the statement, in a frame of one function -/
theorem wpFor_rangeFunc {P : Program} {fn : FuncId} {g : Operand} {ps : Array Tmp} {assign body : Code} {Q : Exit → Act → World → Prop} {a : Act} {w : World}
    (h : ∃ (l : Nat) (mark : List Deferred) (w₁ : World) (d : Deferred) (w₁' : World) (f : FuncId) (args : Array Value) (w₂ : World),
      (Instr.enterLoop fn a.tmps ps assign body none).run P w = .ok (l, mark) w₁ ∧
      (resolve a.eval (rangeCall g l) 0).run P w₁ = .ok d w₁' ∧
      (invoke d.target d.args).run P w₁' = .ok (.enter f args) w₂ ∧
      CallsIn Fence.wide 0 P f args w₂ (rangePost Fence.wide 0 P l Q { a with defers := mark ++ a.defers })) :
    WpFor P fn (Code.rangeFunc g ps assign body) Q a w := by
  intro b k cs hro hb
  obtain ⟨l, mark, w₁, d, w₁', f, args, w₂, he, hres, hinv, _, hcall⟩ := h
  rw [← hro, ← hb] at he
  have hr : Fence.wide.room (cs.length + 1 + 0) := room_wide _
  have h0 : (lone (b.atR a (.code (.rangeFunc g ps assign body) :: k)) cs w).fenced P Fence.wide := fenced_lone (.inl trivial) (fun _ _ => trivial) (Fence.room_le hr (by omega))
  have henter := stepR_rangeFunc (P := P) (b := b) (a := a) (k := k) (cs := cs) (w := w) he hres hinv
  have hroom : Fence.wide.room ((b.atR { a with defers := mark ++ a.defers } (.inRangeFunc l :: k) :: cs).length + 1 + 0) := room_wide _
  obtain ⟨e, w₃, fr, hR, hsteps, hfn, hleave⟩ := hcall (b.atR { a with defers := mark ++ a.defers } (.inRangeFunc l :: k) :: cs) hroom
  cases e with
  | outgrown =>
    obtain ⟨a₀, w₀, hq⟩ := hR
    exact ⟨.outgrown, a₀, w₀, hq, .inr (Outgrown.of_steps (.one henter) hsteps)⟩
  | returned v =>
    have hl : (lone fr (b.atR { a with defers := mark ++ a.defers } (.inRangeFunc l :: k) :: cs) w₃).fenced P Fence.wide := fenced_leaving (n := 0) trivial hroom hleave
    obtain ⟨jump, w₄, hend, hj⟩ := hR
    have sback : StepsIn (Machine.fenced P Fence.wide) P (lone (b.atR a (.code (.rangeFunc g ps assign body) :: k)) cs w) (lone (b.atR { a with defers := mark ++ a.defers } ((jump.map Item.code).toList ++ k)) cs w₄) := by
      refine .head h0 henter (StepsIn.trans hsteps (.head hl ?_ (.one (fenced_calm (n := 0) (fr := b.atR { a with defers := mark ++ a.defers } (.endRangeFunc l :: k)) trivial hr rfl) (stepR_endRangeFunc hend))))
      rw [← finish_atR_inRangeFunc l v]; exact step_leave_returned hleave
    cases jump with
    | none => exact ⟨.normal, _, w₄, hj, sback⟩
    | some c =>
      obtain ⟨e', a'', w₅, hq, harr⟩ := hj b k cs hro trivial hr
      exact ⟨e', a'', w₅, hq, .of_steps sback harr⟩
  | panicked chain =>
    have hl : (lone fr (b.atR { a with defers := mark ++ a.defers } (.inRangeFunc l :: k) :: cs) w₃).fenced P Fence.wide := fenced_leaving (n := 0) trivial hroom hleave
    refine ⟨.panic chain, _, w₃, hR, .inRangeFunc l :: k, .head h0 henter (StepsIn.trans hsteps (.one hl ?_))⟩
    rw [← Frame.raise_atR]; exact step_leave_panicked hleave

/-- a frame that panics takes up its one mark -/
theorem leave_mark_panic {P : Program} {fn : Func} {tmps : Array Value} {R : Ending → World → Prop} {D : Nat} {ch : List PanicEntry} {W : World} (hD : W.heap[D]? = some (.deferred (some []))) (h : R (.panicked ch) (W.putObj D (.deferred none))) :
    LeavesInM Fence.wide 0 P fn tmps R [{ target := .collected D, args := #[] }] (.panicking ch) W := ⟨by simp, .inl ⟨D, _, rfl, run_takeDeferred hD, h⟩⟩
/-- a round's end: off its end, or by a panic -/
def roundPostP (P : Program) (l : Nat) (R : Ending → World → Prop) : Exit → Act → World → Prop
  | .normal, _, w => ∃ v w', (Instr.endRound l none).run P w = .ok v w' ∧ R (.returned v) w'
  | .panic ch, a, w => a.defers = [] ∧ R (.panicked ch) w
  | _, _, _ => False
theorem roundIn_p {P : Program} {l : Nat} {f : FuncId} {fn : Func} {tmps : Array Value} {assign body : Code} {w : World} {R : Ending → World → Prop} (hf : P.funcs[f]? = some fn)
    (h : assign.wpIn (Fence.wide.inRound l) 0 P (Exit.then (fun a₁ w₁ => ∃ w₂, (Instr.beginRound l).run P w₁ = .ok () w₂ ∧ body.wpIn (Fence.wide.inRound l) 0 P (roundPostP P l R) a₁ w₂) (fun _ _ _ => False))
      { tmps := tmps, defers := [] } w) :
    RoundIn Fence.wide 0 P l f tmps assign body w R := by
  refine ⟨trivial, fun c cs hr => ?_⟩
  let b : Frame := { (default : Frame) with fn := f, kind := .normal, roundOf := some l }
  have hb0 : Frame.round l f tmps assign body .normal = b.atR { tmps := tmps, defers := [] } [.code assign, .beginRound, .code body] := by
    simp [Frame.round, Frame.atR, b]
  have hr' : (Fence.wide.inRound l).room ((c :: cs).length + 1 + 0) := hr
  have hF' : (Fence.wide.inRound l).fn b.fn := trivial
  obtain ⟨e, a₁, w₁, hq, harr⟩ := h b [.beginRound, .code body] (c :: cs) rfl hF' hr'
  rw [← hb0] at harr
  cases e with
  | normal =>
    obtain ⟨w₂, hbr, hbody⟩ := hq
    have s1 : StepsIn (Machine.fenced P (Fence.wide.inRound l)) P (lone (b.atR a₁ [.beginRound, .code body]) (c :: cs) w₁) (lone (b.atR a₁ [.code body]) (c :: cs) w₂) :=
      .one (fenced_calm (fr := b.atR a₁ [.beginRound, .code body]) hF' hr' rfl) (stepR_beginRound rfl hbr)
    obtain ⟨e₂, a₂, w₃, hq₂, harr₂⟩ := hbody b [] (c :: cs) rfl hF' hr'
    cases e₂ with
    | normal =>
      obtain ⟨v, w₄, hend, hR⟩ := hq₂
      exact ⟨.returned v, w₄, hR, (StepsIn.trans harr s1).trans (StepsIn.trans harr₂ (.one (fenced_calm (fr := b.atR a₂ []) hF' hr' rfl) (stepR_round_end rfl rfl hend)))⟩
    | panic chain =>
      obtain ⟨hd, hR⟩ := hq₂
      obtain ⟨todo, hs⟩ := harr₂
      have hleave : Frame.leaving P { b.atR a₂ todo with mode := .panicking chain } w₃ (.panicked chain) := ⟨rfl, hd, fn, hf⟩
      exact ⟨.panicked chain, w₃, hR, (StepsIn.trans harr s1).trans (StepsIn.trans hs (.one (fenced_leaving (n := 0) hF' hr' hleave) (step_leave_panicked hleave)))⟩
    | ret => exact hq₂.elim
    | exit id => exact hq₂.elim
    | goto t => exact hq₂.elim
    | outgrown => exact hq₂.elim
  | exit id => exact hq.elim
  | goto t => exact hq.elim
  | ret => exact hq.elim
  | panic chain => exact hq.elim
  | outgrown => exact hq.elim

/-- it abides whatever is laid, and stores into blocks from B on: into the first m of them, and into those that hold no cells -/
def Abides {β : Type} (B m : Nat) (J : β → World → Prop) : Prop :=
  ∀ s X Y row, J s X → X.grownBy Y row → (∀ r, row = some r → B ≤ r ∧ (r < B + m ∨ ∃ o : Obj, X.heap[r]? = some o ∧ o.isCells = false)) → J s Y
theorem Abides.drew {β : Type} {B m : Nat} {J : β → World → Prop} (h : Abides B m J) {s : β} {X : World} (hj : J s X) : J s X.drew := h s X X.drew none hj ⟨rfl, rfl, rfl, Nat.le_refl _, fun _ _ _ => rfl⟩ (fun r e => by cases e)
theorem Abides.alloc {β : Type} {B m : Nat} {J : β → World → Prop} (h : Abides B m J) {s : β} {X : World} (hj : J s X) (o : Obj) : J s (X.alloc o) := h s X _ none hj ⟨rfl, rfl, rfl, by simp, fun k hk _ => Below.heap_alloc _ _ _ hk⟩ (fun r e => by cases e)
theorem grown_putObj (W : World) (b : Nat) (o : Obj) : W.grownBy (W.putObj b o) (some b) :=
  ⟨rfl, rfl, rfl, by simp, fun k _ hk => World.putObj_heap_other (fun e => hk (by rw [e]))⟩
theorem Abides.putObj {β : Type} {B m : Nat} {J : β → World → Prop} (h : Abides B m J) {s : β} {X : World} (hj : J s X) {b : Nat} (hb : B ≤ b) {o : Obj} (ho : X.heap[b]? = some o) (hc : o.isCells = false) (o' : Obj) : J s (X.putObj b o') :=
  h s X _ _ hj (grown_putObj X b o') (fun r e => by cases e; exact ⟨hb, .inr ⟨o, ho, hc⟩⟩)
theorem Abides.sub {β : Type} {B m B' m' : Nat} {J : β → World → Prop} (h : Abides B m J) (hB : B ≤ B') (hm : B' + m' ≤ B + m) : Abides B' m' J := fun s X Y row hj hg hr => h s X Y row hj hg (fun r e => by
  obtain ⟨h1, h2⟩ := hr r e
  exact ⟨by omega, h2.imp (by omega) id⟩)
/-- m blocks from B on lie as they lay -/
def Held (B m : Nat) (X Y : World) : Prop := X.heap.size ≤ Y.heap.size ∧ ∀ b, B ≤ b → b < B + m → Y.heap[b]? = X.heap[b]?
theorem Held.refl (B m : Nat) (X : World) : Held B m X X := ⟨Nat.le_refl _, fun _ _ _ => rfl⟩
theorem Held.trans {B m : Nat} {X Y Z : World} (h : Held B m X Y) (k : Held B m Y Z) : Held B m X Z := ⟨Nat.le_trans h.1 k.1, fun b h1 h2 => (k.2 b h1 h2).trans (h.2 b h1 h2)⟩
theorem Held.sub {B m B' m' : Nat} {X Y : World} (h : Held B m X Y) (hB : B ≤ B') (hm : B' + m' ≤ B + m) : Held B' m' X Y := ⟨h.1, fun b h1 h2 => h.2 b (by omega) (by omega)⟩
theorem Held.drew (B m : Nat) (X : World) : Held B m X X.drew := ⟨Nat.le_refl _, fun _ _ _ => rfl⟩
theorem Held.putObj (B m : Nat) (X : World) {b : Nat} (hb : b < B ∨ B + m ≤ b) (o : Obj) : Held B m X (X.putObj b o) := ⟨by simp, fun k h1 h2 => World.putObj_heap_other (by omega)⟩

/-- the iterator tells just this list, and then returns, or (fin) panics with ch0; m: the blocks that it lays for itself ahead of its rounds; R: what it reads while it goes -/
def SeqP (P : Program) (gf : Nat) (lb : Array Value) (m : Nat) (encs : List (Array Value)) (fin : Bool) (ch0 : List PanicEntry) (R : World → Prop) : Prop :=
  ∀ (l : Nat) (J : Nat → World → Prop) (Jp : List PanicEntry → World → Prop) (W : World), (∀ k X, J k X → R X) → Abides W.heap.size m J → Abides W.heap.size m Jp →
    (∀ k (hk : k < encs.length) X, J k X → W.heap.size + m ≤ X.heap.size → YieldAt Fence.wide 0 P l encs[k] X fun e X' => Held W.heap.size m X X' ∧ ((e = .returned (.bool true) ∧ J (k + 1) X') ∨ ∃ ch, e = .panicked ch ∧ Jp ch X')) →
    (fin = true → ∀ X, J encs.length X → Jp ch0 X) →
    J 0 W → Calls P gf (#[.func (.yield l) #[] #[]] ++ lb) W fun e W' => (fin = false ∧ (∃ v, e = .returned v) ∧ J encs.length W' ∧ W.heap.size + m ≤ W'.heap.size) ∨ ∃ ch, e = .panicked ch ∧ Jp ch W'

/-- how a body is left: it goes on, or panics -/
def goesP (B m : Nat) (J : World → Prop) (Jp : List PanicEntry → World → Prop) (W : World) : Exit → Act → World → Prop
  | .normal, _, W' => Held B m W W' ∧ J W'
  | .panic ch, a, W' => a.defers = [] ∧ Held B m W W' ∧ Jp ch W'
  | _, _, _ => False

theorem rangeP_law {P : Program} {f0 : FuncId} {fn0 : Func} (hf0 : P.funcs[f0]? = some fn0) {g : Operand} {ps : Array Tmp} {assign body : Code} {Q : Exit → Act → World → Prop} {a : Act} {w : World}
    {gf : Nat} {lb : Array Value} (hg : a.eval g = .func (.func gf) #[] lb) (eg : ∀ args w, (callFunc gf args).run P w = .ok (.enter gf args) w)
    {m : Nat} {encs : List (Array Value)} {fin : Bool} {ch0 : List PanicEntry} (hps : ∀ x ∈ encs, x.size = ps.size) {R : World → Prop} (hseq : SeqP P gf lb m encs fin ch0 R)
    (J : Nat → World → Prop) (Jp : List PanicEntry → World → Prop) (hJ : Abides w.heap.size (m + 2) J) (hJp : Abides w.heap.size (m + 2) Jp) (hR : ∀ k X, J k X → R X) (h0 : J 0 w)
    (M : Nat × Act → World → Prop) (hM : Abides w.heap.size (m + 2) M)
    (hassign : ∀ (l k : Nat) (hk : k < encs.length) (W : World) (K : Act → World → Prop), J k W → (∀ a₁ W₁, Held w.heap.size (m + 2) W W₁ → M (k, a₁) W₁ → K a₁ W₁) →
      assign.wpIn (Fence.wide.inRound l) 0 P (Exit.then K (fun _ _ _ => False)) { tmps := (ps.zip encs[k]).foldl (fun t (p, v) => t.setIfInBounds p v) a.tmps, defers := [] } W)
    (hbody : ∀ (l k : Nat) (_ : k < encs.length) (a₁ : Act) (W : World), M (k, a₁) W → w.heap.size + 2 + m ≤ W.heap.size → body.wpIn (Fence.wide.inRound l) 0 P (goesP w.heap.size (m + 2) (J (k + 1)) Jp W) a₁ W)
    (hfin : fin = true → ∀ X, J encs.length X → Jp ch0 X)
    (hdone : fin = false → ∀ W, J encs.length W → w.heap.size + 2 + m ≤ W.heap.size → W.heap[w.heap.size]? = some (.deferred (some [])) → Q .normal { a with defers := { target := .collected w.heap.size, args := #[] } :: a.defers } W)
    (hpan : ∀ ch W, Jp ch W → W.heap[w.heap.size]? = some (.deferred (some [])) → Q (.panic ch) { a with defers := { target := .collected w.heap.size, args := #[] } :: a.defers } W) :
    WpFor P f0 (Code.rangeFunc g ps assign body) Q a w := by
  refine wpFor_rangeFunc ?_
  obtain ⟨rec, hrec⟩ : ∃ rec : LoopState → Option Code → Loop, rec = fun st pe => { state := st, pending := pe, fn := f0, tmps := a.tmps, params := ps, assign, body, defers := w.heap.size } := ⟨_, rfl⟩
  obtain ⟨W1, hW1⟩ : ∃ W1, (w.alloc (.deferred (some []))).alloc (.loop (rec .ready none)) = W1 := ⟨_, rfl⟩
  have hL1 : W1.heap[w.heap.size + 1]? = some (.loop (rec .ready none)) := by
    rw [← hW1]; have := World.alloc_heap_new (w.alloc (.deferred (some []))) (.loop (rec .ready none)); rwa [World.size_alloc] at this
  have hK1 : W1.heap[w.heap.size]? = some (.deferred (some [])) := by
    rw [← hW1]; exact (Below.heap_alloc _ _ _ (by simp)).trans (World.alloc_heap_new w _)
  have hI1 : J 0 W1 := by rw [← hW1]; exact hJ.alloc (hJ.alloc h0 _) _
  have hS1 : W1.heap.size = w.heap.size + 2 := by rw [← hW1]; simp
  refine ⟨w.heap.size + 1, [{ target := .collected w.heap.size, args := #[] }], W1, { target := .fn (.func gf) lb, args := #[.func (.yield (w.heap.size + 1)) #[] #[]] }, W1, gf,
    #[.func (.yield (w.heap.size + 1)) #[] #[]] ++ lb, W1, ?_, ?_, ?_, ?_⟩
  · rw [← hW1, hrec]; exact run_enterLoop_outer _ _ _ _ _
  · simp only [resolve, hg]
    simp [go_sem]
  · simp [invoke, go_sem, eg]
  · have grown : ∀ {X Y : World} {row : Option Nat}, X.grownBy Y row → (∀ r, row = some r → w.heap.size + 2 ≤ r ∧ (r < w.heap.size + 2 + m ∨ ∃ o : Obj, X.heap[r]? = some o ∧ o.isCells = false)) → ∀ (b : Nat) (o : Obj), b < w.heap.size + 2 → X.heap[b]? = some o → Y.heap[b]? = some o := by
      intro X Y row hgr hrow b o hb ho
      exact (hgr.block b (Array.getElem?_eq_some_iff.1 ho).1 (fun e => by have := (hrow b e.symm).1; omega)).trans ho
    refine callsIn_wide.2 ((hseq (w.heap.size + 1)
      (fun k W => J k W ∧ W.heap[w.heap.size + 1]? = some (.loop (rec .ready none)) ∧ W.heap[w.heap.size]? = some (.deferred (some [])))
      (fun ch W => Jp ch W ∧ W.heap[w.heap.size]? = some (.deferred (some [])))
      W1 (fun k X h => hR k X h.1) ?_ ?_ ?_ ?_ ⟨hI1, hL1, hK1⟩).mono ?_)
    · rw [hS1]
      intro s X Y row ⟨h1, h2, h3⟩ hgr hrow
      exact ⟨hJ.sub (B' := w.heap.size + 2) (m' := m) (by omega) (by omega) s X Y row h1 hgr hrow, grown hgr hrow _ _ (by omega) h2, grown hgr hrow _ _ (by omega) h3⟩
    · rw [hS1]
      intro s X Y row ⟨h1, h3⟩ hgr hrow
      exact ⟨hJp.sub (B' := w.heap.size + 2) (m' := m) (by omega) (by omega) s X Y row h1 hgr hrow, grown hgr hrow _ _ (by omega) h3⟩
    · rintro k hk W ⟨hi, hl, hkk⟩ hsz
      rw [hS1] at hsz ⊢
      have hlt : w.heap.size + 1 < W.heap.size := by omega
      have hy := run_yield (P := P) (args := encs[k]) hl (by rw [hrec]; exact hps _ (List.getElem_mem _))
      rw [hrec] at hy
      refine ⟨f0, _, assign, body, hy, roundIn_p hf0 (hassign _ k hk W _ hi ?_)⟩
      intro a₁ W₁ hke hm
      have hl1 := (hke.2 (w.heap.size + 1) (by omega) (by omega)).trans hl
      have hk1 := (hke.2 w.heap.size (by omega) (by omega)).trans hkk
      have hke1 := hke.1
      refine ⟨_, run_beginRound hl1 (by rw [hrec]), ?_⟩
      have hlt1 : w.heap.size + 1 < W₁.heap.size := by omega
      have hl2 : (W₁.putObj (w.heap.size + 1) (.loop { rec .ready none with state := .busy })).heap[w.heap.size + 1]? = some (.loop { rec .ready none with state := .busy }) := World.putObj_heap_same hlt1
      have hk2 : (W₁.putObj (w.heap.size + 1) (.loop { rec .ready none with state := .busy })).heap[w.heap.size]? = some (.deferred (some [])) := (World.putObj_heap_other (by omega)).trans hk1
      have hs2 : (W₁.putObj (w.heap.size + 1) (.loop { rec .ready none with state := .busy })).heap.size = W₁.heap.size := by simp
      refine wpIn_mono (hbody _ k hk a₁ _ (hM.putObj (s := (k, a₁)) hm (by omega) hl1 rfl _) (by rw [hs2]; omega)) ?_
      have hHeld : Held (w.heap.size + 2) m W (W₁.putObj (w.heap.size + 1) (.loop { rec .ready none with state := .busy })) := (hke.sub (by omega) (by omega)).trans (Held.putObj _ _ _ (.inl (by omega)) _)
      rintro e a3 W3 hp
      cases e with
      | normal =>
        obtain ⟨hk3, hi3⟩ := hp
        have hl3 := (hk3.2 (w.heap.size + 1) (by omega) (by omega)).trans hl2
        have hend := run_endRound (P := P) none hl3
        refine ⟨_, _, hend, (hHeld.trans (hk3.sub (by omega) (by omega))).trans (Held.putObj _ _ _ (.inl (by omega)) _), .inl ⟨rfl, hJ.putObj hi3 (by omega) hl3 rfl _, ?_, (World.putObj_heap_other (by omega)).trans ((hk3.2 _ (Nat.le_refl _) (by omega)).trans hk2)⟩⟩
        rw [World.putObj_heap_same (Array.getElem?_eq_some_iff.1 hl3).1, hrec]
        rfl
      | panic ch =>
        obtain ⟨hd, hk3, hi3⟩ := hp
        exact ⟨hd, hHeld.trans (hk3.sub (by omega) (by omega)), .inr ⟨ch, rfl, hi3, (hk3.2 _ (Nat.le_refl _) (by omega)).trans hk2⟩⟩
      | ret => exact hp.elim
      | exit id => exact hp.elim
      | goto t => exact hp.elim
      | outgrown => exact hp.elim
    · rintro hf X ⟨h1, _, h3⟩
      exact ⟨hfin hf X h1, h3⟩
    · rintro e W2 (⟨hf, ⟨v, rfl⟩, ⟨hi, hl, hk⟩, hsz⟩ | ⟨ch, rfl, hi, hk⟩)
      · have hend := run_endLoop (P := P) hl (by rw [hrec]; simp)
        rw [hrec] at hend
        exact ⟨none, _, hend, hdone hf _ (hJ.putObj hi (by omega) hl rfl _) (by simp; omega) ((World.putObj_heap_other (by omega)).trans hk)⟩
      · exact hpan ch W2 hi hk
end Go.Proofs.Ytbijpjoljljlpaa
