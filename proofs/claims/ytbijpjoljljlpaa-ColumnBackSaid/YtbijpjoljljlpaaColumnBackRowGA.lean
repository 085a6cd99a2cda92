/- The texts Pairs Repeat CodecFaceI CodecUndeltas, one behind the other; each one's own comment says what it holds. -/
import Derived.Test.YtbijpjoljljlpaaNums
import Derived.Test.YtbijpjoljljlpaaRangeOps
import Derived.Test.YtbijpjoljljlpaaCodecReadOk
import Derived.Test.YtbijpjoljljlpaaGen
import Derived.Test.YtbijpjoljljlpaaShelf
import Derived.Test.YtbijpjoljljlpaaCodecReadMain
import Derived.Laws.CopyOwn
import Derived.OwnWalk
import Derived.Deep.RegionLaw
import Derived.Test.YtbijpjoljljlpaaCodecRead
import Derived.Tactics
import Derived.Tactics2
import Derived.Defers
import Derived.Recover
import Derived.Laws.Pointers
import Derived.Test.YtbijpjoljljlpaaCodecZig
import Derived.Test.YtbijpjoljljlpaaCodecRuns
/- The pairs of numbers that bytes are made of, and the iterator that tells them: an iterator over an iterator. Conditions: fewer than 2^43 bytes. -/
set_option maxRecDepth 100000
namespace Go.Proofs.Ytbijpjoljljlpaa
open Go.RowKit Go.Maps Go.Sort
attribute [local go_sem] Oper.semAt_some

def pairsOf : List Nat → List (Nat × Nat)
  | a :: b :: r => (a, b) :: pairsOf r
  | _ => []
theorem pairs_len : ∀ l : List Nat, (pairsOf l).length = l.length / 2
  | [] => rfl
  | [_] => by simp [pairsOf]
  | _ :: _ :: r => by rw [pairsOf, List.length_cons, pairs_len r, List.length_cons, List.length_cons]; omega
theorem pairs_get : ∀ (l : List Nat) (k : Nat) (h : 2 * k + 1 < l.length), (pairsOf l)[k]? = some (l[2 * k], l[2 * k + 1])
  | a :: b :: r, 0, _ => rfl
  | a :: b :: r, k + 1, h => by
    rw [pairsOf, List.getElem?_cons_succ, pairs_get r k (by simp at h; omega)]
    rfl
def pairE (p : Nat × Nat) : Array Value := #[.int .u64 (p.1 : Int), .int .u64 (p.2 : Int)]
/-- do the bytes end in no pair? -/
def pairsBad (l : List UInt8) : Bool := (numsOf l).2 || decide ((numsOf l).1.length % 2 = 1)
/-- the box of the bytes, and the bytes -/
def pairR (bl : Nat) (bv : Value) (l : List UInt8) (W : World) : Prop := W.cell? ⟨bl, 0, none⟩ = some bv ∧ Holds W bv (u8s l)
theorem grown_setCell (W : World) (b : Nat) (v : Value) : W.grownBy (W.setCell ⟨b, 0, none⟩ v) (some b) :=
  ⟨rfl, rfl, rfl, by simp [World.setCell], fun k _ hk => Below.heap_setCell W ⟨b, 0, none⟩ v k (fun e => hk (by rw [e]))⟩
theorem leave_mark_ret {P : Program} {fn : Func} {tmps : Array Value} {R : Ending → World → Prop} {D : Nat} {v : Value} {W : World} (hres : ∀ w, (results fn tmps).run P w = .ok v w) (hD : W.heap[D]? = some (.deferred (some []))) (h : R (.returned v) (W.putObj D (.deferred none))) :
    LeavesInM Fence.wide 0 P fn tmps R [{ target := .collected D, args := #[] }] .returning W := ⟨by simp, .inl ⟨D, _, rfl, run_takeDeferred hD, v, hres _, h⟩⟩

theorem below3p (w : World) (A B C : Obj) : Below w.heap.size w (((w.alloc A).alloc B).alloc C) := (((Below.refl _ _).alloc (Nat.le_refl _) _).alloc (by simp) _).alloc (by simp; omega) _
theorem alloc4r (W : World) (A B C D : Obj) : ((((W.alloc A).alloc B).alloc C).alloc D).heap[W.heap.size]? = some A ∧ ((((W.alloc A).alloc B).alloc C).alloc D).heap[W.heap.size + 1]? = some B ∧ ((((W.alloc A).alloc B).alloc C).alloc D).heap[W.heap.size + 2]? = some C ∧ ((((W.alloc A).alloc B).alloc C).alloc D).heap[W.heap.size + 3]? = some D := by
  obtain ⟨a1, a2, a3⟩ := alloc3r W A B C
  refine ⟨(Below.heap_alloc _ _ _ (by simp; omega)).trans a1, (Below.heap_alloc _ _ _ (by simp)).trans a2, (Below.heap_alloc _ _ _ (by simp)).trans a3, ?_⟩
  have := alloc1 (((W.alloc A).alloc B).alloc C) D
  simpa using this
/-- where the iterator over pairs stands behind k numbers -/
structure PairJ (B q : Nat) (bv : Value) (ns : List Nat) (J : Nat → World → Prop) (k : Nat) (X : World) : Prop where
  outer : J (k / 2) X
  yield : X.heap[B]? = some (.cells #[.func (.yield q) #[] #[]] 99 (0, 0))
  first : X.heap[B + 1]? = some (.cells #[.int .u64 ((if k = 0 then 0 else ns.getD (k - 1) 0 : Nat) : Int)] 44 (0, 0))
  half : X.heap[B + 2]? = some (.cells #[.bool (decide (k % 2 = 1))] 4 (0, 0))
  box : X.heap[B + 3]? = some (.cells #[bv] 28 (0, 0))
theorem PairJ.ab {B q : Nat} {bv : Value} {ns : List Nat} {J : Nat → World → Prop} (hJ : Abides B 6 J) : Abides (B + 4) 2 (PairJ B q bv ns J) := by
  intro k X Y row h hg hr
  have keep : ∀ {b : Nat} {o : Obj}, b < B + 4 → X.heap[b]? = some o → Y.heap[b]? = some o := fun {b o} hb ho => (hg.block b (Array.getElem?_eq_some_iff.1 ho).1 (fun e => by have := (hr b e.symm).1; omega)).trans ho
  exact ⟨hJ.sub (B' := B + 4) (m' := 2) (by omega) (by omega) _ X Y row h.outer hg hr, keep (by omega) h.yield, keep (by omega) h.first, keep (by omega) h.half, keep (by omega) h.box⟩
/-- one number more -/
theorem PairJ.step {B q : Nat} {bv : Value} {ns : List Nat} {J : Nat → World → Prop} {k : Nat} {X : World} {u : Nat} (hJ : Abides B 6 J) (hu : ns[k]? = some u) (h : PairJ B q bv ns (fun _ _ => True) k X) (ho : J ((k + 1) / 2) X) :
    PairJ B q bv ns J (k + 1) ((X.setCell ⟨B + 1, 0, none⟩ (.int .u64 (u : Int))).setCell ⟨B + 2, 0, none⟩ (.bool (!decide (k % 2 = 1)))) ∧ Held (B + 4) 2 X ((X.setCell ⟨B + 1, 0, none⟩ (.int .u64 (u : Int))).setCell ⟨B + 2, 0, none⟩ (.bool (!decide (k % 2 = 1)))) := by
  have o1 : J ((k + 1) / 2) ((X.setCell ⟨B + 1, 0, none⟩ (.int .u64 (u : Int))).setCell ⟨B + 2, 0, none⟩ (.bool (!decide (k % 2 = 1)))) :=
    hJ _ _ _ _ (hJ _ _ _ _ ho (grown_setCell X (B + 1) _) (fun r e => by cases e; exact ⟨by omega, .inl (by omega)⟩)) (grown_setCell _ (B + 2) _) (fun r e => by cases e; exact ⟨by omega, .inl (by omega)⟩)
  have hb : (!decide (k % 2 = 1)) = decide ((k + 1) % 2 = 1) := by
    rw [Bool.eq_iff_iff]; simp; omega
  refine ⟨⟨o1, heap_other (heap_other h.yield (by omega)) (by omega), ?_, ?_, heap_other (heap_other h.box (by omega)) (by omega)⟩, by simp [World.setCell], fun b h1 h2 => ?_⟩
  · rw [if_neg (by omega), Nat.add_sub_cancel]
    have e : ns.getD k 0 = u := by rw [List.getD_eq_getElem?_getD, hu]; rfl
    rw [e]
    exact heap_other (heap_set (j := 0) h.first _) (by omega)
  · rw [← hb]
    exact heap_set (j := 0) (heap_other h.half (by omega)) _
  · exact (Below.heap_setCell _ ⟨B + 2, 0, none⟩ _ b (by show b ≠ B + 2; omega)).trans (Below.heap_setCell X ⟨B + 1, 0, none⟩ _ b (by show b ≠ B + 1; omega))

theorem flip_done {B : Nat} {W4 X Y Z : World} {J : Nat → World → Prop} (Jp : List PanicEntry → World → Prop) {k : Nat} (hJ : Abides (B + 4) 2 J) (hB : W4.heap.size = B + 4) (h1 : Held (B + 4) 2 X Y) (h2 : J k Z ∧ Held (B + 4) 2 Y Z) :
    ∀ a, Exit.inBlock 1 (goesP W4.heap.size (0 + 2) (J k) Jp X) .normal a Z.drew := by
  intro a
  show Held _ _ _ _ ∧ _
  rw [hB]
  exact ⟨(h1.trans h2.2).trans (Held.drew _ _ _), hJ.drew h2.1⟩

set_option maxHeartbeats 1600000 in
theorem pairs_seq (bl : Nat) (sa : Option Addr) (sn sc : Nat) (l : List UInt8) (hl : l.length ≤ 17592186044000) : SeqP Try.prog 66 #[.pointer (some ⟨bl, 0, none⟩)] 6 ((pairsOf (numsOf l).1).map pairE) (pairsBad l) corrupt (pairR bl (.slice sa sn sc) l) := by
  have hmix : Try.prog.follows .mixedOrders = true := by kernel_rfl
  intro q J Jp W hR hAb hAp hY hF h0
  have HR := Lib.hid hR
  have HY := Lib.hid hY
  have HD := Lib.hid hAb
  have HDp := Lib.hid hAp
  have H0 := Lib.hid h0
  have HF := Lib.hid hF
  obtain ⟨hc0, hh0⟩ := hR 0 W h0
  have HH0 := Lib.hid hh0
  have HL := Lib.hid hl
  have hlt := World.block_lt_of_cell? W _ hc0
  have hcA : (((W.alloc (Obj.cells #[Value.func (.yield q) #[] #[]] 99)).alloc (Obj.cells #[Value.int .u64 0] 44)).alloc (Obj.cells #[Value.bool false] 4)).cell? ⟨bl, 0, none⟩ = some (.slice sa sn sc) := by
    rw [(below3p W _ _ _).cell (p := ⟨bl, 0, none⟩) hlt]; exact hc0
  clear hR hY h0 hAb hAp hF hh0 hl
  refine calls_of_wpFor Try.func66 rfl ?_
  simp only [Try.ntmps66, List.size_toArray, List.length_cons, List.length_nil, Nat.reduceAdd, Nat.reduceSub, Array.replicate_succ, Array.replicate_zero, List.push_toArray, List.append_toArray, List.nil_append, List.cons_append]
  refine wpFor_then ?_
  gi_wp2_with fail
  refine wpFor_then ?_
  gi_wp2_with fail
  refine wpFor_then ?_
  gi_wp2_with fail
  refine wpFor_seq (wpFor_then ?_)
  gi_wp2_with fail
  refine ⟨trivial, rfl, (callsIn_wide.2 (numbers_any _ _ _ _)).mono ?_⟩
  rintro e w' ⟨rfl, rfl⟩
  gi_wp2_with fail
  refine wpFor_block ?_
  have hns : numsE l = (numsOf l).1.map numE := rfl
  obtain ⟨ns, hnn⟩ : ∃ ns, (numsOf l).1 = ns := ⟨_, rfl⟩
  have hbd := nums_bd l
  have hseq := numbers_seq (W.heap.size + 1 + 1 + 1) l HL.out
  rw [hns] at hseq
  rw [hnn] at hseq hbd
  have hJ0 : PairJ W.heap.size q (.slice sa sn sc) ns J 0 ((((W.alloc (Obj.cells #[Value.func (.yield q) #[] #[]] 99)).alloc (Obj.cells #[Value.int .u64 0] 44)).alloc (Obj.cells #[Value.bool false] 4)).alloc (Obj.cells #[Value.slice sa sn sc] 28)) := by
    obtain ⟨a1, a2, a3, a4⟩ := alloc4r W (Obj.cells #[Value.func (.yield q) #[] #[]] 99) (Obj.cells #[Value.int .u64 0] 44) (Obj.cells #[Value.bool false] 4) (Obj.cells #[Value.slice sa sn sc] 28)
    exact ⟨HD.out.alloc (HD.out.alloc (HD.out.alloc (HD.out.alloc H0.out _) _) _) _, a1, a2, a3, a4⟩
  have hps : ((((W.alloc (Obj.cells #[Value.func (.yield q) #[] #[]] 99)).alloc (Obj.cells #[Value.int .u64 0] 44)).alloc (Obj.cells #[Value.bool false] 4)).alloc (Obj.cells #[Value.slice sa sn sc] 28)).heap.size = W.heap.size + 4 := by simp
  generalize (((W.alloc (Obj.cells #[Value.func (.yield q) #[] #[]] 99)).alloc (Obj.cells #[Value.int .u64 0] 44)).alloc (Obj.cells #[Value.bool false] 4)).alloc (Obj.cells #[Value.slice sa sn sc] 28) = W4 at *
  have HP := Lib.hid hps
  have HU := Lib.hid hbd.2
  have HPB : Hid (pairsBad l = ((numsOf l).2 || decide (ns.length % 2 = 1))) := Lib.hid (by unfold pairsBad; rw [hnn])
  have HNN := Lib.hid hnn
  have HPL : Hid (((pairsOf ns).map pairE).length = ns.length / 2) := Lib.hid (by rw [List.length_map, pairs_len])
  have HYN : Hid (∀ k (hk : k < ((pairsOf ns).map pairE).length) X, J k X → W.heap.size + 6 ≤ X.heap.size → YieldAt Fence.wide 0 Try.prog q ((pairsOf ns).map pairE)[k] X fun e X' => Held W.heap.size 6 X X' ∧ ((e = .returned (.bool true) ∧ J (k + 1) X') ∨ ∃ ch, e = .panicked ch ∧ Jp ch X')) := Lib.hid (by
    subst hnn; exact HY.out)
  have HFN : Hid (pairsBad l = true → ∀ X, J (ns.length / 2) X → Jp corrupt X) := Lib.hid (by
    have := HF.out
    rw [hnn, HPL.out] at this
    exact this)
  clear hnn hns hbd hcA hc0 hlt
  refine rangeP_law Try.func66 (gf := 68) (lb := #[Value.pointer (some { block := W.heap.size + 1 + 1 + 1, off := 0 })]) rfl (enters_of Try.func68 (by kernel_rfl) rfl)
    (m := 0) (encs := ns.map numE) (fun x hx => by obtain ⟨p, _, rfl⟩ := List.mem_map.1 hx; rfl) hseq
    (PairJ W.heap.size q (.slice sa sn sc) ns J) Jp (by rw [hps]; exact PairJ.ab HD.out) (by rw [hps]; exact HDp.out.sub (by omega) (by omega)) (fun k X h => ⟨_, by rw [cell_of_row _ _ _ _ _ _ h.box]; rfl, (HR.out _ X h.outer).2⟩) hJ0
    (fun s X => PairJ W.heap.size q (.slice sa sn sc) ns J s.1 X ∧ ∃ u, ns[s.1]? = some u ∧
      s.2 = { tmps := #[Value.func (.yield q) #[] #[], Value.pointer (some { block := bl, off := 0 }), Value.pointer (some { block := W.heap.size, off := 0 }), Value.pointer (some { block := W.heap.size + 1, off := 0 }), Value.pointer (some { block := W.heap.size + 1 + 1, off := 0 }), Value.int .u64 (u : Int), Value.slice sa sn sc,
          Value.func (Fn.func 68) #[] #[Value.pointer (some { block := W.heap.size + 1 + 1 + 1, off := 0 })], Value.int .u64 (u : Int),
          undef, undef, undef, undef, undef, undef, undef, undef, undef, undef, undef, undef, undef], defers := [] }) ?hM ?assign ?body ?fin ?done ?pan
  case hM =>
    rw [hps]
    intro s X Y row h hg hr
    exact ⟨PairJ.ab HD.out s.1 X Y row h.1 hg hr, h.2⟩
  case assign =>
    intro l' k hk X K h hK
    have hk2 : k < ns.length := by simpa using hk
    have e : (ns.map numE)[k] = #[Value.int .u64 (ns[k] : Int)] := by rw [List.getElem_map]; rfl
    have hget : ns[k]? = some ns[k] := List.getElem?_eq_getElem hk2
    rw [e]
    generalize ns[k] = u at hget ⊢
    have HK := Lib.hid hK
    have HG := Lib.hid hget
    have HP2 := Lib.hid h
    clear hK e hget h
    simp only [List.zip_toArray, List.zip_cons_cons, List.zip_nil_right, List.foldl_toArray, List.foldl_cons, List.foldl_nil, List.setIfInBounds_toArray, List.set_cons_succ, List.set_cons_zero]
    gi_wp2
    exact HK.out _ _ (Held.refl _ _ _) ⟨HP2.out, u, HG.out, rfl⟩
  case body =>
    rintro l' k hk a₁ X ⟨h, u, hget, rfl⟩ hsz
    have hk2 : k < ns.length := by simpa using hk
    have hS := HP.out
    rw [hps] at hsz
    have hc0 : X.cell? ⟨W.heap.size, 0, none⟩ = some (.func (.yield q) #[] #[]) := by rw [cell_of_row _ _ _ _ _ _ h.yield]; rfl
    have hc1 : X.cell? ⟨W.heap.size + 1, 0, none⟩ = some (.int .u64 ((if k = 0 then 0 else ns.getD (k - 1) 0 : Nat) : Int)) := by rw [cell_of_row _ _ _ _ _ _ h.first]; rfl
    have hc2 : X.cell? ⟨W.heap.size + 1 + 1, 0, none⟩ = some (.bool (decide (k % 2 = 1))) := by rw [cell_of_row _ _ _ _ _ _ h.half]; rfl
    have hJA := PairJ.ab (bv := .slice sa sn sc) (q := q) (ns := ns) HD.out
    by_cases hodd : k % 2 = 1
    · obtain ⟨j, hj⟩ : ∃ j, k = 2 * j + 1 := ⟨k / 2, by omega⟩
      have hpg := pairs_get ns j (by omega)
      have hjl : j < ((pairsOf ns).map pairE).length := by rw [HPL.out]; omega
      have hYj := HYN.out j hjl X (by have := h.outer; rwa [show k / 2 = j by omega] at this) (by omega)
      have he : ((pairsOf ns).map pairE)[j] = #[.int .u64 ((ns.getD (k - 1) 0 : Nat) : Int), .int .u64 (u : Int)] := by
        rw [List.getElem_map, (List.getElem?_eq_some_iff.1 hpg).2, pairE]
        have e1 : ns.getD (k - 1) 0 = ns[2 * j] := by rw [show k - 1 = 2 * j by omega, List.getD_eq_getElem?_getD, List.getElem?_eq_getElem (by omega)]; rfl
        have e2 : ns[2 * j + 1] = u := by have := hget; subst hj; rw [List.getElem?_eq_getElem hk2] at this; exact Option.some.inj this
        rw [e1, e2]
      rw [he] at hYj
      rw [if_neg (by omega)] at hc1
      rw [decide_eq_true hodd] at hc2
      generalize ns.getD (k - 1) 0 = a at hc1 hYj
      obtain ⟨fn, tmps, assign, body, hy, hRd⟩ := hYj
      have hRd2 : RoundIn (Fence.wide.inRound l') 0 Try.prog q fn tmps assign body X _ := hRd
      gi_wp2_with fail
      refine ⟨rfl, hRd2.mono ?_⟩
      rintro e W3 ⟨hh, ⟨rfl, hJ⟩ | ⟨ch, rfl, hJ⟩⟩
      · have hB3 : PairJ W.heap.size q (.slice sa sn sc) ns (fun _ _ => True) k W3 := ⟨trivial, (hh.2 _ (by omega) (by omega)).trans h.yield, (hh.2 _ (by omega) (by omega)).trans h.first, (hh.2 _ (by omega) (by omega)).trans h.half, (hh.2 _ (by omega) (by omega)).trans h.box⟩
        have hJ3 : J ((k + 1) / 2) W3 := by rw [show (k + 1) / 2 = j + 1 by omega]; exact hJ
        have hf1 := free_of_row hB3.first 0
        have hf2 := free_of_row hB3.half 0
        have hc3 : W3.cell? ⟨W.heap.size + 1, 0, none⟩ = some (.int .u64 ((if k = 0 then 0 else ns.getD (k - 1) 0 : Nat) : Int)) := by rw [cell_of_row _ _ _ _ _ _ hB3.first]; rfl
        have hc4 : W3.cell? ⟨W.heap.size + 1 + 1, 0, none⟩ = some (.bool (decide (k % 2 = 1))) := by rw [cell_of_row _ _ _ _ _ _ hB3.half]; rfl
        have hc5 : (W3.drew.setCell ⟨W.heap.size + 1, 0, none⟩ (.int .u64 (u : Int))).cell? ⟨W.heap.size + 1 + 1, 0, none⟩ = some (.bool true) := by
          rw [cell_of_row _ _ _ _ _ _ (heap_other (X := W3.drew) (v := .int .u64 (u : Int)) (j := 0) (g := W.heap.size + 1) hB3.half (by omega)), decide_eq_true hodd]; rfl
        have HST := Lib.hid (flip_done Jp hJA hps (hh.sub (by omega) (by omega)) (hB3.step HD.out hget hJ3))
        rw [decide_eq_true hodd] at hc4 HST
        clear hB3 hJ3 h hc0 hc1 hc2 hRd hRd2 hy hJ
        gi_wp2_with fail
        refine round_region_any hmix (by decide +kernel) (fun ⟨_, _, h⟩ => h) ?_
        change wpAny _ _ _ _ _ _ _ (World.drew _)
        refine wpAny_take (i := 0) (v := .int .u64 (u : Int)) rfl (by kernel_rfl) (by kernel_rfl) (by kernel_rfl) (fun _ _ _ h => h) (Or.inl ⟨by rfl, fun w => by go_simp⟩) ?_
        refine wpAny_ready (rs := [1, 3]) (by kernel_rfl) (by simp) ?_
        refine AllReady.cons rfl (fun K hK => ?_) (AllReady.cons rfl (fun K hK => ?_) AllReady.nil)
        · go_simp
          refine hK _ _ ?_
          clear hK K
          refine wpAny_take (i := 2) (v := .bool false) rfl (by kernel_rfl) (by kernel_rfl) (by kernel_rfl) (fun _ _ _ h => h) (Or.inl ⟨by rfl, fun w => by go_simp⟩) ?_
          refine wpAny_ready (rs := [3]) (by kernel_rfl) (by simp) ?_
          refine AllReady.cons rfl (fun K hK => ?_) AllReady.nil
          go_simp
          refine hK _ _ ?_
          clear hK K
          refine wpAny_ready (rs := [4]) (by kernel_rfl) (by simp) ?_
          refine AllReady.cons rfl (fun K hK => ?_) AllReady.nil
          go_simp
          refine hK _ _ ?_
          clear hK K
          exact wpAny_done (by kernel_rfl) (HST.out _) _
        · go_simp
          refine hK _ _ ?_
          clear hK K
          refine wpAny_ready (rs := [1]) (by kernel_rfl) (by simp) ?_
          refine AllReady.cons rfl (fun K hK => ?_) AllReady.nil
          go_simp
          refine hK _ _ ?_
          clear hK K
          refine wpAny_take (i := 2) (v := .bool false) rfl (by kernel_rfl) (by kernel_rfl) (by kernel_rfl) (fun _ _ _ h => h) (Or.inl ⟨by rfl, fun w => by go_simp⟩) ?_
          refine wpAny_ready (rs := [4]) (by kernel_rfl) (by simp) ?_
          refine AllReady.cons rfl (fun K hK => ?_) AllReady.nil
          go_simp
          refine hK _ _ ?_
          clear hK K
          exact wpAny_done (by kernel_rfl) (HST.out _) _
      · have HJ3 := Lib.hid hJ
        have HH3 := Lib.hid hh
        gi_wp2_with fail
        exact ⟨rfl, HH3.out.sub (by omega) (by omega), HJ3.out⟩
    · rw [decide_eq_false hodd] at hc2
      have hB3 : PairJ W.heap.size q (.slice sa sn sc) ns (fun _ _ => True) k X := ⟨trivial, h.yield, h.first, h.half, h.box⟩
      have hJ3 : J ((k + 1) / 2) X := by rw [show (k + 1) / 2 = k / 2 by omega]; exact h.outer
      have hf1 := free_of_row hB3.first 0
      have hf2 := free_of_row hB3.half 0
      have hc5 : (X.drew.setCell ⟨W.heap.size + 1, 0, none⟩ (.int .u64 (u : Int))).cell? ⟨W.heap.size + 1 + 1, 0, none⟩ = some (.bool false) := by
        rw [cell_of_row _ _ _ _ _ _ (heap_other (X := X.drew) (v := .int .u64 (u : Int)) (j := 0) (g := W.heap.size + 1) hB3.half (by omega)), decide_eq_false hodd]; rfl
      have HST := Lib.hid (flip_done Jp hJA hps (Held.refl _ _ _) (hB3.step HD.out hget hJ3))
      rw [decide_eq_false hodd] at HST
      clear hB3 hJ3 h
      gi_wp2_with fail
      all_goals (refine ⟨(fun _ h => nomatch h), ?_⟩)
      all_goals gi_wp2_with fail
      refine round_region_any hmix (by decide +kernel) (fun ⟨_, _, h⟩ => h) ?_
      change wpAny _ _ _ _ _ _ _ (World.drew _)
      refine wpAny_take (i := 0) (v := .int .u64 (u : Int)) rfl (by kernel_rfl) (by kernel_rfl) (by kernel_rfl) (fun _ _ _ h => h) (Or.inl ⟨by rfl, fun w => by go_simp⟩) ?_
      refine wpAny_ready (rs := [1, 3]) (by kernel_rfl) (by simp) ?_
      refine AllReady.cons rfl (fun K hK => ?_) (AllReady.cons rfl (fun K hK => ?_) AllReady.nil)
      · go_simp
        refine hK _ _ ?_
        clear hK K
        refine wpAny_take (i := 2) (v := .bool true) rfl (by kernel_rfl) (by kernel_rfl) (by kernel_rfl) (fun _ _ _ h => h) (Or.inl ⟨by rfl, fun w => by go_simp⟩) ?_
        refine wpAny_ready (rs := [3]) (by kernel_rfl) (by simp) ?_
        refine AllReady.cons rfl (fun K hK => ?_) AllReady.nil
        go_simp
        refine hK _ _ ?_
        clear hK K
        refine wpAny_ready (rs := [4]) (by kernel_rfl) (by simp) ?_
        refine AllReady.cons rfl (fun K hK => ?_) AllReady.nil
        go_simp
        refine hK _ _ ?_
        clear hK K
        exact wpAny_done (by kernel_rfl) (HST.out _) _
      · go_simp
        refine hK _ _ ?_
        clear hK K
        refine wpAny_ready (rs := [1]) (by kernel_rfl) (by simp) ?_
        refine AllReady.cons rfl (fun K hK => ?_) AllReady.nil
        go_simp
        refine hK _ _ ?_
        clear hK K
        refine wpAny_take (i := 2) (v := .bool true) rfl (by kernel_rfl) (by kernel_rfl) (by kernel_rfl) (fun _ _ _ h => h) (Or.inl ⟨by rfl, fun w => by go_simp⟩) ?_
        refine wpAny_ready (rs := [4]) (by kernel_rfl) (by simp) ?_
        refine AllReady.cons rfl (fun K hK => ?_) AllReady.nil
        go_simp
        refine hK _ _ ?_
        clear hK K
        exact wpAny_done (by kernel_rfl) (HST.out _) _
  case fin =>
    intro hf X h
    rw [List.length_map] at h
    exact HFN.out (by rw [HPB.out, hf]; rfl) X h.outer
  case done =>
    intro hfin X h hX hD
    rw [List.length_map] at h
    rw [hps] at hX hD
    have hc2 : X.cell? ⟨W.heap.size + 1 + 1, 0, none⟩ = some (.bool (decide (ns.length % 2 = 1))) := by rw [cell_of_row _ _ _ _ _ _ h.half]; rfl
    have HX := Lib.hid (And.intro h (And.intro hX hD))
    have HB : Hid (pairsBad l = decide (ns.length % 2 = 1)) := Lib.hid (by rw [HPB.out, hfin, Bool.false_or])
    show WpFor _ _ _ _ _ _
    refine .of_wpIn ?_
    clear h hX hD hfin
    by_cases hodd : ns.length % 2 = 1
    · rw [decide_eq_true hodd] at hc2 HB
      gi_wp2_with fail
      exact leave_mark_panic HX.out.2.2 (.inr ⟨corrupt, rfl, HDp.out.putObj (HFN.out HB.out X HX.out.1.outer) (by omega) HX.out.2.2 rfl _⟩)
    · rw [decide_eq_false hodd] at hc2 HB
      gi_wp2_with fail
      refine leave_mark_ret (v := .tuple #[]) (fun w => by simp [results, Try.results66, go_sem]) HX.out.2.2 (.inl ⟨HB.out, ⟨_, rfl⟩, ?_, by have := HX.out.2.1; simp; omega⟩)
      rw [HNN.out, pairs_len]
      exact HD.out.putObj HX.out.1.outer (by omega) HX.out.2.2 rfl _
  case pan =>
    rintro ch X hp hD
    exact leave_mark_panic hD (.inr ⟨ch, rfl, HDp.out.putObj hp (by omega) hD rfl _⟩)
/-- pairs: a box, and the iterator over it -/
theorem pairs_any (sa : Option Addr) (n c : Nat) (W : World) : Calls Try.prog 61 #[.slice sa n c] W fun e W' =>
    e = .returned (.func (.func 66) #[] #[.pointer (some ⟨W.heap.size, 0, none⟩)]) ∧ W' = W.alloc (.cells #[.slice sa n c] 28) := by
  go_enter Try.func61, Try.ntmps61
  go_wp2
  go_ret
  exact ⟨rfl, rfl⟩
end Go.Proofs.Ytbijpjoljljlpaa
/- Contract of slices.Repeat on one number. Conditions: 1 to 100000 times. -/
set_option maxRecDepth 100000
namespace Go.Proofs.Ytbijpjoljljlpaa
open Go.RowKit Go.Maps Go.Sort
attribute [local go_sem] Oper.semAt_some

/-- a row of n numbers, the first k of them u -/
def bufR (u : UInt64) (n k : Nat) : List Value := u64s (List.replicate k u ++ List.replicate (n - k) 0)
theorem bufR_len (u : UInt64) (n k : Nat) (h : k ≤ n) : (bufR u n k).length = n := by simp [bufR, u64s]; omega
theorem bufR_zero (u : UInt64) (n : Nat) : bufR u n 0 = u64s (List.replicate n 0) := by simp [bufR]
theorem bufR_full (u : UInt64) (n : Nat) : bufR u n n = u64s (List.replicate n u) := by simp [bufR]
theorem bufR_splice (u : UInt64) (n k m : Nat) : splice (bufR u n k) k (u64s (List.replicate m u)) = bufR u n (k + m) := by
  have e : n - k - m = n - (k + m) := by omega
  simp [splice, bufR, u64s, List.drop_append, ← List.append_assoc, e, List.replicate_append_replicate]
theorem bufR_at (u : UInt64) (n k j : Nat) (h : j < k) : (bufR u n k)[j]? = some (.int .u64 (u.toNat : Int)) := by
  simp [bufR, u64s, List.getElem?_append, h]
theorem u64s_rep_at (u : UInt64) (m j : Nat) (v : Value) (h : (u64s (List.replicate m u))[j]? = some v) : j < m ∧ v = .int .u64 (u.toNat : Int) := by
  rw [u64s, List.map_replicate, List.getElem?_replicate] at h
  split at h
  · rename_i hj; exact ⟨hj, (Option.some.inj h).symm⟩
  · cases h

theorem mul_one_run (n : Nat) (hn : n ≤ 100000) (W : World) : Calls Try.prog 67 #[.int .u64 1, .int .u64 (n : Int)] W fun e w' => e = .returned (.tuple #[.int .u64 0, .int .u64 (n : Int)]) ∧ W = w' := by
  refine (Try.bits_Mul 1 n (by decide) (by omega) W).mono ?_
  rintro e w' ⟨rfl, rfl⟩
  rw [Nat.one_mul, Nat.div_eq_of_lt (by omega), Nat.mod_eq_of_lt (by omega)]
  exact ⟨rfl, rfl⟩

theorem sizeU : (Try.prog.info? 44).map (·.size) = some 1 := by kernel_rfl
theorem copy_fill {w : World} {g n k m : Nat} {u : UInt64} (hg : w.heap[g]? = some (.cells (bufR u n k).toArray 44 (0, 0))) (hk : k ≤ n) (hm : k + m ≤ n) {src : Addr} (hsrc : ∀ j, j < m → w.cell? (src.add j) = some (.int .u64 (u.toNat : Int))) (dl dc sl sc : Nat) (hmin : m = Nat.min sl dl) :
    ∃ w', (∀ ty, (Builtin.copy_ #[46, 46] ty #[.slice (some ⟨g, k, none⟩) dl dc, .slice (some src) sl sc]).run Try.prog w = .ok (.int .i64 (m : Int)) w') ∧ w'.heap[g]? = some (.cells (bufR u n (k + m)).toArray 44 (0, 0)) ∧ ∀ B w0, Below B w0 w → B ≤ g → Below B w0 w' := by
  have hl : (u64s (List.replicate m u)).length = m := by simp [u64s]
  have hrun := fun ty => run_copy_row (P := Try.prog) w 46 46 ty 44 g k dl dc src sl sc (bufR u n k).toArray 44 (u64s (List.replicate m u)) Try.underlying46 sizeU hg (by rw [hl]; exact hmin)
    (fun j v hj => by obtain ⟨h1, rfl⟩ := u64s_rep_at u m j v hj; exact hsrc j h1) (by rw [hl, List.size_toArray, bufR_len _ _ _ hk]; exact hm) (u64s_one _)
  rw [hl] at hrun
  have e : ((bufR u n k).toArray.toList.take k ++ u64s (List.replicate m u) ++ (bufR u n k).toArray.toList.drop (k + m)) = bufR u n (k + m) := by
    rw [← bufR_splice u n k m, splice, hl, List.append_assoc]
  rw [e] at hrun
  exact ⟨_, hrun, setRow_heap w g _ _ _ _ hg, fun B w0 hb hB => below_setRow hb hB _⟩

set_option maxHeartbeats 1600000 in
theorem Repeat_one {w : World} {ad : Addr} (u : UInt64) (n : Nat) (h0 : 0 < n) (hn : n ≤ 100000) (h : w.cell? ad = some (.int .u64 (u.toNat : Int))) :
    Calls Try.prog 62 #[.slice (some ad) 1 1, .int .i64 (n : Int)] w fun e w' => ∃ v, e = .returned v ∧ Hid (Holds w' v (u64s (List.replicate n u)) ∧ Below w.heap.size w w') := by
  have H := Lib.hid h
  have H0 := Lib.hid h0
  have t0 : decide ((n : Int) < 0) = false := decide_eq_false (by omega)
  have KM := mul_one_run n hn
  have t1 : decide ((n : Int) > 9223372036854775807) = false := decide_eq_false (by omega)
  have hmk := fun W => mkU W n hn
  have HN := Lib.hid hn
  clear h h0
  go_enter Try.func62, Try.ntmps62
  go_wp2_with fail
  refine (KM _).mono ?_
  rintro e w' ⟨rfl, rfl⟩
  clear KM
  have hg1 : (w.alloc (.cells (u64s (List.replicate n 0)).toArray 44)).heap[w.heap.size]? = some (.cells (bufR u n 0).toArray 44 (0, 0)) := by rw [bufR_zero]; exact alloc1 _ _
  have hb1 : Below w.heap.size w (w.alloc (.cells (u64s (List.replicate n 0)).toArray 44)) := (Below.refl _ _).alloc (Nat.le_refl _) _
  have hc1 : (w.alloc (.cells (u64s (List.replicate n 0)).toArray 44)).cell? ad = some (.int .u64 (u.toNat : Int)) := by rw [hb1.cell (World.block_lt_of_cell? _ _ H.out)]; exact H.out
  obtain ⟨w1, hrun1, hg2, hb2⟩ := copy_fill hg1 (Nat.zero_le _) (m := 1) (by have := H0.out; omega) (src := ad) (fun j hj => by
    have : j = 0 := by omega
    subst this
    have e : ad.add 0 = ad := by unfold Addr.add; rw [if_pos rfl]
    rw [e]; exact hc1) n n 1 1 (Nat.min_eq_left H0.out).symm
  have hb3 := hb2 _ _ hb1 (Nat.le_refl _)
  clear hb2 hb1 hc1 hg1
  rw [Nat.zero_add] at hg2
  have HG := Lib.hid hg2
  have HB := Lib.hid hb3
  clear hg2 hb3
  go_wp2_with fail
  go_loopw [8] (fun c wr => ∃ k : Nat, c = .int .i64 (k : Int) ∧ 1 ≤ k ∧ k ≤ n ∧ Hid (wr.heap[w.heap.size]? = some (.cells (bufR u n k).toArray 44 (0, 0)) ∧ Below w.heap.size w wr)) (fun c _ => n - (intOf c).toNat)
  case atStart => exact ⟨1, rfl, Nat.le_refl _, H0.out, HG.out, HB.out⟩
  case round =>
    obtain ⟨k, rfl, h1, hk, HK⟩ := hrel
    by_cases hlt : k < n
    · have t2 : decide ((k : Int) < (n : Int)) = true := decide_eq_true (by omega)
      obtain ⟨m, hm, hm1, hm2, hm3⟩ : ∃ m, m = Nat.min k (n - k) ∧ 1 ≤ m ∧ k + m ≤ n ∧ m ≤ k := ⟨_, rfl, by show 1 ≤ min k (n - k); omega, by show k + min k (n - k) ≤ n; omega, by show min k (n - k) ≤ k; omega⟩
      obtain ⟨w2, hrun2, hg2, hb2⟩ := copy_fill (w := wr.drew) (k := k) (m := m) HK.out.1 hk hm2 (src := ⟨w.heap.size, 0, none⟩) (fun j hj => by
        rw [Addr.add_at, Nat.zero_add]
        show World.cell? wr.drew _ = _
        rw [cell_of_row _ _ _ _ _ _ (show wr.drew.heap[w.heap.size]? = _ from HK.out.1)]
        have := bufR_at u n k j (Nat.lt_of_lt_of_le hj hm3)
        simpa using this) (n - k) (n - k) k n hm
      have HG2 := Lib.hid (And.intro hg2 (hb2 w.heap.size w (show Below w.heap.size w wr.drew from HK.out.2.drew) (Nat.le_refl _)))
      clear hg2 hb2 hm
      have hlim : (k : Int) + (m : Int) ≤ 100000 := by omega
      go_wp2_with fail
      go_region
      go_wp2_with fail
      go_roundw
      case rel => exact ⟨k + m, by go_num, by omega, hm2, HG2.out.1, HG2.out.2⟩
      case measure => simp [intOf]; omega
    · have t2 : decide ((k : Int) < (n : Int)) = false := decide_eq_false (by omega)
      have : k = n := by omega
      subst this
      have HR : Hid (Holds wr (.slice (some ⟨w.heap.size, 0, none⟩) k k) (u64s (List.replicate k u)) ∧ Below w.heap.size w wr) := Lib.hid ⟨Holds.of_heap HK.out.1 (by rw [bufR_full]) k k (by rw [u64s_len, List.length_replicate]) (Nat.le_refl _), HK.out.2⟩
      go_wp2_with fail
      go_ret
      exact ⟨_, rfl, HR⟩
end Go.Proofs.Ytbijpjoljljlpaa
/- Contracts of codec.face at int: what read answers, or the error that it panics with. Conditions: none. -/
set_option maxRecDepth 100000
namespace Go.Proofs.Ytbijpjoljljlpaa
open Go.RowKit Go.Maps Go.Sort

theorem assert_errnoI (n : Int) (W : World) : (Instr.typeAssert (.iface 29 (.int .i64 n)) 20 29 true).run Try.prog W = .ok (.tuple #[.int .i64 n, .bool true]) W := by kernel_rfl

theorem catch_idleI (p q : Addr) (w : World) :
    CallsD Try.prog 63 #[.pointer (some p), .pointer (some q)] .returning w fun e u' w' => e = .returned (.tuple #[]) ∧ u' = .returning ∧ w' = w := by
  refine callsD_of_wpS Try.func63 rfl fun c₀ cs hu => ?_
  apply wpS_seq
  apply wpS_region
  simp [wpOpsS, go_sem, recoverD, hu, Try.ntmps63, Exit.thenS]
  simp only [Array.replicate_succ, Array.replicate_zero, List.push_toArray, List.append_toArray, List.nil_append, List.cons_append, List.setIfInBounds_toArray, List.set_cons_succ, List.set_cons_zero]
  refine wpS_of_wp ?_
  go_wp2
  cases c₀
  simp_all [bodyPostS, results, Try.results63]

set_option maxHeartbeats 800000 in
theorem catch_errnoI (b c : Nat) (n : Int) (w : World) (hp : w.cell? ⟨b, 0, none⟩ = some (.slice none 0 0)) (hpf : w.frozen? ⟨b, 0, none⟩ = false) (hq : w.cell? ⟨c, 0, none⟩ = some (.int .i64 0)) (hqf : w.frozen? ⟨c, 0, none⟩ = false) (hne : b ≠ c) :
    CallsD Try.prog 63 #[.pointer (some ⟨b, 0, none⟩), .pointer (some ⟨c, 0, none⟩)] (.panicking [{ v := .iface 29 (.int .i64 n), recovered := false }]) w fun e u' w' =>
      e = .returned (.tuple #[]) ∧ u' = .panicking [{ v := .iface 29 (.int .i64 n), recovered := true }] ∧ w' = ((w.setCell ⟨b, 0, none⟩ (.slice none 0 0)).setCell ⟨c, 0, none⟩ (.int .i64 8)).setCell ⟨c, 0, none⟩ (.int .i64 n) := by
  refine callsD_of_wpS Try.func63 rfl fun c₀ cs hu => ?_
  apply wpS_seq
  apply wpS_region
  simp [wpOpsS, go_sem, recoverD, hu, Try.ntmps63, Exit.thenS]
  simp only [Array.replicate_succ, Array.replicate_zero, List.push_toArray, List.append_toArray, List.nil_append, List.cons_append, List.setIfInBounds_toArray, List.set_cons_succ, List.set_cons_zero]
  refine wpS_of_wp ?_
  have hc := Ne.symm hne
  have hta := assert_errnoI n
  go_wp2
  cases c₀
  simp_all [bodyPostS, results, Try.results63]

theorem below2rI (w : World) (A B : Obj) : Below w.heap.size w ((w.alloc A).alloc B) := ((Below.refl _ _).alloc (Nat.le_refl _) _).alloc (by simp) _

set_option maxHeartbeats 800000 in
theorem faceI_ok {w : World} {g : Nat} {caps : Array Value} (heg : ∀ args w, (callFunc g args).run Try.prog w = .ok (.enter g args) w) {xs : List Value} {k : Nat}
    (hcall : ∀ W, Below w.heap.size w W → Calls Try.prog g caps W fun e w' => ∃ v, e = .returned v ∧ Hid (w'.ownsRow W.heap.size 3 1 v k xs ∧ Below W.heap.size W w')) :
    Calls Try.prog 54 #[.func (.func g) #[] caps] w fun e w' => ∃ v, e = .returned (.tuple #[v, .int .i64 0]) ∧ Hid (w'.ownsRow w.heap.size 3 1 v k xs ∧ Below w.heap.size w w') := by
  have hmf : ∀ (fn : Fn) (first cap : Array Value) (w : World), (Instr.makeFunc fn first cap).run Try.prog w = .ok (.func fn first cap) w := fun _ _ _ _ => rfl
  have HC := Lib.hid hcall
  clear hcall
  go_enter_defers Try.func54, Try.ntmps54
  go_wp2_with fail
  refine (HC.out _ (below2rI _ _ _)).mono ?_
  rintro e w1 ⟨v, rfl, h1⟩
  obtain ⟨va, vc, hv, _⟩ := ownsRow_form h1.out.1
  have hB := h1.out.2
  have a0 : w1.heap[w.heap.size]? = some (.cells #[.slice none 0 0] 23 (0, 0)) :=
    (hB.block _ (by simp; omega)).trans ((Below.heap_alloc _ _ _ (by simp)).trans (alloc1 _ _))
  have a1 : w1.heap[w.heap.size + 1]? = some (.cells #[.int .i64 0] 29 (0, 0)) := by
    have := alloc1 (w.alloc (Obj.cells #[Value.slice none 0 0] 23)) (Obj.cells #[Value.int IntKind.i64 0] 29)
    exact (hB.block _ (by simp)).trans (by simpa using this)
  have c0 : w1.cell? ⟨w.heap.size, 0, none⟩ = some (.slice none 0 0) := by rw [cell_of_row _ _ _ _ _ _ a0]; rfl
  have c1 : w1.cell? ⟨w.heap.size + 1, 0, none⟩ = some (.int .i64 0) := by rw [cell_of_row _ _ _ _ _ _ a1]; rfl
  have f0 := free_of_row a0 0
  have f1 := free_of_row a1 0
  have b0 := heap_set (j := 0) a0 v
  have b1 := heap_set (j := 0) ((Below.heap_setCell w1 ⟨w.heap.size, 0, none⟩ v (w.heap.size + 1) (by simp)).trans a1) (.int .i64 0)
  have b2 := (Below.heap_setCell (w1.setCell ⟨w.heap.size, 0, none⟩ v) ⟨w.heap.size + 1, 0, none⟩ (.int .i64 0) w.heap.size (by simp)).trans b0
  have d0 : ((w1.setCell ⟨w.heap.size, 0, none⟩ v).setCell ⟨w.heap.size + 1, 0, none⟩ (.int .i64 0)).cell? ⟨w.heap.size, 0, none⟩ = some v := by rw [cell_of_row _ _ _ _ _ _ b2]; rfl
  have d1 : ((w1.setCell ⟨w.heap.size, 0, none⟩ v).setCell ⟨w.heap.size + 1, 0, none⟩ (.int .i64 0)).cell? ⟨w.heap.size + 1, 0, none⟩ = some (.int .i64 0) := by rw [cell_of_row _ _ _ _ _ _ b1]; rfl
  have hbel : Below w.heap.size w ((w1.setCell ⟨w.heap.size, 0, none⟩ v).setCell ⟨w.heap.size + 1, 0, none⟩ (.int .i64 0)) :=
    (((below2rI w _ _).trans (hB.mono (by simp; omega))).setCell (p := ⟨w.heap.size, 0, none⟩) (Nat.le_refl _) _).setCell (p := ⟨w.heap.size + 1, 0, none⟩) (by simp) _
  have hge := ownsRow_ge h1.out.1
  have hhold : ((w1.setCell ⟨w.heap.size, 0, none⟩ v).setCell ⟨w.heap.size + 1, 0, none⟩ (.int .i64 0)).ownsRow w.heap.size 3 1 v k xs := by
    refine ownsRow_rebase (ownsRow_of_block h1.out.1 fun g hg => ?_) fun g hg => ?_
    · have := hge g hg
      simp at this
      exact (Below.heap_setCell _ _ _ g (by simp; omega)).trans (Below.heap_setCell _ _ _ g (by simp; omega))
    · have := hge g hg
      simp at this
      omega
  have HFIN := Lib.hid (And.intro hhold hbel)
  subst hv
  clear h1 hB a0 a1 b0 b1 b2 hbel hhold hge
  go_wp2_with fail
  refine leaves_cons (f := 63) (args := #[.pointer (some ⟨w.heap.size, 0, none⟩), .pointer (some ⟨w.heap.size + 1, 0, none⟩)]) (by simp) (by simp [go_sem]) ?_
  refine (catch_idleI _ _ _).mono ?_
  rintro e u' w'' ⟨rfl, rfl, rfl⟩
  simp [Leaves, settle, results, Try.results54, go_sem, d0, d1]
  exact HFIN

set_option maxHeartbeats 800000 in
theorem faceI_panic {w : World} {g : Nat} {caps : Array Value} (heg : ∀ args w, (callFunc g args).run Try.prog w = .ok (.enter g args) w) {n : Int}
    (hcall : ∀ W, Below w.heap.size w W → Calls Try.prog g caps W fun e w' => e = .panicked [{ v := .iface 29 (.int .i64 n), recovered := false }] ∧ Below W.heap.size W w') :
    Calls Try.prog 54 #[.func (.func g) #[] caps] w fun e w' => e = .returned (.tuple #[.slice none 0 0, .int .i64 n]) ∧ Below w.heap.size w w' := by
  have hmf : ∀ (fn : Fn) (first cap : Array Value) (w : World), (Instr.makeFunc fn first cap).run Try.prog w = .ok (.func fn first cap) w := fun _ _ _ _ => rfl
  have HC := Lib.hid hcall
  clear hcall
  go_enter_defers Try.func54, Try.ntmps54
  go_wp2_with fail
  refine (HC.out _ (below2rI _ _ _)).mono ?_
  rintro e w1 ⟨rfl, hB⟩
  have a0 : w1.heap[w.heap.size]? = some (.cells #[.slice none 0 0] 23 (0, 0)) :=
    (hB.block _ (by simp; omega)).trans ((Below.heap_alloc _ _ _ (by simp)).trans (alloc1 _ _))
  have a1 : w1.heap[w.heap.size + 1]? = some (.cells #[.int .i64 0] 29 (0, 0)) := by
    have := alloc1 (w.alloc (Obj.cells #[Value.slice none 0 0] 23)) (Obj.cells #[Value.int IntKind.i64 0] 29)
    exact (hB.block _ (by simp)).trans (by simpa using this)
  have c0 : w1.cell? ⟨w.heap.size, 0, none⟩ = some (.slice none 0 0) := by rw [cell_of_row _ _ _ _ _ _ a0]; rfl
  have c1 : w1.cell? ⟨w.heap.size + 1, 0, none⟩ = some (.int .i64 0) := by rw [cell_of_row _ _ _ _ _ _ a1]; rfl
  have f0 := free_of_row a0 0
  have f1 := free_of_row a1 0
  go_wp2_with fail
  refine leaves_cons (f := 63) (args := #[.pointer (some ⟨w.heap.size, 0, none⟩), .pointer (some ⟨w.heap.size + 1, 0, none⟩)]) (by simp) (by simp [go_sem]) ?_
  refine (catch_errnoI _ _ n _ c0 f0 c1 f1 (by omega)).mono ?_
  rintro e u' w'' ⟨rfl, rfl, rfl⟩
  have b0 := heap_set (j := 0) a0 (.slice none 0 0)
  have b1 := heap_set (j := 0) ((Below.heap_setCell w1 ⟨w.heap.size, 0, none⟩ (.slice none 0 0) (w.heap.size + 1) (by simp)).trans a1) (.int .i64 8)
  have b2 := heap_set (j := 0) b1 (.int .i64 n)
  have b3 := (Below.heap_setCell ((w1.setCell ⟨w.heap.size, 0, none⟩ (.slice none 0 0)).setCell ⟨w.heap.size + 1, 0, none⟩ (.int .i64 8)) ⟨w.heap.size + 1, 0, none⟩ (.int .i64 n) w.heap.size (by simp)).trans ((Below.heap_setCell (w1.setCell ⟨w.heap.size, 0, none⟩ (.slice none 0 0)) ⟨w.heap.size + 1, 0, none⟩ (.int .i64 8) w.heap.size (by simp)).trans b0)
  have d0 : (((w1.setCell ⟨w.heap.size, 0, none⟩ (.slice none 0 0)).setCell ⟨w.heap.size + 1, 0, none⟩ (.int .i64 8)).setCell ⟨w.heap.size + 1, 0, none⟩ (.int .i64 n)).cell? ⟨w.heap.size, 0, none⟩ = some (.slice none 0 0) := by rw [cell_of_row _ _ _ _ _ _ b3]; rfl
  have d1 : (((w1.setCell ⟨w.heap.size, 0, none⟩ (.slice none 0 0)).setCell ⟨w.heap.size + 1, 0, none⟩ (.int .i64 8)).setCell ⟨w.heap.size + 1, 0, none⟩ (.int .i64 n)).cell? ⟨w.heap.size + 1, 0, none⟩ = some (.int .i64 n) := by rw [cell_of_row _ _ _ _ _ _ b2]; rfl
  have hbel : Below w.heap.size w (((w1.setCell ⟨w.heap.size, 0, none⟩ (.slice none 0 0)).setCell ⟨w.heap.size + 1, 0, none⟩ (.int .i64 8)).setCell ⟨w.heap.size + 1, 0, none⟩ (.int .i64 n)) :=
    ((((below2rI w _ _).trans (hB.mono (by simp; omega))).setCell (p := ⟨w.heap.size, 0, none⟩) (Nat.le_refl _) _).setCell (p := ⟨w.heap.size + 1, 0, none⟩) (by simp) _).setCell (p := ⟨w.heap.size + 1, 0, none⟩) (by simp) _
  have HFIN := Lib.hid hbel
  clear hbel
  simp [Leaves, settle, results, Try.results54, go_sem, d0, d1]
  exact HFIN.out
end Go.Proofs.Ytbijpjoljljlpaa
/- Contracts of codec.readDeltas and codec.Undeltas: the ints whose differences bytes are, or ErrCorrupt. Conditions: at most 300000 bytes. -/
set_option maxRecDepth 100000
namespace Go.Proofs.Ytbijpjoljljlpaa
open Go.RowKit Go.Maps Go.Sort
attribute [local go_sem] Oper.semAt_some

/-- one difference more -/
def undStep (p : List Int × Int) (u : Nat) : List Int × Int := (p.1 ++ [IntKind.i64.wrap (p.2 + zagN u)], IntKind.i64.wrap (p.2 + zagN u))
def und (l : List Nat) : List Int × Int := l.foldl undStep ([], 0)
theorem und_snoc (l : List Nat) (u : Nat) : und (l ++ [u]) = undStep (und l) u := by simp [und, List.foldl_append]
theorem und_len0 : ∀ (l : List Nat) (p : List Int × Int), (l.foldl undStep p).1.length = p.1.length + l.length
  | [], p => rfl
  | u :: r, p => by rw [List.foldl_cons, und_len0 r, undStep, List.length_append, List.length_cons]; simp; omega
theorem und_len (l : List Nat) : (und l).1.length = l.length := by have := und_len0 l ([], 0); simpa [und] using this
theorem wrap_bd (n : Int) : -9223372036854775808 ≤ IntKind.i64.wrap n ∧ IntKind.i64.wrap n < 9223372036854775808 := by rw [IntKind.wrap_i64]; omega
theorem und_bd0 : ∀ (l : List Nat) (p : List Int × Int), -9223372036854775808 ≤ p.2 ∧ p.2 < 9223372036854775808 → -9223372036854775808 ≤ (l.foldl undStep p).2 ∧ (l.foldl undStep p).2 < 9223372036854775808
  | [], p, h => h
  | u :: r, p, _ => by rw [List.foldl_cons]; exact und_bd0 r _ (wrap_bd _)
theorem und_bd (l : List Nat) : -9223372036854775808 ≤ (und l).2 ∧ (und l).2 < 9223372036854775808 := und_bd0 l ([], 0) ⟨by decide, by decide⟩
theorem und_walk (a : Int) (z : Int) : IntKind.i64.wrap (IntKind.u64.wrap (IntKind.u64.wrap a + IntKind.u64.wrap z)) = IntKind.i64.wrap (a + z) := by
  rw [IntKind.wrap_u64, IntKind.wrap_u64, IntKind.wrap_u64, IntKind.wrap_i64, IntKind.wrap_i64]; omega

theorem app64 {w : World} {B : Nat} {v : Value} {xs : List Int} (hown : w.ownsRow B 3 1 v xs.length (i64s xs)) (hB : B ≤ w.heap.size) {sv : Value} {l : List Int} (hs : Holds w sv (i64s l)) (hlen : xs.length + l.length ≤ 17592186044416) :
    ∃ v' w', (∀ ty, (Builtin.append_ #[23, 23] ty #[v, sv]).run Try.prog w = .ok v' w') ∧ w'.ownsRow B 3 1 v' (xs ++ l).length (i64s (xs ++ l)) ∧ w.grownBy w' v.ownBlock ∧ (v'.ownBlock = v.ownBlock ∨ v'.ownBlock = some w.heap.size) := by
  have := app_any (P := Try.prog) Try.underlying23 info64 (by omega) rfl (by rw [i64s_len]; exact hown) hB hs (i64s_one l) (by rw [i64s_len, i64s_len]; exact hlen)
  rw [← i64s_append, i64s_len] at this
  exact this

/-- where readDeltas stands behind k numbers: the box of its list at w.heap.size, that of the int ahead, that of the bytes -/
structure UndJ (w : World) (ns : List Nat) (bv : Value) (k : Nat) (X : World) : Prop where
  row : ∃ v, X.heap[w.heap.size]? = some (.cells #[v] 23 (0, 0)) ∧ X.ownsRow (w.heap.size + 5) 3 1 v (und (ns.take k)).1.length (i64s (und (ns.take k)).1)
  ahead : X.heap[w.heap.size + 1]? = some (.cells #[.int .i64 (und (ns.take k)).2] 3 (0, 0))
  box : X.heap[w.heap.size + 2]? = some (.cells #[bv] 28 (0, 0))
  below : Below w.heap.size w X
theorem own_block {w : World} {base : Nat} {e : TypeId} {v : Value} {n : Nat} {xs : List Value} (h : w.ownsRow base e 1 v n xs) : ∀ g, v.ownBlock = some g → base ≤ g ∧ g < w.heap.size := fun g hg => h.lt g hg
theorem UndJ.ab {w : World} {ns : List Nat} {bv : Value} : Abides (w.heap.size + 3) 2 (UndJ w ns bv) := by
  intro k X Y row h hg hr
  have keep : ∀ {b : Nat} {o : Obj}, b < w.heap.size + 3 → X.heap[b]? = some o → Y.heap[b]? = some o := fun {b o} hb ho => (hg.block b (Array.getElem?_eq_some_iff.1 ho).1 (fun e => by have := (hr b e.symm).1; omega)).trans ho
  obtain ⟨v, h1, h2⟩ := h.row
  refine ⟨⟨v, keep (by omega) h1, ownsRow_of_block h2 (fun g hgv => hg.block g (h2.lt g hgv).2 (fun e => ?_))⟩, keep (by omega) h.ahead, keep (by omega) h.box, ?_⟩
  · obtain ⟨h3, h4 | ⟨o, ho, hc⟩⟩ := hr g e.symm
    · have := (h2.lt g hgv).1; omega
    · have := own_cells h2 g o hgv ho
      rw [hc] at this; cases this
  · exact h.below.trans ⟨hg.os, hg.tape, hg.output, hg.size, fun b hb => hg.block b (by have := h.below.size; omega) (fun e => by have := (hr b e.symm).1; omega)⟩
theorem wpListIn_append_run {F : Fence} {n : Nat} {P : Program} {w w' : World} {ops : Array Oper} {rest : List Oper} {o : Oper} {a : Act} {Q : Exit → Act → World → Prop} {sv xv v' : Value} (hg : o.guard = none) (s x : Operand) (t : TypeId)
    (hop : o.op = .call { callee := .builtin .append, args := #[s, x], argTypes := #[t, t] }) (hs : a.eval s = sv) (hx : a.eval x = xv) (hrun : (Builtin.append_ #[t, t] o.type #[sv, xv]).run P w = .ok v' w')
    (hK : wpListIn F n P ops Q rest (a.put o.dst v') w') : wpListIn F n P ops Q (o :: rest) a w := by
  refine wpListIn_plain hg fun K hK' => ?_
  unfold Oper.wpIn
  refine ⟨?_, ?_⟩
  · simp [Oper.about, hop, resolve, Target.leads, Sem.run_pure]
  · rw [Oper.semAt_plain F _ _ (by rw [hop]; intro c hc'; cases hc')]
    simp [execOp, hop, resolve, invoke, builtin, hs, hx, hrun, Result.andThen]
    exact hK' _ _ hK
/-- one int more is written -/
theorem UndJ.step {w : World} {ns : List Nat} {bv : Value} {q : Nat} {X : World} {v : Value} {u : Nat} (h : UndJ w ns bv q X) (hu : ns[q]? = some u) (hlen : ns.length ≤ 300000)
    (hb : X.heap[w.heap.size]? = some (.cells #[v] 23 (0, 0))) (hrow : X.ownsRow (w.heap.size + 5) 3 1 v (und (ns.take q)).1.length (i64s (und (ns.take q)).1)) (hsz : w.heap.size + 5 ≤ X.heap.size) :
    ∃ v2 w2 B, (∃ va n vc, v2 = .slice va n vc) ∧ B = IntKind.i64.wrap ((und (ns.take q)).2 + zagN u) ∧ Hid (∀ ty, (Builtin.append_ #[23, 23] ty #[v, .slice (some ⟨X.heap.size, 0, none⟩) 1 1]).run Try.prog (((X.setCell ⟨w.heap.size + 1, 0, none⟩ (.int .i64 B)).alloc (.cells #[.int .i64 B] 3)).drew) = .ok v2 w2) ∧
      w2.cell? ⟨w.heap.size, 0, none⟩ = some v ∧ w2.frozen? ⟨w.heap.size, 0, none⟩ = false ∧ Hid (Held (w.heap.size + 3) 2 X (w2.setCell ⟨w.heap.size, 0, none⟩ v2) ∧ UndJ w ns bv (q + 1) (w2.setCell ⟨w.heap.size, 0, none⟩ v2)) := by
  obtain ⟨B, hB⟩ : ∃ B, B = IntKind.i64.wrap ((und (ns.take q)).2 + zagN u) := ⟨_, rfl⟩
  obtain ⟨hlt, hget⟩ := List.getElem?_eq_some_iff.1 hu
  have hsn : und (ns.take (q + 1)) = ((und (ns.take q)).1 ++ [B], B) := by
    rw [List.take_succ_eq_append_getElem hlt, hget, und_snoc, undStep, ← hB]
  obtain ⟨X2, hX2⟩ : ∃ X2, ((X.setCell ⟨w.heap.size + 1, 0, none⟩ (.int .i64 B)).alloc (.cells #[.int .i64 B] 3)).drew = X2 := ⟨_, rfl⟩
  have hs1 : (X.setCell ⟨w.heap.size + 1, 0, none⟩ (.int .i64 B)).heap.size = X.heap.size := by simp [World.setCell]
  have hs2 : X2.heap.size = X.heap.size + 1 := by rw [← hX2]; show ((X.setCell _ _).alloc _).heap.size = _; rw [World.size_alloc, hs1]
  have old : ∀ b, b ≠ w.heap.size + 1 → b < X.heap.size → X2.heap[b]? = X.heap[b]? := fun b h1 h2 => by
    rw [← hX2]
    exact (Below.heap_alloc _ _ _ (by rw [hs1]; exact h2)).trans (Below.heap_setCell X ⟨w.heap.size + 1, 0, none⟩ _ b h1)
  have hbox : X2.heap[w.heap.size + 1]? = some (.cells #[.int .i64 B] 3 (0, 0)) := by
    rw [← hX2]
    exact (Below.heap_alloc _ _ _ (by rw [hs1]; omega)).trans (heap_set (j := 0) h.ahead _)
  have hnew : X2.heap[X.heap.size]? = some (.cells #[.int .i64 B] 3 (0, 0)) := by
    rw [← hX2, ← hs1]; exact alloc1 _ _
  have hrow2 : X2.ownsRow (w.heap.size + 5) 3 1 v (und (ns.take q)).1.length (i64s (und (ns.take q)).1) := ownsRow_of_block hrow (fun g hg => old g (by have := (hrow.lt g hg).1; omega) (hrow.lt g hg).2)
  have hone : Holds X2 (.slice (some ⟨X.heap.size, 0, none⟩) 1 1) (i64s [B]) := Holds.of_heap hnew rfl 1 1 rfl (Nat.le_refl _)
  have hl0 : (und (ns.take q)).1.length ≤ 300000 := by rw [und_len, List.length_take]; omega
  obtain ⟨v2, w2, r, o, g, _⟩ := app64 hrow2 (by omega) hone (by simp; omega)
  have kept : ∀ b, b < w.heap.size + 5 → b ≠ w.heap.size + 1 → w2.heap[b]? = X.heap[b]? := fun b h1 h2 =>
    (g.block b (by omega) (fun e => by have := (hrow2.lt b e.symm).1; omega)).trans (old b h2 (by omega))
  have hb2 := (kept w.heap.size (by omega) (by omega)).trans hb
  have ha2 : w2.heap[w.heap.size + 1]? = some (.cells #[.int .i64 B] 3 (0, 0)) := (g.block _ (by omega) (fun e => by have := (hrow2.lt _ e.symm).1; omega)).trans hbox
  have hX2b : Below w.heap.size X X2 := by
    rw [← hX2]; exact (((Below.refl _ _).setCell (p := ⟨w.heap.size + 1, 0, none⟩) (by simp) _).alloc (by rw [hs1]; omega) _).drew
  have hbel : Below w.heap.size w w2 := (h.below.trans hX2b).trans ⟨g.os, g.tape, g.output, g.size, fun b hb => g.block b (by omega) (fun e => by have := (hrow2.lt b e.symm).1; omega)⟩
  have hs3 : (w2.setCell ⟨w.heap.size, 0, none⟩ v2).heap.size = w2.heap.size := by simp [World.setCell]
  obtain ⟨va, vc, hvf, _⟩ := ownsRow_form o
  refine ⟨v2, w2, B, ⟨_, _, _, hvf⟩, hB, Lib.hid (by rw [hX2]; exact r), by rw [cell_of_row _ _ _ _ _ _ hb2]; rfl, free_of_row hb2 0, Lib.hid ⟨⟨by rw [hs3]; have := g.size; omega, fun b h1 h2 => ?_⟩, ⟨⟨v2, heap_set (j := 0) hb2 v2, ?_⟩, ?_, ?_, hbel.setCell (p := ⟨w.heap.size, 0, none⟩) (Nat.le_refl _) _⟩⟩⟩
  · exact (Below.heap_setCell w2 ⟨w.heap.size, 0, none⟩ v2 b (by show b ≠ w.heap.size; omega)).trans (kept b (by omega) (by omega))
  · rw [hsn]
    exact ownsRow_of_block o (fun g2 hg2 => Below.heap_setCell w2 ⟨w.heap.size, 0, none⟩ v2 g2 (by have := (o.lt g2 hg2).1; show g2 ≠ w.heap.size; omega))
  · rw [hsn]; exact heap_other ha2 (by omega)
  · exact heap_other ((kept _ (by omega) (by omega)).trans h.box) (by omega)
set_option maxHeartbeats 1600000 in
theorem readDeltas_any {w : World} {bv : Value} {l : List UInt8} (h : Holds w bv (u8s l)) (hl : l.length ≤ 300000) :
    Calls Try.prog 56 #[bv] w fun e w' => ((numsOf l).2 = false ∧ ∃ v, e = .returned v ∧ Hid (w'.ownsRow w.heap.size 3 1 v (und (numsOf l).1).1.length (i64s (und (numsOf l).1).1) ∧ Below w.heap.size w w')) ∨ ((numsOf l).2 = true ∧ e = .panicked corrupt ∧ Below w.heap.size w w') := by
  have hmix : Try.prog.follows .mixedOrders = true := by kernel_rfl
  have H := Lib.hid h
  obtain ⟨a, c, hv, hc⟩ := h.form
  rw [u8s_len] at hv
  subst hv
  clear h hc
  refine calls_of_wpFor Try.func56 rfl ?_
  simp only [Try.ntmps56, List.size_toArray, List.length_cons, List.length_nil, Nat.reduceAdd, Nat.reduceSub, Array.replicate_succ, Array.replicate_zero, List.push_toArray, List.append_toArray, List.nil_append, List.cons_append]
  refine wpFor_then ?_
  gi_wp2_with fail
  refine wpFor_then ?_
  gi_wp2_with fail
  refine wpFor_then ?_
  gi_wp2_with fail
  refine wpFor_seq (wpFor_then ?_)
  gi_wp2_with fail
  refine ⟨trivial, rfl, (callsIn_wide.2 (numbers_any _ _ _ _)).mono ?_⟩
  rintro e w' ⟨rfl, rfl⟩
  gi_wp2_with fail
  refine wpFor_block ?_
  have hJ0 : UndJ w (numsOf l).1 (.slice a l.length c) 0 (((w.alloc (Obj.cells #[Value.slice none 0 0] 23)).alloc (Obj.cells #[Value.int IntKind.i64 0] 3)).alloc (Obj.cells #[Value.slice a l.length c] 28)) := by
    obtain ⟨a1, a2, a3⟩ := alloc3r w (Obj.cells #[Value.slice none 0 0] 23) (Obj.cells #[Value.int IntKind.i64 0] 3) (Obj.cells #[Value.slice a l.length c] 28)
    exact ⟨⟨_, a1, World.ownsRow_nil _ _ _ _⟩, a2, a3, (((Below.refl _ _).alloc (Nat.le_refl _) _).alloc (by simp) _).alloc (by simp; omega) _⟩
  have hps : (((w.alloc (Obj.cells #[Value.slice none 0 0] 23)).alloc (Obj.cells #[Value.int IntKind.i64 0] 3)).alloc (Obj.cells #[Value.slice a l.length c] 28)).heap.size = w.heap.size + 3 := by simp
  generalize ((w.alloc (Obj.cells #[Value.slice none 0 0] 23)).alloc (Obj.cells #[Value.int IntKind.i64 0] 3)).alloc (Obj.cells #[Value.slice a l.length c] 28) = W3 at *
  have HP := Lib.hid hps
  have hbd := nums_bd l
  have hseq := numbers_seq (w.heap.size + 1 + 1) l (by omega)
  obtain ⟨ns, hns⟩ : ∃ ns, (numsOf l).1 = ns := ⟨_, rfl⟩
  obtain ⟨bad, hbad⟩ : ∃ b, (numsOf l).2 = b := ⟨_, rfl⟩
  have hE : numsE l = ns.map numE := by rw [← hns]; rfl
  rw [hns] at hJ0 hbd ⊢
  rw [hbad, hE] at hseq
  rw [hbad]
  have HL : Hid (ns.length ≤ 300000) := Lib.hid (by omega)
  have HU := Lib.hid hbd.2
  have HLN := Lib.hid hl
  clear hns hbad hE hbd hl
  refine rangeP_law Try.func56 (gf := 68) (lb := #[Value.pointer (some { block := w.heap.size + 1 + 1, off := 0 })]) rfl (enters_of Try.func68 (by kernel_rfl) rfl)
    (m := 0) (encs := ns.map numE) (fun x hx => by obtain ⟨p, _, rfl⟩ := List.mem_map.1 hx; rfl) hseq
    (UndJ w ns (.slice a l.length c)) (fun ch X => (bad = true ∧ ch = corrupt) ∧ Below w.heap.size w X) (by rw [hps]; exact UndJ.ab) ?hJp (fun k X h => ⟨_, by rw [cell_of_row _ _ _ _ _ _ h.box]; rfl, H.out.below h.below⟩) hJ0
    (fun s X => UndJ w ns (.slice a l.length c) s.1 X ∧ ∃ u, ns[s.1]? = some u ∧
      s.2 = { tmps := #[Value.slice a l.length c, undef, Value.slice none 0 0, Value.pointer (some { block := w.heap.size, off := 0 }), Value.pointer (some { block := w.heap.size + 1, off := 0 }), Value.int .u64 (u : Int), Value.slice a l.length c,
          Value.func (Fn.func 68) #[] #[Value.pointer (some { block := w.heap.size + 1 + 1, off := 0 })], Value.int .u64 (u : Int),
          undef, undef, undef, undef, undef, undef, undef, undef, undef, undef, undef, undef], defers := [] }) ?hM ?assign ?body (fun hf X h => ⟨⟨hf, rfl⟩, h.below⟩) ?done ?pan
  case hJp =>
    rw [hps]
    intro s X Y row h hg hr
    exact ⟨h.1, h.2.trans ⟨hg.os, hg.tape, hg.output, hg.size, fun b hb => hg.block b (by have := h.2.size; omega) (fun e => by have := (hr b e.symm).1; omega)⟩⟩
  case hM =>
    rw [hps]
    intro s X Y row h hg hr
    exact ⟨UndJ.ab s.1 X Y row h.1 hg hr, h.2⟩
  case assign =>
    intro l' q hq X K h hK
    have hq2 : q < ns.length := by simpa using hq
    have e : (ns.map numE)[q] = #[Value.int .u64 (ns[q] : Int)] := by rw [List.getElem_map]; rfl
    have hget : ns[q]? = some ns[q] := List.getElem?_eq_getElem hq2
    rw [e]
    generalize ns[q] = u at hget ⊢
    have HK := Lib.hid hK
    have HG := Lib.hid hget
    have HP2 := Lib.hid h
    clear hK e hget h
    simp only [List.zip_toArray, List.zip_cons_cons, List.zip_nil_right, List.foldl_toArray, List.foldl_cons, List.foldl_nil, List.setIfInBounds_toArray, List.set_cons_succ, List.set_cons_zero]
    gi_wp2
    exact HK.out _ _ (Held.refl _ _ _) ⟨HP2.out, u, HG.out, rfl⟩
  case body =>
    rintro l' q hq a₁ X ⟨h, u, hget, rfl⟩ hsz
    obtain ⟨v, hb, hrow⟩ := h.row
    have hub := HU.out u (List.mem_of_getElem? hget)
    have hc1 : X.cell? ⟨w.heap.size + 1, 0, none⟩ = some (.int .i64 (und (ns.take q)).2) := by rw [cell_of_row _ _ _ _ _ _ h.ahead]; rfl
    have hc0 : X.cell? ⟨w.heap.size, 0, none⟩ = some v := by rw [cell_of_row _ _ _ _ _ _ hb]; rfl
    have hf1 := free_of_row h.ahead 0
    have hf0 := free_of_row hb 0
    have KZ := fun w => (Zag_any u w hub).mono fun _ _ ⟨h1, h2⟩ => (⟨h1, h2.symm⟩ : _ ∧ _ = w)
    obtain ⟨v2, w2, B, ⟨va2, n2, vc2, rfl⟩, hBe, HRUN, hc2, hf2, HST⟩ := h.step hget HL.out hb hrow (by have := HP.out; omega)
    obtain ⟨va, vc, hvf, _⟩ := ownsRow_form hrow
    have hw := und_walk (und (ns.take q)).2 (zagN u)
    rw [← hBe] at hw
    have HZ := Lib.hid hsz
    clear h hb hrow hget hub hsz hBe
    generalize (und (ns.take q)).2 = A at hc1 hw
    generalize zagN u = Z at KZ hw
    generalize (und (ns.take q)).1.length = L at hvf
    subst hvf
    gi_wp2_with fail
    refine round_still_tail 7 hmix (by decide +kernel) (fun ⟨_, _, h⟩ => h) (by kernel_rfl) ?_
    simp only [List.take_succ_cons, List.take_zero, List.drop_succ_cons, List.drop_zero]
    still_step
    still_step
    still_step
    still_call (KZ _)
    repeat still_step
    try refine wpStill_nil ?_
    change wpList _ _ _ _ _ X.drew
    go_wp2
    gi_wp2_with (gi_at_builtin; refine wpListIn_append_run rfl _ _ 23 rfl rfl rfl (HRUN.out _) ?_)
    rw [hps]
    exact HST.out
  case done =>
    intro hfin X h hX hD
    rw [List.length_map] at h
    obtain ⟨v, hb, hrow⟩ := h.row
    rw [List.take_length] at hrow
    have hcell : X.cell? ⟨w.heap.size, 0, none⟩ = some v := by rw [cell_of_row _ _ _ _ _ _ hb]; rfl
    have HX := Lib.hid (And.intro h hD)
    have HR := Lib.hid hrow
    have HF := Lib.hid hfin
    clear h hD hb hrow hX hfin
    show WpFor _ _ _ _ _ _
    refine .of_wpIn ?_
    gi_wp2_with fail
    refine leave_marks (v := v) (B := w.heap.size) (fun w' => by simp [results, Try.results56, go_sem]) _ X ⟨_, rfl, by omega, by rw [← hps]; exact HX.out.2, (fun _ h => nomatch h), trivial⟩ (fun W' hs => ?_)
    refine .inl ⟨HF.out, v, rfl, Lib.hid ⟨?_, HX.out.1.below.trans hs.below⟩⟩
    refine ownsRow_of_block (ownsRow_rebase HR.out (fun g hg => by have := (HR.out.lt g hg).1; omega)) (fun g hg => hs.block g (.inr (fun e => ?_)))
    have := own_cells HR.out g _ hg e
    cases this
  case pan =>
    rintro ch X ⟨⟨hf, rfl⟩, hbel⟩ hD
    exact leave_mark_panic hD (.inr ⟨hf, rfl, ⟨hbel.os, hbel.tape, hbel.output, by simp; exact hbel.size, fun k hk => (World.putObj_heap_other (by omega)).trans (hbel.block k hk)⟩⟩)
theorem und_inner_ok {w : World} {b : Nat} {x : Value} (h1 : w.cell? ⟨b, 0, none⟩ = some x) {Q : Value → World → Prop}
    (h : Calls Try.prog 56 #[x] w fun e w' => ∃ v, e = .returned v ∧ Hid (Q v w')) :
    Calls Try.prog 55 #[.pointer (some ⟨b, 0, none⟩)] w fun e w' => ∃ v, e = .returned v ∧ Hid (Q v w') := by
  have HC := Lib.hid h
  clear h
  go_enter Try.func55, Try.ntmps55
  go_wp2_with fail
  refine HC.out.mono ?_
  rintro e w' ⟨v, rfl, hv⟩
  go_wp2
  simp [bodyPost, results, Try.results55, hv]
theorem und_inner_panic {w : World} {b : Nat} {x : Value} (h1 : w.cell? ⟨b, 0, none⟩ = some x) {Q : World → Prop} {ch : List PanicEntry}
    (h : Calls Try.prog 56 #[x] w fun e w' => e = .panicked ch ∧ Q w') :
    Calls Try.prog 55 #[.pointer (some ⟨b, 0, none⟩)] w fun e w' => e = .panicked ch ∧ Q w' := by
  have HC := Lib.hid h
  clear h
  go_enter Try.func55, Try.ntmps55
  go_wp2_with fail
  refine HC.out.mono ?_
  rintro e w' ⟨rfl, hv⟩
  go_wp2
  simp [bodyPost, hv]
theorem enter_und (args : Array Value) (w : World) : (callFunc 55 args).run Try.prog w = .ok (.enter 55 args) w := by kernel_rfl
theorem box1 {w W : World} {x : Value} {s : TypeId} (hb : Below (w.heap.size + 1) (w.alloc (.cells #[x] s)) W) : W.cell? ⟨w.heap.size, 0, none⟩ = some x ∧ Below w.heap.size w W := by
  have b1 := (hb.block _ (by omega)).trans (alloc1 w (.cells #[x] s))
  exact ⟨by rw [cell_of_row _ _ _ _ _ _ b1]; rfl, ((Below.refl _ _).alloc (Nat.le_refl _) _).trans (hb.mono (by omega))⟩
/-- what Undeltas answers: the ints, or none and ErrCorrupt -/
def undAns (bs : List UInt8) : List Int × Int := if (numsOf bs).2 then ([], 8) else ((und (numsOf bs).1).1, 0)
set_option maxHeartbeats 800000 in
theorem Undeltas_any {w : World} {v : Value} {l : List UInt8} (h : Holds w v (u8s l)) (hl : l.length ≤ 300000) :
    Calls Try.prog 46 #[v] w fun e w' => ∃ r, e = .returned (.tuple #[r, .int .i64 (undAns l).2]) ∧ Hid (w'.ownsRow w.heap.size 3 1 r (undAns l).1.length (i64s (undAns l).1) ∧ Below w.heap.size w w') := by
  have hmf : ∀ (fn : Fn) (first cap : Array Value) (w : World), (Instr.makeFunc fn first cap).run Try.prog w = .ok (.func fn first cap) w := fun _ _ _ _ => rfl
  obtain ⟨a, c, hv, hc⟩ := h.form
  rw [u8s_len] at hv
  subst hv
  cases hb : (numsOf l).2 with
  | false =>
    have ha : undAns l = ((und (numsOf l).1).1, 0) := by unfold undAns; rw [hb]; rfl
    rw [ha]
    have HF : Hid (Calls Try.prog 54 #[.func (.func 55) #[] #[.pointer (some ⟨w.heap.size, 0, none⟩)]] (w.alloc (.cells #[.slice a l.length c] 28))
        fun e w' => ∃ r, e = .returned (.tuple #[r, .int .i64 0]) ∧ Hid (w'.ownsRow w.heap.size 3 1 r (und (numsOf l).1).1.length (i64s (und (numsOf l).1).1) ∧ Below w.heap.size w w')) := by
      refine Lib.hid ((faceI_ok (k := (und (numsOf l).1).1.length) (xs := i64s (und (numsOf l).1).1) enter_und fun W hW => ?_).mono ?_)
      · obtain ⟨h1, h4⟩ := box1 (by simpa using hW)
        refine und_inner_ok h1 ((readDeltas_any (h.below h4) hl).mono ?_)
        rintro e w' (⟨_, r, rfl, hr⟩ | ⟨hx, _⟩)
        · exact ⟨r, rfl, hr⟩
        · rw [hb] at hx; cases hx
      · rintro e w' ⟨r, rfl, hv⟩
        refine ⟨r, rfl, Lib.hid ⟨ownsRow_rebase hv.out.1 fun g hg => ?_, ?_⟩⟩
        · have := ownsRow_ge hv.out.1 g hg
          simp at this
          omega
        · exact (box1 (by simpa using hv.out.2)).2
    clear h ha hb
    go_enter Try.func46, Try.ntmps46
    go_wp2_with fail
    refine HF.out.mono ?_
    rintro e w' ⟨r, rfl, hv⟩
    go_wp2_with fail
    simp [bodyPost, results, Try.results46, go_sem]
    exact hv
  | true =>
    have ha : undAns l = ([], 8) := by unfold undAns; rw [hb]; rfl
    rw [ha]
    have HF : Hid (Calls Try.prog 54 #[.func (.func 55) #[] #[.pointer (some ⟨w.heap.size, 0, none⟩)]] (w.alloc (.cells #[.slice a l.length c] 28))
        fun e w' => e = .returned (.tuple #[.slice none 0 0, .int .i64 8]) ∧ Below w.heap.size w w') := by
      refine Lib.hid ((faceI_panic (n := 8) enter_und fun W hW => ?_).mono ?_)
      · obtain ⟨h1, h4⟩ := box1 (by simpa using hW)
        refine und_inner_panic h1 ((readDeltas_any (h.below h4) hl).mono ?_)
        rintro e w' (⟨hx, _⟩ | ⟨_, rfl, hr⟩)
        · rw [hb] at hx; cases hx
        · exact ⟨rfl, hr⟩
      · rintro e w' ⟨rfl, hv⟩
        exact ⟨rfl, (box1 (by simpa using hv)).2⟩
    clear h ha hb
    go_enter Try.func46, Try.ntmps46
    go_wp2_with fail
    refine HF.out.mono ?_
    rintro e w' ⟨rfl, hv⟩
    go_wp2_with fail
    have HV := Lib.hid hv
    clear hv
    simp [bodyPost, results, Try.results46, go_sem]
    exact Lib.hid ⟨World.ownsRow_nil _ _ _ _, HV.out⟩
end Go.Proofs.Ytbijpjoljljlpaa
