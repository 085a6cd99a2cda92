/- The texts CodecUnruns CodecSum CodecLives CodecShort, one behind the other; each one's own comment says what it holds. -/
import Derived.Test.YtbijpjoljljlpaaColumnBackRowGA
import Derived.Test.YtbijpjoljljlpaaCodecFace
import Derived.Test.YtbijpjoljljlpaaCodecPlain
import Derived.Test.YtbijpjoljljlpaaBits
import Derived.Outline
import Derived.Test.YtbijpjoljljlpaaCodecPack
import Derived.Test.YtbijpjoljljlpaaCodecRuns
import Derived.Test.YtbijpjoljljlpaaCodecDelta
import Derived.Test.YtbijpjoljljlpaaCodecGet
/- Contracts of codec.readRuns and codec.Unruns: the numbers whose runs bytes are, or ErrCorrupt. Conditions: at most 300000 bytes. -/
set_option maxRecDepth 100000
namespace Go.Proofs.Ytbijpjoljljlpaa
open Go.RowKit Go.Maps Go.Sort
attribute [local go_sem] Oper.semAt_some

/-- one run more -/
def unrStep (s : Option (List UInt64)) (p : Nat × Nat) : Option (List UInt64) :=
  match s with
  | none => none
  | some a => if a.getLast? = some (UInt64.ofNat p.1) ∨ p.2 = 0 ∨ 100000 - a.length < p.2 then none else some (a ++ List.replicate p.2 (UInt64.ofNat p.1))
def unr (ps : List (Nat × Nat)) : Option (List UInt64) := ps.foldl unrStep (some [])
theorem unr_snoc (ps : List (Nat × Nat)) (p : Nat × Nat) : unr (ps ++ [p]) = unrStep (unr ps) p := by simp [unr, List.foldl_append]
theorem unr_none : ∀ (ps : List (Nat × Nat)), ps.foldl unrStep none = none
  | [] => rfl
  | p :: r => by rw [List.foldl_cons]; exact unr_none r
theorem unr_take {ps : List (Nat × Nat)} {k : Nat} (h : unr (ps.take k) = none) : unr ps = none := by
  have e : ps = ps.take k ++ ps.drop k := (List.take_append_drop k ps).symm
  rw [e, unr, List.foldl_append]
  have : (ps.take k).foldl unrStep (some []) = none := h
  rw [this]
  exact unr_none _
theorem unrStep_len {s : Option (List UInt64)} {p : Nat × Nat} {a : List UInt64} (hs : ∀ b, s = some b → b.length ≤ 100000) (h : unrStep s p = some a) : a.length ≤ 100000 := by
  cases s with
  | none => cases h
  | some b =>
    rw [unrStep] at h
    split at h
    · cases h
    · rename_i hc
      have hb := hs b rfl
      cases h
      rw [List.length_append, List.length_replicate]
      omega
theorem unr_len0 : ∀ (ps : List (Nat × Nat)) (s : Option (List UInt64)) (a : List UInt64), (∀ b, s = some b → b.length ≤ 100000) → ps.foldl unrStep s = some a → a.length ≤ 100000
  | [], _, a, hs, h => hs a h
  | _ :: r, _, a, hs, h => unr_len0 r _ a (fun _ hb => unrStep_len hs hb) h
theorem unr_len {ps : List (Nat × Nat)} {a : List UInt64} (h : unr ps = some a) : a.length ≤ 100000 := unr_len0 ps _ a (fun b hb => by cases hb; exact Nat.zero_le _) h

theorem appU {w : World} {B : Nat} {v : Value} {xs : List UInt64} (hown : w.ownsRow B 44 1 v xs.length (u64s xs)) (hB : B ≤ w.heap.size) {sv : Value} {l : List UInt64} (hs : Holds w sv (u64s l)) (hlen : xs.length + l.length ≤ 17592186044416) :
    ∃ v' w', (∀ ty, (Builtin.append_ #[46, 46] ty #[v, sv]).run Try.prog w = .ok v' w') ∧ w'.ownsRow B 44 1 v' (xs ++ l).length (u64s (xs ++ l)) ∧ w.grownBy w' v.ownBlock ∧ (v'.ownBlock = v.ownBlock ∨ v'.ownBlock = some w.heap.size) := by
  have := app_any (P := Try.prog) Try.underlying46 infoU (by omega) rfl (by rw [u64s_len]; exact hown) hB hs (u64s_one l) (by rw [u64s_len, u64s_len]; exact hlen)
  rw [← u64s_append, u64s_len] at this
  exact this

/-- where readRuns stands behind k pairs: the box of its list at w.heap.size, that of the bytes behind it -/
structure RunJ (w : World) (ps : List (Nat × Nat)) (bv : Value) (k : Nat) (X : World) : Prop where
  row : ∃ v acc, unr (ps.take k) = some acc ∧ X.heap[w.heap.size]? = some (.cells #[v] 46 (0, 0)) ∧ X.ownsRow (w.heap.size + 10) 44 1 v acc.length (u64s acc)
  box : X.heap[w.heap.size + 1]? = some (.cells #[bv] 28 (0, 0))
  below : Below w.heap.size w X
theorem RunJ.ab {w : World} {ps : List (Nat × Nat)} {bv : Value} : Abides (w.heap.size + 2) 8 (RunJ w ps bv) := by
  intro k X Y row h hg hr
  have keep : ∀ {b : Nat} {o : Obj}, b < w.heap.size + 2 → X.heap[b]? = some o → Y.heap[b]? = some o := fun {b o} hb ho => (hg.block b (Array.getElem?_eq_some_iff.1 ho).1 (fun e => by have := (hr b e.symm).1; omega)).trans ho
  obtain ⟨v, acc, h0, h1, h2⟩ := h.row
  refine ⟨⟨v, acc, h0, keep (by omega) h1, ownsRow_of_block h2 (fun g hgv => hg.block g (h2.lt g hgv).2 (fun e => ?_))⟩, keep (by omega) h.box, ?_⟩
  · obtain ⟨h3, h4 | ⟨o, ho, hc⟩⟩ := hr g e.symm
    · have := (h2.lt g hgv).1; omega
    · have := own_cells h2 g o hgv ho
      rw [hc] at this; cases this
  · exact h.below.trans ⟨hg.os, hg.tape, hg.output, hg.size, fun b hb => hg.block b (by have := h.below.size; omega) (fun e => by have := (hr b e.symm).1; omega)⟩
/-- one run more is written -/
theorem RunJ.step {w : World} {ps : List (Nat × Nat)} {bv : Value} {k : Nat} {X : World} {v : Value} {u t : Nat} {acc : List UInt64} (h : RunJ w ps bv k X) (hu : ps[k]? = some (u, t)) (hacc : unr (ps.take k) = some acc)
    (hn : ¬ (acc.getLast? = some (UInt64.ofNat u) ∨ t = 0 ∨ 100000 - acc.length < t))
    (hb : X.heap[w.heap.size]? = some (.cells #[v] 46 (0, 0))) (hrow : X.ownsRow (w.heap.size + 10) 44 1 v acc.length (u64s acc)) (hsz : w.heap.size + 10 ≤ X.heap.size)
    {w2 : World} {sv : Value} (hw2 : Below (X.heap.size + 1) (X.drew.alloc (.cells #[.int .u64 ((UInt64.ofNat u).toNat : Int)] 44)) w2) (hs : Holds w2 sv (u64s (List.replicate t (UInt64.ofNat u)))) :
    ∃ v2 w3, (∃ ba bn bc, v2 = .slice ba bn bc) ∧ Hid (∀ ty, (Builtin.append_ #[46, 46] ty #[v, sv]).run Try.prog w2 = .ok v2 w3) ∧ w2.cell? ⟨w.heap.size, 0, none⟩ = some v ∧
      w3.cell? ⟨w.heap.size, 0, none⟩ = some v ∧ w3.frozen? ⟨w.heap.size, 0, none⟩ = false ∧ Hid (Held (w.heap.size + 2) 8 X (w3.setCell ⟨w.heap.size, 0, none⟩ v2) ∧ RunJ w ps bv (k + 1) (w3.setCell ⟨w.heap.size, 0, none⟩ v2)) := by
  obtain ⟨hlt, hget⟩ := List.getElem?_eq_some_iff.1 hu
  have hsn : unr (ps.take (k + 1)) = some (acc ++ List.replicate t (UInt64.ofNat u)) := by
    rw [List.take_succ_eq_append_getElem hlt, hget, unr_snoc, hacc, unrStep, if_neg hn]
  have hl := unr_len hsn
  rw [List.length_append, List.length_replicate] at hl
  have hXs : (X.drew.alloc (.cells #[.int .u64 ((UInt64.ofNat u).toNat : Int)] 44)).heap.size = X.heap.size + 1 := World.size_alloc X.drew _
  have old : ∀ b, b < X.heap.size → w2.heap[b]? = X.heap[b]? := fun b h2 => (hw2.block b (by omega)).trans (Below.heap_alloc X.drew _ _ h2)
  have hs2 := hw2.size
  rw [hXs] at hs2
  have hrow2 : w2.ownsRow (w.heap.size + 10) 44 1 v acc.length (u64s acc) := ownsRow_of_block hrow (fun g hg => old g (hrow.lt g hg).2)
  obtain ⟨v2, w3, r, o, g, _⟩ := appU hrow2 (by omega) hs (by rw [List.length_replicate]; omega)
  have kept : ∀ b, b < w.heap.size + 10 → w3.heap[b]? = X.heap[b]? := fun b h1 =>
    (g.block b (by omega) (fun e => by have := (hrow2.lt b e.symm).1; omega)).trans (old b (by omega))
  have hb2 := (kept w.heap.size (by omega)).trans hb
  have hX2b : Below w.heap.size X w2 := (((Below.refl _ _).drew).alloc (show w.heap.size ≤ X.drew.heap.size by show _ ≤ X.heap.size; omega) _).trans (hw2.mono (by omega))
  have hbel : Below w.heap.size w w3 := (h.below.trans hX2b).trans ⟨g.os, g.tape, g.output, g.size, fun b hb => g.block b (by omega) (fun e => by have := (hrow2.lt b e.symm).1; omega)⟩
  have hs3 : (w3.setCell ⟨w.heap.size, 0, none⟩ v2).heap.size = w3.heap.size := by simp [World.setCell]
  obtain ⟨ba, bc, hvf, _⟩ := ownsRow_form o
  refine ⟨v2, w3, ⟨_, _, _, hvf⟩, Lib.hid r, by rw [cell_of_row _ _ _ _ _ _ ((old w.heap.size (by omega)).trans hb)]; rfl, by rw [cell_of_row _ _ _ _ _ _ hb2]; rfl, free_of_row hb2 0, Lib.hid ⟨⟨by rw [hs3]; have := g.size; omega, fun b h1 h2 => ?_⟩, ⟨⟨v2, _, hsn, heap_set (j := 0) hb2 v2, ?_⟩, ?_, hbel.setCell (p := ⟨w.heap.size, 0, none⟩) (Nat.le_refl _) _⟩⟩⟩
  · exact (Below.heap_setCell w3 ⟨w.heap.size, 0, none⟩ v2 b (by show b ≠ w.heap.size; omega)).trans (kept b (by omega))
  · exact ownsRow_of_block o (fun g2 hg2 => Below.heap_setCell w3 ⟨w.heap.size, 0, none⟩ v2 g2 (by have := (o.lt g2 hg2).1; show g2 ≠ w.heap.size; omega))
  · exact heap_other ((kept _ (by omega)).trans h.box) (by omega)
theorem pairs_mem : ∀ (l : List Nat) (p : Nat × Nat), p ∈ pairsOf l → p.1 ∈ l ∧ p.2 ∈ l
  | a :: b :: r, p, h => by
    rw [pairsOf] at h
    rcases List.mem_cons.1 h with rfl | h
    · exact ⟨List.mem_cons_self, List.mem_cons_of_mem _ List.mem_cons_self⟩
    · have := pairs_mem r p h
      exact ⟨List.mem_cons_of_mem _ (List.mem_cons_of_mem _ this.1), List.mem_cons_of_mem _ (List.mem_cons_of_mem _ this.2)⟩

set_option maxHeartbeats 1600000 in
theorem readRuns_any {w : World} {bv : Value} {l : List UInt8} (h : Holds w bv (u8s l)) (hl : l.length ≤ 300000) :
    Calls Try.prog 53 #[bv] w fun e w' => (∃ acc, pairsBad l = false ∧ unr (pairsOf (numsOf l).1) = some acc ∧ ∃ v, e = .returned v ∧ Hid (w'.ownsRow w.heap.size 44 1 v acc.length (u64s acc) ∧ Below w.heap.size w w')) ∨ ((pairsBad l = true ∨ unr (pairsOf (numsOf l).1) = none) ∧ e = .panicked corrupt ∧ Below w.heap.size w w') := by
  have hmix : Try.prog.follows .mixedOrders = true := by kernel_rfl
  have H := Lib.hid h
  obtain ⟨a, c, hv, hc⟩ := h.form
  rw [u8s_len] at hv
  subst hv
  clear h hc
  refine calls_of_wpFor Try.func53 rfl ?_
  simp only [Try.ntmps53, List.size_toArray, List.length_cons, List.length_nil, Nat.reduceAdd, Nat.reduceSub, Array.replicate_succ, Array.replicate_zero, List.push_toArray, List.append_toArray, List.nil_append, List.cons_append]
  refine wpFor_then ?_
  gi_wp2_with fail
  refine wpFor_then ?_
  gi_wp2_with fail
  refine wpFor_seq (wpFor_then ?_)
  gi_wp2_with fail
  refine ⟨trivial, rfl, (callsIn_wide.2 (pairs_any _ _ _ _)).mono ?_⟩
  rintro e w' ⟨rfl, rfl⟩
  gi_wp2_with fail
  refine wpFor_block ?_
  have hJ0 : RunJ w (pairsOf (numsOf l).1) (.slice a l.length c) 0 ((w.alloc (Obj.cells #[Value.slice none 0 0] 46)).alloc (Obj.cells #[Value.slice a l.length c] 28)) := by
    have a1 : ((w.alloc (Obj.cells #[Value.slice none 0 0] 46)).alloc (Obj.cells #[Value.slice a l.length c] 28)).heap[w.heap.size]? = some (Obj.cells #[Value.slice none 0 0] 46 (0, 0)) := (Below.heap_alloc _ _ _ (by simp)).trans (alloc1 w _)
    have a2 : ((w.alloc (Obj.cells #[Value.slice none 0 0] 46)).alloc (Obj.cells #[Value.slice a l.length c] 28)).heap[w.heap.size + 1]? = some (Obj.cells #[Value.slice a l.length c] 28 (0, 0)) := by
      have := alloc1 (w.alloc (Obj.cells #[Value.slice none 0 0] 46)) (Obj.cells #[Value.slice a l.length c] 28)
      rwa [World.size_alloc] at this
    exact ⟨⟨_, [], rfl, a1, World.ownsRow_nil _ _ _ _⟩, a2, ((Below.refl _ _).alloc (Nat.le_refl _) _).alloc (by simp) _⟩
  have hps : ((w.alloc (Obj.cells #[Value.slice none 0 0] 46)).alloc (Obj.cells #[Value.slice a l.length c] 28)).heap.size = w.heap.size + 2 := by simp
  generalize (w.alloc (Obj.cells #[Value.slice none 0 0] 46)).alloc (Obj.cells #[Value.slice a l.length c] 28) = W2 at *
  have HP := Lib.hid hps
  have hbd := nums_bd l
  have hseq := pairs_seq (w.heap.size + 1) a l.length c l (by omega)
  obtain ⟨ps, hpp⟩ : ∃ ps, pairsOf (numsOf l).1 = ps := ⟨_, rfl⟩
  have HU : Hid (∀ p ∈ ps, p.1 < 18446744073709551616 ∧ p.2 < 18446744073709551616) := Lib.hid (fun p hp => by
    rw [← hpp] at hp
    have := pairs_mem _ p hp
    exact ⟨hbd.2 _ this.1, hbd.2 _ this.2⟩)
  rw [hpp] at hJ0 hseq ⊢
  generalize pairsBad l = bad at hseq ⊢
  have HLN := Lib.hid hl
  clear hpp hbd hl
  refine rangeP_law Try.func53 (gf := 66) (lb := #[Value.pointer (some { block := w.heap.size + 1, off := 0 })]) rfl (enters_of Try.func66 (by kernel_rfl) rfl)
    (m := 6) (encs := ps.map pairE) (fun x hx => by obtain ⟨p, _, rfl⟩ := List.mem_map.1 hx; rfl) hseq
    (RunJ w ps (.slice a l.length c)) (fun ch X => ((bad = true ∨ unr ps = none) ∧ ch = corrupt) ∧ Below w.heap.size w X) (by rw [hps]; exact RunJ.ab) ?hJp (fun k X h => ⟨by rw [cell_of_row _ _ _ _ _ _ h.box]; rfl, H.out.below h.below⟩) hJ0
    (fun s X => RunJ w ps (.slice a l.length c) s.1 X ∧ ∃ u t, ps[s.1]? = some (u, t) ∧
      s.2 = { tmps := #[Value.slice a l.length c, undef, Value.slice none 0 0,
          Value.pointer (some { block := w.heap.size, off := 0 }), Value.int IntKind.u64 (u : Int), Value.int IntKind.u64 (t : Int),
          undef, Value.slice a l.length c,
          Value.func (Fn.func 66) #[] #[Value.pointer (some { block := w.heap.size + 1, off := 0 })],
          Value.int IntKind.u64 (u : Int), Value.int IntKind.u64 (t : Int), undef, undef, undef, undef, undef, undef, undef, undef,
          undef, undef, undef, undef, undef, undef, undef, undef, undef, undef, undef, undef, undef, undef, undef,
          undef, undef, undef, undef, undef, undef, undef, undef, undef, undef, undef, undef], defers := [] }) ?hM ?assign ?body (fun hf X h => ⟨⟨.inl hf, rfl⟩, h.below⟩) ?done ?pan
  case hJp =>
    rw [hps]
    intro s X Y row h hg hr
    exact ⟨h.1, h.2.trans ⟨hg.os, hg.tape, hg.output, hg.size, fun b hb => hg.block b (by have := h.2.size; omega) (fun e => by have := (hr b e.symm).1; omega)⟩⟩
  case hM =>
    rw [hps]
    intro s X Y row h hg hr
    exact ⟨RunJ.ab s.1 X Y row h.1 hg hr, h.2⟩
  case assign =>
    intro l' q hq X K h hK
    have hq2 : q < ps.length := by simpa using hq
    obtain ⟨u, t, e2⟩ : ∃ u t, ps[q] = (u, t) := ⟨_, _, rfl⟩
    have e : (ps.map pairE)[q] = #[Value.int .u64 (u : Int), Value.int .u64 (t : Int)] := by rw [List.getElem_map, e2]; rfl
    have hget : ps[q]? = some (u, t) := by rw [← e2]; exact List.getElem?_eq_getElem hq2
    rw [e]
    have HK := Lib.hid hK
    have HG := Lib.hid hget
    have HP2 := Lib.hid h
    clear hK e hget h e2
    simp only [List.zip_toArray, List.zip_cons_cons, List.zip_nil_right, List.foldl_toArray, List.foldl_cons, List.foldl_nil, List.setIfInBounds_toArray, List.set_cons_succ, List.set_cons_zero]
    gi_wp2
    exact HK.out _ _ (Held.refl _ _ _) ⟨HP2.out, u, t, HG.out, rfl⟩
  case body =>
    rintro l' q hq a₁ X ⟨h, u, t, hget, rfl⟩ hsz
    obtain ⟨v, acc, hacc, hb, hrow⟩ := h.row
    have hub := HU.out _ (List.mem_of_getElem? hget)
    have hL := unr_len hacc
    have hcell : X.cell? ⟨w.heap.size, 0, none⟩ = some v := by rw [cell_of_row _ _ _ _ _ _ hb]; rfl
    have hfr := free_of_row hb 0
    rw [hps] at hsz
    have hJp : ∀ X', Below w.heap.size w X' → (acc.getLast? = some (UInt64.ofNat u) ∨ t = 0 ∨ 100000 - acc.length < t) → (bad = true ∨ unr ps = none) ∧ Below w.heap.size w X' := fun X' hX hc => ⟨.inr (unr_take (k := q + 1) (by
      obtain ⟨hlt, hg2⟩ := List.getElem?_eq_some_iff.1 hget
      rw [List.take_succ_eq_append_getElem hlt, hg2, unr_snoc, hacc, unrStep, if_pos hc])), hX⟩
    obtain ⟨va, vc, hv, hvc⟩ := ownsRow_form hrow
    obtain ⟨L, hLe⟩ : ∃ L, acc.length = L := ⟨_, rfl⟩
    rw [hLe] at hrow hL hv hvc
    subst hv
    have HLE := Lib.hid hLe
    have HJP := Lib.hid hJp
    have HX := Lib.hid h
    have HROW := Lib.hid hrow
    have HB := Lib.hid hb
    have HACC := Lib.hid hacc
    have HGET := Lib.hid hget
    have HUB := Lib.hid hub
    have HSZ := Lib.hid hsz
    clear hJp h hrow hb hacc hget hub hsz hLe
    by_cases hz : L = 0
    · have t1 : decide (((0 : Nat) : Int) > 0) = false := rfl
      have hnl : ¬ acc.getLast? = some (UInt64.ofNat u) := by rw [List.eq_nil_of_length_eq_zero (HLE.out.trans hz)]; intro h; cases h
      subst hz
      by_cases h0 : t = 0
      · have t2 : ((t : Int) == 0) = true := by rw [h0]; rfl
        gi_wp2_with fail
        exact ⟨rfl, Held.refl _ _ _, ⟨(HJP.out _ HX.out.below (.inr (.inl h0))).1, rfl⟩, HX.out.below⟩
      · have t2 : ((t : Int) == 0) = false := by rw [beq_eq_false_iff_ne]; omega
        by_cases h1 : 100000 - 0 < t
        · have t3 : decide ((t : Int) > 100000) = true := decide_eq_true (by omega)
          have t4 : decide ((100000 : Int) < (t : Int)) = true := decide_eq_true (by omega)
          gi_wp2_with fail
          exact ⟨rfl, Held.refl _ _ _, ⟨(HJP.out _ HX.out.below (.inr (.inr (by rw [HLE.out]; exact h1)))).1, rfl⟩, HX.out.below⟩
        · have t3 : decide ((t : Int) > 100000) = false := decide_eq_false (by omega)
          have t4 : decide ((100000 : Int) < (t : Int)) = false := decide_eq_false (by omega)
          have hn : ¬ (acc.getLast? = some (UInt64.ofNat u) ∨ t = 0 ∨ 100000 - acc.length < t) := by rw [HLE.out]; rintro (h | h | h) <;> contradiction
          have ht : (t : Int) ≤ 100000 := by omega
          have hwr : IntKind.i64.wrap (t : Int) = (t : Int) := IntWalk.i64_in _ (by omega)
          have hU : (UInt64.ofNat u).toNat = u := by rw [UInt64.toNat_ofNat']; exact Nat.mod_eq_of_lt HUB.out.1
          have STEP : Hid (∀ w2 sv, Below (X.heap.size + 1) (X.drew.alloc (.cells #[.int .u64 (u : Int)] 44)) w2 → Holds w2 sv (u64s (List.replicate t (UInt64.ofNat u))) →
              ∃ v2 w3, (∃ ba bn bc, v2 = .slice ba bn bc) ∧ Hid (∀ ty, (Builtin.append_ #[46, 46] ty #[.slice va 0 vc, sv]).run Try.prog w2 = .ok v2 w3) ∧ w2.cell? ⟨w.heap.size, 0, none⟩ = some (.slice va 0 vc) ∧
                w3.cell? ⟨w.heap.size, 0, none⟩ = some (.slice va 0 vc) ∧ w3.frozen? ⟨w.heap.size, 0, none⟩ = false ∧ Hid (∀ a', Exit.inBlock 1 (goesP W2.heap.size (6 + 2) (RunJ w ps (.slice a l.length c) (q + 1)) (fun ch X => ((bad = true ∨ unr ps = none) ∧ ch = corrupt) ∧ Below w.heap.size w X) X) .normal a' (w3.setCell ⟨w.heap.size, 0, none⟩ v2))) := Lib.hid (fun w2 sv h1 h2 => by
            obtain ⟨v2, w3, r0, r1, r2, r3, r4, r5⟩ := HX.out.step HGET.out HACC.out hn HB.out (by rw [HLE.out]; exact HROW.out) (by have := HSZ.out; omega) (by rw [hU]; exact h1) h2
            exact ⟨v2, w3, r0, r1, r2, r3, r4, Lib.hid (fun a' => by rw [hps]; exact r5.out)⟩)
          have hXs : (X.drew.alloc (.cells #[.int .u64 (u : Int)] 44)).heap.size = X.heap.size + 1 := World.size_alloc X.drew _
          have KR : Hid (Calls Try.prog 62 #[.slice (some ⟨X.heap.size, 0, none⟩) 1 1, .int .i64 (t : Int)] (X.drew.alloc (.cells #[.int .u64 (u : Int)] 44)) fun e w' => ∃ v, e = .returned v ∧ Hid (Holds w' v (u64s (List.replicate t (UInt64.ofNat u))) ∧ Below (X.heap.size + 1) (X.drew.alloc (.cells #[.int .u64 (u : Int)] 44)) w')) := Lib.hid (by
            rw [← hXs]
            exact Repeat_one (UInt64.ofNat u) t (by omega) (by omega) (by rw [hU, cell_of_row _ _ _ _ _ _ (show (X.drew.alloc (.cells #[.int .u64 (u : Int)] 44)).heap[X.heap.size]? = _ from alloc1 X.drew _)]; rfl))
          have hcell2 : (X.alloc (.cells #[.int .u64 (u : Int)] 44)).cell? ⟨w.heap.size, 0, none⟩ = some (.slice va 0 vc) := by
            rw [((Below.refl X.heap.size X).alloc (Nat.le_refl _) _).cell (p := ⟨w.heap.size, 0, none⟩) (by have := HSZ.out; show w.heap.size < _; omega)]; exact hcell
          clear hXs
          gi_wp2_with fail
          refine round_region_any hmix (by decide +kernel) (fun ⟨_, _, h⟩ => h) ?_
          change wpAny _ _ _ _ _ _ _ (World.drew _)
          refine wpAny_take (i := 1) (v := .int .u64 (u : Int)) rfl (by kernel_rfl) (by kernel_rfl) (by kernel_rfl) (fun _ _ _ h => h) (Or.inl ⟨by rfl, fun w => by go_simp⟩) ?_
          refine wpAny_take (i := 3) (v := .int .u64 (t : Int)) rfl (by kernel_rfl) (by kernel_rfl) (by kernel_rfl) (fun _ _ _ h => h) (Or.inl ⟨by rfl, fun w => by go_simp⟩) ?_
          refine wpAny_take (i := 4) (v := .int .i64 (t : Int)) rfl (by kernel_rfl) (by kernel_rfl) (by kernel_rfl) (fun _ _ _ h => h) (Or.inl ⟨by rfl, fun w => by go_simp⟩) ?_
          refine wpAny_ready (rs := [0, 2]) (by kernel_rfl) (by simp) ?_
          refine AllReady.cons rfl (fun K hK => ?_) (AllReady.cons rfl (fun K hK => ?_) AllReady.nil)
          · go_simp
            refine hK _ _ ?_
            clear hK K
            refine wpAny_ready (rs := [2]) (by kernel_rfl) (by simp) ?_
            refine AllReady.cons rfl (fun K hK => ?_) AllReady.nil
            go_simp
            refine hK _ _ ?_
            clear hK K
            refine wpAny_ready (rs := [5]) (by kernel_rfl) (by simp) ?_
            refine AllReady.cons rfl (fun K hK => ?_) AllReady.nil
            go_simp
            refine (KR.out).mono ?_
            rintro e w2 ⟨sv, rfl, hR⟩
            obtain ⟨v2, w3, ⟨ba, bn, bc, rfl⟩, HRUN, hcw2, hcw3, hfw3, HST⟩ := STEP.out w2 sv hR.out.2 hR.out.1
            refine hK _ _ ?_
            clear hK K hR
            refine wpAny_ready (rs := [6]) (by kernel_rfl) (by simp) ?_
            refine AllReady.cons rfl (fun K hK => ?_) AllReady.nil
            refine step_append_run rfl (.tmp 38) (.tmp 43) 46 rfl rfl rfl (HRUN.out _) ?_
            refine hK _ _ ?_
            clear hK K
            refine wpAny_ready (rs := [7]) (by kernel_rfl) (by simp) ?_
            refine AllReady.cons rfl (fun K hK => ?_) AllReady.nil
            go_simp
            refine hK _ _ ?_
            clear hK K
            exact wpAny_done (by kernel_rfl) (HST.out _) _
          · go_simp
            refine hK _ _ ?_
            clear hK K
            refine wpAny_ready (rs := [0, 5]) (by kernel_rfl) (by simp) ?_
            refine AllReady.cons rfl (fun K hK => ?_) (AllReady.cons rfl (fun K hK => ?_) AllReady.nil)
            · go_simp
              refine hK _ _ ?_
              clear hK K
              refine wpAny_ready (rs := [5]) (by kernel_rfl) (by simp) ?_
              refine AllReady.cons rfl (fun K hK => ?_) AllReady.nil
              go_simp
              refine (KR.out).mono ?_
              rintro e w2 ⟨sv, rfl, hR⟩
              obtain ⟨v2, w3, ⟨ba, bn, bc, rfl⟩, HRUN, hcw2, hcw3, hfw3, HST⟩ := STEP.out w2 sv hR.out.2 hR.out.1
              refine hK _ _ ?_
              clear hK K hR
              refine wpAny_ready (rs := [6]) (by kernel_rfl) (by simp) ?_
              refine AllReady.cons rfl (fun K hK => ?_) AllReady.nil
              refine step_append_run rfl (.tmp 38) (.tmp 43) 46 rfl rfl rfl (HRUN.out _) ?_
              refine hK _ _ ?_
              clear hK K
              refine wpAny_ready (rs := [7]) (by kernel_rfl) (by simp) ?_
              refine AllReady.cons rfl (fun K hK => ?_) AllReady.nil
              go_simp
              refine hK _ _ ?_
              clear hK K
              exact wpAny_done (by kernel_rfl) (HST.out _) _
            · go_simp
              refine (KR.out).mono ?_
              rintro e w2 ⟨sv, rfl, hR⟩
              obtain ⟨v2, w3, ⟨ba, bn, bc, rfl⟩, HRUN, hcw2, hcw3, hfw3, HST⟩ := STEP.out w2 sv hR.out.2 hR.out.1
              refine hK _ _ ?_
              clear hK K hR
              refine wpAny_ready (rs := [0]) (by kernel_rfl) (by simp) ?_
              refine AllReady.cons rfl (fun K hK => ?_) AllReady.nil
              go_simp
              refine hK _ _ ?_
              clear hK K
              refine wpAny_ready (rs := [6]) (by kernel_rfl) (by simp) ?_
              refine AllReady.cons rfl (fun K hK => ?_) AllReady.nil
              refine step_append_run rfl (.tmp 38) (.tmp 43) 46 rfl rfl rfl (HRUN.out _) ?_
              refine hK _ _ ?_
              clear hK K
              refine wpAny_ready (rs := [7]) (by kernel_rfl) (by simp) ?_
              refine AllReady.cons rfl (fun K hK => ?_) AllReady.nil
              go_simp
              refine hK _ _ ?_
              clear hK K
              exact wpAny_done (by kernel_rfl) (HST.out _) _
    · have t1 : decide ((L : Int) > 0) = true := decide_eq_true (by omega)
      have hq1 : L - 1 < acc.length := by have := HLE.out; omega
      have hHo : Holds X (.slice va L vc) (u64s acc) := Holds.of_row (by rw [u64s_len, HLE.out]; exact HROW.out)
      obtain ⟨ad, rfl⟩ := hHo.ptr (by omega)
      have hlast : X.cell? (ad.add (L - 1)) = some (.int .u64 (acc[L - 1].toNat : Int)) := hHo.cell (by rw [u64s, List.getElem?_map, List.getElem?_eq_getElem hq1]; rfl)
      have hgl : acc.getLast? = some (UInt64.ofNat u) ↔ acc[L - 1].toNat = u := by
        rw [List.getLast?_eq_getElem?, HLE.out, List.getElem?_eq_getElem hq1, Option.some.injEq]
        constructor
        · intro h; rw [h, UInt64.toNat_ofNat']; exact Nat.mod_eq_of_lt HUB.out.1
        · intro h; rw [← h]; exact (UInt64.ofNat_toNat).symm
      generalize acc[L - 1].toNat = z at hlast hgl
      have HGL := Lib.hid hgl
      clear hgl hHo
      by_cases hzu : z = u
      · have t5 : ((z : Int) == (u : Int)) = true := by rw [hzu]; exact beq_self_eq_true _
        have HC : Hid (acc.getLast? = some (UInt64.ofNat u)) := Lib.hid (HGL.out.2 hzu)
        clear hzu
        gi_wp2_with fail
        exact ⟨rfl, Held.refl _ _ _, ⟨(HJP.out _ HX.out.below (.inl HC.out)).1, rfl⟩, HX.out.below⟩
      · have t5 : ((z : Int) == (u : Int)) = false := by rw [beq_eq_false_iff_ne]; omega
        have hnl : ¬ acc.getLast? = some (UInt64.ofNat u) := fun h => hzu (HGL.out.1 h)
        clear hzu
        by_cases h0 : t = 0
        · have t2 : ((t : Int) == 0) = true := by rw [h0]; rfl
          gi_wp2_with fail
          exact ⟨rfl, Held.refl _ _ _, ⟨(HJP.out _ HX.out.below (.inr (.inl h0))).1, rfl⟩, HX.out.below⟩
        · have t2 : ((t : Int) == 0) = false := by rw [beq_eq_false_iff_ne]; omega
          by_cases h1 : 100000 - L < t
          · have t3 : decide ((t : Int) > 100000 - (L : Int)) = true := decide_eq_true (by omega)
            have t4 : decide (100000 - (L : Int) < (t : Int)) = true := decide_eq_true (by omega)
            gi_wp2_with fail
            exact ⟨rfl, Held.refl _ _ _, ⟨(HJP.out _ HX.out.below (.inr (.inr (by rw [HLE.out]; exact h1)))).1, rfl⟩, HX.out.below⟩
          · have t3 : decide ((t : Int) > 100000 - (L : Int)) = false := decide_eq_false (by omega)
            have t4 : decide (100000 - (L : Int) < (t : Int)) = false := decide_eq_false (by omega)
            have hn : ¬ (acc.getLast? = some (UInt64.ofNat u) ∨ t = 0 ∨ 100000 - acc.length < t) := by rw [HLE.out]; rintro (h | h | h) <;> contradiction
            have ht : (t : Int) ≤ 100000 := by omega
            have hwr : IntKind.i64.wrap (t : Int) = (t : Int) := IntWalk.i64_in _ (by omega)
            have hU : (UInt64.ofNat u).toNat = u := by rw [UInt64.toNat_ofNat']; exact Nat.mod_eq_of_lt HUB.out.1
            have STEP : Hid (∀ w2 sv, Below (X.heap.size + 1) (X.drew.alloc (.cells #[.int .u64 (u : Int)] 44)) w2 → Holds w2 sv (u64s (List.replicate t (UInt64.ofNat u))) →
                ∃ v2 w3, (∃ ba bn bc, v2 = .slice ba bn bc) ∧ Hid (∀ ty, (Builtin.append_ #[46, 46] ty #[.slice (some ad) L vc, sv]).run Try.prog w2 = .ok v2 w3) ∧ w2.cell? ⟨w.heap.size, 0, none⟩ = some (.slice (some ad) L vc) ∧
                  w3.cell? ⟨w.heap.size, 0, none⟩ = some (.slice (some ad) L vc) ∧ w3.frozen? ⟨w.heap.size, 0, none⟩ = false ∧ Hid (∀ a', Exit.inBlock 1 (goesP W2.heap.size (6 + 2) (RunJ w ps (.slice a l.length c) (q + 1)) (fun ch X => ((bad = true ∨ unr ps = none) ∧ ch = corrupt) ∧ Below w.heap.size w X) X) .normal a' (w3.setCell ⟨w.heap.size, 0, none⟩ v2))) := Lib.hid (fun w2 sv h1 h2 => by
              obtain ⟨v2, w3, r0, r1, r2, r3, r4, r5⟩ := HX.out.step HGET.out HACC.out hn HB.out (by rw [HLE.out]; exact HROW.out) (by have := HSZ.out; omega) (by rw [hU]; exact h1) h2
              exact ⟨v2, w3, r0, r1, r2, r3, r4, Lib.hid (fun a' => by rw [hps]; exact r5.out)⟩)
            have hXs : (X.drew.alloc (.cells #[.int .u64 (u : Int)] 44)).heap.size = X.heap.size + 1 := World.size_alloc X.drew _
            have KR : Hid (Calls Try.prog 62 #[.slice (some ⟨X.heap.size, 0, none⟩) 1 1, .int .i64 (t : Int)] (X.drew.alloc (.cells #[.int .u64 (u : Int)] 44)) fun e w' => ∃ v, e = .returned v ∧ Hid (Holds w' v (u64s (List.replicate t (UInt64.ofNat u))) ∧ Below (X.heap.size + 1) (X.drew.alloc (.cells #[.int .u64 (u : Int)] 44)) w')) := Lib.hid (by
              rw [← hXs]
              exact Repeat_one (UInt64.ofNat u) t (by omega) (by omega) (by rw [hU, cell_of_row _ _ _ _ _ _ (show (X.drew.alloc (.cells #[.int .u64 (u : Int)] 44)).heap[X.heap.size]? = _ from alloc1 X.drew _)]; rfl))
            have hcell2 : (X.alloc (.cells #[.int .u64 (u : Int)] 44)).cell? ⟨w.heap.size, 0, none⟩ = some (.slice (some ad) L vc) := by
              rw [((Below.refl X.heap.size X).alloc (Nat.le_refl _) _).cell (p := ⟨w.heap.size, 0, none⟩) (by have := HSZ.out; show w.heap.size < _; omega)]; exact hcell
            clear hXs
            gi_wp2_with fail
            refine round_region_any hmix (by decide +kernel) (fun ⟨_, _, h⟩ => h) ?_
            change wpAny _ _ _ _ _ _ _ (World.drew _)
            refine wpAny_take (i := 1) (v := .int .u64 (u : Int)) rfl (by kernel_rfl) (by kernel_rfl) (by kernel_rfl) (fun _ _ _ h => h) (Or.inl ⟨by rfl, fun w => by go_simp⟩) ?_
            refine wpAny_take (i := 3) (v := .int .u64 (t : Int)) rfl (by kernel_rfl) (by kernel_rfl) (by kernel_rfl) (fun _ _ _ h => h) (Or.inl ⟨by rfl, fun w => by go_simp⟩) ?_
            refine wpAny_take (i := 4) (v := .int .i64 (t : Int)) rfl (by kernel_rfl) (by kernel_rfl) (by kernel_rfl) (fun _ _ _ h => h) (Or.inl ⟨by rfl, fun w => by go_simp⟩) ?_
            refine wpAny_ready (rs := [0, 2]) (by kernel_rfl) (by simp) ?_
            refine AllReady.cons rfl (fun K hK => ?_) (AllReady.cons rfl (fun K hK => ?_) AllReady.nil)
            · go_simp
              refine hK _ _ ?_
              clear hK K
              refine wpAny_ready (rs := [2]) (by kernel_rfl) (by simp) ?_
              refine AllReady.cons rfl (fun K hK => ?_) AllReady.nil
              go_simp
              refine hK _ _ ?_
              clear hK K
              refine wpAny_ready (rs := [5]) (by kernel_rfl) (by simp) ?_
              refine AllReady.cons rfl (fun K hK => ?_) AllReady.nil
              go_simp
              refine (KR.out).mono ?_
              rintro e w2 ⟨sv, rfl, hR⟩
              obtain ⟨v2, w3, ⟨ba, bn, bc, rfl⟩, HRUN, hcw2, hcw3, hfw3, HST⟩ := STEP.out w2 sv hR.out.2 hR.out.1
              refine hK _ _ ?_
              clear hK K hR
              refine wpAny_ready (rs := [6]) (by kernel_rfl) (by simp) ?_
              refine AllReady.cons rfl (fun K hK => ?_) AllReady.nil
              refine step_append_run rfl (.tmp 38) (.tmp 43) 46 rfl rfl rfl (HRUN.out _) ?_
              refine hK _ _ ?_
              clear hK K
              refine wpAny_ready (rs := [7]) (by kernel_rfl) (by simp) ?_
              refine AllReady.cons rfl (fun K hK => ?_) AllReady.nil
              go_simp
              refine hK _ _ ?_
              clear hK K
              exact wpAny_done (by kernel_rfl) (HST.out _) _
            · go_simp
              refine hK _ _ ?_
              clear hK K
              refine wpAny_ready (rs := [0, 5]) (by kernel_rfl) (by simp) ?_
              refine AllReady.cons rfl (fun K hK => ?_) (AllReady.cons rfl (fun K hK => ?_) AllReady.nil)
              · go_simp
                refine hK _ _ ?_
                clear hK K
                refine wpAny_ready (rs := [5]) (by kernel_rfl) (by simp) ?_
                refine AllReady.cons rfl (fun K hK => ?_) AllReady.nil
                go_simp
                refine (KR.out).mono ?_
                rintro e w2 ⟨sv, rfl, hR⟩
                obtain ⟨v2, w3, ⟨ba, bn, bc, rfl⟩, HRUN, hcw2, hcw3, hfw3, HST⟩ := STEP.out w2 sv hR.out.2 hR.out.1
                refine hK _ _ ?_
                clear hK K hR
                refine wpAny_ready (rs := [6]) (by kernel_rfl) (by simp) ?_
                refine AllReady.cons rfl (fun K hK => ?_) AllReady.nil
                refine step_append_run rfl (.tmp 38) (.tmp 43) 46 rfl rfl rfl (HRUN.out _) ?_
                refine hK _ _ ?_
                clear hK K
                refine wpAny_ready (rs := [7]) (by kernel_rfl) (by simp) ?_
                refine AllReady.cons rfl (fun K hK => ?_) AllReady.nil
                go_simp
                refine hK _ _ ?_
                clear hK K
                exact wpAny_done (by kernel_rfl) (HST.out _) _
              · go_simp
                refine (KR.out).mono ?_
                rintro e w2 ⟨sv, rfl, hR⟩
                obtain ⟨v2, w3, ⟨ba, bn, bc, rfl⟩, HRUN, hcw2, hcw3, hfw3, HST⟩ := STEP.out w2 sv hR.out.2 hR.out.1
                refine hK _ _ ?_
                clear hK K hR
                refine wpAny_ready (rs := [0]) (by kernel_rfl) (by simp) ?_
                refine AllReady.cons rfl (fun K hK => ?_) AllReady.nil
                go_simp
                refine hK _ _ ?_
                clear hK K
                refine wpAny_ready (rs := [6]) (by kernel_rfl) (by simp) ?_
                refine AllReady.cons rfl (fun K hK => ?_) AllReady.nil
                refine step_append_run rfl (.tmp 38) (.tmp 43) 46 rfl rfl rfl (HRUN.out _) ?_
                refine hK _ _ ?_
                clear hK K
                refine wpAny_ready (rs := [7]) (by kernel_rfl) (by simp) ?_
                refine AllReady.cons rfl (fun K hK => ?_) AllReady.nil
                go_simp
                refine hK _ _ ?_
                clear hK K
                exact wpAny_done (by kernel_rfl) (HST.out _) _
  case done =>
    intro hfin X h hX hD
    rw [List.length_map] at h
    obtain ⟨v, acc, hacc, hb, hrow⟩ := h.row
    rw [List.take_length] at hacc
    have hcell : X.cell? ⟨w.heap.size, 0, none⟩ = some v := by rw [cell_of_row _ _ _ _ _ _ hb]; rfl
    have HX := Lib.hid (And.intro h hD)
    have HR := Lib.hid hrow
    have HF := Lib.hid hfin
    have HA := Lib.hid hacc
    clear h hD hb hrow hX hfin hacc
    show WpFor _ _ _ _ _ _
    refine .of_wpIn ?_
    gi_wp2_with fail
    refine leave_marks (v := v) (B := w.heap.size) (fun w' => by simp [results, Try.results53, go_sem]) _ X ⟨_, rfl, by omega, by rw [← hps]; exact HX.out.2, (fun _ h => nomatch h), trivial⟩ (fun W' hs => ?_)
    refine .inl ⟨acc, HF.out, HA.out, v, rfl, Lib.hid ⟨?_, HX.out.1.below.trans hs.below⟩⟩
    refine ownsRow_of_block (ownsRow_rebase HR.out (fun g hg => by have := (HR.out.lt g hg).1; omega)) (fun g hg => hs.block g (.inr (fun e => ?_)))
    have := own_cells HR.out g _ hg e
    cases this
  case pan =>
    rintro ch X ⟨⟨hf, rfl⟩, hbel⟩ hD
    exact leave_mark_panic hD (.inr ⟨hf, rfl, ⟨hbel.os, hbel.tape, hbel.output, by simp; exact hbel.size, fun k hk => (World.putObj_heap_other (by omega)).trans (hbel.block k hk)⟩⟩)
theorem unr_inner_ok {w : World} {b : Nat} {x : Value} (h1 : w.cell? ⟨b, 0, none⟩ = some x) {Q : Value → World → Prop}
    (h : Calls Try.prog 53 #[x] w fun e w' => ∃ v, e = .returned v ∧ Hid (Q v w')) :
    Calls Try.prog 52 #[.pointer (some ⟨b, 0, none⟩)] w fun e w' => ∃ v, e = .returned v ∧ Hid (Q v w') := by
  have HC := Lib.hid h
  clear h
  go_enter Try.func52, Try.ntmps52
  go_wp2_with fail
  refine HC.out.mono ?_
  rintro e w' ⟨v, rfl, hv⟩
  go_wp2
  simp [bodyPost, results, Try.results52, hv]
theorem unr_inner_panic {w : World} {b : Nat} {x : Value} (h1 : w.cell? ⟨b, 0, none⟩ = some x) {Q : World → Prop} {ch : List PanicEntry}
    (h : Calls Try.prog 53 #[x] w fun e w' => e = .panicked ch ∧ Q w') :
    Calls Try.prog 52 #[.pointer (some ⟨b, 0, none⟩)] w fun e w' => e = .panicked ch ∧ Q w' := by
  have HC := Lib.hid h
  clear h
  go_enter Try.func52, Try.ntmps52
  go_wp2_with fail
  refine HC.out.mono ?_
  rintro e w' ⟨rfl, hv⟩
  go_wp2
  simp [bodyPost, hv]
theorem enter_unr (args : Array Value) (w : World) : (callFunc 52 args).run Try.prog w = .ok (.enter 52 args) w := by kernel_rfl
/-- what Unruns answers: the numbers, or none and ErrCorrupt -/
def unrAns (bs : List UInt8) : List UInt64 × Int := if pairsBad bs then ([], 8) else match unr (pairsOf (numsOf bs).1) with | none => ([], 8) | some a => (a, 0)
theorem unrAns_ok {bs : List UInt8} {a : List UInt64} (h1 : pairsBad bs = false) (h2 : unr (pairsOf (numsOf bs).1) = some a) : unrAns bs = (a, 0) := by
  rw [unrAns, h1, h2]; rfl
theorem unrAns_bad {bs : List UInt8} (h : pairsBad bs = true ∨ unr (pairsOf (numsOf bs).1) = none) : unrAns bs = ([], 8) := by
  rw [unrAns]
  rcases h with h | h
  · rw [h]; rfl
  · rw [h]; split <;> rfl
set_option maxHeartbeats 800000 in
theorem Unruns_any {w : World} {v : Value} {l : List UInt8} (h : Holds w v (u8s l)) (hl : l.length ≤ 300000) :
    Calls Try.prog 44 #[v] w fun e w' => ∃ r, e = .returned (.tuple #[r, .int .i64 (unrAns l).2]) ∧ Hid (w'.ownsRow w.heap.size 44 1 r (unrAns l).1.length (u64s (unrAns l).1) ∧ Below w.heap.size w w') := by
  have hmf : ∀ (fn : Fn) (first cap : Array Value) (w : World), (Instr.makeFunc fn first cap).run Try.prog w = .ok (.func fn first cap) w := fun _ _ _ _ => rfl
  obtain ⟨a, c, hv, hc⟩ := h.form
  rw [u8s_len] at hv
  subst hv
  by_cases hgood : ∃ acc, pairsBad l = false ∧ unr (pairsOf (numsOf l).1) = some acc
  · obtain ⟨acc, hb, hacc⟩ := hgood
    rw [unrAns_ok hb hacc]
    have HF : Hid (Calls Try.prog 51 #[.func (.func 52) #[] #[.pointer (some ⟨w.heap.size, 0, none⟩)]] (w.alloc (.cells #[.slice a l.length c] 28))
        fun e w' => ∃ r, e = .returned (.tuple #[r, .int .i64 0]) ∧ Hid (w'.ownsRow w.heap.size 44 1 r acc.length (u64s acc) ∧ Below w.heap.size w w')) := by
      refine Lib.hid ((face_ok (k := acc.length) (xs := u64s acc) enter_unr fun W hW => ?_).mono ?_)
      · obtain ⟨h1, h4⟩ := box1 (by simpa using hW)
        refine unr_inner_ok h1 ((readRuns_any (h.below h4) hl).mono ?_)
        rintro e w' (⟨acc2, _, hacc2, r, rfl, hr⟩ | ⟨hx, _⟩)
        · rw [hacc] at hacc2
          cases hacc2
          exact ⟨r, rfl, hr⟩
        · rw [hb, hacc] at hx; rcases hx with hx | hx <;> cases hx
      · rintro e w' ⟨r, rfl, hv⟩
        refine ⟨r, rfl, Lib.hid ⟨ownsRow_rebase hv.out.1 fun g hg => ?_, ?_⟩⟩
        · have := ownsRow_ge hv.out.1 g hg
          simp at this
          omega
        · exact (box1 (by simpa using hv.out.2)).2
    clear h hb hacc
    go_enter Try.func44, Try.ntmps44
    go_wp2_with fail
    refine HF.out.mono ?_
    rintro e w' ⟨r, rfl, hv⟩
    go_wp2_with fail
    simp [bodyPost, results, Try.results44, go_sem]
    exact hv
  · have hbad : pairsBad l = true ∨ unr (pairsOf (numsOf l).1) = none := by
      cases hb : pairsBad l with
      | true => exact .inl rfl
      | false =>
        cases hu : unr (pairsOf (numsOf l).1) with
        | none => exact .inr rfl
        | some acc => exact absurd ⟨acc, hb, hu⟩ hgood
    rw [unrAns_bad hbad]
    have HF : Hid (Calls Try.prog 51 #[.func (.func 52) #[] #[.pointer (some ⟨w.heap.size, 0, none⟩)]] (w.alloc (.cells #[.slice a l.length c] 28))
        fun e w' => e = .returned (.tuple #[.slice none 0 0, .int .i64 8]) ∧ Below w.heap.size w w') := by
      refine Lib.hid ((face_panic (n := 8) enter_unr fun W hW => ?_).mono ?_)
      · obtain ⟨h1, h4⟩ := box1 (by simpa using hW)
        refine unr_inner_panic h1 ((readRuns_any (h.below h4) hl).mono ?_)
        rintro e w' (⟨acc2, h5, h6, _⟩ | ⟨_, rfl, hr⟩)
        · exact absurd ⟨acc2, h5, h6⟩ hgood
        · exact ⟨rfl, hr⟩
      · rintro e w' ⟨rfl, hv⟩
        exact ⟨rfl, (box1 (by simpa using hv)).2⟩
    clear h hgood hbad
    go_enter Try.func44, Try.ntmps44
    go_wp2_with fail
    refine HF.out.mono ?_
    rintro e w' ⟨rfl, hv⟩
    go_wp2_with fail
    have HV := Lib.hid hv
    clear hv
    simp [bodyPost, results, Try.results44, go_sem]
    exact Lib.hid ⟨World.ownsRow_nil _ _ _ _, HV.out⟩
end Go.Proofs.Ytbijpjoljljlpaa
/- Contract of codec.Sum: a sum of 32 bits. Conditions: the table of 16 numbers reads as the program's text lays it. -/
set_option maxRecDepth 100000
namespace Go.Proofs.Ytbijpjoljljlpaa
open Go.RowKit Go.Maps Go.Sort

def quadL : List Nat := [0, 498536548, 997073096, 651767980, 1994146192, 1802195444, 1303535960, 1342533948, 3988292384, 4027552580, 3604390888, 3412177804, 2607071920, 2262029012, 2685067896, 3183342108]
def quad (i : Nat) : Nat := quadL.getD i 0
theorem quad_lt : ∀ i, i < 16 → quad i < 4294967296 := by decide

/-- the table lies where the program's text lays it -/
def Quads (w : World) : Prop := 0 < w.heap.size ∧ ∀ i, i < 16 → w.cell? ⟨0, i, none⟩ = some (.int .u32 (quad i : Int))
theorem Quads.below {w w' : World} {B : Nat} (h : Quads w) (hb : Below B w w') (hB : 0 < B) : Quads w' :=
  ⟨Nat.lt_of_lt_of_le h.1 hb.size, fun i hi => by rw [hb.cell (p := ⟨0, i, none⟩) hB]; exact h.2 i hi⟩

def sumStep (s : Nat) : Nat := s / 16 ^^^ quad (s % 16)
theorem sumStep_lt (s : Nat) (h : s < 4294967296) : sumStep s < 4294967296 := by
  unfold sumStep
  exact Nat.xor_lt_two_pow (n := 32) (by omega) (quad_lt _ (by omega))
def sumByte (s : Nat) (c : UInt8) : Nat := sumStep (sumStep (s ^^^ c.toNat))
theorem sumByte_lt (s : Nat) (c : UInt8) (h : s < 4294967296) : sumByte s c < 4294967296 := by
  have := c.toNat_lt
  exact sumStep_lt _ (sumStep_lt _ (Nat.xor_lt_two_pow (n := 32) (by omega) (by omega)))
def sumN (l : List UInt8) : Nat := 4294967295 - l.foldl sumByte 4294967295
theorem fold_lt (l : List UInt8) : ∀ s, s < 4294967296 → l.foldl sumByte s < 4294967296 := by
  induction l with
  | nil => exact fun s h => h
  | cons c r ih => exact fun s h => ih _ (sumByte_lt s c h)
theorem sum_example : sumN [49, 50, 51, 52, 53, 54, 55, 56, 57] = 3421780262 := by decide

theorem and15_u32 (s : Nat) (h : s < 4294967296) : bits .and .u32 (s : Int) 15 = ((s % 16 : Nat) : Int) := by
  rw [show (15 : Int) = 2 ^ 4 - 1 from rfl, bits_mask .u32 32 (Nat.le_refl _) wu32 4 (by decide) (s : Int) (by omega) (by omega)]
  simp
theorem step_walk (s : Nat) (h : s < 4294967296) : bits .xor .u32 ((s : Int) / 16) (quad (s % 16) : Int) = (sumStep s : Int) := by
  have := xor_u32 (s / 16) (quad (s % 16)) (by omega) (quad_lt _ (by omega))
  rw [show ((s / 16 : Nat) : Int) = (s : Int) / 16 by omega] at this
  exact this

end Go.Proofs.Ytbijpjoljljlpaa
/- The example of layer 2: as the document says it. Conditions: the table of Sum reads as the program's text lays it. -/
set_option maxRecDepth 100000
namespace Go.Proofs.Ytbijpjoljljlpaa
open Go.RowKit Go.Maps Go.Sort

theorem ex_pack : bytesN ((3 * 2 + 7) / 8) (bigN 3 (nats [5, 2])) = [21] := by decide
theorem ex_runs : runsB (runsOf [7, 7, 7, 1]) = [7, 3, 1, 1] := by
  have e : runsOf [7, 7, 7, 1] = [(7, 3), (1, 1)] := by decide
  rw [e]
  unfold runsB
  simp only [List.flatMap_cons, List.flatMap_nil]
  rw [dig_lo (show (7 : UInt64).toNat < 128 by decide), dig_lo (show 3 < 128 by decide), dig_lo (show (1 : UInt64).toNat < 128 by decide), dig_lo (show 1 < 128 by decide)]
  decide
theorem ex_delta : deltaL 0 [5, 3] = [10, 3] := by
  unfold deltaL deltaL deltaL
  have e1 : zigU (dlt 5 0) = 10 := by decide
  have e2 : zigU (dlt 3 5) = 3 := by decide
  rw [e1, e2, dig_lo (by decide), dig_lo (by decide)]
  decide
theorem bit5 : ∀ u ∈ ([5, 2] : List UInt64), Lib.bitLen u.toNat ≤ 3 := by decide
theorem lt5 : ∀ u ∈ ([5, 2] : List UInt64), u.toNat < 2 ^ 3 := by decide

theorem conv_new (w : World) (c : Array Value) (n m : Nat) : (convert 28 28 (.slice (some ⟨w.heap.size, 0, none⟩) n m)).run Try.prog (w.alloc (.cells c 5)) = .ok (.slice (some ⟨w.heap.size, 0, none⟩) n m) (w.alloc (.cells c 5 (c.size, c.size + 1))) := by
  have h := alloc1 w (.cells c 5)
  have hs : (w.alloc (.cells c 5)).shape? w.heap.size = some (5, c.size) := by unfold World.shape?; rw [h]
  simp [convert, run_underlying Try.underlying28, run_underlying Try.underlying5, markStringish, hs, freeze_new]

theorem new_holds (w : World) (c : Array Value) (t : TypeId) (fr : Nat × Nat) (l : List Value) (n : Nat) (hc : c.toList = l) (hn : n = l.length) : Holds (w.alloc (.cells c t fr)) (.slice (some ⟨w.heap.size, 0, none⟩) n n) l :=
  Holds.of_heap (alloc1 _ _) hc n n hn (Nat.le_refl _)
theorem below1 (w : World) (o : Obj) : Below w.heap.size w (w.alloc o) := (Below.refl _ _).alloc (Nat.le_refl _) _

/-- what holds the bytes l, made by the call that began in w -/
def Made (w : World) (w' : World) (v : Value) (l : List UInt8) : Prop := Holds w' v (u8s l) ∧ Below w.heap.size w w'

theorem same_lit {w : World} {v : Value} {l : List UInt8} (h : Holds w v (u8s l)) (c : Array Value) (n : Nat) (hc : c.toList = u8s l) (hn : n = l.length) :
    Calls Try.prog 17 #[v, .slice (some ⟨w.heap.size, 0, none⟩) n n] (w.alloc (.cells c 5)) fun r w' => r = .returned (.bool true) ∧ Hid (Below w.heap.size w w') :=
  (Same_any (h.below (below1 _ _)) (new_holds w c _ _ (u8s l) n hc (by rw [u8s_len]; exact hn))).mono fun _ _ ⟨h1, h2⟩ => ⟨by rw [h1, decide_eq_true rfl], h2 ▸ below1 _ _⟩
theorem pack_lit (w : World) : Calls Try.prog 24 #[.int .i64 3, .slice (some ⟨w.heap.size, 0, none⟩) 2 2] (w.alloc (.cells #[.int .u64 5, .int .u64 2] 44)) fun r w' => ∃ v, r = .returned (.tuple #[v, .int .i64 0]) ∧ Hid (Made w w' v [21]) :=
  (Pack_main (l := [5, 2]) (new_holds _ _ _ _ _ 2 rfl rfl) (by decide) 3 (by omega) bit5 lt5).mono fun _ _ ⟨v, h1, h2⟩ => ⟨v, h1, by
    have e1 := h2.out.1
    rw [show (3 * [(5 : UInt64), 2].length + 7) / 8 = (3 * 2 + 7) / 8 from rfl, ex_pack] at e1
    exact ⟨Holds.of_row (xs := u8s [21]) e1, (below1 w _).trans (h2.out.2.mono (by simp))⟩⟩
theorem runs_lit (w : World) : Calls Try.prog 38 #[.slice (some ⟨w.heap.size, 0, none⟩) 4 4] (w.alloc (.cells #[.int .u64 7, .int .u64 7, .int .u64 7, .int .u64 1] 44)) fun r w' => ∃ v, r = .returned v ∧ Hid (Made w w' v [7, 3, 1, 1]) :=
  (Runs_any (l := [7, 7, 7, 1]) (new_holds _ _ _ _ _ 4 rfl rfl) (by decide)).mono fun _ _ ⟨v, h1, h2⟩ => ⟨v, h1, by
    have e1 := h2.out.1
    rw [ex_runs] at e1
    exact ⟨Holds.of_row (xs := u8s [7, 3, 1, 1]) e1, (below1 w _).trans (h2.out.2.mono (by simp))⟩⟩
theorem delta_lit (w : World) : Calls Try.prog 40 #[.slice (some ⟨w.heap.size, 0, none⟩) 2 2] (w.alloc (.cells #[.int .i64 5, .int .i64 3] 3)) fun r w' => ∃ v, r = .returned v ∧ Hid (Made w w' v [10, 3]) :=
  (Deltas_any (l := [5, 3]) (new_holds _ _ _ _ _ 2 rfl rfl) (by decide)).mono fun _ _ ⟨v, h1, h2, h3⟩ => ⟨v, h1, by
    rw [ex_delta] at h2
    exact ⟨Holds.of_row (xs := u8s [10, 3]) h2, (below1 w _).trans (h3.mono (by simp))⟩⟩
theorem put_lit (w : World) : Calls Try.prog 13 #[.slice none 0 0, .int .u64 300] w fun r w' => ∃ v, r = .returned v ∧ Hid (Made w w' v [172, 2]) :=
  (Put_any (xs := []) (Holds.nil _) 300 (by omega) (by decide)).mono fun _ _ ⟨v, h1, h2, h3⟩ => ⟨v, h1, by
    rw [dig300] at h2
    exact ⟨Holds.of_row (xs := u8s [172, 2]) h2, h3⟩⟩
end Go.Proofs.Ytbijpjoljljlpaa
/- The walk of CodecShort: a number has one byte for each seven bits; a longer one is never read. Conditions: the table of Sum reads as the program's text lays it. -/
set_option maxRecDepth 100000
namespace Go.Proofs.Ytbijpjoljljlpaa
open Go.RowKit Go.Maps Go.Sort

theorem get_dig (r : List UInt8) (x : Nat) : ∀ (i U : Nat), i < 10 → x * 2 ^ (7 * i) < 18446744073709551616 → (0 < i → 0 < x) → getAt (dig x ++ r) i U = (U + x * 2 ^ (7 * i), i + (dig x).length) := by
  induction x using Nat.strongRecOn with
  | _ x ih =>
    intro i U hi hb h0
    have hp : 0 < 2 ^ (7 * i) := Nat.two_pow_pos _
    by_cases h : x < 128
    · rw [dig_lo h]
      have e : (UInt8.ofNat x).toNat = x := by simp; omega
      have h9 : ¬ (i = 9 ∧ 1 < (UInt8.ofNat x).toNat) := by
        rw [e]
        rintro ⟨rfl, h1⟩
        have := Nat.mul_le_mul_right (2 ^ (7 * 9)) (show 2 ≤ x by omega)
        omega
      rw [List.singleton_append, get_last _ _ _ _ hi (by rw [e]; omega) h9 (by rw [e]; exact h), e]
      rfl
    · have hi8 : i ≤ 8 := by
        rcases Nat.lt_or_ge i 9 with g | g
        · omega
        · obtain rfl : i = 9 := by omega
          have := Nat.mul_le_mul_right (2 ^ (7 * 9)) (show 128 ≤ x by omega)
          omega
      rw [dig_hi h, List.cons_append, get_more _ _ _ _ hi (by simp; omega)]
      have e : (UInt8.ofNat (x % 128 + 128)).toNat - 128 = x % 128 := by simp; omega
      have hpow : 2 ^ (7 * (i + 1)) = 128 * 2 ^ (7 * i) := by rw [show 7 * (i + 1) = 7 + 7 * i by omega, Nat.pow_add]
      have hsplit : x % 128 * 2 ^ (7 * i) + x / 128 * 2 ^ (7 * (i + 1)) = x * 2 ^ (7 * i) := by
        rw [hpow, ← Nat.mul_assoc, ← Nat.add_mul]
        congr 1
        omega
      rw [ih (x / 128) (by omega) (i + 1) _ (by omega) (by omega) (by omega), e]
      rw [Nat.add_assoc U, hsplit]
      simp
      omega
theorem get_dig0 (r : List UInt8) {u : Nat} (hu : u < 18446744073709551616) : getN (dig u ++ r) = (u, (dig u).length) := by
  unfold getN
  rw [get_dig r u 0 0 (by omega) (by simpa using hu) (by omega)]
  simp
/-- bytes that all go on, and a 0: no number -/
theorem get_pad (l : List UInt8) (h : ∀ c ∈ l, 128 ≤ c.toNat) : ∀ (i U : Nat), 0 < i + l.length → getAt (l ++ [0]) i U = (0, 0) := by
  induction l with
  | nil =>
    intro i U hi
    by_cases h10 : 10 ≤ i
    · rw [List.nil_append, getAt, if_pos h10]
    · exact get_zero _ _ _ _ (by simpa using hi) (by omega) rfl
  | cons c r ih =>
    intro i U _
    have hc := h c List.mem_cons_self
    by_cases h10 : 10 ≤ i
    · rw [List.cons_append, getAt, if_pos h10]
    · rw [List.cons_append, get_more _ _ _ _ (by omega) (by omega)]
      exact ih (fun d hd => h d (List.mem_cons_of_mem _ hd)) _ _ (by omega)
theorem dig_ge (u : Nat) : ∀ (j : Nat) (h : j + 1 < (dig u).length), 128 ≤ ((dig u)[j]'(by omega)).toNat := by
  induction u using Nat.strongRecOn with
  | _ u ih =>
    intro j h
    by_cases hlo : u < 128
    · simp only [dig_lo hlo, List.length_cons, List.length_nil] at h; omega
    · have e := dig_hi hlo
      have h2 : j + 1 < (UInt8.ofNat (u % 128 + 128) :: dig (u / 128)).length := by rw [← e]; exact h
      have e2 : (dig u)[j]'(by omega) = (UInt8.ofNat (u % 128 + 128) :: dig (u / 128))[j]'(by omega) := by simp only [e]
      rw [e2]
      cases j with
      | zero => simp; omega
      | succ j =>
        simp only [List.getElem_cons_succ]
        exact ih (u / 128) (by omega) j (by simpa using h2)
theorem dig_pos (u : Nat) : 0 < (dig u).length := by
  by_cases h : u < 128
  · rw [dig_lo h]; simp
  · rw [dig_hi h]; simp
theorem get_longer (u : Nat) (c : UInt8) (hc : 128 ≤ c.toNat) : getN ((dig u).set ((dig u).length - 1) c ++ [0]) = (0, 0) := by
  have hp := dig_pos u
  refine get_pad _ (fun d hd => ?_) 0 0 (by simp; omega)
  obtain ⟨j, hj, rfl⟩ := List.mem_iff_getElem.1 hd
  rw [List.getElem_set]
  rw [List.length_set] at hj
  split
  · exact hc
  · exact dig_ge u j (by omega)

/-- how many digits are still to count -/
def left7 (x : Nat) : Nat := if x = 0 then 0 else (dig x).length
theorem left7_step {x : Nat} (h : 0 < x) : left7 x = 1 + left7 (x / 128) := by
  unfold left7
  rw [if_neg (by omega)]
  by_cases h2 : x < 128
  · rw [dig_lo h2, if_pos (by omega)]; simp
  · rw [dig_hi h2, if_neg (by omega)]; simp; omega
theorem left7_first (u : Nat) : 1 + left7 (u / 128) = (dig u).length := by
  unfold left7
  by_cases h2 : u < 128
  · rw [dig_lo h2, if_pos (by omega)]; simp
  · rw [dig_hi h2, if_neg (by omega)]; simp; omega

theorem row_set {w : World} {B : Nat} {e : TypeId} {g j n cap : Nat} {xs : List Value} (h : w.ownsRow B e 1 (.slice (some ⟨g, 0, none⟩) n cap) n xs) (x : Value) :
    (w.setCell ⟨g, j, none⟩ x).ownsRow B e 1 (.slice (some ⟨g, 0, none⟩) n cap) n (xs.set j x) := by
  obtain ⟨h1, h2⟩ := h
  rcases h2 with ⟨h2, _⟩ | ⟨g', cap', cur, hv, hB, hh, hn, hcap, hsz, htake⟩
  · cases h2
  · simp only [Value.slice.injEq, Option.some.injEq, Addr.mk.injEq, and_true, true_and] at hv
    obtain ⟨rfl, rfl⟩ := hv
    refine ⟨by simpa using h1, .inr ⟨_, _, _, rfl, hB, heap_set hh x, hn, hcap, by simpa using hsz, ?_⟩⟩
    rw [Array.toList_setIfInBounds, ← htake, List.take_set]

theorem row_form1 {w : World} {base : Nat} {e : TypeId} {v : Value} {n : Nat} {xs : List Value} (h : w.ownsRow base e 1 v n xs) (hn : 0 < n) : ∃ g cap, v = .slice (some ⟨g, 0, none⟩) n cap ∧ base ≤ g := by
  rcases h.2 with ⟨_, h2⟩ | ⟨g, cap, cur, rfl, hb, _⟩
  · omega
  · exact ⟨g, cap, rfl, hb⟩
theorem set_or (b : Nat) (hb : b < 256) : bits .or .u8 (b : Int) 128 = ((UInt8.ofNat (b % 128 + 128)).toNat : Int) := by
  have h := or_u8 b 128 hb (by omega)
  rw [or128 b hb] at h
  rw [show (128 : Int) = ((128 : Nat) : Int) from rfl, h]
  simp
  omega

/-- a copy of bytes, and two more behind it -/
theorem copy_two {w : World} {v : Value} {l : List UInt8} (h : Holds w v (u8s l)) (hl : l.length ≤ 1000) :
    ∃ v2 w2 v3 w3, Hid (∀ ty, (Builtin.append_ #[28, 28] ty #[.slice (some ⟨w.heap.size, 0, none⟩) 0 0, v]).run Try.prog (w.alloc (.cells #[] 5)) = .ok v2 w2) ∧
      Hid (∀ ty, (Builtin.append_ #[28, 28] ty #[v2, .slice (some ⟨w2.heap.size, 0, none⟩) 2 2]).run Try.prog (w2.alloc (.cells #[.int .u8 255, .int .u8 1] 5)) = .ok v3 w3) ∧
      Hid (Holds w3 v3 (u8s (l ++ [255, 1]))) ∧ Hid (Below w.heap.size w w3) := by
  have hb1 := below1 w (.cells #[] 5)
  have hr1 := World.ownsRow_made w (base := w.heap.size) (e := 5) (size := 1) #[] 0 (Nat.le_refl _) (by unfold maxLen; omega) (by simp)
  obtain ⟨v2, w2, r, o, g, b⟩ := app8 (xs := []) hr1 hb1.size (h.below hb1) (by simp; omega)
  have hb2 : Below w.heap.size w w2 := hb1.trans (below_grown g hb1.size (fun k e => by simp [Value.ownBlock] at e; omega))
  rw [List.nil_append] at o
  have hb3 : Below w.heap.size w (w2.alloc (.cells #[.int .u8 255, .int .u8 1] 5)) := hb2.alloc hb2.size _
  obtain ⟨v3, w3, r3, o3, g3, b3⟩ := app8 (o.alloc (.cells #[.int .u8 255, .int .u8 1] 5)) hb3.size (new_holds w2 _ _ _ (u8s [255, 1]) 2 rfl rfl) (by simp; omega)
  exact ⟨v2, w2, v3, w3, r, r3, Holds.of_row (by rw [u8s_len]; exact o3), hb3.trans (below_grown g3 hb3.size (ownsRow_ge o))⟩

/-- a 0 behind a row one byte of which was turned -/
theorem set_app {w : World} {B g q cap : Nat} {l : List UInt8} (h : w.ownsRow B 5 1 (.slice (some ⟨g, 0, none⟩) (q + 1) cap) (q + 1) (u8s l)) (hl : l.length = q + 1) (hB : B ≤ w.heap.size) (hq : q ≤ 1000) (nb : UInt8) :
    ∃ a c w2, Hid (∀ ty, (Builtin.append_ #[28, 28] ty #[.slice (some ⟨g, 0, none⟩) (q + 1) cap, .slice (some ⟨w.heap.size, 0, none⟩) 1 1]).run Try.prog ((w.setCell ⟨g, q, none⟩ (.int .u8 (nb.toNat : Int))).alloc (.cells #[.int .u8 0] 5)) = .ok (.slice a (q + 1 + 1) c) w2) ∧
      Hid (Holds w2 (.slice a (q + 1 + 1) c) (u8s (l.set q nb ++ [0]))) ∧ Hid (Below B w w2) := by
  have hset := row_set (j := q) h (.int .u8 (nb.toNat : Int))
  have e : (u8s l).set q (.int .u8 (nb.toNat : Int)) = u8s (l.set q nb) := by simp [u8s, List.map_set]
  rw [e] at hset
  have hlen : (l.set q nb).length = q + 1 := by rw [List.length_set, hl]
  rw [← hlen] at hset
  have hsz : (w.setCell ⟨g, q, none⟩ (.int .u8 (nb.toNat : Int))).heap.size = w.heap.size := by simp [World.setCell]
  have hb1 : Below B w (w.setCell ⟨g, q, none⟩ (.int .u8 (nb.toNat : Int))) := (Below.refl _ _).setCell (p := ⟨g, q, none⟩) (by
    have := (h.lt g rfl).1; exact this) _
  have hb2 : Below B w ((w.setCell ⟨g, q, none⟩ (.int .u8 (nb.toNat : Int))).alloc (.cells #[.int .u8 0] 5)) := hb1.alloc (by rw [hsz]; exact hB) _
  obtain ⟨v2, w2, r, o, gr, b⟩ := app8 (hset.alloc (.cells #[.int .u8 0] 5)) (Nat.le_trans hB hb2.size) (holds_one8 (w.setCell ⟨g, q, none⟩ (.int .u8 (nb.toNat : Int))) 0 0 rfl) (by rw [hlen]; simp; omega)
  rw [hsz] at r
  have hlen2 : (l.set q nb ++ [0]).length = q + 1 + 1 := by simp [hl]
  rw [hlen2] at o
  obtain ⟨a, c, rfl, _⟩ := ownsRow_form o
  rw [hlen] at r gr
  refine ⟨a, c, w2, r, Holds.of_row (by rw [u8s_len, hlen2]; exact o), ?_⟩
  exact hb2.trans (below_grown gr (Nat.le_trans hB hb2.size) (fun k e => (by
    have := (h.lt g rfl).1
    simp [Value.ownBlock] at e
    omega)))

end Go.Proofs.Ytbijpjoljljlpaa
