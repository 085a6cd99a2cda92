/- Contract of codec.readPacked: numbers of so many bits, read. Conditions: small lists. -/
import Derived.Test.YtbijpjoljljlpaaUnpackPlain
import Derived.Test.YtbijpjoljljlpaaRangeOps
import Derived.Test.YtbijpjoljljlpaaCodecPut
import Derived.Sort.QuietTacIn
import Derived.Sort.BigQuietIn
set_option maxRecDepth 100000
namespace Go.Proofs.Ytbijpjoljljlpaa
open Go.RowKit Go.Maps Go.Sort
attribute [local go_sem] Oper.semAt_some

theorem below1r (w : World) (o : Obj) : Below w.heap.size w (w.alloc o) := (Below.refl _ _).alloc (Nat.le_refl _) _

/-- how many bits are read ahead of step k -/
def stepD (f : Nat) : Nat → Nat
  | 0 => 0
  | k + 1 => stepD f k + (8 - (f + stepD f k) % 8)
theorem stepD_get (f w : Nat) : ∀ k, k < (stepsL f w 0).length → (stepsL f w 0)[k]? = some (stepD f k, f + stepD f k) ∧ stepD f k < w := by
  intro k
  induction k with
  | zero =>
    intro h
    by_cases hw : 0 < w
    · rw [steps_in hw]; exact ⟨rfl, hw⟩
    · rw [steps_out hw] at h; cases h
  | succ k ih =>
    intro h
    obtain ⟨e, _⟩ := ih (by omega)
    obtain ⟨_, _, e3⟩ := steps_get f w k 0 _ _ e
    rw [e3]
    split
    · rename_i hlt; exact ⟨rfl, hlt⟩
    · rename_i hge
      rw [if_neg hge] at e3
      rw [List.getElem?_eq_none_iff] at e3
      omega
theorem stepD_end (f w : Nat) : w ≤ stepD f (stepsL f w 0).length := by
  cases hl : (stepsL f w 0).length with
  | zero =>
    by_cases hw : 0 < w
    · rw [steps_in hw] at hl; cases hl
    · show w ≤ 0; omega
  | succ m =>
    obtain ⟨e, _⟩ := stepD_get f w m (by omega)
    obtain ⟨_, _, e3⟩ := steps_get f w m 0 _ _ e
    have hn : (stepsL f w 0)[m + 1]? = none := by rw [List.getElem?_eq_none_iff]; omega
    rw [hn] at e3
    split at e3
    · cases e3
    · rename_i h; show w ≤ stepD f m + (8 - (f + stepD f m) % 8); omega
/-- ErrCorrupt, as a panic -/
def corrupt : List PanicEntry := [{ v := .iface 29 (.int .i64 8), recovered := false }]

set_option maxHeartbeats 800000 in
theorem read_size {w : World} {a : Option Addr} {bl cap : Nat} (wd n : Nat) (hw : wd ≤ 64) (hn : n ≤ 100000) (hne : bl ≠ (wd * n + 7) / 8) :
    Calls Try.prog 58 #[.int .i64 (wd : Int), .int .i64 (n : Int), .slice a bl cap] w fun e w' => e = .panicked corrupt ∧ Below w.heap.size w w' := by
  have hmix : Try.prog.follows .mixedOrders = true := by kernel_rfl
  have hle : wd * n ≤ 64 * 100000 := Nat.mul_le_mul hw hn
  have hpk := fun W => (packedBytes_any wd n hw (by omega) W).mono fun _ _ ⟨h1, h2⟩ => (⟨h1, h2.symm⟩ : _ ∧ _ = W)
  generalize hm : (wd * n + 7) / 8 = m at *
  have HPK := Lib.hid hpk
  have t1 : ((bl : Int) != (m : Int)) = true := by rw [bne_iff_ne]; omega
  clear hpk hm hle hne
  refine (callsIn_wide (n := 0)).1 ?_
  refine callsIn_of_wp_marks Try.func58 rfl trivial ?_ rfl
  simp only [Try.ntmps58, List.size_toArray, List.length_cons, List.length_nil, Nat.reduceAdd, Nat.reduceSub, Array.replicate_succ, Array.replicate_zero, List.push_toArray, List.append_toArray, List.nil_append, List.cons_append]
  gi_wp2_with fail
  refine wpIn_region_quiet_lit rfl (by kernel_rfl) (by kernel_rfl) ?_
  repeat (gi_big_quiet_step (fail))
  refine wpQuietIn_step (fun _ _ _ _ => trivial) (fun K hK => ?_)
  go_simp
  refine ⟨_, fun q => ⟨rfl, callsIn_wide.2 (Calls.quiet_of_same (HPK.out _))⟩, hK _ ?_⟩
  clear hK K
  repeat (gi_big_quiet_step (fail))
  refine wpQuietIn_nil ?_
  intro _ hw'
  obtain ⟨nq, hw''⟩ := hw'
  subst hw''
  gi_wp2_with fail
  have hb := below1r w (Obj.cells #[Value.slice a bl cap] 28)
  exact ⟨rfl, hb.os, hb.tape, hb.output, hb.size, hb.block⟩

/-- where readPacked stands ahead of a number: the boxes of the bytes and of the list -/
structure ReadW (w : World) (bv : Value) (n : Nat) (L : List UInt64) (W : World) (ds : List Deferred) : Prop where
  bbox : W.heap[w.heap.size]? = some (.cells #[bv] 28 (0, 0))
  list : W.heap[w.heap.size + 1]? = some (.cells (u64s L).toArray 44 (0, 0))
  lbox : W.heap[w.heap.size + 2]? = some (.cells #[.slice (some ⟨w.heap.size + 1, 0, none⟩) n n] 46 (0, 0))
  below : Below w.heap.size w W
  marks : Marks (w.heap.size + 3) W ds
  size : w.heap.size + 3 ≤ W.heap.size

/-- among the steps of a number: its box, and the two of steps, lie from B on -/
structure ReadJ (w : World) (bv : Value) (n B j wd f N : Nat) (L : List UInt64) (ds : List Deferred) (k : Nat) (X : World) : Prop where
  main : ReadW w bv n (L.set j (UInt64.ofNat (N / 2 ^ f % 2 ^ (stepD f k)))) X ds
  bi : X.heap[B]? = some (.cells #[.int .i64 (j : Int)] 3 (0, 0))
  bf : X.heap[B + 1]? = some (.cells #[.int .i64 (f : Int)] 3 (0, 0))
  bw : X.heap[B + 2]? = some (.cells #[.int .i64 (wd : Int)] 3 (0, 0))

theorem ReadW.grown {w : World} {bv : Value} {n S : Nat} {L : List UInt64} {ds : List Deferred} {X Y : World} {row : Option Nat} (h : ReadW w bv n L X ds) (hds : ∀ d ∈ ds, ∀ D, d.target = .collected D → D < S) (hw : w.heap.size + 3 ≤ S)
    (hg : X.grownBy Y row) (hr' : ∀ r, row = some r → S ≤ r) : ReadW w bv n L Y ds :=
  ⟨heap_grown hg h.bbox (by omega) hr', heap_grown hg h.list (by omega) hr', heap_grown hg h.lbox (by omega) hr', h.below.trans (below_grown hg h.below.size (fun g e => by have := hr' g e; omega)),
    h.marks.kept (fun D _ hd ⟨d, hm, ht⟩ => heap_grown hg hd (hds d hm D ht) hr'), Nat.le_trans h.size hg.size⟩
theorem ReadJ.own {w : World} {bv : Value} {n B j wd f N S : Nat} {L : List UInt64} {ds : List Deferred} (hds : ∀ d ∈ ds, ∀ D, d.target = .collected D → D < S) (hB : B + 3 ≤ S) (hw : w.heap.size + 3 ≤ S) : OwnFrom S (ReadJ w bv n B j wd f N L ds) := by
  intro k X Y row h hg hr
  have hr' : ∀ r, row = some r → S ≤ r := fun r e => (hr r e).1
  exact ⟨h.main.grown hds hw hg hr', heap_grown hg h.bi (by omega) hr', heap_grown hg h.bf (by omega) hr', heap_grown hg h.bw (by omega) hr'⟩
theorem ReadW.more {w W W' : World} {bv : Value} {n : Nat} {L : List UInt64} {ds : List Deferred} (h : ReadW w bv n L W ds) (hb : Below W.heap.size W W') : ReadW w bv n L W' ds := by
  have hs := h.size
  exact ⟨(hb.block _ (by omega)).trans h.bbox, (hb.block _ (by omega)).trans h.list, (hb.block _ (by omega)).trans h.lbox, h.below.trans (hb.mono h.below.size), h.marks.kept (fun D _ hd _ => (hb.block _ (Array.getElem?_eq_some_iff.1 hd).1).trans hd), Nat.le_trans hs hb.size⟩

/-- a store into the list -/
theorem ReadW.store {w X : World} {bv : Value} {n i : Nat} {L : List UInt64} {ds : List Deferred} (h : ReadW w bv n L X ds) (u : UInt64) (S : Nat) :
    KeepsFrom S X (X.setCell ⟨w.heap.size + 1, i, none⟩ (.int .u64 (u.toNat : Int))).drew ∧ ReadW w bv n (L.set i u) (X.setCell ⟨w.heap.size + 1, i, none⟩ (.int .u64 (u.toNat : Int))).drew ds := by
  have hk := (KeepsOthers.setCell X ⟨w.heap.size + 1, i, none⟩ (.int .u64 (u.toNat : Int))).from
  refine ⟨(hk S).trans (keeps_drew _ _), heap_other h.bbox (by omega), ?_, heap_other h.lbox (by omega), (h.below.setCell (p := ⟨w.heap.size + 1, i, none⟩) (by simp) _).drew, (h.marks.keepsFrom (hk _)).keepsFrom (keeps_drew _ _), ?_⟩
  · have := heap_set h.list (j := i) (.int .u64 (u.toNat : Int))
    refine this.trans ?_
    congr 2
    apply Array.toList_inj.1
    simp [u64s, List.map_set]
  · have := (hk 0).size; exact Nat.le_trans h.size this
end Go.Proofs.Ytbijpjoljljlpaa
