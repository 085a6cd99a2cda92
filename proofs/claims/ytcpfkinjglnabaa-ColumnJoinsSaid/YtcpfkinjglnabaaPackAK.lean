/- The texts CodecRead CodecReadMain CodecReadOk, one behind the other; each one's own comment says what it holds. -/
import Derived.Test.YtcpfkinjglnabaaPackAJ
import Derived.Sort.QuietTacIn
import Derived.Sort.BigQuietIn
/- Contract of codec.readPacked: numbers of so many bits, read. Conditions: small lists. -/
set_option maxRecDepth 100000
namespace Go.Proofs.Ytcpfkinjglnabaa
open Go.RowKit Go.Maps Go.Sort
attribute [local go_sem] Oper.semAt_some

theorem below1r (w : World) (o : Obj) : Below w.heap.size w (w.alloc o) := (Below.refl _ _).alloc (Nat.le_refl _) _

/-- how many bits are read ahead of step k -/
def stepD (f : Nat) : Nat → Nat
  | 0 => 0
  | k + 1 => stepD f k + (8 - (f + stepD f k) % 8)
theorem stepD_get (f w : Nat) : ∀ k, k < (stepsL f w 0).length → (stepsL f w 0)[k]? = some (stepD f k, f + stepD f k) ∧ stepD f k < w := by
  intro k
  induction k with
  | zero =>
    intro h
    by_cases hw : 0 < w
    · rw [steps_in hw]; exact ⟨rfl, hw⟩
    · rw [steps_out hw] at h; cases h
  | succ k ih =>
    intro h
    obtain ⟨e, _⟩ := ih (by omega)
    obtain ⟨_, _, e3⟩ := steps_get f w k 0 _ _ e
    rw [e3]
    split
    · rename_i hlt; exact ⟨rfl, hlt⟩
    · rename_i hge
      rw [if_neg hge] at e3
      rw [List.getElem?_eq_none_iff] at e3
      omega
theorem stepD_end (f w : Nat) : w ≤ stepD f (stepsL f w 0).length := by
  cases hl : (stepsL f w 0).length with
  | zero =>
    by_cases hw : 0 < w
    · rw [steps_in hw] at hl; cases hl
    · show w ≤ 0; omega
  | succ m =>
    obtain ⟨e, _⟩ := stepD_get f w m (by omega)
    obtain ⟨_, _, e3⟩ := steps_get f w m 0 _ _ e
    have hn : (stepsL f w 0)[m + 1]? = none := by rw [List.getElem?_eq_none_iff]; omega
    rw [hn] at e3
    split at e3
    · cases e3
    · rename_i h; show w ≤ stepD f m + (8 - (f + stepD f m) % 8); omega
/-- ErrCorrupt, as a panic -/
def corrupt : List PanicEntry := [{ v := .iface 31 (.int .i64 8), recovered := false }]

set_option maxHeartbeats 800000 in
theorem read_size {w : World} {a : Option Addr} {bl cap : Nat} (wd n : Nat) (hw : wd ≤ 64) (hn : n ≤ 100000) (hne : bl ≠ (wd * n + 7) / 8) :
    Calls Try.prog 128 #[.int .i64 (wd : Int), .int .i64 (n : Int), .slice a bl cap] w fun e w' => e = .panicked corrupt ∧ Below w.heap.size w w' := by
  have hmix : Try.prog.follows .mixedOrders = true := by kernel_rfl
  have hle : wd * n ≤ 64 * 100000 := Nat.mul_le_mul hw hn
  have hpk := fun W => (packedBytes_any wd n hw (by omega) W).mono fun _ _ ⟨h1, h2⟩ => (⟨h1, h2.symm⟩ : _ ∧ _ = W)
  generalize hm : (wd * n + 7) / 8 = m at *
  have HPK := Lib.hid hpk
  have t1 : ((bl : Int) != (m : Int)) = true := by rw [bne_iff_ne]; omega
  clear hpk hm hle hne
  refine (callsIn_wide (n := 0)).1 ?_
  refine callsIn_of_wp_marks Try.func128 rfl trivial ?_ rfl
  simp only [Try.ntmps128, List.size_toArray, List.length_cons, List.length_nil, Nat.reduceAdd, Nat.reduceSub, Array.replicate_succ, Array.replicate_zero, List.push_toArray, List.append_toArray, List.nil_append, List.cons_append]
  gi_wp2_with fail
  refine wpIn_region_quiet_lit rfl (by kernel_rfl) (by kernel_rfl) ?_
  repeat (gi_big_quiet_step (fail))
  refine wpQuietIn_step (fun _ _ _ _ => trivial) (fun K hK => ?_)
  go_simp
  refine ⟨_, fun q => ⟨rfl, callsIn_wide.2 (Calls.quiet_of_same (HPK.out _))⟩, hK _ ?_⟩
  clear hK K
  repeat (gi_big_quiet_step (fail))
  refine wpQuietIn_nil ?_
  intro _ hw'
  obtain ⟨nq, hw''⟩ := hw'
  subst hw''
  gi_wp2_with fail
  have hb := below1r w (Obj.cells #[Value.slice a bl cap] 68)
  exact ⟨rfl, hb.os, hb.tape, hb.output, hb.size, hb.block⟩

/-- where readPacked stands ahead of a number: the boxes of the bytes and of the list -/
structure ReadW (w : World) (bv : Value) (n : Nat) (L : List UInt64) (W : World) (ds : List Deferred) : Prop where
  bbox : W.heap[w.heap.size]? = some (.cells #[bv] 68 (0, 0))
  list : W.heap[w.heap.size + 1]? = some (.cells (u64s L).toArray 116 (0, 0))
  lbox : W.heap[w.heap.size + 2]? = some (.cells #[.slice (some ⟨w.heap.size + 1, 0, none⟩) n n] 118 (0, 0))
  below : Below w.heap.size w W
  marks : Marks (w.heap.size + 3) W ds
  size : w.heap.size + 3 ≤ W.heap.size

/-- among the steps of a number: its box, and the two of steps, lie from B on -/
structure ReadJ (w : World) (bv : Value) (n B j wd f N : Nat) (L : List UInt64) (ds : List Deferred) (k : Nat) (X : World) : Prop where
  main : ReadW w bv n (L.set j (UInt64.ofNat (N / 2 ^ f % 2 ^ (stepD f k)))) X ds
  bi : X.heap[B]? = some (.cells #[.int .i64 (j : Int)] 3 (0, 0))
  bf : X.heap[B + 1]? = some (.cells #[.int .i64 (f : Int)] 3 (0, 0))
  bw : X.heap[B + 2]? = some (.cells #[.int .i64 (wd : Int)] 3 (0, 0))

theorem ReadW.grown {w : World} {bv : Value} {n S : Nat} {L : List UInt64} {ds : List Deferred} {X Y : World} {row : Option Nat} (h : ReadW w bv n L X ds) (hds : ∀ d ∈ ds, ∀ D, d.target = .collected D → D < S) (hw : w.heap.size + 3 ≤ S)
    (hg : X.grownBy Y row) (hr' : ∀ r, row = some r → S ≤ r) : ReadW w bv n L Y ds :=
  ⟨heap_grown hg h.bbox (by omega) hr', heap_grown hg h.list (by omega) hr', heap_grown hg h.lbox (by omega) hr', h.below.trans (below_grown hg h.below.size (fun g e => by have := hr' g e; omega)),
    h.marks.kept (fun D _ hd ⟨d, hm, ht⟩ => heap_grown hg hd (hds d hm D ht) hr'), Nat.le_trans h.size hg.size⟩
theorem ReadJ.own {w : World} {bv : Value} {n B j wd f N S : Nat} {L : List UInt64} {ds : List Deferred} (hds : ∀ d ∈ ds, ∀ D, d.target = .collected D → D < S) (hB : B + 3 ≤ S) (hw : w.heap.size + 3 ≤ S) : OwnFrom S (ReadJ w bv n B j wd f N L ds) := by
  intro k X Y row h hg hr
  have hr' : ∀ r, row = some r → S ≤ r := fun r e => (hr r e).1
  exact ⟨h.main.grown hds hw hg hr', heap_grown hg h.bi (by omega) hr', heap_grown hg h.bf (by omega) hr', heap_grown hg h.bw (by omega) hr'⟩
theorem ReadW.more {w W W' : World} {bv : Value} {n : Nat} {L : List UInt64} {ds : List Deferred} (h : ReadW w bv n L W ds) (hb : Below W.heap.size W W') : ReadW w bv n L W' ds := by
  have hs := h.size
  exact ⟨(hb.block _ (by omega)).trans h.bbox, (hb.block _ (by omega)).trans h.list, (hb.block _ (by omega)).trans h.lbox, h.below.trans (hb.mono h.below.size), h.marks.kept (fun D _ hd _ => (hb.block _ (Array.getElem?_eq_some_iff.1 hd).1).trans hd), Nat.le_trans hs hb.size⟩

/-- a store into the list -/
theorem ReadW.store {w X : World} {bv : Value} {n i : Nat} {L : List UInt64} {ds : List Deferred} (h : ReadW w bv n L X ds) (u : UInt64) (S : Nat) :
    KeepsFrom S X (X.setCell ⟨w.heap.size + 1, i, none⟩ (.int .u64 (u.toNat : Int))).drew ∧ ReadW w bv n (L.set i u) (X.setCell ⟨w.heap.size + 1, i, none⟩ (.int .u64 (u.toNat : Int))).drew ds := by
  have hk := (KeepsOthers.setCell X ⟨w.heap.size + 1, i, none⟩ (.int .u64 (u.toNat : Int))).from
  refine ⟨(hk S).trans (keeps_drew _ _), heap_other h.bbox (by omega), ?_, heap_other h.lbox (by omega), (h.below.setCell (p := ⟨w.heap.size + 1, i, none⟩) (by simp) _).drew, (h.marks.keepsFrom (hk _)).keepsFrom (keeps_drew _ _), ?_⟩
  · have := heap_set h.list (j := i) (.int .u64 (u.toNat : Int))
    refine this.trans ?_
    congr 2
    apply Array.toList_inj.1
    simp [u64s, List.map_set]
  · have := (hk 0).size; exact Nat.le_trans h.size this
end Go.Proofs.Ytcpfkinjglnabaa
/- codec.readPacked reads what Pack tells. Conditions: small lists. -/
set_option maxRecDepth 100000
namespace Go.Proofs.Ytcpfkinjglnabaa
open Go.RowKit Go.Maps Go.Sort
attribute [local go_sem] Oper.semAt_some

def unpackL (wd n N : Nat) : List UInt64 := (List.range n).map fun i => UInt64.ofNat (N / 2 ^ (wd * i) % 2 ^ wd)
/-- the list behind j numbers -/
def partL (wd n N j : Nat) : List UInt64 := (List.range n).map fun i => if i < j then UInt64.ofNat (N / 2 ^ (wd * i) % 2 ^ wd) else 0
theorem part_zero (wd n N : Nat) : partL wd n N 0 = List.replicate n 0 := by
  apply List.ext_getElem <;> simp [partL]
theorem part_all (wd n N : Nat) : partL wd n N n = unpackL wd n N := by
  unfold partL unpackL
  apply List.map_congr_left
  intro i hi
  rw [if_pos (List.mem_range.1 hi)]
theorem part_len (wd n N j : Nat) : (partL wd n N j).length = n := by simp [partL]
theorem part_step (wd n N j : Nat) (u : UInt64) : ((partL wd n N j).set j u).set j (UInt64.ofNat (N / 2 ^ (wd * j) % 2 ^ wd)) = partL wd n N (j + 1) := by
  rw [List.set_set]
  apply List.ext_getElem
  · simp [partL]
  · intro i h1 h2
    rw [List.getElem_set]
    simp only [partL, List.getElem_map, List.getElem_range]
    split
    · rename_i h; subst h; rw [if_pos (by omega)]
    · rename_i h
      by_cases hij : i < j
      · rw [if_pos hij, if_pos (by omega)]
      · rw [if_neg hij, if_neg (by omega)]
theorem part_self (wd n N j : Nat) (x : Nat) (hx : x = 0) : (partL wd n N j).set j (UInt64.ofNat x) = partL wd n N j := by
  subst hx
  apply List.ext_getElem
  · simp [partL]
  · intro i h1 h2
    rw [List.getElem_set]
    split
    · rename_i h; subst h; simp [partL]
    · rfl

theorem mask_eq (wd : Nat) (hw : wd ≤ 64) : IntKind.u64.wrap (18446744073709551615 * 2 ^ wd) = ((18446744073709551616 - 2 ^ wd : Nat) : Int) := by
  have h1 : 2 ^ wd ≤ 2 ^ 64 := Nat.pow_le_pow_right (by omega) hw
  have h2 : 0 < 2 ^ wd := Nat.two_pow_pos wd
  rw [IntKind.wrap_u64]
  have e : (2 : Int) ^ wd = ((2 ^ wd : Nat) : Int) := by simp
  rw [e]
  generalize 2 ^ wd = p at *
  omega
theorem mask_not (wd : Nat) (hw : wd ≤ 64) : bits .xor .u64 IntKind.u64.max ((18446744073709551616 - 2 ^ wd : Nat) : Int) = ((2 ^ wd - 1 : Nat) : Int) := by
  have h1 : 2 ^ wd ≤ 2 ^ 64 := Nat.pow_le_pow_right (by omega) hw
  have h2 : 0 < 2 ^ wd := Nat.two_pow_pos wd
  rw [not_u64 _ (by omega)]
  generalize 2 ^ wd = p at *
  omega
theorem mask_and (wd x : Nat) (hw : wd ≤ 64) (hx : x < 18446744073709551616) : bits .and .u64 (x : Int) ((2 ^ wd - 1 : Nat) : Int) = ((x % 2 ^ wd : Nat) : Int) := by
  have h1 : 2 ^ wd ≤ 2 ^ 64 := Nat.pow_le_pow_right (by omega) hw
  rw [and_u64 _ _ hx (by omega), Nat.and_two_pow_sub_one_eq_mod]

theorem mkU (w : World) (k : Nat) (hk : k ≤ 100000) :
    (Instr.makeSlice 118 (.int .i64 (k : Int)) (.int .i64 (k : Int))).run Try.prog w = .ok (.slice (some ⟨w.heap.size, 0, none⟩) k k) (w.alloc (.cells (u64s (List.replicate k 0)).toArray 116)) := by
  obtain ⟨i, hi, hz0, hz1, hz2⟩ := info_parts infoU
  have := run_make (P := Try.prog) w 118 116 i (.int .u64 0) Try.underlying118 hi hz0 .i64 .i64 (k : Int) k (by omega) (by omega) (by rw [hz2]; omega) (by omega)
  rw [this, hz1]
  simp only [Int.toNat_natCast, Nat.mul_one, Value.cells]
  have e : madeCells #[Value.int .u64 0] k = (u64s (List.replicate k 0)).toArray := by
    apply Array.toList_inj.1
    rw [toList_madeCells_one]
    simp [u64s]
  rw [e]

/-- the last byte tells whether a bit stands behind the numbers -/
theorem trail_eq (bs : List UInt8) (tot : Nat) (hb : bs.length = (tot + 7) / 8) (hr : 0 < tot % 8) (hlt : bs.length - 1 < bs.length) : (bs[bs.length - 1].toNat / 2 ^ (tot % 8) = 0) ↔ numB bs < 2 ^ tot := by
  have h1 := numB_lt bs
  have hl : bs.length = (bs.length - 1) + 1 := by omega
  rw [numB_at bs _ hlt]
  have h2 : numB bs / 256 ^ (bs.length - 1) < 256 := by
    rw [Nat.div_lt_iff_lt_mul (Nat.pow_pos (by omega)), Nat.mul_comm, ← Nat.pow_succ]
    show numB bs < 256 ^ (bs.length - 1 + 1)
    rw [← hl]; exact h1
  rw [Nat.mod_eq_of_lt h2, Nat.div_div_eq_div_mul, pow256, ← Nat.pow_add, show 8 * (bs.length - 1) + tot % 8 = tot by omega]
  exact Nat.div_eq_zero_iff.trans ⟨fun h => by rcases h with h | h; exact absurd h (Nat.ne_of_gt (Nat.two_pow_pos _)); exact h, fun h => .inr h⟩

set_option maxHeartbeats 1600000 in
theorem read_trail {w : World} {a : Option Addr} {cap : Nat} {bs : List UInt8} (h : Holds w (.slice a bs.length cap) (u8s bs)) (wd n : Nat) (hw : wd ≤ 64) (hn : n ≤ 100000) (hb : bs.length = (wd * n + 7) / 8) (hbad : ¬ numB bs < 2 ^ (wd * n)) :
    Calls Try.prog 128 #[.int .i64 (wd : Int), .int .i64 (n : Int), .slice a bs.length cap] w fun e w' => e = .panicked corrupt ∧ Below w.heap.size w w' := by
  have hle : wd * n ≤ 64 * 100000 := Nat.mul_le_mul hw hn
  have hpk := fun W => (packedBytes_any wd n hw (by omega) W).mono fun _ _ ⟨h1, h2⟩ => (⟨h1, h2.symm⟩ : _ ∧ _ = W)
  rw [← hb] at hpk
  have hprod : (wd : Int) * (n : Int) = ((wd * n : Nat) : Int) := by simp
  generalize ht : wd * n = tot at *
  have hr : 0 < tot % 8 := by
    rcases Nat.eq_zero_or_pos (tot % 8) with e | e
    · exfalso
      apply hbad
      have := numB_lt bs
      rw [pow256, hb, show 8 * ((tot + 7) / 8) = tot by omega] at this
      exact this
    · exact e
  have hbl : bs.length - 1 < bs.length := by omega
  have htr := mt (trail_eq bs tot hb hr hbl).1 hbad
  obtain ⟨ad, rfl⟩ := h.ptr (by omega)
  have hc : w.cell? (ad.add (bs.length - 1)) = some (.int .u8 (bs[bs.length - 1].toNat : Int)) := h.cell (by rw [u8s, List.getElem?_map, List.getElem?_eq_getElem hbl]; rfl)
  have hx := bs[bs.length - 1].toNat_lt
  have e8 : (tot : Int) % 8 = ((tot % 8 : Nat) : Int) := by omega
  have hr8 : tot % 8 ≤ 8 := by omega
  generalize bs[bs.length - 1].toNat = last at *
  generalize hr2 : tot % 8 = r8 at *
  obtain ⟨q, hq⟩ : ∃ q, bs.length = q + 1 := ⟨bs.length - 1, by omega⟩
  rw [hq] at hc hb hbl ⊢
  rw [Nat.add_sub_cancel] at hc
  have htest : ((last : Int) / 2 ^ r8 != 0) = true := by
    rw [bne_iff_ne]
    have e : (2 : Int) ^ r8 = ((2 ^ r8 : Nat) : Int) := by simp
    rw [e, ← Int.natCast_ediv]
    omega
  have HPK := Lib.hid hpk
  have hq2 : q ≤ 1000000 := by omega
  have hbw : Below w.heap.size w (w.alloc (.cells #[.slice (some ad) (q + 1) cap] 68)) := below1r w _
  have hc2 : ∀ k, ((w.alloc (.cells #[.slice (some ad) (q + 1) cap] 68)).drewN k).cell? (ad.add q) = some (.int .u8 (last : Int)) := fun k =>
    (hbw.cell (World.block_lt_of_cell? w _ hc)).trans hc
  rw [hq] at HPK
  have HB := Lib.hid hbw
  clear hpk hb hbl htr hbad ht hr2 hc h hbw hq
  refine (callsIn_wide (n := 0)).1 ?_
  refine callsIn_of_wp_marks Try.func128 rfl trivial ?_ rfl
  simp only [Try.ntmps128, List.size_toArray, List.length_cons, List.length_nil, Nat.reduceAdd, Nat.reduceSub, Array.replicate_succ, Array.replicate_zero, List.push_toArray, List.append_toArray, List.nil_append, List.cons_append]
  gi_wp2_with fail
  refine wpIn_region_quiet_lit rfl (by kernel_rfl) (by kernel_rfl) ?_
  repeat (gi_big_quiet_step (fail))
  refine wpQuietIn_step (fun _ _ _ _ => trivial) (fun K hK => ?_)
  go_simp
  refine ⟨_, fun q => ⟨rfl, callsIn_wide.2 (Calls.quiet_of_same (HPK.out _))⟩, hK _ ?_⟩
  clear hK K
  repeat (gi_big_quiet_step (fail))
  refine wpQuietIn_nil ?_
  intro _ hw'
  obtain ⟨nq, hw''⟩ := hw'
  subst hw''
  have hc3 := hc2 nq
  clear hc2
  gi_wp2_with fail
  have hb := HB.out
  exact ⟨rfl, hb.os, hb.tape, hb.output, hb.size, hb.block⟩
end Go.Proofs.Ytcpfkinjglnabaa
/- codec.readPacked reads what Pack tells: its success. Conditions: small lists. -/
set_option maxRecDepth 100000
namespace Go.Proofs.Ytcpfkinjglnabaa
open Go.RowKit Go.Maps Go.Sort
attribute [local go_sem] Oper.semAt_some

theorem alloc3r (W : World) (A B C : Obj) : (((W.alloc A).alloc B).alloc C).heap[W.heap.size]? = some A ∧ (((W.alloc A).alloc B).alloc C).heap[W.heap.size + 1]? = some B ∧ (((W.alloc A).alloc B).alloc C).heap[W.heap.size + 2]? = some C := by
  refine ⟨?_, ?_, ?_⟩
  · exact (Below.heap_alloc _ _ _ (by simp; omega)).trans ((Below.heap_alloc _ _ _ (by simp)).trans (alloc1 _ _))
  · have := alloc1 (W.alloc A) B
    exact (Below.heap_alloc _ _ _ (by simp)).trans (by simpa using this)
  · have := alloc1 ((W.alloc A).alloc B) C
    simpa using this
theorem stepsE_getr {f w k : Nat} (hk : k < (stepsE f w).length) : ∃ d at', (stepsL f w 0)[k]? = some (d, at') ∧ (stepsE f w)[k] = #[Value.int .i64 (d : Int), Value.int .i64 (at' : Int)] := by
  have hk2 : k < (stepsL f w 0).length := by simpa [stepsE] using hk
  exact ⟨(stepsL f w 0)[k].1, (stepsL f w 0)[k].2, List.getElem?_eq_getElem hk2, by simp [stepsE, stepE]⟩
/-- the number at j, when all its steps are done, masked -/
theorem mask_done (y D wd : Nat) (h : wd ≤ D) (hw : wd ≤ 64) : y % 2 ^ D % 2 ^ 64 % 2 ^ wd = y % 2 ^ wd := by
  rw [Nat.mod_mod_of_dvd _ (Nat.pow_dvd_pow 2 hw), Nat.mod_mod_of_dvd _ (Nat.pow_dvd_pow 2 h)]
theorem ofNat_toNat64 (x : Nat) : (UInt64.ofNat x).toNat = x % 2 ^ 64 := by simp

set_option maxHeartbeats 3200000 in
theorem read_ok {w : World} {a : Option Addr} {cap : Nat} {bs : List UInt8} (h : Holds w (.slice a bs.length cap) (u8s bs)) (wd n : Nat) (hw : wd ≤ 64) (hn : n ≤ 100000) (hb : bs.length = (wd * n + 7) / 8) (hgood : numB bs < 2 ^ (wd * n)) :
    Calls Try.prog 128 #[.int .i64 (wd : Int), .int .i64 (n : Int), .slice a bs.length cap] w fun e w' => ∃ v', e = .returned v' ∧ Hid (w'.ownsRow w.heap.size 116 1 v' n (u64s (unpackL wd n (numB bs))) ∧ Below w.heap.size w w') := by
  have hle : wd * n ≤ 64 * 100000 := Nat.mul_le_mul hw hn
  have hpk := fun W => (packedBytes_any wd n hw (by omega) W).mono fun _ _ ⟨h1, h2⟩ => (⟨h1, h2.symm⟩ : _ ∧ _ = W)
  rw [← hb] at hpk
  have hprod : (wd : Int) * (n : Int) = ((wd * n : Nat) : Int) := by simp
  generalize ht : wd * n = tot at *
  have hbw : Below w.heap.size w (w.alloc (.cells #[.slice a bs.length cap] 68)) := below1r w _
  have e8 : (tot : Int) % 8 = ((tot % 8 : Nat) : Int) := by omega
  have hr8 : tot % 8 ≤ 8 := by omega
  have htail : tot % 8 = 0 ∨ ∃ q ad last, bs.length = q + 1 ∧ a = some ad ∧ 0 < tot % 8 ∧ w.cell? (ad.add q) = some (.int .u8 ((last : Nat) : Int)) ∧ last < 256 ∧ ((last : Int) / 2 ^ (tot % 8) != 0) = false := by
    rcases Nat.eq_zero_or_pos (tot % 8) with e | hr
    · exact .inl e
    · have hbl : bs.length - 1 < bs.length := by omega
      have htr := (trail_eq bs tot hb hr hbl).2 hgood
      obtain ⟨ad, rfl⟩ := h.ptr (by omega)
      refine .inr ⟨bs.length - 1, ad, bs[bs.length - 1].toNat, by omega, rfl, hr, h.cell (by rw [u8s, List.getElem?_map, List.getElem?_eq_getElem hbl]; rfl), bs[bs.length - 1].toNat_lt, ?_⟩
      rw [bne_eq_false_iff_eq]
      have e : (2 : Int) ^ (tot % 8) = ((2 ^ (tot % 8) : Nat) : Int) := by simp
      rw [e, ← Int.natCast_ediv, htr]
      rfl
  generalize tot % 8 = r8 at *
  obtain ⟨q, hq⟩ : ∃ q, bs.length = q := ⟨_, rfl⟩
  have hq2 : q ≤ 1000000 := by omega
  have HH := Lib.hid h
  have HQ := Lib.hid hq
  have HBL := Lib.hid hb
  have HG := Lib.hid hgood
  rw [hq] at hpk hbw htail HH ⊢
  have HPK := Lib.hid hpk
  have HB := Lib.hid hbw
  have HT := Lib.hid ht
  have HTAIL := Lib.hid htail
  have hmkU := fun W => mkU W n hn
  clear hpk hb hgood ht h hbw hq htail
  refine (callsIn_wide (n := 0)).1 ?_
  refine callsIn_of_wp_marks Try.func128 rfl trivial ?_ rfl
  simp only [Try.ntmps128, List.size_toArray, List.length_cons, List.length_nil, Nat.reduceAdd, Nat.reduceSub, Array.replicate_succ, Array.replicate_zero, List.push_toArray, List.append_toArray, List.nil_append, List.cons_append]
  gi_wp2_with fail
  refine wpIn_region_quiet_lit rfl (by kernel_rfl) (by kernel_rfl) ?_
  repeat (gi_big_quiet_step (fail))
  refine wpQuietIn_step (fun _ _ _ _ => trivial) (fun K hK => ?_)
  go_simp
  refine ⟨_, fun q => ⟨rfl, callsIn_wide.2 (Calls.quiet_of_same (HPK.out _))⟩, hK _ ?_⟩
  clear hK K
  repeat (gi_big_quiet_step (fail))
  refine wpQuietIn_nil ?_
  intro _ hw'
  obtain ⟨nq, hw''⟩ := hw'
  subst hw''
  have hbox : ((w.alloc (.cells #[.slice a q cap] 68)).drewN nq).cell? ⟨w.heap.size, 0, none⟩ = some (.slice a q cap) := by
    rw [show ((w.alloc (.cells #[.slice a q cap] 68)).drewN nq).cell? ⟨w.heap.size, 0, none⟩ = (w.alloc (.cells #[.slice a q cap] 68)).cell? ⟨w.heap.size, 0, none⟩ from rfl, cell_of_row _ _ _ _ _ _ (alloc1 _ _)]; rfl
  have hwb : Below w.heap.size w ((w.alloc (.cells #[.slice a q cap] 68)).drewN nq) := by
    have hb := HB.out
    exact ⟨hb.os, hb.tape, hb.output, hb.size, hb.block⟩
  have hws : ((w.alloc (.cells #[.slice a q cap] 68)).drewN nq).heap.size = w.heap.size + 1 := by
    show (w.alloc _).heap.size = _
    simp
  have hwa : ((w.alloc (.cells #[.slice a q cap] 68)).drewN nq).heap[w.heap.size]? = some (.cells #[.slice a q cap] 68 (0, 0)) := alloc1 w _
  generalize ((w.alloc (.cells #[.slice a q cap] 68)).drewN nq) = w1 at *
  obtain ⟨bv, hbv1, hbv2⟩ : ∃ bv, Holds w bv (u8s bs) ∧ w1.heap[w.heap.size]? = some (.cells #[bv] 68 (0, 0)) := ⟨_, HH.out, hwa⟩
  have HBV := Lib.hid hbv1
  have HW := Lib.hid (And.intro hwb (And.intro hws hbv2))
  have HS := Lib.hid hws
  clear hwb hwa hws hbv1 hbv2
  rcases HTAIL.out with hr0 | ⟨q', ad, last, hqq, rfl, hr1, hc, hl, htest⟩
  · have hz : (tot : Int) % 8 = 0 := by omega
    clear e8 hr8
    gi_wp2_with fail
    rw [HS.out]
    refine wpIn_loop (fun A W => ∃ (j : Nat) (s2 s7 s12 s13 s14 s15 s16 s17 s18 s19 s20 s21 s22 s23 s24 s25 s26 s27 s28 s29 s30 s31 s32 s33 s34 s35 s36 s37 s38 s39 u9 u42 u43 u44 u45 u46 u47 u48 u68 u69 u70 u71 u72 u73 u74 u75 u76 u77 : Value) (ds : List Deferred), j ≤ n ∧ A = { tmps := #[Value.int IntKind.i64 ↑wd, Value.int IntKind.i64 ↑n, s2, undef, undef, Value.pointer (some { block := w.heap.size, off := 0 }), Value.slice none 0 0, s7, Value.pointer (some { block := w.heap.size + 1 + 1, off := 0 }), u9, undef, undef, s12, s13, s14, s15, s16, s17, s18, s19, s20, s21, s22, s23, s24, s25, s26, s27, s28, s29, s30, s31, s32, s33, s34, s35, s36, s37, s38, s39, Value.int IntKind.i64 ↑n, Value.int IntKind.i64 ↑j, u42, u43, u44, u45, u46, u47, u48, undef, undef, undef, undef, undef, undef, undef, undef, undef, undef, undef, undef, undef, undef, undef, undef, undef, undef, undef, u68, u69, u70, u71, u72, u73, u74, u75, u76, u77, undef], defers := ds } ∧ Hid (ReadW w bv n (partL wd n (numB bs) j) W ds)) (fun A _ => n - (intOf (A.tmps.getD 41 undef)).toNat) ?_ ?_
    · refine ⟨0, _, _, _, _, _, _, _, _, _, _, _, _, _, _, _, _, _, _, _, _, _, _, _, _, _, _, _, _, _, _, _, _, _, _, _, _, _, _, _, _, _, _, _, _, _, _, _, _, [], by omega, rfl, ?_, ?_, ?_, ?_, trivial, ?_⟩
      · exact (Below.heap_alloc _ _ _ (by simp; have := HS.out; omega)).trans ((Below.heap_alloc _ _ _ (by have := HS.out; omega)).trans HW.out.2.2)
      · rw [part_zero, ← HS.out]
        exact (Below.heap_alloc _ _ _ (by simp)).trans (alloc1 _ _)
      · have := alloc1 (w1.alloc (Obj.cells (u64s (List.replicate n 0)).toArray 116)) (Obj.cells #[Value.slice (some { block := w.heap.size + 1, off := 0 }) n n] 118)
        rw [World.size_alloc, HS.out] at this
        exact this
      · exact (HW.out.1.alloc (by have := HS.out; omega) _).alloc (by simp; have := HS.out; omega) _
      · simp; have := HS.out; omega
    · rintro A W ⟨j, s2, s7, s12, s13, s14, s15, s16, s17, s18, s19, s20, s21, s22, s23, s24, s25, s26, s27, s28, s29, s30, s31, s32, s33, s34, s35, s36, s37, s38, s39, u9, u42, u43, u44, u45, u46, u47, u48, u68, u69, u70, u71, u72, u73, u74, u75, u76, u77, ds, hj, rfl, HP⟩
      by_cases hjn : j < n
      · have hprodj : (j : Int) * (wd : Int) = ((wd * j : Nat) : Int) := by rw [Int.natCast_mul, Int.mul_comm]
        have hple : wd * j ≤ 64 * 100000 := Nat.mul_le_mul hw (by omega)
        generalize hf : wd * j = f at *
        have HFF := Lib.hid hf
        clear hf
        gi_wp2_with fail
        refine ⟨trivial, rfl, (callsIn_wide.2 (steps_any _ _ _)).mono ?_⟩
        rintro e w' ⟨rfl, rfl⟩
        gi_wp2_with fail
        have hsz := HP.out.size
        have hps : (((W.alloc (Obj.cells #[Value.int IntKind.i64 ↑j] 3)).alloc (Obj.cells #[Value.int IntKind.i64 ↑f] 3)).alloc (Obj.cells #[Value.int IntKind.i64 ↑wd] 3)).heap.size = W.heap.size + 3 := by simp
        have hJ0 : ReadJ w bv n W.heap.size j wd f (numB bs) (partL wd n (numB bs) j) ds 0 (((W.alloc (Obj.cells #[Value.int IntKind.i64 ↑j] 3)).alloc (Obj.cells #[Value.int IntKind.i64 ↑f] 3)).alloc (Obj.cells #[Value.int IntKind.i64 ↑wd] 3)) := by
          obtain ⟨a1, a2, a3⟩ := alloc3r W (Obj.cells #[Value.int IntKind.i64 ↑j] 3) (Obj.cells #[Value.int IntKind.i64 ↑f] 3) (Obj.cells #[Value.int IntKind.i64 ↑wd] 3)
          refine ⟨?_, a1, a2, a3⟩
          rw [part_self wd n (numB bs) j _ (by show _ % 2 ^ 0 = 0; omega)]
          exact HP.out.more ((((Below.refl _ _).alloc (Nat.le_refl _) _).alloc (by simp) _).alloc (by simp; omega) _)
        have hlt : ∀ d ∈ ds, ∀ D, d.target = .collected D → D < W.heap.size + 3 := fun d hd D hD => by have := HP.out.marks.lt d hd D hD; omega
        generalize ((W.alloc (Obj.cells #[Value.int IntKind.i64 ↑j] 3)).alloc (Obj.cells #[Value.int IntKind.i64 ↑f] 3)).alloc (Obj.cells #[Value.int IntKind.i64 ↑wd] 3) = W3 at *
        refine range_law (gf := 118) (lb := #[Value.pointer (some { block := W.heap.size + 1 + 1, off := 0 }), Value.pointer (some { block := W.heap.size + 1, off := 0 })]) rfl (enters_of Try.func118 (by kernel_rfl) rfl)
          (encs := stepsE f wd) (fun x hx => by obtain ⟨p, _, rfl⟩ := List.mem_map.1 hx; rfl) (steps_seq _ _ wd f hw (by omega))
          (ReadJ w bv n W.heap.size j wd f (numB bs) (partL wd n (numB bs) j) ds) (ReadJ.own (by rw [hps]; exact hlt) (by omega) (by omega)) (fun k X h => ⟨by rw [cell_of_row _ _ _ _ _ _ h.bw]; rfl, by rw [cell_of_row _ _ _ _ _ _ h.bf]; rfl⟩) hJ0
          (fun s X => ReadJ w bv n W.heap.size j wd f (numB bs) (partL wd n (numB bs) j) ds s.1 X ∧ ∃ d at', (stepsL f wd 0)[s.1]? = some (d, at') ∧
            s.2 = { tmps := #[Value.int IntKind.i64 ↑wd, Value.int IntKind.i64 ↑n, s2, undef, undef, Value.pointer (some { block := w.heap.size, off := 0 }), Value.slice none 0 0, s7, Value.pointer (some { block := w.heap.size + 1 + 1, off := 0 }), Value.pointer (some { block := W.heap.size, off := 0 }), Value.int IntKind.i64 (d : Nat), Value.int IntKind.i64 (at' : Nat), s12, s13, s14, s15, s16, s17, s18, s19, s20, s21, s22, s23, s24, s25, s26, s27, s28, s29, s30, s31, s32, s33, s34, s35, s36, s37, s38, s39, Value.int IntKind.i64 ↑n, Value.int IntKind.i64 ↑j, Value.bool true, Value.int IntKind.i64 ↑j, Value.int IntKind.i64 ↑j, Value.int IntKind.i64 ↑wd, Value.int IntKind.i64 ↑f, Value.int IntKind.i64 ↑wd, Value.func (Fn.func 118) #[] #[Value.pointer (some { block := W.heap.size + 1 + 1, off := 0 }), Value.pointer (some { block := W.heap.size + 1, off := 0 })], Value.int IntKind.i64 (d : Nat), Value.int IntKind.i64 (at' : Nat), undef, undef, undef, undef, undef, undef, undef, undef, undef, undef, undef, undef, undef, undef, undef, undef, undef, u68, u69, u70, u71, u72, u73, u74, u75, u76, u77, undef], defers := [] }) ?_ ?_ ?_ ?_
        · intro s X Y row h hg hr
          exact ⟨ReadJ.own (by rw [hps]; exact hlt) (by omega) (by omega) s.1 X Y row h.1 hg hr, h.2⟩
        · intro l' k hq X K h hK
          obtain ⟨d, at', hget, e⟩ := stepsE_getr hq
          rw [e]
          have HK := Lib.hid hK
          have HG2 := Lib.hid hget
          have HP2 := Lib.hid h
          clear hK e hget h
          simp only [List.zip_toArray, List.zip_cons_cons, List.zip_nil_right, List.foldl_toArray, List.foldl_cons, List.foldl_nil, List.setIfInBounds_toArray, List.set_cons_succ, List.set_cons_zero]
          gi_wp2
          exact HK.out _ _ (KeepsFrom.refl _ _) ⟨HP2.out, d, at', HG2.out, rfl⟩
        · rintro l' k hk a₁ X ⟨h, d, at', hget, rfl⟩
          obtain ⟨hd1, hd2⟩ := stepD_get f wd k (by simpa [stepsE] using hk)
          rw [hget] at hd1
          obtain ⟨rfl, rfl⟩ : d = stepD f k ∧ at' = f + stepD f k := by simpa using hd1
          have hstep : stepD f (k + 1) = stepD f k + (8 - (f + stepD f k) % 8) := rfl
          have hlist := h.main.list
          have hbb := h.main.bbox
          obtain ⟨ab, cb', hbf, _⟩ := HBV.out.form
          rw [u8s_len] at hbf
          have hbx := HBV.out.below h.main.below
          rw [hbf] at hbx hbb
          have hat : (f + stepD f k) / 8 < bs.length := by
            have h1 : f + wd ≤ wd * n := by
              rw [← HFF.out, ← Nat.mul_succ]; exact Nat.mul_le_mul_left _ (by omega)
            rw [HT.out] at h1
            have := HBL.out
            omega
          obtain ⟨ad, rfl⟩ := hbx.ptr (by omega)
          have c1 : X.cell? ⟨w.heap.size + 1 + 1, 0, none⟩ = some (.slice (some ⟨w.heap.size + 1, 0, none⟩) n n) := by rw [cell_of_row _ _ _ _ _ _ h.main.lbox]; rfl
          have c2 : X.cell? ⟨W.heap.size, 0, none⟩ = some (.int .i64 (j : Int)) := by rw [cell_of_row _ _ _ _ _ _ h.bi]; rfl
          have c3 : X.cell? ⟨w.heap.size, 0, none⟩ = some (.slice (some ad) bs.length cb') := by rw [cell_of_row _ _ _ _ _ _ hbb]; rfl
          have c4 : X.cell? (ad.add ((f + stepD f k) / 8)) = some (.int .u8 (bs[(f + stepD f k) / 8].toNat : Int)) := hbx.cell (by rw [u8s, List.getElem?_map, List.getElem?_eq_getElem hat]; rfl)
          have c5 : X.cell? ⟨w.heap.size + 1, j, none⟩ = some (.int .u64 ((numB bs / 2 ^ f % 2 ^ stepD f k % 2 ^ 64 : Nat) : Int)) := by
            rw [cell_of_row _ _ _ _ _ _ hlist]
            simp [u64s, part_len, hjn]
          have c6 := free_of_row hlist j
          have hbv := numB_at bs ((f + stepD f k) / 8) hat
          have hu := unpack_step (numB bs) f (stepD f k) (by omega)
          rw [← hstep] at hu
          have hpe := piece_eq (numB bs) (f + stepD f k)
          rw [← hbv] at hpe
          rw [← hpe] at hu
          have hblt := bs[(f + stepD f k) / 8].toNat_lt
          have hold : numB bs / 2 ^ f % 2 ^ stepD f k % 2 ^ 64 < 18446744073709551616 := Nat.mod_lt _ (by omega)
          have hst := fun S => h.main.store (i := j) (UInt64.ofNat (numB bs / 2 ^ f % 2 ^ stepD f (k + 1))) S
          simp only [ofNat_toNat64, List.set_set] at hst
          rw [← hu] at hst
          have hbi := fun v => heap_other (j := j) (v := v) (g := w.heap.size + 1) h.bi (by omega)
          have hbf2 := fun v => heap_other (j := j) (v := v) (g := w.heap.size + 1) h.bf (by omega)
          have hbw2 := fun v => heap_other (j := j) (v := v) (g := w.heap.size + 1) h.bw (by omega)
          have HFIN : Hid (∀ S, KeepsFrom S X (X.setCell ⟨w.heap.size + 1, j, none⟩ (.int .u64 ((numB bs / 2 ^ f % 2 ^ stepD f k % 2 ^ 64 ||| bs[(f + stepD f k) / 8].toNat / 2 ^ ((f + stepD f k) % 8) * 2 ^ stepD f k % 2 ^ 64 : Nat) : Int))).drew ∧
              ReadJ w bv n W.heap.size j wd f (numB bs) (partL wd n (numB bs) j) ds (k + 1) (X.setCell ⟨w.heap.size + 1, j, none⟩ (.int .u64 ((numB bs / 2 ^ f % 2 ^ stepD f k % 2 ^ 64 ||| bs[(f + stepD f k) / 8].toNat / 2 ^ ((f + stepD f k) % 8) * 2 ^ stepD f k % 2 ^ 64 : Nat) : Int))).drew) :=
            Lib.hid (fun S => ⟨(hst S).1, (hst S).2, hbi _, hbf2 _, hbw2 _⟩)
          clear hst hbi hbf2 hbw2 hu hpe hbv h hlist hbb hbf hbx
          have hd64 : stepD f k ≤ 64 := by omega
          have q7 : (f + stepD f k) % 8 < 8 := by omega
          have hz : bs[(f + stepD f k) / 8].toNat / 2 ^ ((f + stepD f k) % 8) * 2 ^ stepD f k % 2 ^ 64 < 18446744073709551616 := Nat.mod_lt _ (by omega)
          have hor := or_u64 _ _ hold hz
          have y1 : ((bs[(f + stepD f k) / 8].toNat : Nat) : Int) / 2 ^ ((f + stepD f k) % 8) = ((bs[(f + stepD f k) / 8].toNat / 2 ^ ((f + stepD f k) % 8) : Nat) : Int) := by simp
          have y2 : IntKind.u64.wrap (((bs[(f + stepD f k) / 8].toNat / 2 ^ ((f + stepD f k) % 8) : Nat) : Int) * 2 ^ stepD f k) = ((bs[(f + stepD f k) / 8].toNat / 2 ^ ((f + stepD f k) % 8) * 2 ^ stepD f k % 2 ^ 64 : Nat) : Int) := by
            rw [IntKind.wrap_u64]; simp
          have hpc : bs[(f + stepD f k) / 8].toNat / 2 ^ ((f + stepD f k) % 8) < 256 := Nat.lt_of_le_of_lt (Nat.div_le_self _ _) hblt
          generalize numB bs / 2 ^ f % 2 ^ stepD f k % 2 ^ 64 = old at *
          generalize bs[(f + stepD f k) / 8].toNat / 2 ^ ((f + stepD f k) % 8) * 2 ^ stepD f k % 2 ^ 64 = z at *
          generalize old ||| z = nw at *
          generalize bs[(f + stepD f k) / 8].toNat / 2 ^ ((f + stepD f k) % 8) = pc at *
          generalize bs[(f + stepD f k) / 8].toNat = by' at *
          have q3 : IntKind.i64.wrap (((f + stepD f k : Nat) : Int) / 8) = (((f + stepD f k) / 8 : Nat) : Int) := by rw [IntWalk.i64_in _ (by omega)]; omega
          have q5 : (((f + stepD f k : Nat)) : Int).tmod 8 = (((f + stepD f k) % 8 : Nat) : Int) := by rw [Int.tmod_eq_emod_of_nonneg (by omega)]; omega
          have hmix : Try.prog.follows .mixedOrders = true := by kernel_rfl
          have HTL := Lib.hid hget
          clear hget hd1 hstep
          generalize hT : f + stepD f k = t at *
          generalize t / 8 = i8 at *
          generalize t % 8 = r8' at *
          have hbl2 : bs.length ≤ 1000000 := by have := HQ.out; omega
          clear hT
          generalize stepD f k = d at *
          generalize bs.length = bln at *
          gi_wp2_with fail
          refine round_still_tail 17 hmix (by decide +kernel) (fun ⟨_, _, h⟩ => h) (by kernel_rfl) ?_
          simp only [List.take_succ_cons, List.take_zero, List.drop_succ_cons, List.drop_zero]
          repeat still_step
          try refine wpStill_nil ?_
          go_wp2
          rw [y2, hor]
          exact HFIN.out _
        · intro X h hD
          have HX := Lib.hid (And.intro h hD)
          clear h hD
          gi_wp2_with fail
          have hlen : (stepsE f wd).length = (stepsL f wd 0).length := by simp [stepsE]
          have hD := stepD_end f wd
          rw [← hlen] at hD
          have hlist := HX.out.1.main.list
          have c1 : X.cell? ⟨w.heap.size + 1 + 1, 0, none⟩ = some (.slice (some ⟨w.heap.size + 1, 0, none⟩) n n) := by rw [cell_of_row _ _ _ _ _ _ HX.out.1.main.lbox]; rfl
          have c2 : X.cell? ⟨W.heap.size, 0, none⟩ = some (.int .i64 (j : Int)) := by rw [cell_of_row _ _ _ _ _ _ HX.out.1.bi]; rfl
          have c5 : X.cell? ⟨w.heap.size + 1, j, none⟩ = some (.int .u64 ((numB bs / 2 ^ f % 2 ^ stepD f (stepsE f wd).length % 2 ^ 64 : Nat) : Int)) := by
            rw [cell_of_row _ _ _ _ _ _ hlist]
            simp [u64s, part_len, hjn]
          have c6 := free_of_row hlist j
          have hold : numB bs / 2 ^ f % 2 ^ stepD f (stepsE f wd).length % 2 ^ 64 < 18446744073709551616 := Nat.mod_lt _ (by omega)
          have y3 := mask_and wd _ hw hold
          rw [mask_done _ _ _ hD hw] at y3
          have y1 := mask_eq wd hw
          have y2 := mask_not wd hw
          have hst := fun S => HX.out.1.main.store (i := j) (UInt64.ofNat (numB bs / 2 ^ f % 2 ^ wd)) S
          rw [← HFF.out, part_step, HFF.out] at hst
          have hsmall : numB bs / 2 ^ f % 2 ^ wd < 2 ^ 64 := Nat.lt_of_lt_of_le (Nat.mod_lt _ (Nat.two_pow_pos _)) (Nat.pow_le_pow_right (by omega) hw)
          simp only [ofNat_toNat64] at hst
          rw [Nat.mod_eq_of_lt hsmall] at hst
          have HST := Lib.hid hst
          have hmix : Try.prog.follows .mixedOrders = true := by kernel_rfl
          have HM2 := Lib.hid (HX.out.2)
          clear hst hlist hD hlen hsmall
          generalize numB bs / 2 ^ f % 2 ^ stepD f (stepsE f wd).length % 2 ^ 64 = old at *
          generalize numB bs / 2 ^ f % 2 ^ wd = nw at *
          generalize 18446744073709551616 - 2 ^ wd = M1 at *
          generalize 2 ^ wd - 1 = M2 at *
          refine wide_still_tail 9 hmix (fun ⟨_, _, h⟩ => by obtain ⟨v, h1, _⟩ := h; cases h1) (by kernel_rfl) ?_
          simp only [List.take_succ_cons, List.take_zero, List.drop_succ_cons, List.drop_zero]
          repeat still_step
          try refine wpStill_nil ?_
          go_wp2
          have hJN := HST.out (w.heap.size + 3)
          have HJN := Lib.hid hJN
          clear y1 y2 y3 c1 c2 c5 c6
          gi_wp2_with fail
          exact ⟨⟨j + 1, _, _, _, _, _, _, _, _, _, _, _, _, _, _, _, _, _, _, _, _, _, _, _, _, _, _, _, _, _, _, _, _, _, _, _, _, _, _, _, _, _, _, _, _, _, _, _, _, _ :: ds, by omega, rfl, Lib.hid ⟨HJN.out.2.bbox, HJN.out.2.list, HJN.out.2.lbox, HJN.out.2.below, ⟨_, rfl, by omega, HJN.out.1.same _ _ (by omega) (hps ▸ HM2.out) rfl, fun d' hd' e' => by have := hlt d' hd' _ e'; omega, HJN.out.2.marks⟩, HJN.out.2.size⟩⟩, by simp [intOf]; omega⟩
      · have cb : W.cell? ⟨w.heap.size + 1 + 1, 0, none⟩ = some (.slice (some ⟨w.heap.size + 1, 0, none⟩) n n) := by rw [cell_of_row _ _ _ _ _ _ HP.out.lbox]; rfl
        have E := Lib.hid HP.out
        have hjn2 : j = n := by omega
        have HJ := Lib.hid hjn2
        clear HP hjn2
        gi_wp2_with fail
        refine leave_marks (v := .slice (some ⟨w.heap.size + 1, 0, none⟩) n n) (fun w' => by simp [results, Try.results128, go_sem]) ds W E.out.marks (fun W' hs => ?_)
        refine ⟨_, rfl, ?_, E.out.below.trans (hs.below.mono (by omega))⟩
        have hl := hs.cells E.out.list
        rw [HJ.out, part_all] at hl
        exact ⟨by simp [u64s, unpackL], .inr ⟨_, n, _, rfl, by omega, hl, Nat.le_refl _, by unfold maxLen; omega, by simp [u64s, unpackL], List.take_of_length_le (by simp [u64s, unpackL])⟩⟩
  · have hc1 : w1.cell? (ad.add q') = some (.int .u8 (last : Int)) := (HW.out.1.cell (World.block_lt_of_cell? w _ hc)).trans hc
    have hqi : ((q : Int) - 1) = (q' : Int) := by omega
    clear hc hqq
    gi_wp2_with fail
    rw [HS.out]
    refine wpIn_loop (fun A W => ∃ (j : Nat) (s2 s7 s12 s13 s14 s15 s16 s17 s18 s19 s20 s21 s22 s23 s24 s25 s26 s27 s28 s29 s30 s31 s32 s33 s34 s35 s36 s37 s38 s39 u9 u42 u43 u44 u45 u46 u47 u48 u68 u69 u70 u71 u72 u73 u74 u75 u76 u77 : Value) (ds : List Deferred), j ≤ n ∧ A = { tmps := #[Value.int IntKind.i64 ↑wd, Value.int IntKind.i64 ↑n, s2, undef, undef, Value.pointer (some { block := w.heap.size, off := 0 }), Value.slice none 0 0, s7, Value.pointer (some { block := w.heap.size + 1 + 1, off := 0 }), u9, undef, undef, s12, s13, s14, s15, s16, s17, s18, s19, s20, s21, s22, s23, s24, s25, s26, s27, s28, s29, s30, s31, s32, s33, s34, s35, s36, s37, s38, s39, Value.int IntKind.i64 ↑n, Value.int IntKind.i64 ↑j, u42, u43, u44, u45, u46, u47, u48, undef, undef, undef, undef, undef, undef, undef, undef, undef, undef, undef, undef, undef, undef, undef, undef, undef, undef, undef, u68, u69, u70, u71, u72, u73, u74, u75, u76, u77, undef], defers := ds } ∧ Hid (ReadW w bv n (partL wd n (numB bs) j) W ds)) (fun A _ => n - (intOf (A.tmps.getD 41 undef)).toNat) ?_ ?_
    · refine ⟨0, _, _, _, _, _, _, _, _, _, _, _, _, _, _, _, _, _, _, _, _, _, _, _, _, _, _, _, _, _, _, _, _, _, _, _, _, _, _, _, _, _, _, _, _, _, _, _, _, [], by omega, rfl, ?_, ?_, ?_, ?_, trivial, ?_⟩
      · exact (Below.heap_alloc _ _ _ (by simp; have := HS.out; omega)).trans ((Below.heap_alloc _ _ _ (by have := HS.out; omega)).trans HW.out.2.2)
      · rw [part_zero, ← HS.out]
        exact (Below.heap_alloc _ _ _ (by simp)).trans (alloc1 _ _)
      · have := alloc1 (w1.alloc (Obj.cells (u64s (List.replicate n 0)).toArray 116)) (Obj.cells #[Value.slice (some { block := w.heap.size + 1, off := 0 }) n n] 118)
        rw [World.size_alloc, HS.out] at this
        exact this
      · exact (HW.out.1.alloc (by have := HS.out; omega) _).alloc (by simp; have := HS.out; omega) _
      · simp; have := HS.out; omega
    · rintro A W ⟨j, s2, s7, s12, s13, s14, s15, s16, s17, s18, s19, s20, s21, s22, s23, s24, s25, s26, s27, s28, s29, s30, s31, s32, s33, s34, s35, s36, s37, s38, s39, u9, u42, u43, u44, u45, u46, u47, u48, u68, u69, u70, u71, u72, u73, u74, u75, u76, u77, ds, hj, rfl, HP⟩
      by_cases hjn : j < n
      · have hprodj : (j : Int) * (wd : Int) = ((wd * j : Nat) : Int) := by rw [Int.natCast_mul, Int.mul_comm]
        have hple : wd * j ≤ 64 * 100000 := Nat.mul_le_mul hw (by omega)
        generalize hf : wd * j = f at *
        have HFF := Lib.hid hf
        clear hf
        gi_wp2_with fail
        refine ⟨trivial, rfl, (callsIn_wide.2 (steps_any _ _ _)).mono ?_⟩
        rintro e w' ⟨rfl, rfl⟩
        gi_wp2_with fail
        have hsz := HP.out.size
        have hps : (((W.alloc (Obj.cells #[Value.int IntKind.i64 ↑j] 3)).alloc (Obj.cells #[Value.int IntKind.i64 ↑f] 3)).alloc (Obj.cells #[Value.int IntKind.i64 ↑wd] 3)).heap.size = W.heap.size + 3 := by simp
        have hJ0 : ReadJ w bv n W.heap.size j wd f (numB bs) (partL wd n (numB bs) j) ds 0 (((W.alloc (Obj.cells #[Value.int IntKind.i64 ↑j] 3)).alloc (Obj.cells #[Value.int IntKind.i64 ↑f] 3)).alloc (Obj.cells #[Value.int IntKind.i64 ↑wd] 3)) := by
          obtain ⟨a1, a2, a3⟩ := alloc3r W (Obj.cells #[Value.int IntKind.i64 ↑j] 3) (Obj.cells #[Value.int IntKind.i64 ↑f] 3) (Obj.cells #[Value.int IntKind.i64 ↑wd] 3)
          refine ⟨?_, a1, a2, a3⟩
          rw [part_self wd n (numB bs) j _ (by show _ % 2 ^ 0 = 0; omega)]
          exact HP.out.more ((((Below.refl _ _).alloc (Nat.le_refl _) _).alloc (by simp) _).alloc (by simp; omega) _)
        have hlt : ∀ d ∈ ds, ∀ D, d.target = .collected D → D < W.heap.size + 3 := fun d hd D hD => by have := HP.out.marks.lt d hd D hD; omega
        generalize ((W.alloc (Obj.cells #[Value.int IntKind.i64 ↑j] 3)).alloc (Obj.cells #[Value.int IntKind.i64 ↑f] 3)).alloc (Obj.cells #[Value.int IntKind.i64 ↑wd] 3) = W3 at *
        refine range_law (gf := 118) (lb := #[Value.pointer (some { block := W.heap.size + 1 + 1, off := 0 }), Value.pointer (some { block := W.heap.size + 1, off := 0 })]) rfl (enters_of Try.func118 (by kernel_rfl) rfl)
          (encs := stepsE f wd) (fun x hx => by obtain ⟨p, _, rfl⟩ := List.mem_map.1 hx; rfl) (steps_seq _ _ wd f hw (by omega))
          (ReadJ w bv n W.heap.size j wd f (numB bs) (partL wd n (numB bs) j) ds) (ReadJ.own (by rw [hps]; exact hlt) (by omega) (by omega)) (fun k X h => ⟨by rw [cell_of_row _ _ _ _ _ _ h.bw]; rfl, by rw [cell_of_row _ _ _ _ _ _ h.bf]; rfl⟩) hJ0
          (fun s X => ReadJ w bv n W.heap.size j wd f (numB bs) (partL wd n (numB bs) j) ds s.1 X ∧ ∃ d at', (stepsL f wd 0)[s.1]? = some (d, at') ∧
            s.2 = { tmps := #[Value.int IntKind.i64 ↑wd, Value.int IntKind.i64 ↑n, s2, undef, undef, Value.pointer (some { block := w.heap.size, off := 0 }), Value.slice none 0 0, s7, Value.pointer (some { block := w.heap.size + 1 + 1, off := 0 }), Value.pointer (some { block := W.heap.size, off := 0 }), Value.int IntKind.i64 (d : Nat), Value.int IntKind.i64 (at' : Nat), s12, s13, s14, s15, s16, s17, s18, s19, s20, s21, s22, s23, s24, s25, s26, s27, s28, s29, s30, s31, s32, s33, s34, s35, s36, s37, s38, s39, Value.int IntKind.i64 ↑n, Value.int IntKind.i64 ↑j, Value.bool true, Value.int IntKind.i64 ↑j, Value.int IntKind.i64 ↑j, Value.int IntKind.i64 ↑wd, Value.int IntKind.i64 ↑f, Value.int IntKind.i64 ↑wd, Value.func (Fn.func 118) #[] #[Value.pointer (some { block := W.heap.size + 1 + 1, off := 0 }), Value.pointer (some { block := W.heap.size + 1, off := 0 })], Value.int IntKind.i64 (d : Nat), Value.int IntKind.i64 (at' : Nat), undef, undef, undef, undef, undef, undef, undef, undef, undef, undef, undef, undef, undef, undef, undef, undef, undef, u68, u69, u70, u71, u72, u73, u74, u75, u76, u77, undef], defers := [] }) ?_ ?_ ?_ ?_
        · intro s X Y row h hg hr
          exact ⟨ReadJ.own (by rw [hps]; exact hlt) (by omega) (by omega) s.1 X Y row h.1 hg hr, h.2⟩
        · intro l' k hq X K h hK
          obtain ⟨d, at', hget, e⟩ := stepsE_getr hq
          rw [e]
          have HK := Lib.hid hK
          have HG2 := Lib.hid hget
          have HP2 := Lib.hid h
          clear hK e hget h
          simp only [List.zip_toArray, List.zip_cons_cons, List.zip_nil_right, List.foldl_toArray, List.foldl_cons, List.foldl_nil, List.setIfInBounds_toArray, List.set_cons_succ, List.set_cons_zero]
          gi_wp2
          exact HK.out _ _ (KeepsFrom.refl _ _) ⟨HP2.out, d, at', HG2.out, rfl⟩
        · rintro l' k hk a₁ X ⟨h, d, at', hget, rfl⟩
          obtain ⟨hd1, hd2⟩ := stepD_get f wd k (by simpa [stepsE] using hk)
          rw [hget] at hd1
          obtain ⟨rfl, rfl⟩ : d = stepD f k ∧ at' = f + stepD f k := by simpa using hd1
          have hstep : stepD f (k + 1) = stepD f k + (8 - (f + stepD f k) % 8) := rfl
          have hlist := h.main.list
          have hbb := h.main.bbox
          obtain ⟨ab, cb', hbf, _⟩ := HBV.out.form
          rw [u8s_len] at hbf
          have hbx := HBV.out.below h.main.below
          rw [hbf] at hbx hbb
          have hat : (f + stepD f k) / 8 < bs.length := by
            have h1 : f + wd ≤ wd * n := by
              rw [← HFF.out, ← Nat.mul_succ]; exact Nat.mul_le_mul_left _ (by omega)
            rw [HT.out] at h1
            have := HBL.out
            omega
          obtain ⟨ad, rfl⟩ := hbx.ptr (by omega)
          have c1 : X.cell? ⟨w.heap.size + 1 + 1, 0, none⟩ = some (.slice (some ⟨w.heap.size + 1, 0, none⟩) n n) := by rw [cell_of_row _ _ _ _ _ _ h.main.lbox]; rfl
          have c2 : X.cell? ⟨W.heap.size, 0, none⟩ = some (.int .i64 (j : Int)) := by rw [cell_of_row _ _ _ _ _ _ h.bi]; rfl
          have c3 : X.cell? ⟨w.heap.size, 0, none⟩ = some (.slice (some ad) bs.length cb') := by rw [cell_of_row _ _ _ _ _ _ hbb]; rfl
          have c4 : X.cell? (ad.add ((f + stepD f k) / 8)) = some (.int .u8 (bs[(f + stepD f k) / 8].toNat : Int)) := hbx.cell (by rw [u8s, List.getElem?_map, List.getElem?_eq_getElem hat]; rfl)
          have c5 : X.cell? ⟨w.heap.size + 1, j, none⟩ = some (.int .u64 ((numB bs / 2 ^ f % 2 ^ stepD f k % 2 ^ 64 : Nat) : Int)) := by
            rw [cell_of_row _ _ _ _ _ _ hlist]
            simp [u64s, part_len, hjn]
          have c6 := free_of_row hlist j
          have hbv := numB_at bs ((f + stepD f k) / 8) hat
          have hu := unpack_step (numB bs) f (stepD f k) (by omega)
          rw [← hstep] at hu
          have hpe := piece_eq (numB bs) (f + stepD f k)
          rw [← hbv] at hpe
          rw [← hpe] at hu
          have hblt := bs[(f + stepD f k) / 8].toNat_lt
          have hold : numB bs / 2 ^ f % 2 ^ stepD f k % 2 ^ 64 < 18446744073709551616 := Nat.mod_lt _ (by omega)
          have hst := fun S => h.main.store (i := j) (UInt64.ofNat (numB bs / 2 ^ f % 2 ^ stepD f (k + 1))) S
          simp only [ofNat_toNat64, List.set_set] at hst
          rw [← hu] at hst
          have hbi := fun v => heap_other (j := j) (v := v) (g := w.heap.size + 1) h.bi (by omega)
          have hbf2 := fun v => heap_other (j := j) (v := v) (g := w.heap.size + 1) h.bf (by omega)
          have hbw2 := fun v => heap_other (j := j) (v := v) (g := w.heap.size + 1) h.bw (by omega)
          have HFIN : Hid (∀ S, KeepsFrom S X (X.setCell ⟨w.heap.size + 1, j, none⟩ (.int .u64 ((numB bs / 2 ^ f % 2 ^ stepD f k % 2 ^ 64 ||| bs[(f + stepD f k) / 8].toNat / 2 ^ ((f + stepD f k) % 8) * 2 ^ stepD f k % 2 ^ 64 : Nat) : Int))).drew ∧
              ReadJ w bv n W.heap.size j wd f (numB bs) (partL wd n (numB bs) j) ds (k + 1) (X.setCell ⟨w.heap.size + 1, j, none⟩ (.int .u64 ((numB bs / 2 ^ f % 2 ^ stepD f k % 2 ^ 64 ||| bs[(f + stepD f k) / 8].toNat / 2 ^ ((f + stepD f k) % 8) * 2 ^ stepD f k % 2 ^ 64 : Nat) : Int))).drew) :=
            Lib.hid (fun S => ⟨(hst S).1, (hst S).2, hbi _, hbf2 _, hbw2 _⟩)
          clear hst hbi hbf2 hbw2 hu hpe hbv h hlist hbb hbf hbx
          have hd64 : stepD f k ≤ 64 := by omega
          have q7 : (f + stepD f k) % 8 < 8 := by omega
          have hz : bs[(f + stepD f k) / 8].toNat / 2 ^ ((f + stepD f k) % 8) * 2 ^ stepD f k % 2 ^ 64 < 18446744073709551616 := Nat.mod_lt _ (by omega)
          have hor := or_u64 _ _ hold hz
          have y1 : ((bs[(f + stepD f k) / 8].toNat : Nat) : Int) / 2 ^ ((f + stepD f k) % 8) = ((bs[(f + stepD f k) / 8].toNat / 2 ^ ((f + stepD f k) % 8) : Nat) : Int) := by simp
          have y2 : IntKind.u64.wrap (((bs[(f + stepD f k) / 8].toNat / 2 ^ ((f + stepD f k) % 8) : Nat) : Int) * 2 ^ stepD f k) = ((bs[(f + stepD f k) / 8].toNat / 2 ^ ((f + stepD f k) % 8) * 2 ^ stepD f k % 2 ^ 64 : Nat) : Int) := by
            rw [IntKind.wrap_u64]; simp
          have hpc : bs[(f + stepD f k) / 8].toNat / 2 ^ ((f + stepD f k) % 8) < 256 := Nat.lt_of_le_of_lt (Nat.div_le_self _ _) hblt
          generalize numB bs / 2 ^ f % 2 ^ stepD f k % 2 ^ 64 = old at *
          generalize bs[(f + stepD f k) / 8].toNat / 2 ^ ((f + stepD f k) % 8) * 2 ^ stepD f k % 2 ^ 64 = z at *
          generalize old ||| z = nw at *
          generalize bs[(f + stepD f k) / 8].toNat / 2 ^ ((f + stepD f k) % 8) = pc at *
          generalize bs[(f + stepD f k) / 8].toNat = by' at *
          have q3 : IntKind.i64.wrap (((f + stepD f k : Nat) : Int) / 8) = (((f + stepD f k) / 8 : Nat) : Int) := by rw [IntWalk.i64_in _ (by omega)]; omega
          have q5 : (((f + stepD f k : Nat)) : Int).tmod 8 = (((f + stepD f k) % 8 : Nat) : Int) := by rw [Int.tmod_eq_emod_of_nonneg (by omega)]; omega
          have hmix : Try.prog.follows .mixedOrders = true := by kernel_rfl
          have HTL := Lib.hid hget
          clear hget hd1 hstep
          generalize hT : f + stepD f k = t at *
          generalize t / 8 = i8 at *
          generalize t % 8 = r8' at *
          have hbl2 : bs.length ≤ 1000000 := by have := HQ.out; omega
          clear hT
          generalize stepD f k = d at *
          generalize bs.length = bln at *
          gi_wp2_with fail
          refine round_still_tail 17 hmix (by decide +kernel) (fun ⟨_, _, h⟩ => h) (by kernel_rfl) ?_
          simp only [List.take_succ_cons, List.take_zero, List.drop_succ_cons, List.drop_zero]
          repeat still_step
          try refine wpStill_nil ?_
          go_wp2
          rw [y2, hor]
          exact HFIN.out _
        · intro X h hD
          have HX := Lib.hid (And.intro h hD)
          clear h hD
          gi_wp2_with fail
          have hlen : (stepsE f wd).length = (stepsL f wd 0).length := by simp [stepsE]
          have hD := stepD_end f wd
          rw [← hlen] at hD
          have hlist := HX.out.1.main.list
          have c1 : X.cell? ⟨w.heap.size + 1 + 1, 0, none⟩ = some (.slice (some ⟨w.heap.size + 1, 0, none⟩) n n) := by rw [cell_of_row _ _ _ _ _ _ HX.out.1.main.lbox]; rfl
          have c2 : X.cell? ⟨W.heap.size, 0, none⟩ = some (.int .i64 (j : Int)) := by rw [cell_of_row _ _ _ _ _ _ HX.out.1.bi]; rfl
          have c5 : X.cell? ⟨w.heap.size + 1, j, none⟩ = some (.int .u64 ((numB bs / 2 ^ f % 2 ^ stepD f (stepsE f wd).length % 2 ^ 64 : Nat) : Int)) := by
            rw [cell_of_row _ _ _ _ _ _ hlist]
            simp [u64s, part_len, hjn]
          have c6 := free_of_row hlist j
          have hold : numB bs / 2 ^ f % 2 ^ stepD f (stepsE f wd).length % 2 ^ 64 < 18446744073709551616 := Nat.mod_lt _ (by omega)
          have y3 := mask_and wd _ hw hold
          rw [mask_done _ _ _ hD hw] at y3
          have y1 := mask_eq wd hw
          have y2 := mask_not wd hw
          have hst := fun S => HX.out.1.main.store (i := j) (UInt64.ofNat (numB bs / 2 ^ f % 2 ^ wd)) S
          rw [← HFF.out, part_step, HFF.out] at hst
          have hsmall : numB bs / 2 ^ f % 2 ^ wd < 2 ^ 64 := Nat.lt_of_lt_of_le (Nat.mod_lt _ (Nat.two_pow_pos _)) (Nat.pow_le_pow_right (by omega) hw)
          simp only [ofNat_toNat64] at hst
          rw [Nat.mod_eq_of_lt hsmall] at hst
          have HST := Lib.hid hst
          have hmix : Try.prog.follows .mixedOrders = true := by kernel_rfl
          have HM2 := Lib.hid (HX.out.2)
          clear hst hlist hD hlen hsmall
          generalize numB bs / 2 ^ f % 2 ^ stepD f (stepsE f wd).length % 2 ^ 64 = old at *
          generalize numB bs / 2 ^ f % 2 ^ wd = nw at *
          generalize 18446744073709551616 - 2 ^ wd = M1 at *
          generalize 2 ^ wd - 1 = M2 at *
          refine wide_still_tail 9 hmix (fun ⟨_, _, h⟩ => by obtain ⟨v, h1, _⟩ := h; cases h1) (by kernel_rfl) ?_
          simp only [List.take_succ_cons, List.take_zero, List.drop_succ_cons, List.drop_zero]
          repeat still_step
          try refine wpStill_nil ?_
          go_wp2
          have hJN := HST.out (w.heap.size + 3)
          have HJN := Lib.hid hJN
          clear y1 y2 y3 c1 c2 c5 c6
          gi_wp2_with fail
          exact ⟨⟨j + 1, _, _, _, _, _, _, _, _, _, _, _, _, _, _, _, _, _, _, _, _, _, _, _, _, _, _, _, _, _, _, _, _, _, _, _, _, _, _, _, _, _, _, _, _, _, _, _, _, _ :: ds, by omega, rfl, Lib.hid ⟨HJN.out.2.bbox, HJN.out.2.list, HJN.out.2.lbox, HJN.out.2.below, ⟨_, rfl, by omega, HJN.out.1.same _ _ (by omega) (hps ▸ HM2.out) rfl, fun d' hd' e' => by have := hlt d' hd' _ e'; omega, HJN.out.2.marks⟩, HJN.out.2.size⟩⟩, by simp [intOf]; omega⟩
      · have cb : W.cell? ⟨w.heap.size + 1 + 1, 0, none⟩ = some (.slice (some ⟨w.heap.size + 1, 0, none⟩) n n) := by rw [cell_of_row _ _ _ _ _ _ HP.out.lbox]; rfl
        have E := Lib.hid HP.out
        have hjn2 : j = n := by omega
        have HJ := Lib.hid hjn2
        clear HP hjn2
        gi_wp2_with fail
        refine leave_marks (v := .slice (some ⟨w.heap.size + 1, 0, none⟩) n n) (fun w' => by simp [results, Try.results128, go_sem]) ds W E.out.marks (fun W' hs => ?_)
        refine ⟨_, rfl, ?_, E.out.below.trans (hs.below.mono (by omega))⟩
        have hl := hs.cells E.out.list
        rw [HJ.out, part_all] at hl
        exact ⟨by simp [u64s, unpackL], .inr ⟨_, n, _, rfl, by omega, hl, Nat.le_refl _, by unfold maxLen; omega, by simp [u64s, unpackL], List.take_of_length_le (by simp [u64s, unpackL])⟩⟩
end Go.Proofs.Ytcpfkinjglnabaa
