/- codec.readPacked reads what Pack tells. Conditions: small lists. -/
import Derived.Test.YtbijpjoljljlpaaCodecRead
set_option maxRecDepth 100000
namespace Go.Proofs.Ytbijpjoljljlpaa
open Go.RowKit Go.Maps Go.Sort
attribute [local go_sem] Oper.semAt_some

def unpackL (wd n N : Nat) : List UInt64 := (List.range n).map fun i => UInt64.ofNat (N / 2 ^ (wd * i) % 2 ^ wd)
/-- the list behind j numbers -/
def partL (wd n N j : Nat) : List UInt64 := (List.range n).map fun i => if i < j then UInt64.ofNat (N / 2 ^ (wd * i) % 2 ^ wd) else 0
theorem part_zero (wd n N : Nat) : partL wd n N 0 = List.replicate n 0 := by
  apply List.ext_getElem <;> simp [partL]
theorem part_all (wd n N : Nat) : partL wd n N n = unpackL wd n N := by
  unfold partL unpackL
  apply List.map_congr_left
  intro i hi
  rw [if_pos (List.mem_range.1 hi)]
theorem part_len (wd n N j : Nat) : (partL wd n N j).length = n := by simp [partL]
theorem part_step (wd n N j : Nat) (u : UInt64) : ((partL wd n N j).set j u).set j (UInt64.ofNat (N / 2 ^ (wd * j) % 2 ^ wd)) = partL wd n N (j + 1) := by
  rw [List.set_set]
  apply List.ext_getElem
  · simp [partL]
  · intro i h1 h2
    rw [List.getElem_set]
    simp only [partL, List.getElem_map, List.getElem_range]
    split
    · rename_i h; subst h; rw [if_pos (by omega)]
    · rename_i h
      by_cases hij : i < j
      · rw [if_pos hij, if_pos (by omega)]
      · rw [if_neg hij, if_neg (by omega)]
theorem part_self (wd n N j : Nat) (x : Nat) (hx : x = 0) : (partL wd n N j).set j (UInt64.ofNat x) = partL wd n N j := by
  subst hx
  apply List.ext_getElem
  · simp [partL]
  · intro i h1 h2
    rw [List.getElem_set]
    split
    · rename_i h; subst h; simp [partL]
    · rfl

theorem mask_eq (wd : Nat) (hw : wd ≤ 64) : IntKind.u64.wrap (18446744073709551615 * 2 ^ wd) = ((18446744073709551616 - 2 ^ wd : Nat) : Int) := by
  have h1 : 2 ^ wd ≤ 2 ^ 64 := Nat.pow_le_pow_right (by omega) hw
  have h2 : 0 < 2 ^ wd := Nat.two_pow_pos wd
  rw [IntKind.wrap_u64]
  have e : (2 : Int) ^ wd = ((2 ^ wd : Nat) : Int) := by simp
  rw [e]
  generalize 2 ^ wd = p at *
  omega
theorem mask_not (wd : Nat) (hw : wd ≤ 64) : bits .xor .u64 IntKind.u64.max ((18446744073709551616 - 2 ^ wd : Nat) : Int) = ((2 ^ wd - 1 : Nat) : Int) := by
  have h1 : 2 ^ wd ≤ 2 ^ 64 := Nat.pow_le_pow_right (by omega) hw
  have h2 : 0 < 2 ^ wd := Nat.two_pow_pos wd
  rw [not_u64 _ (by omega)]
  generalize 2 ^ wd = p at *
  omega
theorem mask_and (wd x : Nat) (hw : wd ≤ 64) (hx : x < 18446744073709551616) : bits .and .u64 (x : Int) ((2 ^ wd - 1 : Nat) : Int) = ((x % 2 ^ wd : Nat) : Int) := by
  have h1 : 2 ^ wd ≤ 2 ^ 64 := Nat.pow_le_pow_right (by omega) hw
  rw [and_u64 _ _ hx (by omega), Nat.and_two_pow_sub_one_eq_mod]

theorem mkU (w : World) (k : Nat) (hk : k ≤ 100000) :
    (Instr.makeSlice 46 (.int .i64 (k : Int)) (.int .i64 (k : Int))).run Try.prog w = .ok (.slice (some ⟨w.heap.size, 0, none⟩) k k) (w.alloc (.cells (u64s (List.replicate k 0)).toArray 44)) := by
  obtain ⟨i, hi, hz0, hz1, hz2⟩ := info_parts infoU
  have := run_make (P := Try.prog) w 46 44 i (.int .u64 0) Try.underlying46 hi hz0 .i64 .i64 (k : Int) k (by omega) (by omega) (by rw [hz2]; omega) (by omega)
  rw [this, hz1]
  simp only [Int.toNat_natCast, Nat.mul_one, Value.cells]
  have e : madeCells #[Value.int .u64 0] k = (u64s (List.replicate k 0)).toArray := by
    apply Array.toList_inj.1
    rw [toList_madeCells_one]
    simp [u64s]
  rw [e]

/-- the last byte tells whether a bit stands behind the numbers -/
theorem trail_eq (bs : List UInt8) (tot : Nat) (hb : bs.length = (tot + 7) / 8) (hr : 0 < tot % 8) (hlt : bs.length - 1 < bs.length) : (bs[bs.length - 1].toNat / 2 ^ (tot % 8) = 0) ↔ numB bs < 2 ^ tot := by
  have h1 := numB_lt bs
  have hl : bs.length = (bs.length - 1) + 1 := by omega
  rw [numB_at bs _ hlt]
  have h2 : numB bs / 256 ^ (bs.length - 1) < 256 := by
    rw [Nat.div_lt_iff_lt_mul (Nat.pow_pos (by omega)), Nat.mul_comm, ← Nat.pow_succ]
    show numB bs < 256 ^ (bs.length - 1 + 1)
    rw [← hl]; exact h1
  rw [Nat.mod_eq_of_lt h2, Nat.div_div_eq_div_mul, pow256, ← Nat.pow_add, show 8 * (bs.length - 1) + tot % 8 = tot by omega]
  exact Nat.div_eq_zero_iff.trans ⟨fun h => by rcases h with h | h; exact absurd h (Nat.ne_of_gt (Nat.two_pow_pos _)); exact h, fun h => .inr h⟩

set_option maxHeartbeats 1600000 in
theorem read_trail {w : World} {a : Option Addr} {cap : Nat} {bs : List UInt8} (h : Holds w (.slice a bs.length cap) (u8s bs)) (wd n : Nat) (hw : wd ≤ 64) (hn : n ≤ 100000) (hb : bs.length = (wd * n + 7) / 8) (hbad : ¬ numB bs < 2 ^ (wd * n)) :
    Calls Try.prog 58 #[.int .i64 (wd : Int), .int .i64 (n : Int), .slice a bs.length cap] w fun e w' => e = .panicked corrupt ∧ Below w.heap.size w w' := by
  have hle : wd * n ≤ 64 * 100000 := Nat.mul_le_mul hw hn
  have hpk := fun W => (packedBytes_any wd n hw (by omega) W).mono fun _ _ ⟨h1, h2⟩ => (⟨h1, h2.symm⟩ : _ ∧ _ = W)
  rw [← hb] at hpk
  have hprod : (wd : Int) * (n : Int) = ((wd * n : Nat) : Int) := by simp
  generalize ht : wd * n = tot at *
  have hr : 0 < tot % 8 := by
    rcases Nat.eq_zero_or_pos (tot % 8) with e | e
    · exfalso
      apply hbad
      have := numB_lt bs
      rw [pow256, hb, show 8 * ((tot + 7) / 8) = tot by omega] at this
      exact this
    · exact e
  have hbl : bs.length - 1 < bs.length := by omega
  have htr := mt (trail_eq bs tot hb hr hbl).1 hbad
  obtain ⟨ad, rfl⟩ := h.ptr (by omega)
  have hc : w.cell? (ad.add (bs.length - 1)) = some (.int .u8 (bs[bs.length - 1].toNat : Int)) := h.cell (by rw [u8s, List.getElem?_map, List.getElem?_eq_getElem hbl]; rfl)
  have hx := bs[bs.length - 1].toNat_lt
  have e8 : (tot : Int) % 8 = ((tot % 8 : Nat) : Int) := by omega
  have hr8 : tot % 8 ≤ 8 := by omega
  generalize bs[bs.length - 1].toNat = last at *
  generalize hr2 : tot % 8 = r8 at *
  obtain ⟨q, hq⟩ : ∃ q, bs.length = q + 1 := ⟨bs.length - 1, by omega⟩
  rw [hq] at hc hb hbl ⊢
  rw [Nat.add_sub_cancel] at hc
  have htest : ((last : Int) / 2 ^ r8 != 0) = true := by
    rw [bne_iff_ne]
    have e : (2 : Int) ^ r8 = ((2 ^ r8 : Nat) : Int) := by simp
    rw [e, ← Int.natCast_ediv]
    omega
  have HPK := Lib.hid hpk
  have hq2 : q ≤ 1000000 := by omega
  have hbw : Below w.heap.size w (w.alloc (.cells #[.slice (some ad) (q + 1) cap] 28)) := below1r w _
  have hc2 : ∀ k, ((w.alloc (.cells #[.slice (some ad) (q + 1) cap] 28)).drewN k).cell? (ad.add q) = some (.int .u8 (last : Int)) := fun k =>
    (hbw.cell (World.block_lt_of_cell? w _ hc)).trans hc
  rw [hq] at HPK
  have HB := Lib.hid hbw
  clear hpk hb hbl htr hbad ht hr2 hc h hbw hq
  refine (callsIn_wide (n := 0)).1 ?_
  refine callsIn_of_wp_marks Try.func58 rfl trivial ?_ rfl
  simp only [Try.ntmps58, List.size_toArray, List.length_cons, List.length_nil, Nat.reduceAdd, Nat.reduceSub, Array.replicate_succ, Array.replicate_zero, List.push_toArray, List.append_toArray, List.nil_append, List.cons_append]
  gi_wp2_with fail
  refine wpIn_region_quiet_lit rfl (by kernel_rfl) (by kernel_rfl) ?_
  repeat (gi_big_quiet_step (fail))
  refine wpQuietIn_step (fun _ _ _ _ => trivial) (fun K hK => ?_)
  go_simp
  refine ⟨_, fun q => ⟨rfl, callsIn_wide.2 (Calls.quiet_of_same (HPK.out _))⟩, hK _ ?_⟩
  clear hK K
  repeat (gi_big_quiet_step (fail))
  refine wpQuietIn_nil ?_
  intro _ hw'
  obtain ⟨nq, hw''⟩ := hw'
  subst hw''
  have hc3 := hc2 nq
  clear hc2
  gi_wp2_with fail
  have hb := HB.out
  exact ⟨rfl, hb.os, hb.tape, hb.output, hb.size, hb.block⟩
end Go.Proofs.Ytbijpjoljljlpaa
