/- The texts Tells CodecPlain CodecPut DigBytes, one behind the other; each one's own comment says what it holds. -/
import Derived.Test.YtahaoodklfmddaaGen
import Derived.Test.YtahaoodklfmddaaBits
import Derived.Outline
import Derived.Test.YtahaoodklfmddaaDigestActsRowGE
import Derived.Test.YtahaoodklfmddaaDigestActsRowGA
/- Contracts of talusref01.Same, Words, Ints, Lend, Kept. Conditions: at most 2^43 numbers (Words, Ints), at most 400000 bytes (Lend, Kept). -/
set_option maxRecDepth 100000
namespace Go.Proofs.Ytahaoodklfmddaa
open Go.RowKit Go.Maps Go.Sort

theorem info8 : (Try.prog.info? 5).map (fun i => (i.zero, i.size, i.bytes)) = some (some (.int .u8 0), 1, 1) := by kernel_rfl
theorem info64 : (Try.prog.info? 3).map (fun i => (i.zero, i.size, i.bytes)) = some (some (.int .i64 0), 1, 8) := by kernel_rfl
theorem infoU : (Try.prog.info? 29).map (fun i => (i.zero, i.size, i.bytes)) = some (some (.int .u64 0), 1, 8) := by kernel_rfl

theorem app8 {w : World} {B : Nat} {v : Value} {xs : List UInt8} (hown : w.ownsRow B 5 1 v xs.length (u8s xs)) (hB : B ≤ w.heap.size) {sv : Value} {l : List UInt8} (hs : Holds w sv (u8s l)) (hlen : xs.length + l.length ≤ 17592186044416) :
    ∃ v' w', (∀ ty, (Builtin.append_ #[56, 56] ty #[v, sv]).run Try.prog w = .ok v' w') ∧ w'.ownsRow B 5 1 v' (xs ++ l).length (u8s (xs ++ l)) ∧ w.grownBy w' v.ownBlock ∧ (v'.ownBlock = v.ownBlock ∨ v'.ownBlock = some w.heap.size) := by
  have := app_any (P := Try.prog) Try.underlying56 info8 (by omega) rfl (by rw [u8s_len]; exact hown) hB hs (u8s_one l) (by rw [u8s_len, u8s_len]; exact hlen)
  rw [← u8s_append, u8s_len] at this
  exact this
/-- a new block of one byte -/
theorem holds_one8 (w : World) (c : UInt8) (n : Int) (hn : n = (c.toNat : Int)) : Holds (w.alloc (.cells #[.int .u8 n] 5)) (.slice (some ⟨w.heap.size, 0, none⟩) 1 1) (u8s [c]) :=
  Holds.of_heap (alloc1 _ _) (by rw [hn]; rfl) 1 1 rfl (Nat.le_refl _)

theorem toStr {w : World} {v : Value} {l : List UInt8} (h : Holds w v (u8s l)) : (convert 56 9 v).run Try.prog w = .ok (.string ⟨l.toArray⟩) w :=
  str_of_holds Try.underlying56 Try.underlying5 Try.underlying9 h

set_option maxHeartbeats 400000 in
theorem Same_any {w : World} {v1 v2 : Value} {l1 l2 : List UInt8} (h1 : Holds w v1 (u8s l1)) (h2 : Holds w v2 (u8s l2)) :
    Calls Try.prog 21 #[v1, v2] w fun r w' => r = .returned (.bool (decide (l1 = l2))) ∧ w = w' := by
  have s1 := toStr h1
  have s2 := toStr h2
  obtain ⟨a1, c1, rfl, _, _⟩ := h1
  obtain ⟨a2, c2, rfl, _, _⟩ := h2
  go_enter Try.func21, Try.ntmps21
  go_wp2
  go_ret
  refine ⟨ret_bool ?_, rfl⟩
  rw [Bool.eq_iff_iff]
  simp
end Go.Proofs.Ytahaoodklfmddaa
/- Plain mathematics of package codec: the digits of a number to base 128, and the number that bytes begin with. Conditions: none. -/
set_option maxRecDepth 100000
namespace Go.Proofs.Ytahaoodklfmddaa

/-- the digits of a number to base 128 -/
def dig (u : Nat) : List UInt8 := if h : u < 128 then [UInt8.ofNat u] else UInt8.ofNat (u % 128 + 128) :: dig (u / 128)
termination_by u
decreasing_by omega
theorem dig_lo {u : Nat} (h : u < 128) : dig u = [UInt8.ofNat u] := by rw [dig, dif_pos h]
theorem dig_hi {u : Nat} (h : ¬ u < 128) : dig u = UInt8.ofNat (u % 128 + 128) :: dig (u / 128) := by rw [dig, dif_neg h]
theorem dig_len (k : Nat) : ∀ u : Nat, u < 128 ^ k → (dig u).length ≤ k ∨ k = 0 := by
  induction k with
  | zero => intro u _; exact .inr rfl
  | succ k ih =>
    intro u hu
    by_cases h : u < 128
    · rw [dig_lo h]; exact .inl (by simp)
    · rw [dig_hi h]
      refine .inl ?_
      have h2 : u / 128 < 128 ^ k := by
        rw [Nat.div_lt_iff_lt_mul (by omega)]; rw [Nat.pow_succ] at hu; exact hu
      rcases ih _ h2 with h3 | rfl
      · simp; exact h3
      · simp at hu; omega
theorem dig_len10 {u : Nat} (hu : u < 18446744073709551616) : (dig u).length ≤ 10 := by
  rcases dig_len 10 u (by omega) with h | h
  · exact h
  · omega
theorem dig300 : dig 300 = [172, 2] := by
  rw [dig_hi (by omega), dig_lo (by omega)]; decide
end Go.Proofs.Ytahaoodklfmddaa
/- Contracts of codec.put, codec.Put and talusref02.Put: the digits of a number behind bytes. Conditions: fewer than 2^43 bytes. -/
set_option maxRecDepth 100000
namespace Go.Proofs.Ytahaoodklfmddaa
open Go.RowKit Go.Maps Go.Sort

theorem grown_trans {w w1 w2 : World} {r r' : Option Nat} (h : w.grownBy w1 r) (h2 : w1.grownBy w2 r') (hr : r' = r ∨ ∀ g, r' = some g → w.heap.size ≤ g) : w.grownBy w2 r :=
  ⟨h2.os.trans h.os, h2.tape.trans h.tape, h2.output.trans h.output, Nat.le_trans h.size h2.size, fun k hk hn =>
    (h2.block k (Nat.lt_of_lt_of_le hk h.size) (fun e => by
      rcases hr with hr | hr
      · exact hn (hr ▸ e)
      · have := hr k e.symm; omega)).trans (h.block k hk hn)⟩
theorem grown_alloc (w : World) (o : Obj) (r : Option Nat) : w.grownBy (w.alloc o) r :=
  ⟨rfl, rfl, rfl, by simp, fun k hk _ => Below.heap_alloc _ _ _ hk⟩
theorem grown_refl (w : World) (r : Option Nat) : w.grownBy w r := ⟨rfl, rfl, rfl, Nat.le_refl _, fun _ _ _ => rfl⟩

theorem put_step {w wr : World} {B : Nat} {v v' : Value} {ys : List UInt8} (h : wr.ownsRow B 5 1 v' ys.length (u8s ys) ∧ w.grownBy wr v.ownBlock ∧ (v'.ownBlock = v.ownBlock ∨ ∀ g, v'.ownBlock = some g → w.heap.size ≤ g)) (hB : B ≤ w.heap.size) (c : UInt8) (n : Int) (hn : n = (c.toNat : Int)) (hy : ys.length ≤ 17592186044100) :
    ∃ v2 w2, Hid (∀ ty, (Builtin.append_ #[56, 56] ty #[v', .slice (some ⟨wr.heap.size, 0, none⟩) 1 1]).run Try.prog (wr.alloc (.cells #[.int .u8 n] 5)) = .ok v2 w2) ∧
      Hid (w2.ownsRow B 5 1 v2 (ys ++ [c]).length (u8s (ys ++ [c])) ∧ w.grownBy w2 v.ownBlock ∧ (v2.ownBlock = v.ownBlock ∨ ∀ g, v2.ownBlock = some g → w.heap.size ≤ g)) := by
  obtain ⟨h1, h2, h3⟩ := h
  have hs := h2.size
  obtain ⟨v2, w2, r, o, g, b⟩ := app8 (h1.alloc (.cells #[.int .u8 n] 5)) (by simp; omega) (holds_one8 wr c n hn) (by simp; omega)
  refine ⟨v2, w2, r, o, ?_, ?_⟩
  · refine grown_trans (grown_trans h2 (grown_alloc wr _ none) (.inr (fun g e => by cases e))) g ?_
    exact h3
  · rcases b with b | b
    · rw [b]; exact h3
    · refine .inr (fun g e => ?_)
      rw [b] at e
      simp at e
      omega

set_option maxHeartbeats 800000 in
theorem put_any {w : World} {B : Nat} {v : Value} {xs : List UInt8} (hown : w.ownsRow B 5 1 v xs.length (u8s xs)) (hB : B ≤ w.heap.size) (u : Nat) (hu : u < 18446744073709551616) (hx : xs.length ≤ 17592186044000) :
    Calls Try.prog 58 #[v, .int .u64 (u : Int)] w fun e w' => ∃ v', e = .returned v' ∧ w'.ownsRow B 5 1 v' (xs ++ dig u).length (u8s (xs ++ dig u)) ∧ w.grownBy w' v.ownBlock ∧ (v'.ownBlock = v.ownBlock ∨ ∀ g, v'.ownBlock = some g → w.heap.size ≤ g) := by
  have HB := Lib.hid hB
  have HX := Lib.hid hx
  have HO := Lib.hid hown
  have HU := Lib.hid hu
  have HL := Lib.hid (dig_len10 hu)
  clear hB hx hown hu
  go_enter Try.func58, Try.ntmps58
  go_wp2_with fail
  go_loopw [0, 1] (fun v' i wr => ∃ (k : Nat) (ys : List UInt8), i = .int .u64 k ∧ k ≤ u ∧ Hid (ys ++ dig k = xs ++ dig u) ∧ Hid (wr.ownsRow B 5 1 v' ys.length (u8s ys) ∧ w.grownBy wr v.ownBlock ∧ (v'.ownBlock = v.ownBlock ∨ ∀ g, v'.ownBlock = some g → w.heap.size ≤ g))) (fun _ i _ => (intOf i).toNat)
  case atStart => exact ⟨u, xs, rfl, Nat.le_refl _, rfl, HO.out, grown_refl _ _, .inl rfl⟩
  case round =>
    obtain ⟨k, ys, rfl, hk, HD, HR⟩ := hrel
    have hk64 : k < 18446744073709551616 := by have := HU.out; omega
    have hy : ys.length ≤ 17592186044100 := by
      have e := congrArg List.length HD.out
      simp only [List.length_append] at e
      have := HX.out; have := HL.out; omega
    by_cases h : k < 128
    · have t1 : decide ((128 : Int) ≤ (k : Int)) = false := decide_eq_false (by omega)
      obtain ⟨v2, w2, HRUN, HR2⟩ := put_step HR.out HB.out (UInt8.ofNat k) (k : Int) (by simp; omega) hy
      have HE := Lib.hid (dig_lo h)
      clear hy
      go_wp2_with (at_builtin; refine wpList_append_run rfl _ _ 56 rfl rfl rfl (HRUN.out _) ?_)
      go_ret
      rw [← HD.out, HE.out]
      exact ⟨v2, rfl, HR2.out⟩
    · have t1 : decide ((128 : Int) ≤ (k : Int)) = true := decide_eq_true (by omega)
      obtain ⟨v2, w2, HRUN, HR2⟩ := put_step HR.out HB.out (UInt8.ofNat (k % 128 + 128)) _ (low_or128 k) hy
      have HE := Lib.hid (dig_hi h)
      clear hy
      go_wp2_with (at_builtin; refine wpList_append_run rfl _ _ 56 rfl rfl rfl (HRUN.out _) ?_)
      go_roundw
      case rel => exact ⟨k / 128, ys ++ [UInt8.ofNat (k % 128 + 128)], by go_num, by omega, Lib.hid (by rw [← HD.out, HE.out]; simp), HR2.out⟩
      case measure => simp [intOf]; omega

/-- Put: a copy with the digits behind it -/
theorem mk8 (w : World) (n m : Int) (k c : Nat) (hn : n = (k : Int)) (hm : m = (c : Int)) (hk : k ≤ c) (hc : c ≤ 17592186044416) :
    (Instr.makeSlice 56 (.int .i64 n) (.int .i64 m)).run Try.prog w = .ok (.slice (some ⟨w.heap.size, 0, none⟩) k c) (w.alloc (.cells (u8s (List.replicate c 0)).toArray 5)) := by
  obtain ⟨i, hi, hz0, hz1, hz2⟩ := info_parts info8
  subst hn hm
  have := run_make (P := Try.prog) w 56 5 i (.int .u8 0) Try.underlying56 hi hz0 .i64 .i64 (k : Int) c (by omega) (by omega) (by rw [hz2]; omega) (by omega)
  rw [this, hz1]
  simp only [Int.toNat_natCast, Nat.mul_one, Value.cells]
  have e : madeCells #[Value.int .u8 0] c = (u8s (List.replicate c 0)).toArray := by
    apply Array.toList_inj.1
    rw [toList_madeCells_one]
    simp [u8s]
  rw [e]

set_option maxHeartbeats 800000 in
theorem Put_any {w : World} {v : Value} {xs : List UInt8} (h : Holds w v (u8s xs)) (u : Nat) (hu : u < 18446744073709551616) (hx : xs.length ≤ 17592186044000) :
    Calls Try.prog 42 #[v, .int .u64 (u : Int)] w fun e w' => ∃ v', e = .returned v' ∧ w'.ownsRow w.heap.size 5 1 v' (xs ++ dig u).length (u8s (xs ++ dig u)) ∧ Below w.heap.size w w' := by
  obtain ⟨a, c, hv, hc⟩ := h.form
  rw [u8s_len] at hv hc
  subst hv
  have hmk := mk8 w 0 ((xs.length : Int) + 10) 0 (xs.length + 10) rfl (by omega) (by omega) (by omega)
  have hb1 := (Below.refl w.heap.size w).alloc (Nat.le_refl _) (.cells (u8s (List.replicate (xs.length + 10) 0)).toArray 5)
  have hr1 := World.ownsRow_made w (base := w.heap.size) (e := 5) (size := 1) (u8s (List.replicate (xs.length + 10) 0)).toArray (xs.length + 10) (Nat.le_refl _) (by unfold maxLen; omega) (by simp [u8s])
  generalize w.alloc (.cells (u8s (List.replicate (xs.length + 10) 0)).toArray 5) = w1 at *
  obtain ⟨v2, w2, r, o, g, b⟩ := app8 (xs := []) hr1 hb1.size (h.below hb1) (by simp; omega)
  have hb2 : Below w.heap.size w w2 := hb1.trans (below_grown g hb1.size (fun k e => by simp [Value.ownBlock] at e; omega))
  have hx2 : ([] ++ xs).length ≤ 17592186044000 := by simpa using hx
  have R := Lib.hid r
  have O := Lib.hid o
  have HB2 := Lib.hid hb2
  have HX2 := Lib.hid hx2
  have HU := Lib.hid hu
  clear h r o g b hb1 hr1 hb2 hx2 hu
  generalize xs.length = n at *
  go_enter Try.func42, Try.ntmps42
  go_wp2_with (at_builtin; refine wpList_append_run rfl _ _ 56 rfl rfl rfl (R.out _) ?_)
  refine (put_any O.out HB2.out.size u HU.out HX2.out).mono ?_
  rintro e w3 ⟨v3, rfl, o3, g3, b3⟩
  have O3 := Lib.hid o3
  have B3 := Lib.hid (HB2.out.trans (below_grown g3 HB2.out.size (fun k e => ownsRow_ge O.out k e)))
  clear o3 g3 b3
  go_wp2_with fail
  go_ret
  refine ⟨v3, rfl, ?_, B3.out⟩
  have := O3.out
  simpa using this

set_option maxHeartbeats 800000 in
theorem refPut_any {w : World} {v : Value} {xs : List UInt8} (h : Holds w v (u8s xs)) (u : Nat) (hu : u < 18446744073709551616) (hx : xs.length ≤ 17592186044000) :
    Calls Try.prog 49 #[v, .int .u64 (u : Int)] w fun e w' => ∃ v', e = .returned v' ∧ w'.ownsRow w.heap.size 5 1 v' (xs ++ dig u).length (u8s (xs ++ dig u)) ∧ Below w.heap.size w w' := by
  obtain ⟨a, c, hv, hc⟩ := h.form
  rw [u8s_len] at hv hc
  subst hv
  have hb1 := (Below.refl w.heap.size w).alloc (Nat.le_refl _) (.cells #[] 5)
  have hr1 := World.ownsRow_made w (base := w.heap.size) (e := 5) (size := 1) #[] 0 (Nat.le_refl _) (by unfold maxLen; omega) (by simp)
  obtain ⟨v2, w2, r, o, g, b⟩ := app8 (xs := []) hr1 hb1.size (h.below hb1) (by simp; omega)
  have hb2 : Below w.heap.size w w2 := hb1.trans (below_grown g hb1.size (fun k e => by simp [Value.ownBlock] at e; omega))
  have R := Lib.hid r
  have HU := Lib.hid hu
  have HL := Lib.hid (dig_len10 hu)
  have HX := Lib.hid hx
  have HB := Lib.hid hb1.size
  have HS := Lib.hid (show w2.ownsRow w.heap.size 5 1 v2 xs.length (u8s xs) ∧ Below w.heap.size w w2 from ⟨by simpa using o, hb2⟩)
  clear h r o g b hb1 hr1 hb2 hx hu
  generalize hn : xs.length = n at *
  have HN := Lib.hid hn
  clear hn
  go_enter Try.func49, Try.ntmps49
  go_wp2_with (at_builtin; refine wpList_append_run rfl _ _ 56 rfl rfl rfl (R.out _) ?_)
  go_loopw [5, 1] (fun v' i wr => ∃ (k : Nat) (ys : List UInt8), i = .int .u64 k ∧ k ≤ u ∧ Hid (ys ++ dig k = xs ++ dig u) ∧ Hid (wr.ownsRow w.heap.size 5 1 v' ys.length (u8s ys) ∧ Below w.heap.size w wr)) (fun _ i _ => (intOf i).toNat)
  case atStart => exact ⟨u, xs, rfl, Nat.le_refl _, rfl, HN.out ▸ HS.out⟩
  case round =>
    obtain ⟨k, ys, rfl, hk, HD, HR⟩ := hrel
    have hk64 : k < 18446744073709551616 := by have := HU.out; omega
    have hy : ys.length ≤ 17592186044100 := by
      have e := congrArg List.length HD.out
      simp only [List.length_append] at e
      have := HX.out; have := HL.out; have := HN.out; omega
    have hpre : wr.ownsRow w.heap.size 5 1 u5 ys.length (u8s ys) ∧ wr.grownBy wr u5.ownBlock ∧ (u5.ownBlock = u5.ownBlock ∨ ∀ g, u5.ownBlock = some g → wr.heap.size ≤ g) := ⟨HR.out.1, grown_refl _ _, .inl rfl⟩
    by_cases h : k < 128
    · have t1 : decide ((128 : Int) ≤ (k : Int)) = false := decide_eq_false (by omega)
      obtain ⟨v2, w2, HRUN, HR2⟩ := put_step hpre HR.out.2.size (UInt8.ofNat k) (k : Int) (by simp; omega) hy
      have HE := Lib.hid (dig_lo h)
      clear hy hpre
      go_wp2_with (at_builtin; refine wpList_append_run rfl _ _ 56 rfl rfl rfl (HRUN.out _) ?_)
      go_ret
      rw [← HD.out, HE.out]
      exact ⟨v2, rfl, HR2.out.1, HR.out.2.trans (below_grown HR2.out.2.1 HR.out.2.size (ownsRow_ge HR.out.1))⟩
    · have t1 : decide ((128 : Int) ≤ (k : Int)) = true := decide_eq_true (by omega)
      obtain ⟨v2, w2, HRUN, HR2⟩ := put_step hpre HR.out.2.size (UInt8.ofNat (k % 128 + 128)) ((k : Int) % 128 + 128) (by simp; omega) hy
      have HE := Lib.hid (dig_hi h)
      have h256 : (k : Int) % 128 + 128 < 256 := by omega
      clear hy hpre
      go_wp2_with (at_builtin; refine wpList_append_run rfl _ _ 56 rfl rfl rfl (HRUN.out _) ?_)
      go_roundw
      case rel => exact ⟨k / 128, ys ++ [UInt8.ofNat (k % 128 + 128)], by go_num, by omega, Lib.hid (by rw [← HD.out, HE.out]; simp), HR2.out.1, HR.out.2.trans (below_grown HR2.out.2.1 HR.out.2.size (ownsRow_ge HR.out.1))⟩
      case measure => simp [intOf]; omega
end Go.Proofs.Ytahaoodklfmddaa
/- Contract of digest's Bytes. Conditions: a digest that was made. -/
set_option maxRecDepth 100000
namespace Go.Proofs.Ytahaoodklfmddaa
open Go.RowKit Go.Maps Go.Sort Go.Shelf

/-- a node's numbers, and its bytes -/
def nodeW (q : Nat × Int) : List Nat := [q.1 / 18446744073709551616, q.1 % 18446744073709551616, q.2.toNat]
def nodeB (q : Nat × Int) : List UInt8 := (nodeW q).flatMap dig
def nodesB (L : DL) : List UInt8 := L.flatMap nodeB
def bytesD (L : DL) : List UInt8 := dig L.length ++ nodesB L
theorem nodesB_append (A B : DL) : nodesB (A ++ B) = nodesB A ++ nodesB B := by simp [nodesB]
/-- a node's numbers are words -/
def NodeOk (q : Nat × Int) : Prop := LowC q.1 ∧ 1 ≤ q.2 ∧ q.2 ≤ 1125899906842624
theorem nodeW_lt {q : Nat × Int} (h : NodeOk q) : ∀ u ∈ nodeW q, u < 18446744073709551616 := fun u hu => by
  have h1 := h.1.1
  have h2 := h.2
  simp [nodeW] at hu
  omega
theorem nodeB_len {q : Nat × Int} (h : NodeOk q) : (nodeB q).length ≤ 30 := by
  have hd := nodeW_lt h
  have a1 := dig_len10 (hd (q.1 / 18446744073709551616) (by simp [nodeW]))
  have a2 := dig_len10 (hd (q.1 % 18446744073709551616) (by simp [nodeW]))
  have a3 := dig_len10 (hd q.2.toNat (by simp [nodeW]))
  simp only [nodeB, nodeW, List.flatMap_cons, List.flatMap_nil, List.length_append, List.length_nil]
  omega
theorem nodesB_len : ∀ {L : DL}, (∀ q ∈ L, NodeOk q) → (nodesB L).length ≤ 30 * L.length
  | [], _ => by simp [nodesB]
  | p :: r, h => by
    have ih := nodesB_len fun q hq => h q (List.mem_cons_of_mem _ hq)
    have h1 := nodeB_len (h p (List.mem_cons_self ..))
    unfold nodesB at ih ⊢
    rw [List.flatMap_cons, List.length_append, List.length_cons]
    omega
theorem bytesD_len {L : DL} (h : ∀ q ∈ L, NodeOk q) (hl : L.length ≤ 1000) : (bytesD L).length ≤ 30010 := by
  have h1 := nodesB_len h
  have h2 := dig_len10 (u := L.length) (by omega)
  unfold bytesD
  rw [List.length_append]
  omega
/-- bytes of the call's own, beside block g -/
def OwnDB (w : World) (g : Nat) (xs : List UInt8) (v : Value) (w' : World) : Prop :=
  w'.ownsRow w.heap.size 5 1 v xs.length (u8s xs) ∧ (∀ x, v.ownBlock = some x → x ≠ g) ∧ Below w.heap.size w w'
theorem OwnDB.next {w wr w' : World} {g : Nat} {xs : List UInt8} {v : Value} (h : OwnDB w g xs v wr) (hb : Below wr.heap.size wr w') : OwnDB w g xs v w' :=
  ⟨ownsRow_below h.1 hb, h.2.1, h.2.2.trans (hb.mono h.2.2.size)⟩
theorem OwnDB.app {w wr w3 : World} {g : Nat} {xs : List UInt8} {v sv : Value} {ys : List UInt8} (h : OwnDB w g xs v wr) (hg : g < wr.heap.size) (hb : Below wr.heap.size wr w3) (hs : Holds w3 sv (u8s ys)) (hl : xs.length + ys.length ≤ 1000000) :
    ∃ v' w4, Hid (∀ ty, (Builtin.append_ #[56, 56] ty #[v, sv]).run Try.prog w3 = .ok v' w4) ∧ Hid (OwnDB w g (xs ++ ys) v' w4 ∧ w4.heap[g]? = wr.heap[g]? ∧ wr.heap.size ≤ w4.heap.size) := by
  have h3 := h.next hb
  obtain ⟨v', w4, r, o, gr, bl⟩ := app8 h3.1 h3.2.2.size hs (by omega)
  refine ⟨v', w4, Lib.hid r, Lib.hid ⟨⟨o, fun x hx => ?_, h3.2.2.trans (below_grown gr h3.2.2.size (fun x hx => ownsRow_ge h3.1 x hx))⟩, ?_, Nat.le_trans hb.size gr.size⟩⟩
  · rcases bl with e | e
    · exact h.2.1 x (by rw [← e]; exact hx)
    · rw [e] at hx
      have := Option.some.inj hx
      have := hb.size
      omega
  · rw [gr.block g (by have := hb.size; omega) (fun e => h.2.1 g e.symm rfl)]
    exact hb.block g hg
theorem index3 (a b c : Int) (w : World) : (Instr.index 63 (.agg #[.int .u64 a, .int .u64 b, .int .u64 c]) (.int .i64 0)).run Try.prog w = .ok (.int .u64 a) w ∧ (Instr.index 63 (.agg #[.int .u64 a, .int .u64 b, .int .u64 c]) (.int .i64 1)).run Try.prog w = .ok (.int .u64 b) w ∧
    (Instr.index 63 (.agg #[.int .u64 a, .int .u64 b, .int .u64 c]) (.int .i64 2)).run Try.prog w = .ok (.int .u64 c) w := ⟨by kernel_rfl, by kernel_rfl, by kernel_rfl⟩
/-- what Bytes leaves -/
def BytesAtD (w : World) (xs : List UInt8) (e : Ending) (w' : World) : Prop := ∃ v, e = .returned v ∧ w'.ownsRow w.heap.size 5 1 v xs.length (u8s xs) ∧ Below w.heap.size w w'

set_option maxHeartbeats 3200000 in
theorem dbytes_at {T : Tags} {i : Nat} {w : World} {p k b : Nat} {n : Int} {L : DL} (h : DkAt T i w p k n b L) (hk1 : 1 ≤ k) (hl : L.length ≤ 1000) (hN : ∀ q ∈ L, NodeOk q) :
    Calls Try.prog 20 #[.pointer (some ⟨p, 0, none⟩)] w (BytesAtD w (bytesD L)) := by
  obtain ⟨c0, c1, c2, _⟩ := h.cells
  have KM := made_at hk1 c0
  have hlen := h.map.len
  have wl : IntKind.u64.wrap (L.length : Int) = (L.length : Int) := by rw [IntKind.wrap_u64]; omega
  have KPut := Put_any (w := w) (v := .slice none 0 0) (xs := []) (Holds.nil w) L.length (by omega) (by simp)
  have KP := Lib.hid (fun (V : World) (u : Nat) (hu : u < 18446744073709551616) => Put_any (w := V) (v := .slice none 0 0) (xs := []) (Holds.nil V) u hu (by simp))
  have HH := Lib.hid h
  have HN := Lib.hid hN
  have HL := Lib.hid hl
  have HK := Lib.hid hk1
  clear h hN hl hk1 c1
  go_enter Try.func20, Try.ntmps20
  go_wp2_with fail
  refine KM.mono ?_
  rintro e w' ⟨rfl, rfl⟩
  clear KM
  go_wp2_with fail
  refine KPut.mono ?_
  rintro e w1 ⟨v1, rfl, ho1, hb1⟩
  rw [List.nil_append] at ho1
  have h1 := HH.out
  have c3 : w1.cell? ⟨p, 0, none⟩ = some (.int .i64 k) := by rw [hb1.cell (lt_of_cell c0)]; exact c0
  have c5 : w1.cell? ⟨p, 2, none⟩ = some (.map (some b)) := by rw [hb1.cell (lt_of_cell c2)]; exact c2
  have KN := nodes_at c3 HK.out c5 (HH.out.map.of_block (hb1.block b HH.out.map.lt)) (by have := HL.out; omega)
  have HO1 := Lib.hid (And.intro ho1 hb1)
  clear KPut ho1 hb1 h1 c0 c2 c3 c5 hlen wl
  go_wp2_with fail
  refine KN.mono ?_
  rintro e w2 ⟨g, c, rfl, hg, hc, hR, hBel⟩
  have HOB : Hid (OwnDB w g (dig L.length ++ nodesB (L.take 0)) v1 w2) := Lib.hid ⟨by simpa [nodesB] using ownsRow_below HO1.out.1 hBel, fun x hx e => by have := (HO1.out.1.lt x hx).2; omega, HO1.out.2.trans (hBel.mono HO1.out.2.size)⟩
  have HR := Lib.hid (And.intro hR.2 (fun (j : Nat) (y : Nat × Int) (hy : L[j]? = some y) => hR.cell hy))
  clear KN hg hR hBel HO1
  go_wp2_with fail
  go_loopw [3, 21] (fun s3 s21 wr => ∃ (v : Value) (j : Nat), v = s3 ∧ s21 = .int .i64 j ∧ j ≤ L.length ∧ Hid (OwnDB w g (dig L.length ++ nodesB (L.take j)) v wr) ∧ Hid (wr.heap[g]? = w2.heap[g]? ∧ w2.heap.size ≤ wr.heap.size)) (fun _ s _ => L.length - (intOf s).toNat)
  case atStart => exact ⟨v1, 0, rfl, rfl, Nat.zero_le _, HOB, Lib.hid ⟨rfl, Nat.le_refl _⟩⟩
  case round =>
    clear HOB
    obtain ⟨v, j, rfl, rfl, hj, HO, HG⟩ := hrel
    by_cases hlt : j < L.length
    · obtain ⟨y, hy⟩ : ∃ y, L[j]? = some y := ⟨_, List.getElem?_eq_getElem hlt⟩
      obtain ⟨r0, r1, r2⟩ := HR.out.2 j y hy
      have x0 : wr.cell? ⟨g, j * 3, none⟩ = some (.int .i64 ((y.1 / 18446744073709551616 : Nat) : Int)) := by rw [World.cell?_of_block HG.out.1]; exact r0
      have x1 : wr.cell? ⟨g, j * 3 + 1, none⟩ = some (.int .u64 ((y.1 % 18446744073709551616 : Nat) : Int)) := by rw [World.cell?_of_block HG.out.1]; exact r1
      have x2 : wr.cell? ⟨g, j * 3 + 2, none⟩ = some (.int .i64 y.2) := by rw [World.cell?_of_block HG.out.1]; exact r2
      have hok := HN.out y (List.mem_of_getElem? hy)
      have hwl := nodeW_lt hok
      have hnl := nodeB_len hok
      have hnl2 := nodesB_len (L := L.take j) (fun q hq => HN.out q (List.mem_of_mem_take hq))
      have hdl := dig_len10 (u := L.length) (by have := HL.out; omega)
      obtain ⟨lv, hlv⟩ : ∃ lv : Nat, y.1 / 18446744073709551616 = lv := ⟨_, rfl⟩
      obtain ⟨pr, hpr⟩ : ∃ pr : Nat, y.1 % 18446744073709551616 = pr := ⟨_, rfl⟩
      obtain ⟨cn, hcn⟩ : ∃ cn : Nat, y.2.toNat = cn := ⟨_, rfl⟩
      have hy2 : y.2 = (cn : Int) := by have := hok.2.1; omega
      have hnw : nodeW y = [lv, pr, cn] := by unfold nodeW; rw [hlv, hpr, hcn]
      rw [hnw] at hwl
      have hl0 := hwl lv (by simp)
      have hl1 := hwl pr (by simp)
      have hl2 := hwl cn (by simp)
      have hL64 : lv ≤ 64 := by rw [← hlv]; exact hok.1.1
      have wlv : IntKind.u64.wrap (lv : Int) = (lv : Int) := by rw [IntKind.wrap_u64]; omega
      have wcn : IntKind.u64.wrap (cn : Int) = (cn : Int) := by rw [IntKind.wrap_u64]; omega
      rw [hlv] at x0
      rw [hpr] at x1
      rw [hy2] at x2
      have b2 : (j : Int) < (L.length : Int) := Int.ofNat_lt.2 hlt
      have hw66 : IntKind.i64.wrap ((j : Int) + 1) = (j : Int) + 1 := by have := HL.out; rw [IntKind.wrap_i64]; omega
      have HEND : Hid ((dig L.length ++ nodesB (L.take j)) ++ ([lv, pr, cn].take 3).flatMap dig = dig L.length ++ nodesB (L.take (j + 1))) := Lib.hid (by
        obtain ⟨hl3, e3⟩ := List.getElem?_eq_some_iff.1 hy
        rw [List.take_succ_eq_append_getElem hl3, e3, nodesB_append, List.append_assoc]
        simp [nodesB, nodeB, hnw])
      have HLEN : Hid ((dig L.length ++ nodesB (L.take j)).length ≤ 40000) := Lib.hid (by rw [List.length_append]; rw [List.length_take] at hnl2; have := HL.out; omega)
      obtain ⟨acc, hacc⟩ : ∃ acc, dig L.length ++ nodesB (L.take j) = acc := ⟨_, rfl⟩
      rw [hacc] at HEND HLEN HO
      obtain ⟨X, hX⟩ : ∃ X, wr.alloc (.cells #[.int .i64 (lv : Int), .int .u64 (pr : Int), .int .i64 (cn : Int)] 50) = X := ⟨_, rfl⟩
      have hbX : Below wr.heap.size wr X := by rw [← hX]; exact (Below.refl _ wr).alloc (Nat.le_refl _) _
      have HOX : Hid (OwnDB w g (acc ++ ([lv, pr, cn].take 0).flatMap dig) v X ∧ X.heap[g]? = w2.heap[g]? ∧ w2.heap.size ≤ X.heap.size) := Lib.hid ⟨by simpa using HO.out.next hbX, by rw [hbX.block g (Nat.lt_of_lt_of_le HR.out.1 HG.out.2)]; exact HG.out.1, Nat.le_trans HG.out.2 hbX.size⟩
      obtain ⟨G, hG⟩ : ∃ G, wr.heap.size = G := ⟨_, rfl⟩
      have hxX : X.heap[G]? = some (.cells #[.int .i64 (lv : Int), .int .u64 (pr : Int), .int .i64 (cn : Int)] 50 (0, 0)) := by rw [← hX, ← hG]; exact heap_alloc_new _ _
      have f0 : X.cell? ⟨G, 0, none⟩ = some (.int .i64 (lv : Int)) := by rw [cell_of_row _ _ _ _ _ _ hxX]; rfl
      have f1 : X.cell? ⟨G, 1, none⟩ = some (.int .u64 (pr : Int)) := by rw [cell_of_row _ _ _ _ _ _ hxX]; rfl
      have f2 : X.cell? ⟨G, 2, none⟩ = some (.int .i64 (cn : Int)) := by rw [cell_of_row _ _ _ _ _ _ hxX]; rfl
      have HU := Lib.hid (And.intro hl0 (And.intro hl1 hl2))
      clear hy r0 r1 r2 hok hwl hnl hnl2 hdl hlv hpr hcn hy2 hnw hl0 hl1 hl2 hL64 hacc HO HG hbX hxX
      obtain ⟨V, rfl⟩ : ∃ x, x = wr := ⟨_, rfl⟩
      go_wp2_with fail
      go_loopw [3, 34] (fun s3 s34 wq => ∃ (v' : Value) (q : Nat), v' = s3 ∧ s34 = .int .i64 q ∧ q ≤ 3 ∧ Hid (OwnDB w g (acc ++ ([lv, pr, cn].take q).flatMap dig) v' wq ∧ wq.heap[g]? = w2.heap[g]? ∧ w2.heap.size ≤ wq.heap.size)) (fun _ s _ => 3 - (intOf s).toNat)
      case atStart => exact ⟨_, 0, rfl, rfl, by omega, HOX⟩
      case round =>
        clear HOX f0 f1 f2 x0 x1 x2
        obtain ⟨v', q, rfl, rfl, hq, HQ⟩ := hrel
        by_cases hq3 : q < 3
        · obtain ⟨u, hu, hut, hix⟩ : ∃ u : Nat, u < 18446744073709551616 ∧ ([lv, pr, cn].take (q + 1)).flatMap dig = ([lv, pr, cn].take q).flatMap dig ++ dig u ∧ (Instr.index 63 (.agg #[.int .u64 (lv : Int), .int .u64 (pr : Int), .int .u64 (cn : Int)]) (.int .i64 (q : Int))).run Try.prog wr = .ok (.int .u64 (u : Int)) wr := by
            have h3 : q = 0 ∨ q = 1 ∨ q = 2 := by omega
            obtain ⟨i0, i1, i2⟩ := index3 (lv : Int) (pr : Int) (cn : Int) wr
            rcases h3 with rfl | rfl | rfl
            · exact ⟨lv, HU.out.1, by simp, i0⟩
            · exact ⟨pr, HU.out.2.1, by simp, i1⟩
            · exact ⟨cn, HU.out.2.2, by simp, i2⟩
          have KU := KP.out wr u hu
          have hdu := dig_len10 hu
          have hlq : (([lv, pr, cn].take q).flatMap dig).length ≤ 30 := by
            have a1 := dig_len10 HU.out.1
            have a2 := dig_len10 HU.out.2.1
            have h3 : q = 0 ∨ q = 1 ∨ q = 2 := by omega
            rcases h3 with rfl | rfl | rfl
            · simp
            · simp; omega
            · simp; omega
          have HAPP := Lib.hid (fun (w3 : World) (sv : Value) (hb : Below wr.heap.size wr w3) (hs : Holds w3 sv (u8s (dig u))) => HQ.out.1.app (Nat.lt_of_lt_of_le HR.out.1 HQ.out.2.2) hb hs (by rw [List.length_append]; have := HLEN.out; omega))
          have HQ2 := Lib.hid (And.intro HQ.out.2.1 HQ.out.2.2)
          have HUT := Lib.hid hut
          have b3 : (q : Int) < 3 := by omega
          have hq64 : IntKind.i64.wrap ((q : Int) + 1) = (q : Int) + 1 := by rw [IntKind.wrap_i64]; omega
          clear hu hut hdu hlq HQ
          go_wp2_with fail
          refine KU.mono ?_
          rintro e w3 ⟨v2, rfl, ho2, hb3⟩
          rw [List.nil_append] at ho2
          obtain ⟨v4, w4, r, o⟩ := HAPP.out w3 v2 hb3 (Holds.of_row (by rw [u8s_len]; exact ho2))
          have HO4 := Lib.hid o.out
          obtain ⟨a4, c4, hv4, _⟩ := ownsRow_form HO4.out.1.1
          obtain ⟨a2', c2', hv2, _⟩ := ownsRow_form ho2
          obtain ⟨n4, hn4⟩ : ∃ n4, (acc ++ ([lv, pr, cn].take q).flatMap dig ++ dig u).length = n4 := ⟨_, rfl⟩
          obtain ⟨n2, hn2⟩ : ∃ n2, (dig u).length = n2 := ⟨_, rfl⟩
          rw [hn4] at hv4
          rw [hn2] at hv2
          have HN4 : Hid (OwnDB w g (acc ++ ([lv, pr, cn].take (q + 1)).flatMap dig) v4 w4 ∧ w4.heap[g]? = w2.heap[g]? ∧ w2.heap.size ≤ w4.heap.size) := Lib.hid ⟨by rw [HUT.out, ← List.append_assoc]; exact HO4.out.1, HO4.out.2.1.trans HQ2.out.1, Nat.le_trans HQ2.out.2 HO4.out.2.2⟩
          clear hn4 hn2 HO4
          subst hv4 hv2
          clear KU ho2 hb3 HAPP o
          go_wp2_with (at_builtin; refine wpList_append_run rfl _ _ 56 rfl rfl rfl (r.out _) ?_)
          go_roundw
          case rel => exact ⟨_, q + 1, rfl, by go_num, hq3, HN4⟩
          case measure => simp [intOf]; omega
        · obtain rfl : q = 3 := by omega
          have HE : Hid (OwnDB w g (dig L.length ++ nodesB (L.take (j + 1))) v' wr ∧ wr.heap[g]? = w2.heap[g]? ∧ w2.heap.size ≤ wr.heap.size) := Lib.hid (by have := HQ.out; rw [HEND.out] at this; exact this)
          clear HQ HEND HLEN
          go_wp2_with fail
          go_roundw
          case rel => exact ⟨_, j + 1, rfl, by go_num, hlt, Lib.hid HE.out.1, Lib.hid HE.out.2⟩
          case measure => simp [intOf]; omega
    · obtain rfl : j = L.length := by omega
      have HP : Hid (wr.heap.size = wr.heap.size ∧ wr.ownsRow w.heap.size 5 1 v (bytesD L).length (u8s (bytesD L)) ∧ Below w.heap.size w wr) := Lib.hid ⟨rfl, by have := HO.out; rw [List.take_length] at this; exact ⟨this.1, this.2.2⟩⟩
      clear HO HG
      go_wp2_with fail
      go_ret
      exact ⟨_, rfl, HP.out.2⟩
end Go.Proofs.Ytahaoodklfmddaa
