/- Contracts of codec.word and codec.readFrame: the content of a frame, or which error it panics with. Conditions: at most 1000000 bytes. -/
import Derived.Test.YtehfoaicohnpfaaGreatDoorCodecFrame
import Derived.BigQuiet
set_option maxRecDepth 100000
namespace Go.Proofs.YtehfoaicohnpfaaGreatDoor
open Go.RowKit Go.Maps Go.Sort

theorem numB_snoc (l : List UInt8) (c : UInt8) : numB (l ++ [c]) = numB l + c.toNat * 256 ^ l.length := by
  induction l with
  | nil => simp [numB]
  | cons x r ih =>
    rw [List.cons_append, numB, ih, numB, List.length_cons, Nat.pow_succ, Nat.mul_add, Nat.mul_left_comm, Nat.mul_comm 256 (256 ^ r.length)]
    omega

set_option maxHeartbeats 800000 in
theorem word_any {w : World} {a : Option Addr} {n cap : Nat} {l : List UInt8} (h : Holds w (.slice a n cap) (u8s l)) (hn : n = l.length) (h4 : 4 ≤ n) (hm : n ≤ 1000000) :
    Calls Tryz.prog 53 #[.slice a n cap] w fun e w' => e = .returned (.int .u32 (numB (l.take 4) : Int)) ∧ w' = w := by
  obtain ⟨ad, rfl⟩ := h.ptr (by omega)
  have H := Lib.hid h
  have HN := Lib.hid hn
  clear h hn
  go_enter Tryz.func53, Tryz.ntmps53
  go_wp2_with fail
  go_loop [3, 5] (fun u i => ∃ k : Nat, k ≤ 4 ∧ i = .int .i64 k ∧ u = .int .u32 (numB (l.take k) : Int)) (fun _ i => 4 - (intOf i).toNat)
  case atStart => exact ⟨0, by omega, rfl, rfl⟩
  case round =>
    obtain ⟨k, hk, rfl, rfl⟩ := hrel
    by_cases hlt : k < 4
    · have hkl : k < l.length := by rw [← HN.out]; omega
      have hc : w.cell? (ad.add k) = some (.int .u8 (l[k].toNat : Int)) := H.out.cell (by simp [u8s, hkl])
      have hby := l[k].toNat_lt
      have hstep : numB (l.take (k + 1)) = numB (l.take k) + l[k].toNat * 2 ^ (8 * k) := by
        rw [List.take_succ_eq_append_getElem hkl, numB_snoc, pow256, List.length_take, Nat.min_eq_left (by omega)]
      have hold := numB_lt (l.take k)
      rw [List.length_take, Nat.min_eq_left (by omega), pow256] at hold
      have h8 : (8 : Int) * (k : Int) = ((8 * k : Nat) : Int) := by simp
      have h24 : 8 * k ≤ 24 := by omega
      generalize 8 * k = e8 at *
      have hp : 2 ^ e8 ≤ 2 ^ 24 := Nat.pow_le_pow_right (by omega) h24
      have hmul : l[k].toNat * 2 ^ e8 < 4294967296 := by
        have := Nat.mul_le_mul (show l[k].toNat ≤ 255 by omega) hp
        omega
      have hsh : IntKind.u32.wrap ((l[k].toNat : Int) * 2 ^ e8) = ((l[k].toNat * 2 ^ e8 : Nat) : Int) := by
        rw [show (l[k].toNat : Int) * 2 ^ e8 = ((l[k].toNat * 2 ^ e8 : Nat) : Int) by simp]
        exact IntWalk.u32_in _ (by omega)
      have hor := or_u32 (numB (l.take k)) (l[k].toNat * 2 ^ e8) (by omega) hmul
      have hadd : numB (l.take k) ||| l[k].toNat * 2 ^ e8 = numB (l.take k) + l[k].toNat * 2 ^ e8 := by
        rw [Nat.or_comm, Nat.mul_comm, ← Nat.two_pow_add_eq_or_of_lt hold, Nat.add_comm]
      rw [hadd, ← hstep] at hor
      clear hadd hstep hold hp
      generalize l[k].toNat * 2 ^ e8 = sb at *
      generalize l[k].toNat = by' at *
      generalize numB (l.take k) = old at *
      go_wp2_with fail
      go_round
      case rel => exact ⟨k + 1, by omega, by go_num, rfl⟩
      case measure => simp [intOf]; omega
    · obtain rfl : k = 4 := by omega
      go_wp2_with fail
      go_ret
      exact ⟨rfl, rfl⟩

/-- an error, as a panic -/
def errP (c : Int) : List PanicEntry := [{ v := .iface 49 (.int .i64 c), recovered := false }]

theorem read_short {w : World} (a : Option Addr) (n cap : Nat) (hn : n < 4) :
    Calls Tryz.prog 41 #[.slice a n cap] w fun e w' => e = .panicked (errP 10) ∧ Below w.heap.size w w' := by
  go_enter Tryz.func41, Tryz.ntmps41
  go_wp2_with fail
  simp [bodyPost, errP]
  exact Below.refl _ _

set_option maxHeartbeats 800000 in
theorem read_cut {w : World} {a : Option Addr} {n cap : Nat} {l : List UInt8} (h : Holds w (.slice a n cap) (u8s l)) (hn : n = l.length) (h4 : 4 ≤ n) (hm : n ≤ 1000000) (hc : numB (l.take 4) ≤ 262144) (hcut : n < numB (l.take 4) + 8) :
    Calls Tryz.prog 41 #[.slice a n cap] w fun e w' => e = .panicked (errP 10) ∧ Below w.heap.size w w' := by
  have HW := Lib.hid (word_any h hn h4 hm)
  obtain ⟨c, hc'⟩ : ∃ c, c = numB (l.take 4) := ⟨_, rfl⟩
  rw [← hc'] at hc hcut HW
  have t1 : decide ((n : Int) < 4) = false := decide_eq_false (by omega)
  have t2 : decide ((262144 : Int) < (c : Int)) = false := decide_eq_false (by omega)
  have t3 : decide ((n : Int) < (c : Int) + 8) = true := decide_eq_true (by omega)
  clear h hn hc' h4
  go_enter Tryz.func41, Tryz.ntmps41
  go_wp2_with fail
  refine HW.out.mono ?_
  rintro e w1 ⟨rfl, rfl⟩
  go_wp2_with fail
  simp [bodyPost, errP]
  exact Below.refl _ _

theorem hold_drop {w : World} {ad : Addr} {n c : Nat} {l : List UInt8} (h : Holds w (.slice (some ad) n c) (u8s l)) (m : Nat) (hm : m ≤ n) : Holds w (.slice (some (ad.add m)) (n - m) (c - m)) (u8s (l.drop m)) := by
  simpa [u8s, List.map_drop] using h.drop m hm
theorem hold_take {w : World} {a : Option Addr} {n c : Nat} {l : List UInt8} (h : Holds w (.slice a n c) (u8s l)) (m : Nat) (hm : m ≤ n) : Holds w (.slice a m c) (u8s (l.take m)) := by
  simpa [u8s, List.map_take] using h.take m hm

set_option maxHeartbeats 800000 in
theorem read_sum {w : World} (hq : Quads w) {a : Option Addr} {n cap : Nat} {l : List UInt8} (h : Holds w (.slice a n cap) (u8s l)) (hn : n = l.length) (hm : n ≤ 1000000) (hc : numB (l.take 4) ≤ 262144) (hlen : numB (l.take 4) + 8 ≤ n) (hbad : numB ((l.drop (numB (l.take 4) + 4)).take 4) ≠ sumN (l.take (numB (l.take 4) + 4))) :
    Calls Tryz.prog 41 #[.slice a n cap] w fun e w' => e = .panicked (errP 8) ∧ Below w.heap.size w w' := by
  have HW := Lib.hid (word_any h hn (by omega) hm)
  obtain ⟨c, hc'⟩ : ∃ c, c = numB (l.take 4) := ⟨_, rfl⟩
  rw [← hc'] at hc hlen HW hbad
  obtain ⟨ad, rfl⟩ := h.ptr (by omega)
  obtain ⟨hcap, _⟩ := h.len
  have hw2 := fun q => word_any ((hold_drop h (c + 4) (by omega)).drewN q) (by rw [List.length_drop]; omega) (by omega) (by omega)
  have hs2 := fun q => (Sum_any (w := w.drewN q) hq ((hold_take h (c + 4) (by omega)).drewN q) (by rw [List.length_take]; omega)).mono fun _ _ ⟨e1, e2⟩ => (⟨e1, e2.symm⟩ : _ ∧ _ = w.drewN q)
  have t1 : decide ((n : Int) < 4) = false := decide_eq_false (by omega)
  have t2 : decide ((262144 : Int) < (c : Int)) = false := decide_eq_false (by omega)
  have t4 : ((numB ((l.drop (c + 4)).take 4) : Int) != (sumN (l.take (c + 4)) : Int)) = true := by rw [bne_iff_ne]; omega
  generalize numB ((l.drop (c + 4)).take 4) = s1 at *
  generalize sumN (l.take (c + 4)) = s2 at *
  have e4 : (4 : Int) + (c : Int) = ((c + 4 : Nat) : Int) := by omega
  generalize he : c + 4 = e at *
  have t3 : decide ((n : Int) < (e : Int) + 4) = false := decide_eq_false (by omega)
  have b1 : (e : Int) ≤ (n : Int) := by omega
  have b2 : (e : Int) ≤ (cap : Int) := by omega
  have b3 : ¬ cap = e := by omega
  have HW2 := Lib.hid hw2
  have HS2 := Lib.hid hs2
  clear h hn hc' hw2 hs2 hq hlen hbad
  go_enter Tryz.func41, Tryz.ntmps41
  go_wp2_with fail
  refine HW.out.mono ?_
  rintro e w1 ⟨rfl, rfl⟩
  go_wp2_with fail
  refine wp_region_quiet_lit (by kernel_rfl) (by kernel_rfl) ?_
  repeat (go_big_quiet_step (fail))
  repeat (go_big_quiet_step (first | exact Calls.quiet_of_same (HW2.out _) | exact Calls.quiet_of_same (HS2.out _)))
  refine wpQuiet_nil ?_
  intro _ hw'
  obtain ⟨nq, hw''⟩ := hw'
  subst hw''
  go_wp2_with fail
  simp [bodyPost, errP]
  exact ⟨rfl, rfl, rfl, Nat.le_refl _, fun _ _ => rfl⟩

set_option maxHeartbeats 800000 in
theorem read_good {w : World} (hq : Quads w) {a : Option Addr} {n cap : Nat} {l : List UInt8} (h : Holds w (.slice a n cap) (u8s l)) (hn : n = l.length) (hm : n ≤ 1000000) (hc : numB (l.take 4) ≤ 262144) (hlen : numB (l.take 4) + 8 ≤ n) (hgood : numB ((l.drop (numB (l.take 4) + 4)).take 4) = sumN (l.take (numB (l.take 4) + 4))) :
    Calls Tryz.prog 41 #[.slice a n cap] w fun e w' => ∃ v, e = .returned v ∧ Hid (w'.ownsRow w.heap.size 5 1 v (numB (l.take 4)) (u8s ((l.drop 4).take (numB (l.take 4)))) ∧ Below w.heap.size w w') := by
  have HW := Lib.hid (word_any h hn (by omega) hm)
  obtain ⟨c, hc'⟩ : ∃ c, c = numB (l.take 4) := ⟨_, rfl⟩
  rw [← hc'] at hc hlen HW hgood ⊢
  obtain ⟨ad, rfl⟩ := h.ptr (by omega)
  obtain ⟨hcap, _⟩ := h.len
  have hw2 := fun q => word_any ((hold_drop h (c + 4) (by omega)).drewN q) (by rw [List.length_drop]; omega) (by omega) (by omega)
  have hs2 := fun q => (Sum_any (w := w.drewN q) hq ((hold_take h (c + 4) (by omega)).drewN q) (by rw [List.length_take]; omega)).mono fun _ _ ⟨e1, e2⟩ => (⟨e1, e2.symm⟩ : _ ∧ _ = w.drewN q)
  have t1 : decide ((n : Int) < 4) = false := decide_eq_false (by omega)
  have t2 : decide ((262144 : Int) < (c : Int)) = false := decide_eq_false (by omega)
  have t4 : ((numB ((l.drop (c + 4)).take 4) : Int) != (sumN (l.take (c + 4)) : Int)) = false := by rw [hgood]; simp
  generalize numB ((l.drop (c + 4)).take 4) = s1 at *
  generalize sumN (l.take (c + 4)) = s2 at *
  have e4 : (4 : Int) + (c : Int) = ((c + 4 : Nat) : Int) := by omega
  generalize he : c + 4 = e at *
  have t3 : decide ((n : Int) < (e : Int) + 4) = false := decide_eq_false (by omega)
  have b1 : (e : Int) ≤ (n : Int) := by omega
  have b2 : (e : Int) ≤ (cap : Int) := by omega
  have b3 : ¬ cap = e := by omega
  have HW2 := Lib.hid hw2
  have HS2 := Lib.hid hs2
  have hmid : Holds w (.slice (some (ad.add 4)) (e - 4) (cap - 4)) (u8s ((l.drop 4).take c)) := by
    have h5 := hold_drop (hold_take h e (by omega)) 4 (by omega)
    rw [List.drop_take] at h5
    rwa [show List.take c (l.drop 4) = List.take (e - 4) (l.drop 4) by rw [show e - 4 = c by omega]]
  have happ := fun q => app8 (w := w.drewN q) (B := w.heap.size) (xs := []) (World.ownsRow_nil _ _ _ _) (Nat.le_refl _) (hmid.drewN q) (by simp; omega)
  have hml : ((l.drop 4).take c).length = c := by simp; omega
  rw [List.nil_append, hml] at happ
  have b5 : (4 : Int) ≤ (e : Int) := by omega
  have b6 : ¬ cap = 4 := by omega
  have HA := Lib.hid happ
  clear h hn hc' hw2 hs2 hq hlen hgood hmid happ hml
  go_enter Tryz.func41, Tryz.ntmps41
  go_wp2_with fail
  refine HW.out.mono ?_
  rintro e w1 ⟨rfl, rfl⟩
  go_wp2_with fail
  refine wp_region_quiet_lit (by kernel_rfl) (by kernel_rfl) ?_
  repeat (go_big_quiet_step (fail))
  repeat (go_big_quiet_step (first | exact Calls.quiet_of_same (HW2.out _) | exact Calls.quiet_of_same (HS2.out _)))
  refine wpQuiet_nil ?_
  intro _ hw'
  obtain ⟨nq, hw''⟩ := hw'
  subst hw''
  obtain ⟨v2, w2, r2, o2, g2, _⟩ := HA.out nq
  have R2 := Lib.hid r2
  have F2 := Lib.hid (show w2.ownsRow w1.heap.size 5 1 v2 c (u8s ((l.drop 4).take c)) ∧ Below w1.heap.size w1 w2 from ⟨o2, (show Below w1.heap.size w1 (w1.drewN nq) from ⟨rfl, rfl, rfl, Nat.le_refl _, fun _ _ => rfl⟩).trans (below_grown g2 (Nat.le_refl _) (fun _ h => by simp [Value.ownBlock] at h))⟩)
  clear r2 o2 g2
  go_wp2_with (at_builtin; refine wpList_append_run rfl _ _ 22 rfl rfl rfl (R2.out _) ?_)
  go_ret
  exact ⟨_, rfl, F2⟩
end Go.Proofs.YtehfoaicohnpfaaGreatDoor
