/- The walk of CodecRuns: any numbers in runs, any ints as differences, and any bytes as either. Conditions: the table of Sum reads as the program's text lays it. -/
import Derived.Test.YtpecajaoknnepaaDoorCodecLives
import Derived.Test.YtpecajaoknnepaaDoorCodecPacks
import Derived.Test.YtpecajaoknnepaaDoorRefUnruns
import Derived.Test.YtpecajaoknnepaaDoorInts
import Derived.Deep.RegionHeld3
set_option maxRecDepth 100000
namespace Go.Proofs.YtpecajaoknnepaaDoor
open Go.RowKit Go.Maps Go.Sort

theorem runs_long {w : World} (hq : Quads w) (a1 a2 a3 : Option Addr) (n1 k1 n2 k2 n3 k3 : Nat) (h : 5000 < n1 ∨ 5000 < n2 ∨ 5000 < n3) :
    Calls Tryd.prog 5 #[.agg #[.slice a1 n1 k1, .slice a2 n2 k2], .slice a3 n3 k3] w fun e w' => e = .returned (.bool true) ∧ Below w.heap.size w w' := by
  obtain ⟨c0, c1, hb⟩ := box2 (Below.refl (w.heap.size + 1) (w.alloc (.cells #[.slice a1 n1 k1, .slice a2 n2 k2] 36)))
  have HQ := Lib.hid (hq.below hb hq.1)
  have HB := Lib.hid hb
  clear hb hq
  go_enter Tryd.func5, Tryd.ntmps5
  by_cases g : 5000 < n1
  · have t1 : decide ((5000 : Int) < (n1 : Int)) = true := decide_eq_true (by omega)
    clear h g
    go_wp2_with fail
    refine (lives_any HQ.out).mono ?_
    rintro e w1 ⟨rfl, hb⟩
    have B1 := Lib.hid (HB.out.trans (hb.mono HB.out.size))
    clear hb
    go_wp2_with fail
    go_ret
    exact ⟨rfl, B1.out⟩
  · have t1 : decide ((5000 : Int) < (n1 : Int)) = false := decide_eq_false (by omega)
    by_cases g2 : 5000 < n2
    · have t2 : decide ((5000 : Int) < (n2 : Int)) = true := decide_eq_true (by omega)
      clear h g g2
      go_wp2_with fail
      refine (lives_any HQ.out).mono ?_
      rintro e w1 ⟨rfl, hb⟩
      have B1 := Lib.hid (HB.out.trans (hb.mono HB.out.size))
      clear hb
      go_wp2_with fail
      go_ret
      exact ⟨rfl, B1.out⟩
    · have t2 : decide ((5000 : Int) < (n2 : Int)) = false := decide_eq_false (by omega)
      have t3 : decide ((5000 : Int) < (n3 : Int)) = true := decide_eq_true (by omega)
      clear h g g2
      go_wp2_with fail
      refine (lives_any HQ.out).mono ?_
      rintro e w1 ⟨rfl, hb⟩
      have B1 := Lib.hid (HB.out.trans (hb.mono HB.out.size))
      clear hb
      go_wp2_with fail
      go_ret
      exact ⟨rfl, B1.out⟩

theorem unrAns_len (bs : List UInt8) : (unrAns bs).1.length ≤ 1000000 := by
  rw [unrAns]
  split
  · exact Nat.zero_le _
  · split
    · exact Nat.zero_le _
    · rename_i a h
      have := unr_len h
      show a.length ≤ _
      omega
theorem undAns_len (bs : List UInt8) (h : bs.length ≤ 300000) : (undAns bs).1.length ≤ 1000000 := by
  rw [undAns]
  split
  · exact Nat.zero_le _
  · have := (nums_bd bs).1
    show (und (numsOf bs).1).1.length ≤ _
    rw [und_len]; omega

theorem words_same {w : World} {a1 a2 : Option Addr} {n k1 k2 : Nat} {l : List UInt64} (h1 : Holds w (.slice a1 n k1) (u64s l)) (h2 : Holds w (.slice a2 n k2) (u64s l)) (e : n = l.length) (hl : l.length ≤ 1000000) :
    Calls Tryd.prog 26 #[.slice a1 n k1, .slice a2 n k2] w fun r w' => r = .returned (.bool true) ∧ Below w.heap.size w w' := by
  have := Words_any h1 h2 e e hl
  rw [decide_eq_true rfl] at this
  exact this
theorem ints_same {w : World} {a1 a2 : Option Addr} {n k1 k2 : Nat} {l : List Int} (h1 : Holds w (.slice a1 n k1) (i64s l)) (h2 : Holds w (.slice a2 n k2) (i64s l)) (e : n = l.length) (hl : l.length ≤ 1000000) :
    Calls Tryd.prog 35 #[.slice a1 n k1, .slice a2 n k2] w fun r w' => r = .returned (.bool true) ∧ Below w.heap.size w w' := by
  have := Ints_any h1 h2 e e hl
  rw [decide_eq_true rfl] at this
  exact this
theorem held_keep {W w' : World} {p : Addr} {v : Value} (h : W.cell? p = some v) (hb : Below W.heap.size W w') : w'.cell? p = some v ∧ Below W.heap.size W w' := by
  refine ⟨?_, hb⟩
  rw [hb.cell (World.block_lt_of_cell? W p h)]; exact h
theorem held_next {W w' w1 : World} {p : Addr} {v : Value} (h : W.cell? p = some v) (hk : Below w'.heap.size w' w1) (hs : w'.cell? p = some v ∧ Below W.heap.size W w') : w1.cell? p = some v ∧ Below W.heap.size W w1 :=
  held_keep h (hs.2.trans (hk.mono hs.2.size))

set_option maxHeartbeats 8000000 in
theorem runs_main {w : World} (hq : Quads w) {a1 a2 a3 : Option Addr} {k1 k2 k3 : Nat} {l : List UInt64} {bs : List UInt8} {m : List Int} (h1 : Holds w (.slice a1 l.length k1) (u64s l)) (h2 : Holds w (.slice a2 bs.length k2) (u8s bs)) (h3 : Holds w (.slice a3 m.length k3) (i64s m)) (hl1 : l.length ≤ 5000) (hl2 : bs.length ≤ 5000) (hl3 : m.length ≤ 5000) :
    Calls Tryd.prog 5 #[.agg #[.slice a1 l.length k1, .slice a2 bs.length k2], .slice a3 m.length k3] w fun e w' => e = .returned (.bool true) ∧ Below w.heap.size w w' := by
  have hul := unrAns_len bs
  have hdl := undAns_len bs (by omega)
  have hA := fun (W : World) (hb : Below (w.heap.size + 1) (w.alloc (.cells #[.slice a1 l.length k1, .slice a2 bs.length k2] 36)) W) => Unruns_any (h2.below (box2 hb).2.2) (by omega)
  have hB := fun (W : World) (hb : Below (w.heap.size + 1) (w.alloc (.cells #[.slice a1 l.length k1, .slice a2 bs.length k2] 36)) W) => refUnruns_any (h2.below (box2 hb).2.2) (by omega)
  have hC := fun (W : World) (hb : Below (w.heap.size + 1) (w.alloc (.cells #[.slice a1 l.length k1, .slice a2 bs.length k2] 36)) W) => Undeltas_any (h2.below (box2 hb).2.2) (by omega)
  have hD := fun (W : World) (hb : Below (w.heap.size + 1) (w.alloc (.cells #[.slice a1 l.length k1, .slice a2 bs.length k2] 36)) W) => refUndeltas_any (h2.below (box2 hb).2.2) (by omega)
  have hE := fun (W : World) (hb : Below (w.heap.size + 1) (w.alloc (.cells #[.slice a1 l.length k1, .slice a2 bs.length k2] 36)) W) => Runs_any (h1.below (box2 hb).2.2) (by omega)
  have hF := fun (W : World) (hb : Below (w.heap.size + 1) (w.alloc (.cells #[.slice a1 l.length k1, .slice a2 bs.length k2] 36)) W) => refRuns_any (h1.below (box2 hb).2.2) (by omega)
  have hG := fun (W : World) (hb : Below (w.heap.size + 1) (w.alloc (.cells #[.slice a1 l.length k1, .slice a2 bs.length k2] 36)) W) => Deltas_any (h3.below (box2 hb).2.2) (by omega)
  have hH := fun (W : World) (hb : Below (w.heap.size + 1) (w.alloc (.cells #[.slice a1 l.length k1, .slice a2 bs.length k2] 36)) W) => refDeltas_any (h3.below (box2 hb).2.2) (by omega)
  generalize hua : unrAns bs = ua at *
  generalize hda : undAns bs = da at *
  generalize runsB (runsOf l) = rb at *
  generalize deltaL 0 m = db at *
  obtain ⟨ul, uc⟩ := ua
  obtain ⟨dl, dc⟩ := da
  obtain ⟨n1, hn1⟩ : ∃ n1, n1 = l.length := ⟨_, rfl⟩
  obtain ⟨n2, hn2⟩ : ∃ n2, n2 = bs.length := ⟨_, rfl⟩
  obtain ⟨n3, hn3⟩ : ∃ n3, n3 = m.length := ⟨_, rfl⟩
  obtain ⟨n4, hn4⟩ : ∃ n4, n4 = ul.length := ⟨_, rfl⟩
  obtain ⟨n5, hn5⟩ : ∃ n5, n5 = dl.length := ⟨_, rfl⟩
  simp only [← hn1, ← hn2, ← hn3, ← hn4, ← hn5] at hA hB hC hD hE hF hG hH hl1 hl2 hl3 hul hdl ⊢
  have HA := Lib.hid hA
  have HB := Lib.hid hB
  have HC := Lib.hid hC
  have HD := Lib.hid hD
  have HE := Lib.hid hE
  have HF := Lib.hid hF
  have HG := Lib.hid hG
  have HH := Lib.hid hH
  have HN4 := Lib.hid hn4
  have HN5 := Lib.hid hn5
  have HUL := Lib.hid hul
  have HDL := Lib.hid hdl
  obtain ⟨c0, c1, hb⟩ := box2 (Below.refl (w.heap.size + 1) (w.alloc (.cells #[.slice a1 n1 k1, .slice a2 n2 k2] 36)))
  have HQ := Lib.hid hq
  clear hA hB hC hD hE hF hG hH hn1 hn2 hn3 hn4 hn5 hq hb h1 h2 h3 hua hda hul hdl
  have t1 : decide ((5000 : Int) < (n1 : Int)) = false := decide_eq_false (by omega)
  have t2 : decide ((5000 : Int) < (n2 : Int)) = false := decide_eq_false (by omega)
  have t3 : decide ((5000 : Int) < (n3 : Int)) = false := decide_eq_false (by omega)
  clear hl1 hl2 hl3
  go_enter Tryd.func5, Tryd.ntmps5
  go_wp2_with fail
  refine (HA.out _ (Below.refl _ _)).mono ?_
  rintro e w1 ⟨v1, rfl, h1⟩
  have B1 := Lib.hid (show Below (w.heap.size + 1) (w.alloc (.cells #[.slice a1 n1 k1, .slice a2 n2 k2] 36)) w1 by simpa using h1.out.2)
  obtain ⟨c10, c11, _⟩ := box2 B1.out
  obtain ⟨x1, y1, rfl, _⟩ := ownsRow_form h1.out.1
  have V1 := Lib.hid (show Holds w1 (.slice x1 n4 y1) (u64s ul) from Holds.of_row (by rw [u64s_len, ← HN4.out]; exact h1.out.1))
  clear h1 c0 c1
  go_wp2_with fail
  refine (HB.out _ B1.out).mono ?_
  rintro e w2 ⟨v2, rfl, h2⟩
  have B2 := Lib.hid (B1.out.trans (h2.out.2.mono (by have := B1.out.size; simp at this; omega)))
  obtain ⟨c20, c21, _⟩ := box2 B2.out
  obtain ⟨x2, y2, rfl, _⟩ := ownsRow_form h2.out.1
  have V2 := Lib.hid (show Holds w2 (.slice x2 n4 y2) (u64s ul) from Holds.of_row (by rw [u64s_len, ← HN4.out]; exact h2.out.1))
  have V12 := Lib.hid (V1.out.below h2.out.2)
  clear h2 c10 c11
  go_wp2_with fail
  refine (HC.out _ B2.out).mono ?_
  rintro e w3 ⟨v3, rfl, h3⟩
  have B3 := Lib.hid (B2.out.trans (h3.out.2.mono (by have := B2.out.size; simp at this; omega)))
  obtain ⟨c30, c31, _⟩ := box2 B3.out
  obtain ⟨x3, y3, rfl, _⟩ := ownsRow_form h3.out.1
  have V3 := Lib.hid (show Holds w3 (.slice x3 n5 y3) (i64s dl) from Holds.of_row (by rw [i64s_len, ← HN5.out]; exact h3.out.1))
  have V13 := Lib.hid (V12.out.below h3.out.2)
  have V23 := Lib.hid (V2.out.below h3.out.2)
  clear h3 c20 c21
  go_wp2_with fail
  refine (HD.out _ B3.out).mono ?_
  rintro e w4 ⟨v4, rfl, h4⟩
  have B4 := Lib.hid (B3.out.trans (h4.out.2.mono (by have := B3.out.size; simp at this; omega)))
  obtain ⟨c40, c41, _⟩ := box2 B4.out
  obtain ⟨x4, y4, rfl, _⟩ := ownsRow_form h4.out.1
  have V4 := Lib.hid (show Holds w4 (.slice x4 n5 y4) (i64s dl) from Holds.of_row (by rw [i64s_len, ← HN5.out]; exact h4.out.1))
  have V14 := Lib.hid (V13.out.below h4.out.2)
  have V24 := Lib.hid (V23.out.below h4.out.2)
  have V34 := Lib.hid (V3.out.below h4.out.2)
  clear h4 c30 c31
  go_wp2_with fail
  have KE := Lib.hid (fun W (hs : W.cell? ⟨w.heap.size, 0, none⟩ = some (.slice a1 n1 k1) ∧ Below w4.heap.size w4 W) => HE.out W (B4.out.trans (hs.2.mono (by have := B4.out.size; simp at this; omega))))
  have KF := Lib.hid (fun W (hs : W.cell? ⟨w.heap.size, 0, none⟩ = some (.slice a1 n1 k1) ∧ Below w4.heap.size w4 W) => HF.out W (B4.out.trans (hs.2.mono (by have := B4.out.size; simp at this; omega))))
  have KG := Lib.hid (fun W (hs : W.cell? ⟨w.heap.size, 0, none⟩ = some (.slice a1 n1 k1) ∧ Below w4.heap.size w4 W) => HG.out W (B4.out.trans (hs.2.mono (by have := B4.out.size; simp at this; omega))))
  have KH := Lib.hid (fun W (hs : W.cell? ⟨w.heap.size, 0, none⟩ = some (.slice a1 n1 k1) ∧ Below w4.heap.size w4 W) => HH.out W (B4.out.trans (hs.2.mono (by have := B4.out.size; simp at this; omega))))
  have BW := Lib.hid (box2 B4.out).2.2
  have hq4 : ∀ W, (W.cell? ⟨w.heap.size, 0, none⟩ = some (.slice a1 n1 k1) ∧ Below w4.heap.size w4 W) → Quads W := fun W hs => (HQ.out.below BW.out HQ.out.1).below hs.2 (by have := BW.out.size; have := HQ.out.1; omega)
  have KQ := Lib.hid hq4
  have KW := Lib.hid (fun W (hs : W.cell? ⟨w.heap.size, 0, none⟩ = some (.slice a1 n1 k1) ∧ Below w4.heap.size w4 W) => words_same (V14.out.below hs.2) (V24.out.below hs.2) HN4.out (by rw [← HN4.out]; exact HUL.out))
  have KI := Lib.hid (fun W (hs : W.cell? ⟨w.heap.size, 0, none⟩ = some (.slice a1 n1 k1) ∧ Below w4.heap.size w4 W) => ints_same (V34.out.below hs.2) (V4.out.below hs.2) HN5.out (by rw [← HN5.out]; exact HDL.out))
  clear HA HB HC HD HE HF HG HH hq4 B1 B2 B3 V1 V2 V3 V12 V13 V23 V14 V24 V34 V4
  have HS := held_keep c40 (Below.refl _ _).drew
  have C40 := Lib.hid c40
  clear c41
  go_region_held3 (fun w' => w'.cell? ⟨w.heap.size, 0, none⟩ = some (.slice a1 n1 k1) ∧ Below w4.heap.size w4 w')
    (first | exact HS | assumption | (refine held_next C40.out (by assumption) (by first | assumption | exact HS)))
    (first
      | (go_at_call 31; refine (KE.out _ (by assumption)).mono ?_; rintro e w5 ⟨v5, rfl, h5⟩; have hb5 := h5.out.2; have V5 := Lib.hid (Holds.of_row (xs := u8s rb) (by rw [u8s_len]; exact h5.out.1)); clear h5)
      | (go_at_call 32; refine (KF.out _ (by assumption)).mono ?_; rintro e w6 ⟨v6, rfl, h6⟩; have hb6 := h6.out.2; have V6 := Lib.hid h6.out.1; have V56 := Lib.hid (V5.out.below hb6); clear h6)
      | (go_at_call 14; refine (Same_any V56.out V6.out).mono ?_; rintro e w7 ⟨rfl, rfl⟩; rw [decide_eq_true rfl]; clear V56 V6 V5)
      | (go_at_call 33; refine (KG.out _ (by assumption)).mono ?_; rintro e w8 ⟨v8, rfl, h8⟩; have hb8 := h8.2; have V8 := Lib.hid (Holds.of_row (xs := u8s db) (by rw [u8s_len]; exact h8.1)); clear h8)
      | (go_at_call 34; refine (KH.out _ (by assumption)).mono ?_; rintro e w9 ⟨v9, rfl, h9⟩; have hb9 := h9.out.2; have V9 := Lib.hid h9.out.1; have V89 := Lib.hid (V8.out.below hb9); clear h9)
      | (go_at_call 14; refine (Same_any V89.out V9.out).mono ?_; rintro e w7 ⟨rfl, rfl⟩; rw [decide_eq_true rfl])
      | (go_at_call 35; refine (KI.out _ (by assumption)).mono ?_; rintro e w11 ⟨rfl, hb11⟩)
      | (go_at_call 10; refine (lives_any (KQ.out _ (by assumption))).mono ?_; rintro e w12 ⟨rfl, hb12⟩)
      | (go_at_call 26; refine (KW.out _ (by assumption)).mono ?_; rintro e w10 ⟨rfl, hb10⟩))
  rename_i hHeld
  have HF2 := Lib.hid (BW.out.trans (hHeld.2.mono BW.out.size))
  clear hHeld
  go_wp2_with fail
  go_ret
  exact ⟨rfl, HF2.out⟩
end Go.Proofs.YtpecajaoknnepaaDoor
