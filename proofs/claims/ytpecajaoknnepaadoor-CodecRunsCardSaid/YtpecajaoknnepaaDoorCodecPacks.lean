/- The walk of CodecPacks: any numbers in any width, and any bytes of any width and count, are the document's. Conditions: the table of Sum reads as the program's text lays it. -/
import Derived.Test.YtpecajaoknnepaaDoorCodecLives
import Derived.Test.YtpecajaoknnepaaDoorPacksAll
import Derived.Test.YtpecajaoknnepaaDoorWords
set_option maxRecDepth 100000
namespace Go.Proofs.YtpecajaoknnepaaDoor
open Go.RowKit Go.Maps Go.Sort

theorem box2 {w W : World} {x y : Value} {t : TypeId} (hb : Below (w.heap.size + 1) (w.alloc (.cells #[x, y] t)) W) :
    W.cell? ⟨w.heap.size, 0, none⟩ = some x ∧ W.cell? ⟨w.heap.size, 1, none⟩ = some y ∧ Below w.heap.size w W := by
  have b1 := (hb.block w.heap.size (by omega)).trans (alloc1 w (.cells #[x, y] t))
  exact ⟨by rw [cell_of_row _ _ _ _ _ _ b1]; rfl, by rw [cell_of_row _ _ _ _ _ _ b1]; rfl, (below1r w _).trans (hb.mono (by omega))⟩

theorem packs_long {w : World} (hq : Quads w) (wd n : Int) (a1 a2 : Option Addr) (n1 k1 n2 k2 : Nat) (h : 5000 < n1 ∨ 5000 < n2) :
    Calls Tryd.prog 4 #[.int .i64 wd, .int .i64 n, .agg #[.slice a1 n1 k1, .slice a2 n2 k2]] w fun e w' => e = .returned (.bool true) ∧ Below w.heap.size w w' := by
  obtain ⟨c0, c1, hb⟩ := box2 (Below.refl (w.heap.size + 1) (w.alloc (.cells #[.slice a1 n1 k1, .slice a2 n2 k2] 36)))
  have HQ := Lib.hid (hq.below hb hq.1)
  have HB := Lib.hid hb
  clear hb hq
  go_enter Tryd.func4, Tryd.ntmps4
  by_cases g : 5000 < n1
  · have t1 : decide ((5000 : Int) < (n1 : Int)) = true := decide_eq_true (by omega)
    clear h g
    go_wp2_with fail
    refine (lives_any HQ.out).mono ?_
    rintro e w1 ⟨rfl, hb⟩
    have B1 := Lib.hid (HB.out.trans (hb.mono HB.out.size))
    clear hb
    go_wp2_with fail
    go_ret
    exact ⟨rfl, B1.out⟩
  · have t1 : decide ((5000 : Int) < (n1 : Int)) = false := decide_eq_false (by omega)
    have t2 : decide ((5000 : Int) < (n2 : Int)) = true := decide_eq_true (by omega)
    clear h g
    go_wp2_with fail
    refine (lives_any HQ.out).mono ?_
    rintro e w1 ⟨rfl, hb⟩
    have B1 := Lib.hid (HB.out.trans (hb.mono HB.out.size))
    clear hb
    go_wp2_with fail
    go_ret
    exact ⟨rfl, B1.out⟩

set_option maxHeartbeats 1600000 in
theorem packs_main {w : World} (hq : Quads w) (wd n : Int) {a1 a2 : Option Addr} {k1 k2 : Nat} {l : List UInt64} {bs : List UInt8} (h1 : Holds w (.slice a1 l.length k1) (u64s l)) (h2 : Holds w (.slice a2 bs.length k2) (u8s bs)) (hl1 : l.length ≤ 5000) (hl2 : bs.length ≤ 5000) :
    Calls Tryd.prog 4 #[.int .i64 wd, .int .i64 n, .agg #[.slice a1 l.length k1, .slice a2 bs.length k2]] w fun e w' => e = .returned (.bool true) ∧ Below w.heap.size w w' := by
  have hP := fun (W : World) (hb : Below (w.heap.size + 1) (w.alloc (.cells #[.slice a1 l.length k1, .slice a2 bs.length k2] 36)) W) => Pack_all (h1.below (box2 hb).2.2) (by omega) wd
  have hR := fun (W : World) (hb : Below (w.heap.size + 1) (w.alloc (.cells #[.slice a1 l.length k1, .slice a2 bs.length k2] 36)) W) => refPack_all (h1.below (box2 hb).2.2) (by omega) wd
  have hU := fun (W : World) (hb : Below (w.heap.size + 1) (w.alloc (.cells #[.slice a1 l.length k1, .slice a2 bs.length k2] 36)) W) => Unpack_all (h2.below (box2 hb).2.2) wd n
  have hV := fun (W : World) (hb : Below (w.heap.size + 1) (w.alloc (.cells #[.slice a1 l.length k1, .slice a2 bs.length k2] 36)) W) => refUnpack_all (h2.below (box2 hb).2.2) wd n
  generalize hpa : packAns wd l = pa at *
  have hul : (unpackAns wd n bs).1.length ≤ 100000 := by
    unfold unpackAns
    split
    · simp
    · split
      · simp only [unpackL_len]; omega
      · simp
  generalize hua : unpackAns wd n bs = ua at *
  obtain ⟨pl, pc⟩ := pa
  obtain ⟨ul, uc⟩ := ua
  obtain ⟨n1, hn1⟩ : ∃ n1, n1 = l.length := ⟨_, rfl⟩
  obtain ⟨n2, hn2⟩ : ∃ n2, n2 = bs.length := ⟨_, rfl⟩
  obtain ⟨n3, hn3⟩ : ∃ n3, n3 = ul.length := ⟨_, rfl⟩
  simp only [← hn1, ← hn2, ← hn3] at hP hR hU hV hl1 hl2 hul ⊢
  have HP := Lib.hid hP
  have HR := Lib.hid hR
  have HU := Lib.hid hU
  have HV := Lib.hid hV
  have HN3 := Lib.hid hn3
  have HUL := Lib.hid hul
  obtain ⟨c0, c1, hb⟩ := box2 (Below.refl (w.heap.size + 1) (w.alloc (.cells #[.slice a1 n1 k1, .slice a2 n2 k2] 36)))
  have HQ := Lib.hid hq
  clear hP hR hU hV hn1 hn2 hn3 hq hb h1 h2 hpa hua hul
  have t1 : decide ((5000 : Int) < (n1 : Int)) = false := decide_eq_false (by omega)
  have t2 : decide ((5000 : Int) < (n2 : Int)) = false := decide_eq_false (by omega)
  clear hl1 hl2
  go_enter Tryd.func4, Tryd.ntmps4
  go_wp2_with fail
  refine (HP.out _ (Below.refl _ _)).mono ?_
  rintro e w1 ⟨v1, rfl, h1⟩
  have B1 := Lib.hid (show Below (w.heap.size + 1) (w.alloc (.cells #[.slice a1 n1 k1, .slice a2 n2 k2] 36)) w1 by simpa using h1.out.2)
  obtain ⟨c10, c11, _⟩ := box2 B1.out
  obtain ⟨x1, y1, hf1, _⟩ := h1.out.1.form
  generalize hz1 : (u8s pl).length = z1 at hf1
  have V1 := Lib.hid h1.out.1
  clear h1 c0 c1 hz1
  subst hf1
  go_wp2_with fail
  refine (HR.out _ B1.out).mono ?_
  rintro e w2 ⟨v2, rfl, h2⟩
  have B2 := Lib.hid (B1.out.trans (h2.out.2.mono (by have := B1.out.size; simp at this; omega)))
  obtain ⟨c20, c21, _⟩ := box2 B2.out
  obtain ⟨x2, y2, hf2, _⟩ := h2.out.1.form
  generalize hz2 : (u8s pl).length = z2 at hf2
  have W1 := Lib.hid (V1.out.below h2.out.2)
  have W2 := Lib.hid h2.out.1
  clear h2 c10 c11 hz2
  subst hf2
  go_wp2_with fail
  refine (HU.out _ B2.out).mono ?_
  rintro e w3 ⟨a3, b3, rfl, h3⟩
  have B3 := Lib.hid (B2.out.trans (h3.out.2.mono (by have := B2.out.size; simp at this; omega)))
  obtain ⟨c30, c31, _⟩ := box2 B3.out
  have X1 := Lib.hid (W1.out.below h3.out.2)
  have X2 := Lib.hid (W2.out.below h3.out.2)
  have X3 := Lib.hid h3.out.1
  clear h3 c20 c21
  go_wp2_with fail
  refine (HV.out _ B3.out).mono ?_
  rintro e w4 ⟨a4, b4, rfl, h4⟩
  have B4 := Lib.hid (B3.out.trans (h4.out.2.mono (by have := B3.out.size; simp at this; omega)))
  have Y1 := Lib.hid (X1.out.below h4.out.2)
  have Y2 := Lib.hid (X2.out.below h4.out.2)
  have Y3 := Lib.hid (X3.out.below h4.out.2)
  have Y4 := Lib.hid h4.out.1
  clear h4 c30 c31
  go_wp2_with fail
  refine (Same_any Y1.out Y2.out).mono ?_
  rintro e w4' ⟨rfl, rfl⟩
  rw [show decide (pl = pl) = true from decide_eq_true rfl]
  go_wp2_with fail
  refine (Words_any Y3.out Y4.out HN3.out HN3.out (by have := HUL.out; have := HN3.out; omega)).mono ?_
  rintro e w5 ⟨rfl, hb5⟩
  rw [show decide (ul = ul) = true from decide_eq_true rfl]
  have B5 := Lib.hid ((box2 B4.out).2.2.trans (hb5.mono (by have := (box2 B4.out).2.2.size; omega)))
  clear hb5
  go_wp2_with fail
  refine (lives_any (HQ.out.below B5.out HQ.out.1)).mono ?_
  rintro e w6 ⟨rfl, hb6⟩
  have B6 := Lib.hid (B5.out.trans (hb6.mono B5.out.size))
  clear hb6
  go_wp2_with fail
  go_ret
  exact ⟨rfl, B6.out⟩
end Go.Proofs.YtpecajaoknnepaaDoor
