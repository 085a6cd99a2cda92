/- The walk of VfsApart: what is done to other files changes no file; each operation counts one. Conditions: none. -/
import Derived.Test.YtddhhgbbeeeieaaApartD
set_option maxRecDepth 100000
namespace Go.Proofs.Ytddhhgbbeeeieaa
open Go.RowKit Go.Maps Go.Sort

/-- act i of the argument, as it lies in memory -/
structure ActAt (w : World) (ad : Addr) (i : Nat) (kd n m : Int) (s t : ByteArray) (a : Option Addr) (c : Nat) (l : List UInt8) (kv : Value) : Prop where
  c0 : w.cell? (ad.add (i * 7 + 0)) = some (.int .i64 kd)
  c1 : w.cell? (ad.add (i * 7 + 1)) = some (.string s)
  c2 : w.cell? (ad.add (i * 7 + 2)) = some (.string t)
  c3 : w.cell? (ad.add (i * 7 + 3)) = some (.int .i64 n)
  c4 : w.cell? (ad.add (i * 7 + 4)) = some (.int .i64 m)
  c5 : w.cell? (ad.add (i * 7 + 5)) = some (.slice a l.length c)
  c6 : w.cell? (ad.add (i * 7 + 6)) = some kv
  hk : ∃ ka kn kc, kv = .slice ka kn kc
  hs : s.size ≤ maxLen
  ht : t.size ≤ maxLen
  hd : Holds8 w (.slice a l.length c) l
theorem str_list (s : ByteArray) : s.toList = s.data.toList := by obtain ⟨⟨l⟩⟩ := s; simp
theorem add_off (a : Addr) (i j : Nat) : a.add (i * 7 + (j + 1)) = ⟨(a.add (i * 7)).block, (a.add (i * 7)).off + (j + 1), none⟩ := by
  unfold Addr.add
  rw [if_neg (by omega)]
  split
  · rename_i h; rw [h]; simp
  · simp; omega
/-- .. as the walk reads it -/
theorem ActAt.read {w0 w : World} {ad : Addr} {i : Nat} {kd n m : Int} {s t : ByteArray} {a : Option Addr} {c : Nat} {l : List UInt8} {kv : Value} (A : ActAt w0 ad i kd n m s t a c l kv) (hb : Below w0.heap.size w0 w) :
    w.cell? (ad.add (i * 7)) = some (.int .i64 kd) ∧ w.cell? ⟨(ad.add (i * 7)).block, (ad.add (i * 7)).off + 1, none⟩ = some (.string s) ∧ w.cell? ⟨(ad.add (i * 7)).block, (ad.add (i * 7)).off + 2, none⟩ = some (.string t) ∧
    w.cell? ⟨(ad.add (i * 7)).block, (ad.add (i * 7)).off + 3, none⟩ = some (.int .i64 n) ∧ w.cell? ⟨(ad.add (i * 7)).block, (ad.add (i * 7)).off + 4, none⟩ = some (.int .i64 m) ∧
    w.cell? ⟨(ad.add (i * 7)).block, (ad.add (i * 7)).off + 5, none⟩ = some (.slice a l.length c) ∧ w.cell? ⟨(ad.add (i * 7)).block, (ad.add (i * 7)).off + 6, none⟩ = some kv := by
  have K := fun {x : Addr} {v : Value} (g : w0.cell? x = some v) => (World.cell?_of_block (w := w0) (hb.block _ (World.block_lt_of_cell? w0 _ g))).trans g
  exact ⟨K A.c0, by rw [← add_off ad i 0]; exact K A.c1, by rw [← add_off ad i 1]; exact K A.c2, by rw [← add_off ad i 2]; exact K A.c3, by rw [← add_off ad i 3]; exact K A.c4, by rw [← add_off ad i 4]; exact K A.c5, by rw [← add_off ad i 5]; exact K A.c6⟩
def ActsAt (w : World) (ar : Option Addr) (len : Nat) : Prop := ∀ i, i < len → ∃ ad, ar = some ad ∧ ∃ kd n m s t a c l kv, ActAt w ad i kd n m s t a c l kv

set_option maxHeartbeats 4000000 in
theorem apart_early (w : World) (s : ByteArray) (hs : s.size ≤ maxLen) (ar da : Option Addr) (an ac dn dc : Nat) (h : goodL s.data.toList = false ∨ 1000 < dn ∨ 1000 < an) :
    Calls Try.prog 8 #[.slice ar an ac, .string s, .slice da dn dc] w fun e w' => e = .returned (.bool true) ∧ Below w.heap.size w w' := by
  have HG := Lib.hid (fun w => Good_any s w hs)
  have HS := Lib.hid hs
  have HH := Lib.hid h
  clear hs h
  go_enter Try.func8, Try.ntmps8
  go_wp2_with fail
  refine (at_new w).mono ?_
  rintro e w1 ⟨p, rfl, X1⟩
  go_wp2_with fail
  refine (HG.out _).mono ?_
  rintro e w1' ⟨rfl, rfl⟩
  generalize hgd : goodL s.data.toList = gd at *
  obtain ⟨d1, hd1⟩ : ∃ d1, d1 = decide ((1000 : Int) < (dn : Int)) := ⟨_, rfl⟩
  obtain ⟨d2, hd2⟩ : ∃ d2, d2 = decide ((1000 : Int) < (an : Int)) := ⟨_, rfl⟩
  have hor : gd = false ∨ d1 = true ∨ d2 = true := by
    rcases HH.out with g | g | g
    · exact .inl g
    · exact .inr (.inl (by rw [hd1]; exact decide_eq_true (by omega)))
    · exact .inr (.inr (by rw [hd2]; exact decide_eq_true (by omega)))
  have hd1' := hd1.symm
  have hd2' := hd2.symm
  clear hgd HH hd1 hd2
  rcases (by revert hor; cases gd <;> cases d1 <;> cases d2 <;> simp : gd = false ∨ (gd = true ∧ d1 = true) ∨ (gd = true ∧ d1 = false ∧ d2 = true)) with rfl | ⟨rfl, rfl⟩ | ⟨rfl, rfl, rfl⟩
  all_goals
    clear hor
    go_wp2_with fail
    refine (create_some s HS.out X1.out).mono ?_
    rintro e w2 ⟨r, rfl, hB2⟩
    by_cases hr : r = 0
    · subst hr
      go_wp2_with fail
      refine (lives_any _).mono ?_
      rintro e w3 ⟨rfl, hl⟩
      have HL := Lib.hid hl
      clear hl
      go_wp2_with fail
      go_ret
      exact ⟨rfl, hB2.out.trans (HL.out.mono hB2.out.size)⟩
    · have r0 : (r == 0) = false := by simpa using hr
      have r1 : (r != 0) = true := by simpa using hr
      clear hr
      go_wp2_with fail
      go_ret
      exact ⟨rfl, hB2.out⟩
end Go.Proofs.Ytddhhgbbeeeieaa
