/- Contracts of codec.Unpack: the numbers, or ErrCorrupt. Conditions: width and count are allowed ones. -/
import Derived.Test.YtbijpjoljljlpaaCodecReadOk
import Derived.Test.YtbijpjoljljlpaaCodecFace
set_option maxRecDepth 100000
namespace Go.Proofs.Ytbijpjoljljlpaa
open Go.RowKit Go.Maps Go.Sort

theorem inner_ok {w : World} {b c d : Nat} {x y z : Value} (h1 : w.cell? ⟨b, 0, none⟩ = some x) (h2 : w.cell? ⟨c, 0, none⟩ = some y) (h3 : w.cell? ⟨d, 0, none⟩ = some z) {Q : Value → World → Prop}
    (h : Calls Try.prog 58 #[x, y, z] w fun e w' => ∃ v, e = .returned v ∧ Hid (Q v w')) :
    Calls Try.prog 57 #[.pointer (some ⟨b, 0, none⟩), .pointer (some ⟨c, 0, none⟩), .pointer (some ⟨d, 0, none⟩)] w fun e w' => ∃ v, e = .returned v ∧ Hid (Q v w') := by
  have HC := Lib.hid h
  clear h
  go_enter Try.func57, Try.ntmps57
  go_wp2_with fail
  refine HC.out.mono ?_
  rintro e w' ⟨v, rfl, hv⟩
  go_wp2
  simp [bodyPost, results, Try.results57, hv]
theorem inner_panic {w : World} {b c d : Nat} {x y z : Value} (h1 : w.cell? ⟨b, 0, none⟩ = some x) (h2 : w.cell? ⟨c, 0, none⟩ = some y) (h3 : w.cell? ⟨d, 0, none⟩ = some z) {Q : World → Prop} {ch : List PanicEntry}
    (h : Calls Try.prog 58 #[x, y, z] w fun e w' => e = .panicked ch ∧ Q w') :
    Calls Try.prog 57 #[.pointer (some ⟨b, 0, none⟩), .pointer (some ⟨c, 0, none⟩), .pointer (some ⟨d, 0, none⟩)] w fun e w' => e = .panicked ch ∧ Q w' := by
  have HC := Lib.hid h
  clear h
  go_enter Try.func57, Try.ntmps57
  go_wp2_with fail
  refine HC.out.mono ?_
  rintro e w' ⟨rfl, hv⟩
  go_wp2
  simp [bodyPost, hv]

theorem enter_inner (args : Array Value) (w : World) : (callFunc 57 args).run Try.prog w = .ok (.enter 57 args) w := by kernel_rfl

theorem boxes {w W : World} {x y z : Value} {s t u : TypeId} (hb : Below (w.heap.size + 3) (((w.alloc (.cells #[x] s)).alloc (.cells #[y] t)).alloc (.cells #[z] u)) W) :
    W.cell? ⟨w.heap.size, 0, none⟩ = some x ∧ W.cell? ⟨w.heap.size + 1, 0, none⟩ = some y ∧ W.cell? ⟨w.heap.size + 1 + 1, 0, none⟩ = some z ∧ Below w.heap.size w W := by
  obtain ⟨a1, a2, a3⟩ := alloc3r w (.cells #[x] s) (.cells #[y] t) (.cells #[z] u)
  have b1 := (hb.block _ (by omega)).trans a1
  have b2 := (hb.block _ (by omega)).trans a2
  have b3 := (hb.block _ (by omega)).trans a3
  exact ⟨by rw [cell_of_row _ _ _ _ _ _ b1]; rfl, by rw [cell_of_row _ _ _ _ _ _ b2]; rfl, by rw [cell_of_row _ _ _ _ _ _ b3]; rfl,
    ((((Below.refl _ _).alloc (Nat.le_refl _) _).alloc (by simp) _).alloc (by simp; omega) _).trans (hb.mono (by omega))⟩

set_option maxHeartbeats 800000 in
theorem Unpack_val {w : World} {a : Option Addr} {bl cap : Nat} (wd n : Nat) (hw : wd ≤ 64) (hn : n ≤ 100000) {k : Nat} {xs : List Value}
    (h : ∀ W, Below w.heap.size w W → Calls Try.prog 58 #[.int .i64 (wd : Int), .int .i64 (n : Int), .slice a bl cap] W fun e w' => ∃ v, e = .returned v ∧ Hid (w'.ownsRow W.heap.size 44 1 v k xs ∧ Below W.heap.size W w')) :
    Calls Try.prog 47 #[.int .i64 (wd : Int), .int .i64 (n : Int), .slice a bl cap] w fun e w' => ∃ v, e = .returned (.tuple #[v, .int .i64 0]) ∧ Hid (w'.ownsRow w.heap.size 44 1 v k xs ∧ Below w.heap.size w w') := by
  have hmf : ∀ (fn : Fn) (first cap : Array Value) (w : World), (Instr.makeFunc fn first cap).run Try.prog w = .ok (.func fn first cap) w := fun _ _ _ _ => rfl
  have HF : Hid (Calls Try.prog 51 #[.func (.func 57) #[] #[.pointer (some ⟨w.heap.size, 0, none⟩), .pointer (some ⟨w.heap.size + 1, 0, none⟩), .pointer (some ⟨w.heap.size + 1 + 1, 0, none⟩)]]
      (((w.alloc (.cells #[.int .i64 (wd : Int)] 3)).alloc (.cells #[.int .i64 (n : Int)] 3)).alloc (.cells #[.slice a bl cap] 28))
      fun e w' => ∃ v, e = .returned (.tuple #[v, .int .i64 0]) ∧ Hid (w'.ownsRow w.heap.size 44 1 v k xs ∧ Below w.heap.size w w')) := by
    refine Lib.hid ((face_ok (k := k) (xs := xs) enter_inner fun W hW => ?_).mono ?_)
    · obtain ⟨h1, h2, h3, h4⟩ := boxes (by simpa using hW)
      exact inner_ok h1 h2 h3 (h W h4)
    · rintro e w' ⟨v, rfl, hv⟩
      refine ⟨v, rfl, Lib.hid ⟨ownsRow_rebase hv.out.1 fun g hg => ?_, ?_⟩⟩
      · have := ownsRow_ge hv.out.1 g hg
        simp at this
        omega
      · exact (boxes (by simpa using hv.out.2)).2.2.2
  clear h
  go_enter Try.func47, Try.ntmps47
  have t1 : decide ((wd : Int) < 0) = false := by simp
  have t2 : decide ((64 : Int) < (wd : Int)) = false := by simp; omega
  have t3 : decide ((n : Int) < 0) = false := by simp
  have t4 : decide ((100000 : Int) < (n : Int)) = false := by simp; omega
  go_wp2_with fail
  refine HF.out.mono ?_
  rintro e w' ⟨v, rfl, hv⟩
  go_wp2_with fail
  simp [bodyPost, results, Try.results47, go_sem]
  exact hv

set_option maxHeartbeats 800000 in
theorem Unpack_panic {w : World} {a : Option Addr} {bl cap : Nat} (wd n : Nat) (hw : wd ≤ 64) (hn : n ≤ 100000)
    (h : ∀ W, Below w.heap.size w W → Calls Try.prog 58 #[.int .i64 (wd : Int), .int .i64 (n : Int), .slice a bl cap] W fun e w' => e = .panicked corrupt ∧ Below W.heap.size W w') :
    Calls Try.prog 47 #[.int .i64 (wd : Int), .int .i64 (n : Int), .slice a bl cap] w fun e w' => e = .returned (.tuple #[.slice none 0 0, .int .i64 8]) ∧ Below w.heap.size w w' := by
  have hmf : ∀ (fn : Fn) (first cap : Array Value) (w : World), (Instr.makeFunc fn first cap).run Try.prog w = .ok (.func fn first cap) w := fun _ _ _ _ => rfl
  have HF : Hid (Calls Try.prog 51 #[.func (.func 57) #[] #[.pointer (some ⟨w.heap.size, 0, none⟩), .pointer (some ⟨w.heap.size + 1, 0, none⟩), .pointer (some ⟨w.heap.size + 1 + 1, 0, none⟩)]]
      (((w.alloc (.cells #[.int .i64 (wd : Int)] 3)).alloc (.cells #[.int .i64 (n : Int)] 3)).alloc (.cells #[.slice a bl cap] 28))
      fun e w' => e = .returned (.tuple #[.slice none 0 0, .int .i64 8]) ∧ Below w.heap.size w w') := by
    refine Lib.hid ((face_panic (n := 8) enter_inner fun W hW => ?_).mono ?_)
    · obtain ⟨h1, h2, h3, h4⟩ := boxes (by simpa using hW)
      exact inner_panic h1 h2 h3 (h W h4)
    · rintro e w' ⟨rfl, hv⟩
      exact ⟨rfl, (boxes (by simpa using hv)).2.2.2⟩
  clear h
  go_enter Try.func47, Try.ntmps47
  have t1 : decide ((wd : Int) < 0) = false := by simp
  have t2 : decide ((64 : Int) < (wd : Int)) = false := by simp; omega
  have t3 : decide ((n : Int) < 0) = false := by simp
  have t4 : decide ((100000 : Int) < (n : Int)) = false := by simp; omega
  go_wp2_with fail
  refine HF.out.mono ?_
  rintro e w' ⟨rfl, hv⟩
  go_wp2_with fail
  simp [bodyPost, results, Try.results47, go_sem]
  exact hv

theorem Unpack_ok {w : World} {a : Option Addr} {cap : Nat} {bs : List UInt8} (h : Holds w (.slice a bs.length cap) (u8s bs)) (wd n : Nat) (hw : wd ≤ 64) (hn : n ≤ 100000) (hb : bs.length = (wd * n + 7) / 8) (hgood : numB bs < 2 ^ (wd * n)) :
    Calls Try.prog 47 #[.int .i64 (wd : Int), .int .i64 (n : Int), .slice a bs.length cap] w fun e w' => ∃ v, e = .returned (.tuple #[v, .int .i64 0]) ∧ Hid (w'.ownsRow w.heap.size 44 1 v n (u64s (unpackL wd n (numB bs))) ∧ Below w.heap.size w w') :=
  Unpack_val wd n hw hn fun _ hW => read_ok (h.below hW) wd n hw hn hb hgood
theorem Unpack_size {w : World} {a : Option Addr} {bl cap : Nat} (wd n : Nat) (hw : wd ≤ 64) (hn : n ≤ 100000) (hne : bl ≠ (wd * n + 7) / 8) :
    Calls Try.prog 47 #[.int .i64 (wd : Int), .int .i64 (n : Int), .slice a bl cap] w fun e w' => e = .returned (.tuple #[.slice none 0 0, .int .i64 8]) ∧ Below w.heap.size w w' :=
  Unpack_panic wd n hw hn fun _ _ => read_size wd n hw hn hne
theorem Unpack_trail {w : World} {a : Option Addr} {cap : Nat} {bs : List UInt8} (h : Holds w (.slice a bs.length cap) (u8s bs)) (wd n : Nat) (hw : wd ≤ 64) (hn : n ≤ 100000) (hb : bs.length = (wd * n + 7) / 8) (hbad : ¬ numB bs < 2 ^ (wd * n)) :
    Calls Try.prog 47 #[.int .i64 (wd : Int), .int .i64 (n : Int), .slice a bs.length cap] w fun e w' => e = .returned (.tuple #[.slice none 0 0, .int .i64 8]) ∧ Below w.heap.size w w' :=
  Unpack_panic wd n hw hn fun _ hW => read_trail (h.below hW) wd n hw hn hb hbad
end Go.Proofs.Ytbijpjoljljlpaa
