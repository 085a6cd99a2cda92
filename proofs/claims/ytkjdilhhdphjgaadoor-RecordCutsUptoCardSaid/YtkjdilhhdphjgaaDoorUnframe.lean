/- Contracts of codec.Unframe: the content of the frame that bytes begin with, or the error. Conditions: at most 1000000 bytes. -/
import Derived.Test.YtkjdilhhdphjgaaDoorReadFrame
import Derived.Test.YtkjdilhhdphjgaaDoorCodecFaceB
set_option maxRecDepth 100000
namespace Go.Proofs.YtkjdilhhdphjgaaDoor
open Go.RowKit Go.Maps Go.Sort

theorem innerB_ok {w : World} {b : Nat} {x : Value} (h1 : w.cell? ⟨b, 0, none⟩ = some x) {Q : Value → World → Prop}
    (h : Calls Tryd.prog 31 #[x] w fun e w' => ∃ v, e = .returned v ∧ Hid (Q v w')) :
    Calls Tryd.prog 30 #[.pointer (some ⟨b, 0, none⟩)] w fun e w' => ∃ v, e = .returned v ∧ Hid (Q v w') := by
  have HC := Lib.hid h
  clear h
  go_enter Tryd.func30, Tryd.ntmps30
  go_wp2_with fail
  refine HC.out.mono ?_
  rintro e w' ⟨v, rfl, hv⟩
  go_wp2
  simp [bodyPost, results, Tryd.results30, hv]
theorem innerB_panic {w : World} {b : Nat} {x : Value} (h1 : w.cell? ⟨b, 0, none⟩ = some x) {Q : World → Prop} {ch : List PanicEntry}
    (h : Calls Tryd.prog 31 #[x] w fun e w' => e = .panicked ch ∧ Q w') :
    Calls Tryd.prog 30 #[.pointer (some ⟨b, 0, none⟩)] w fun e w' => e = .panicked ch ∧ Q w' := by
  have HC := Lib.hid h
  clear h
  go_enter Tryd.func30, Tryd.ntmps30
  go_wp2_with fail
  refine HC.out.mono ?_
  rintro e w' ⟨rfl, hv⟩
  go_wp2
  simp [bodyPost, hv]
theorem enter_innerB (args : Array Value) (w : World) : (callFunc 30 args).run Tryd.prog w = .ok (.enter 30 args) w := by kernel_rfl

theorem box1 {w W : World} {x : Value} {t : TypeId} (hb : Below (w.heap.size + 1) (w.alloc (.cells #[x] t)) W) :
    W.cell? ⟨w.heap.size, 0, none⟩ = some x ∧ Below w.heap.size w W := by
  have b1 := (hb.block w.heap.size (by omega)).trans (alloc1 w (.cells #[x] t))
  exact ⟨by rw [cell_of_row _ _ _ _ _ _ b1]; rfl, (below1r w _).trans (hb.mono (by omega))⟩

set_option maxHeartbeats 800000 in
theorem Unframe_val {w : World} {a : Option Addr} {bl cap : Nat} {k : Nat} {xs : List Value}
    (h : ∀ W, Below w.heap.size w W → Calls Tryd.prog 31 #[.slice a bl cap] W fun e w' => ∃ v, e = .returned v ∧ Hid (w'.ownsRow W.heap.size 5 1 v k xs ∧ Below W.heap.size W w')) (hk : k ≤ 1000000) :
    Calls Tryd.prog 25 #[.slice a bl cap] w fun e w' => ∃ v, e = .returned (.tuple #[v, .int .i64 ((k : Int) + 8), .int .i64 0]) ∧ Hid (w'.ownsRow w.heap.size 5 1 v k xs ∧ Below w.heap.size w w') := by
  have hmf : ∀ (fn : Fn) (first cap : Array Value) (w : World), (Instr.makeFunc fn first cap).run Tryd.prog w = .ok (.func fn first cap) w := fun _ _ _ _ => rfl
  have HF : Hid (Calls Tryd.prog 29 #[.func (.func 30) #[] #[.pointer (some ⟨w.heap.size, 0, none⟩)]]
      (w.alloc (.cells #[.slice a bl cap] 25))
      fun e w' => ∃ v, e = .returned (.tuple #[v, .int .i64 0]) ∧ Hid (w'.ownsRow w.heap.size 5 1 v k xs ∧ Below w.heap.size w w')) := by
    refine Lib.hid ((faceB_ok (k := k) (xs := xs) enter_innerB fun W hW => ?_).mono ?_)
    · obtain ⟨h1, h4⟩ := box1 (by simpa using hW)
      exact innerB_ok h1 (h W h4)
    · rintro e w' ⟨v, rfl, hv⟩
      refine ⟨v, rfl, Lib.hid ⟨ownsRow_rebase hv.out.1 fun g hg => ?_, ?_⟩⟩
      · have := ownsRow_ge hv.out.1 g hg
        simp at this
        omega
      · exact (box1 (by simpa using hv.out.2)).2
  clear h
  go_enter Tryd.func25, Tryd.ntmps25
  go_wp2_with fail
  refine HF.out.mono ?_
  rintro e w' ⟨v, rfl, hv⟩
  obtain ⟨va, vc, rfl, _⟩ := ownsRow_form hv.out.1
  go_wp2_with fail
  simp [bodyPost, results, Tryd.results25, go_sem]
  exact hv

set_option maxHeartbeats 800000 in
theorem Unframe_panic {w : World} {a : Option Addr} {bl cap : Nat} (c : Int) (hc : c ≠ 0)
    (h : ∀ W, Below w.heap.size w W → Calls Tryd.prog 31 #[.slice a bl cap] W fun e w' => e = .panicked (errP c) ∧ Below W.heap.size W w') :
    Calls Tryd.prog 25 #[.slice a bl cap] w fun e w' => e = .returned (.tuple #[.slice none 0 0, .int .i64 0, .int .i64 c]) ∧ Below w.heap.size w w' := by
  have hmf : ∀ (fn : Fn) (first cap : Array Value) (w : World), (Instr.makeFunc fn first cap).run Tryd.prog w = .ok (.func fn first cap) w := fun _ _ _ _ => rfl
  have HF : Hid (Calls Tryd.prog 29 #[.func (.func 30) #[] #[.pointer (some ⟨w.heap.size, 0, none⟩)]]
      (w.alloc (.cells #[.slice a bl cap] 25))
      fun e w' => e = .returned (.tuple #[.slice none 0 0, .int .i64 c]) ∧ Below w.heap.size w w') := by
    refine Lib.hid ((faceB_panic (n := c) enter_innerB fun W hW => ?_).mono ?_)
    · obtain ⟨h1, h4⟩ := box1 (by simpa using hW)
      exact innerB_panic h1 (h W h4)
    · rintro e w' ⟨rfl, hv⟩
      exact ⟨rfl, (box1 (by simpa using hv)).2⟩
  have t1 : (c != 0) = true := by rw [bne_iff_ne]; exact hc
  clear h hc
  go_enter Tryd.func25, Tryd.ntmps25
  go_wp2_with fail
  refine HF.out.mono ?_
  rintro e w' ⟨rfl, hv⟩
  go_wp2_with fail
  simp [bodyPost, results, Tryd.results25, go_sem]
  exact hv
end Go.Proofs.YtkjdilhhdphjgaaDoor
