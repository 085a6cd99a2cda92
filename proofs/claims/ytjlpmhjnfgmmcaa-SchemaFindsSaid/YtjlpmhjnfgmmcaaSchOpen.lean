/- What the statements of schema share: the program's knobs, arguments opened. Conditions: none. -/
import Derived.Test.YtjlpmhjnfgmmcaaSchL
import Derived.Test.YtjlpmhjnfgmmcaaArgs
import Derived.ProofKit
import Derived.OpenShut
import Derived.ShutString
import Derived.ChangeOld
import Derived.Below
set_option maxRecDepth 100000
namespace Go.Proofs.Ytjlpmhjnfgmmcaa
open Go.ChangeShapes Go.WideShapes Go.ChangeAt Go.RowKit Go.Maps Go.Sort Go.Deep Go.Joins Go.Lib
theorem own : ownKnob Try.prog.godebug = none := by kernel_rfl
theorem laidOut : laidOutB Try.prog = true := by kernel_rfl
section
variable {H : Type} {enc : TypeId × Value → H} {w : World} {Lim : TypeId → DataW H → Prop} {M : Nat} {r : Reach} {b0 : Nat} {v : Value} {d : DataW H} {q : List MemPlace}
theorem tab_arg (L : LimOk Lim M) (hv : Value.okWide Try.prog w r b0 26 v) (h : DataW.Trod enc Try.prog w 0 (fun _ => true) true 26 v d q) (hl : Lim 26 d) :
    ∃ (tn : ByteArray) (cs : Cl) (p : Option Addr) (n k : Nat), v = .agg #[.string tn, .slice p n k] ∧ Holds2 w (.slice p n k) (cs.map colC) ∧ cs.length = n ∧ n ≤ M := by
  obtain ⟨cs, rfl, hsz⟩ := okWide_struct Try.underlying26 hv
  obtain ⟨fuel, hf⟩ := h
  obtain ⟨tn, tc, a, hc, h1, h2, h3, h4⟩ := tab_of L (enc := enc) (w := w) (fuel := fuel) (cs := cs.toList) (y := (d, q)) (by simpa [Tr, Value.cells] using hf) hl
  obtain ⟨pp, k, rfl, hk⟩ := h1.form
  rw [List.length_map] at h1
  refine ⟨tn, tc, pp, tc.length, k, ?_, h1, rfl, h3⟩
  have : cs = ([.string tn, .slice pp (tc.map colC).length k] : List Value).toArray := by rw [← hc]
  rw [this, List.length_map]
theorem rol_arg (L : LimOk Lim M) (hv : Value.okWide Try.prog w r b0 30 v) (h : DataW.Trod enc Try.prog w 0 (fun _ => true) true 30 v d q) (hl : Lim 30 d) :
    ∃ (rn rt : ByteArray) (ds : List ByteArray) (ms : Ml) (pd : Option Addr) (nd kd : Nat) (pm : Option Addr) (nm km : Nat), v = .agg #[.string rn, .string rt, .slice pd nd kd, .slice pm nm km] ∧ Holds w (.slice pd nd kd) (strs ds) ∧ Holds2 w (.slice pm nm km) (ms.map meaC) ∧ ds.length = nd ∧ ms.length = nm ∧ nd ≤ M ∧ nm ≤ M := by
  obtain ⟨cs, rfl, hsz⟩ := okWide_struct Try.underlying30 hv
  obtain ⟨fuel, hf⟩ := h
  obtain ⟨rn, rt, rd, rm, b, c, hc, h1, h2, h3, h4, ⟨h5, _⟩, h6, _⟩ := rol_of L (enc := enc) (w := w) (fuel := fuel) (cs := cs.toList) (y := (d, q)) (by simpa [Tr, Value.cells] using hf) hl
  obtain ⟨pm, km, rfl, hkm⟩ := h2.form
  obtain ⟨pd, kd, rfl, hkd⟩ := h1.form
  rw [List.length_map] at h2
  rw [strs_len] at h1
  refine ⟨rn, rt, rd, rm, pd, rd.length, kd, pm, rm.length, km, ?_, h1, h2, rfl, rfl, h5, h6⟩
  have : cs = ([.string rn, .string rt, .slice pd (strs rd).length kd, .slice pm (rm.map meaC).length km] : List Value).toArray := by rw [← hc]
  rw [this, List.length_map, strs_len]
end
end Go.Proofs.Ytjlpmhjnfgmmcaa
