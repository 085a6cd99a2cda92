/- ValueCmps holds: which of two values comes first is the document's answer, and it is an order. Conditions: none. -/
import Derived.Test.YtfmhdnefcapjgaaGreatValE
import Derived.Lib.SmallJoins
import Derived.HandedShaped
set_option maxRecDepth 100000
namespace Go.Proofs.YtfmhdnefcapjgaaGreat
open Go.Joins
open Go.ChangeShapes Go.WideShapes Go.ChangeAt Go.RowKit

theorem cmps_lifted (os : Os) (started : os.Started) (H : Type) (enc : TypeId × Value → H) :
    ReturnsInHanded {} Tryz.checked os 5 .any (Rows.valueCmpsSpec.pre6 enc Tryz.prog Tryz.f5 Rows.valueCmpsRow.domain false)
      (Rows.valueCmpsSpec.post enc Tryz.prog Tryz.f5 false true false false) := by
  refine returnsInHanded_of_change_shaped (C := Tryz.checked) own started (by kernel_rfl) Tryz.func5
    (ChangeSpec.witness6 (enc := enc) (C := Tryz.checked) false ⟨#[], #[.agg #[.int .i64 0, .int .i64 0, .string ByteArray.empty], .agg #[.int .i64 0, .int .i64 0, .string ByteArray.empty], .agg #[.int .i64 0, .int .i64 0, .string ByteArray.empty]], []⟩ 8 (by kernel_rfl) (by kernel_rfl) (by kernel_rfl) (by kernel_rfl)) ?_
  intro W base args ds gs before hval0 hW hcnd hsz hsh _
  have hval : ∀ (j : Nat) t v, Tryz.f5.params[j]? = some t → args[j]? = some v → Value.okWide Tryz.prog W .any base t v := hval0
  have hW' := hW
  obtain ⟨p, q, hA0, hV, rfl, hfz, hnd⟩ := hW
  have hA : DataW.TrodAll enc Tryz.prog W 0 (fun _ => true) true Tryz.f5.params.toList args.toList ds p := hA0
  rw [Tryz.params5] at hA hval
  obtain ⟨v0, vs0, d0, ds0, p0, q0, hargs, rfl, rfl, h0, r0⟩ := trodAll_cons hA
  obtain ⟨v1, vs1, d1, ds1, p1, q1, rfl, rfl, rfl, h1, r1⟩ := trodAll_cons r0
  obtain ⟨v2, vs2, d2, ds2, p2, q2, rfl, rfl, rfl, h2, r2⟩ := trodAll_cons r1
  obtain ⟨rfl, rfl, rfl⟩ := trodAll_nil r2
  obtain rfl : args = #[v0, v1, v2] := by cases args; simp_all
  obtain ⟨rfl, rfl⟩ := trodVars_none hV
  obtain ⟨c0a, c0b, c0c, y0a, y0b, y0c, m0, rfl, rfl, rfl, hy0a, hy0b, hy0c⟩ := open_agg3 Tryz.underlying37 (by kernel_rfl) valueCells (hval 0 37 v0 rfl rfl) h0
  obtain ⟨x0, e0a, rfl, wx0⟩ := DataW.trod_int Tryz.underlying3 hy0a
  obtain ⟨z0, e0b, rfl, wz0⟩ := DataW.trod_int Tryz.underlying3 hy0b
  obtain ⟨s0, e0c, rfl, ws0⟩ := DataW.trod_string Tryz.underlying9 hy0c
  simp at e0a e0b e0c
  subst e0a e0b e0c
  have sh0 : ∀ (W' : World) (sp : Nat → Bool), DataW.Trod enc Tryz.prog W' 0 sp true 37 (.agg #[.int .i64 x0, .int .i64 z0, .string s0]) (.agg [.lit (.int .i64 x0), .lit (.int .i64 z0), .lit (.string s0.data.toList)]) [] := fun W' sp =>
    shut_agg3 (y0 := (.lit (.int .i64 x0), [])) (y1 := (.lit (.int .i64 z0), [])) (y2 := (.lit (.string s0.data.toList), [])) Tryz.underlying37 (by kernel_rfl) valueCells ⟨1, by simp [DataW.trod, Tryz.underlying3, wx0]⟩ ⟨1, by simp [DataW.trod, Tryz.underlying3, wz0]⟩ ⟨1, by simp [DataW.trod, Tryz.underlying9, ws0]⟩
  obtain ⟨c1a, c1b, c1c, y1a, y1b, y1c, m1, rfl, rfl, rfl, hy1a, hy1b, hy1c⟩ := open_agg3 Tryz.underlying37 (by kernel_rfl) valueCells (hval 1 37 v1 rfl rfl) h1
  obtain ⟨x1, e1a, rfl, wx1⟩ := DataW.trod_int Tryz.underlying3 hy1a
  obtain ⟨z1, e1b, rfl, wz1⟩ := DataW.trod_int Tryz.underlying3 hy1b
  obtain ⟨s1, e1c, rfl, ws1⟩ := DataW.trod_string Tryz.underlying9 hy1c
  simp at e1a e1b e1c
  subst e1a e1b e1c
  have sh1 : ∀ (W' : World) (sp : Nat → Bool), DataW.Trod enc Tryz.prog W' 0 sp true 37 (.agg #[.int .i64 x1, .int .i64 z1, .string s1]) (.agg [.lit (.int .i64 x1), .lit (.int .i64 z1), .lit (.string s1.data.toList)]) [] := fun W' sp =>
    shut_agg3 (y0 := (.lit (.int .i64 x1), [])) (y1 := (.lit (.int .i64 z1), [])) (y2 := (.lit (.string s1.data.toList), [])) Tryz.underlying37 (by kernel_rfl) valueCells ⟨1, by simp [DataW.trod, Tryz.underlying3, wx1]⟩ ⟨1, by simp [DataW.trod, Tryz.underlying3, wz1]⟩ ⟨1, by simp [DataW.trod, Tryz.underlying9, ws1]⟩
  obtain ⟨c2a, c2b, c2c, y2a, y2b, y2c, m2, rfl, rfl, rfl, hy2a, hy2b, hy2c⟩ := open_agg3 Tryz.underlying37 (by kernel_rfl) valueCells (hval 2 37 v2 rfl rfl) h2
  obtain ⟨x2, e2a, rfl, wx2⟩ := DataW.trod_int Tryz.underlying3 hy2a
  obtain ⟨z2, e2b, rfl, wz2⟩ := DataW.trod_int Tryz.underlying3 hy2b
  obtain ⟨s2, e2c, rfl, ws2⟩ := DataW.trod_string Tryz.underlying9 hy2c
  simp at e2a e2b e2c
  subst e2a e2b e2c
  have sh2 : ∀ (W' : World) (sp : Nat → Bool), DataW.Trod enc Tryz.prog W' 0 sp true 37 (.agg #[.int .i64 x2, .int .i64 z2, .string s2]) (.agg [.lit (.int .i64 x2), .lit (.int .i64 z2), .lit (.string s2.data.toList)]) [] := fun W' sp =>
    shut_agg3 (y0 := (.lit (.int .i64 x2), [])) (y1 := (.lit (.int .i64 z2), [])) (y2 := (.lit (.string s2.data.toList), [])) Tryz.underlying37 (by kernel_rfl) valueCells ⟨1, by simp [DataW.trod, Tryz.underlying3, wx2]⟩ ⟨1, by simp [DataW.trod, Tryz.underlying3, wz2]⟩ ⟨1, by simp [DataW.trod, Tryz.underlying9, ws2]⟩
  clear hA0 hval0
  have bz0 := bounds_of_i64 wz0
  have bz1 := bounds_of_i64 wz1
  have bz2 := bounds_of_i64 wz2
  refine (cmps_walk x0 z0 s0 x1 z1 s1 x2 z2 s2 (by omega) (by omega) (by omega) (by omega) (by omega) (by omega) W (maxOk hsh)).mono fun e W' ⟨he, bel⟩ => ?_
  subst he
  exact ⟨_, rfl, _, _, _, [], _, [], hW', trodAll_mk1 (shut_bool Tryz.underlying4 _), (trodAll_cons_mk (sh0 _ _) (trodAll_cons_mk (sh1 _ _) (trodAll_cons_mk (sh2 _ _) trodAll_mk0))), rfl, bel.frame _, fun h => by cases h⟩

theorem cmps_holds : Rows.ValueCmpsSaid :=
  OpenClaim.holds_of_wide 5 Tryz.f5 rfl rfl rfl rfl rfl rfl rfl ⟨rfl, rfl, rfl, rfl, rfl⟩ rfl rfl rfl rfl rfl (by kernel_rfl) Tryz.func5 (by kernel_rfl)
    (of_decide_eq_true (by kernel_rfl)) (by unfold Func.isWrapper; first | (rw [if_pos (by decide +kernel)]; kernel_rfl) | (rw [if_neg (by decide +kernel)]; exact ⟨rfl, rfl⟩))
    (fun os started H enc _ => cmps_lifted os started H enc)
#print axioms cmps_holds
end Go.Proofs.YtfmhdnefcapjgaaGreat
