/- Contracts of codec.Deltas: numbers as differences. Conditions: at most a million numbers. -/
import Derived.Test.YtbijpjoljljlpaaCodecPut
import Derived.Test.YtbijpjoljljlpaaCodecZig
set_option maxRecDepth 100000
namespace Go.Proofs.Ytbijpjoljljlpaa
open Go.RowKit Go.Maps Go.Sort

/-- the difference, modulo 2^64 -/
def dlt (n a : Int) : Int := IntKind.i64.wrap (n - a)
theorem dlt_bd (n a : Int) : -9223372036854775808 ≤ dlt n a ∧ dlt n a ≤ 9223372036854775807 := by unfold dlt; rw [IntKind.wrap_i64]; omega
theorem dlt_walk (n a : Int) : IntKind.i64.wrap (IntKind.u64.wrap (IntKind.u64.wrap n - IntKind.u64.wrap a)) = dlt n a := by
  unfold dlt; rw [IntKind.wrap_i64, IntKind.wrap_i64, IntKind.wrap_u64, IntKind.wrap_u64, IntKind.wrap_u64]; omega
theorem zig_bd {n : Int} (h1 : -9223372036854775808 ≤ n) (h2 : n ≤ 9223372036854775807) : 0 ≤ zigN n ∧ zigN n < 18446744073709551616 := by unfold zigN; split <;> omega
def zigU (n : Int) : Nat := (zigN n).toNat
theorem zigU_eq {n : Int} (h1 : -9223372036854775808 ≤ n) (h2 : n ≤ 9223372036854775807) : zigN n = (zigU n : Int) ∧ zigU n < 18446744073709551616 := by
  have := zig_bd h1 h2; unfold zigU; omega
def deltaL : Int → List Int → List UInt8
  | _, [] => []
  | a, n :: r => dig (zigU (dlt n a)) ++ deltaL n r

set_option maxHeartbeats 1600000 in
theorem Deltas_any {w : World} {v : Value} {l : List Int} (h : Holds w v (i64s l)) (hl : l.length ≤ 1000000) :
    Calls Try.prog 40 #[v] w fun e w' => ∃ v', e = .returned v' ∧ w'.ownsRow w.heap.size 5 1 v' (deltaL 0 l).length (u8s (deltaL 0 l)) ∧ Below w.heap.size w w' := by
  obtain ⟨a, c, hv, hc⟩ := h.form
  rw [i64s_len] at hv hc
  subst hv
  have H := Lib.hid h
  generalize hn : l.length = n at *
  have HN := Lib.hid hn
  clear h hn
  go_enter Try.func40, Try.ntmps40
  go_wp2_with fail
  go_loopw [3, 4, 9] (fun b a i wr => ∃ (k : Nat) (p : Int) (ys : List UInt8), k ≤ n ∧ i = .int .i64 k ∧ a = .int .i64 p ∧ Hid (ys ++ deltaL p (l.drop k) = deltaL 0 l ∧ ys.length ≤ 10 * k ∧ wr.ownsRow w.heap.size 5 1 b ys.length (u8s ys) ∧ Below w.heap.size w wr)) (fun _ _ i _ => n - (intOf i).toNat)
  case atStart => exact ⟨0, 0, [], by omega, rfl, rfl, rfl, by simp, World.ownsRow_nil _ _ _ _, Below.refl _ _⟩
  case round =>
    obtain ⟨k, p, ys, hk, rfl, rfl, HR⟩ := hrel
    by_cases hlt : k < n
    · have hkl : k < l.length := by rw [HN.out]; exact hlt
      obtain ⟨ad, rfl⟩ := H.out.ptr (by omega)
      have hc : wr.cell? (ad.add k) = some (.int .i64 l[k]) := (H.out.below HR.out.2.2.2).cell (by simp [i64s, hkl])
      have hd := dlt_walk l[k] p
      obtain ⟨hd1, hd2⟩ := dlt_bd l[k] p
      have HE := Lib.hid HR.out.1
      rw [List.drop_eq_getElem_cons hkl, deltaL] at HE
      generalize hm : dlt l[k] p = m at *
      generalize l[k] = x at *
      obtain ⟨z1, z2⟩ := zigU_eq hd1 hd2
      have Z := Lib.hid z1
      clear z1 hm
      go_wp2_with fail
      refine (Zig_any m _ hd1 hd2).mono ?_
      rintro e w' ⟨rfl, rfl⟩
      rw [Z.out]
      go_wp2_with fail
      refine (put_any HR.out.2.2.1 HR.out.2.2.2.size (zigU m) z2 (by have := HR.out.2.1; omega)).mono ?_
      rintro e w2 ⟨v2, rfl, o2, g2, b2⟩
      have O2 := Lib.hid o2
      have B2 := Lib.hid (HR.out.2.2.2.trans (below_grown g2 HR.out.2.2.2.size (ownsRow_ge HR.out.2.2.1)))
      clear o2 g2 b2
      go_wp2_with fail
      go_roundw
      case rel => exact ⟨k + 1, x, ys ++ dig (zigU m), by omega, by go_num, rfl, by rw [List.append_assoc]; exact HE.out, by have := HR.out.2.1; have := dig_len10 z2; simp; omega, O2.out, B2.out⟩
      case measure => simp [intOf]; omega
    · go_wp2_with fail
      go_ret
      have e := HR.out.1
      rw [List.drop_eq_nil_of_le (by rw [HN.out]; omega)] at e
      have e2 : deltaL 0 l = ys := by rw [← e, deltaL, List.append_nil]
      rw [e2]
      exact ⟨u3, rfl, HR.out.2.2⟩
end Go.Proofs.Ytbijpjoljljlpaa
