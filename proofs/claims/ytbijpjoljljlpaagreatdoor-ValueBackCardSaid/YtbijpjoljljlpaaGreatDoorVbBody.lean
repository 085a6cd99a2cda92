/- The bytes of a value behind its kind's, a kind at a time. Conditions: texts of at most 2^40 bytes. -/
import Derived.Test.YtbijpjoljljlpaaGreatDoorVbRow
import Derived.Lib.AppendStr
set_option maxRecDepth 100000
namespace Go.Proofs.YtbijpjoljljlpaaGreatDoor
open Go.RowKit Go.Maps Go.Sort Go.Lib

theorem wpList_append_run2 {P : Program} {w w' : World} {ops : Array Oper} {rest : List Oper} {o : Oper} {a : Act} {Q : Exit → Act → World → Prop} {sv xv v' : Value} (hgd : o.guard = none) (s x : Operand) (t u : TypeId)
    (hop : o.op = .call { callee := .builtin .append, args := #[s, x], argTypes := #[t, u] }) (hs : a.eval s = sv) (hx : a.eval x = xv) (hrun : (Builtin.append_ #[t, u] o.type #[sv, xv]).run P w = .ok v' w')
    (hK : wpList P ops Q rest (a.put o.dst v') w') : wpList P ops Q (o :: rest) a w := by
  refine wpList_plain hgd fun K hKK => ?_
  unfold Oper.wp
  simp [execOp, hop, resolve, invoke, builtin, hs, hx, hrun, Result.andThen]
  exact hKK _ _ hK
/-- a text's bytes, behind a row of the call's own -/
theorem app_str {u : TypeId} (hu : Tryz.prog.underlying u = some .string) {w : World} {B : Nat} {v : Value} {xs : List UInt8} (hown : w.ownsRow B 5 1 v xs.length (u8s xs)) (hB : B ≤ w.heap.size) (s : ByteArray) (hl : xs.length + s.size ≤ 17592186044416) :
    ∃ v' w', (∀ ty, (Builtin.append_ #[33, u] ty #[v, .string s]).run Tryz.prog w = .ok v' w') ∧ w'.ownsRow B 5 1 v' (xs ++ s.data.toList).length (u8s (xs ++ s.data.toList)) ∧ w.grownBy w' v.ownBlock := by
  obtain ⟨i, hi, hz0, hz1, hz2⟩ := info_parts info8
  obtain ⟨v', w', hr, h2, h3, _⟩ := run_append_own_string (P := Tryz.prog) w B 33 u 0 5 i Tryz.underlying33 hu hi hz0 hz1 hz2 v xs.length (u8s xs) hown s (by unfold maxLen; omega) (by omega) hB
  refine ⟨v', w', fun ty => hr, ?_, h3⟩
  rw [u8s_append, List.length_append, ← Lib.size_eq]
  exact h2
theorem zg_cast (n : Int) : ((zgN n : Nat) : Int) = zigN n := by
  unfold zgN
  by_cases h : n < 0
  · rw [zig_neg h]; omega
  · rw [zig_pos h]; omega
/-- a call of whose result the caller owns the bytes -/
def OwnP (w : World) (l : List UInt8) (e : Ending) (w' : World) : Prop := ∃ v', e = .returned v' ∧ w'.ownsRow w.heap.size 5 1 v' l.length (u8s l) ∧ Below w.heap.size w w'
theorem number_any (n : Int) (h0 : -9223372036854775808 ≤ n) (h1 : n < 9223372036854775808) (w : World) : Calls Tryz.prog 135 #[.int .i64 n] w (OwnP w (dig (zgN n))) := by
  have KZ := fun w => Zig_any n w h0 (by omega)
  have KP := fun w => Put_any (Holds.nil w) (xs := []) (zgN n) (zig_zag n h0 h1).2 (by simp)
  rw [zg_cast] at KP
  generalize zigN n = z at *
  generalize dig (zgN n) = D at *
  clear h0 h1
  go_enter Tryz.func135, Tryz.ntmps135
  go_wp2_with fail
  refine (KZ _).mono ?_
  rintro e w1 ⟨rfl, rfl⟩
  go_wp2_with fail
  refine (KP _).mono ?_
  rintro e w1 ⟨v', rfl, ho, hb⟩
  go_wp2_with fail
  go_ret
  exact ⟨v', rfl, ho, hb⟩
theorem wholeBytes_any (n : Int) (h0 : -9223372036854775808 ≤ n) (h1 : n < 9223372036854775808) (w : World) : Calls Tryz.prog 141 #[.int .i64 n] w (OwnP w (dig (zgN n))) := by
  have KN := number_any n h0 h1
  clear h0 h1
  go_enter Tryz.func141, Tryz.ntmps141
  go_wp2_with fail
  refine (KN _).mono ?_
  rintro e w1 ⟨v', rfl, ho, hb⟩
  go_wp2_with fail
  go_ret
  exact ⟨v', rfl, ho, hb⟩
theorem floatBytes_any (n : Int) (h0 : -9223372036854775808 ≤ n) (h1 : n < 9223372036854775808) (w : World) : Calls Tryz.prog 132 #[.int .i64 n] w (OwnP w (dig (zgN n))) := by
  have KN := number_any n h0 h1
  clear h0 h1
  go_enter Tryz.func132, Tryz.ntmps132
  go_wp2_with fail
  refine (KN _).mono ?_
  rintro e w1 ⟨v', rfl, ho, hb⟩
  go_wp2_with fail
  go_ret
  exact ⟨v', rfl, ho, hb⟩
theorem truthBytes_any (n : Int) (h0 : -9223372036854775808 ≤ n) (h1 : n < 9223372036854775808) (w : World) : Calls Tryz.prog 150 #[.int .i64 n] w (OwnP w (dig (zgN n))) := by
  have KN := number_any n h0 h1
  clear h0 h1
  go_enter Tryz.func150, Tryz.ntmps150
  go_wp2_with fail
  refine (KN _).mono ?_
  rintro e w1 ⟨v', rfl, ho, hb⟩
  go_wp2_with fail
  go_ret
  exact ⟨v', rfl, ho, hb⟩
theorem nullBytes_any (w : World) : Calls Tryz.prog 129 #[.agg #[]] w (OwnP w []) := by
  go_enter Tryz.func129, Tryz.ntmps129
  go_wp2_with fail
  go_ret
  have hb := (Below.refl w.heap.size w).alloc (Nat.le_refl _) (.cells #[] 51)
  exact ⟨_, rfl, World.ownsRow_nil _ _ _ _, hb⟩
theorem strBytes_any (s : ByteArray) (hs : s.size ≤ 1099511627776) (w : World) : Calls Tryz.prog 138 #[.string s] w (OwnP w (dig s.size ++ s.data.toList)) := by
  have KP := fun w => Put_any (Holds.nil w) (xs := []) s.size (by omega) (by simp)
  have hd := dig_len10 (u := s.size) (by omega)
  have HA := Lib.hid (fun (w : World) (B : Nat) (v : Value) (ho : w.ownsRow B 5 1 v (dig s.size).length (u8s (dig s.size))) (hB : B ≤ w.heap.size) => app_str (u := 53) Tryz.underlying53 ho hB s (by omega))
  have hw : IntKind.u64.wrap (s.size : Int) = (s.size : Int) := by rw [IntKind.wrap_u64]; omega
  generalize dig s.size = D at *
  clear hs hd
  go_enter Tryz.func138, Tryz.ntmps138
  go_wp2_with fail
  refine (KP _).mono ?_
  rintro e w1 ⟨v1, rfl, ho, hb⟩
  obtain ⟨v2, w2, r, o, g⟩ := HA.out w1 _ v1 (by simpa using ho) hb.size
  have R := Lib.hid r
  have O := Lib.hid o
  have B2 := Lib.hid (hb.trans (below_grown g hb.size (ownsRow_ge ho)))
  clear ho hb r o g HA KP
  go_wp2_with (at_builtin; refine wpList_append_run2 rfl _ _ 33 53 rfl rfl rfl (R.out _) ?_)
  go_ret
  exact ⟨v2, rfl, O.out, B2.out⟩
end Go.Proofs.YtbijpjoljljlpaaGreatDoor
