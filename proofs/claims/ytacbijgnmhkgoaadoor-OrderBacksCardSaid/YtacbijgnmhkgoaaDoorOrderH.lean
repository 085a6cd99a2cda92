/- Contracts of the reference's digit and Print. Conditions: none. -/
import Derived.Test.YtacbijgnmhkgoaaDoorOrderF
import Derived.Test.YtacbijgnmhkgoaaDoorApp8
set_option maxRecDepth 100000
namespace Go.Proofs.YtacbijgnmhkgoaaDoor
open Go.RowKit

theorem digit_any (n : Nat) (hn : n < 16) (w : World) : Calls Tryd.prog 37 #[.int .u64 (n : Int)] w fun e w' => e = .returned (.int .u8 ((hexd n).toNat : Int)) ∧ w = w' := by
  have hx : (n < 10 ∧ ((hexd n).toNat : Int) = 48 + (n : Int)) ∨ (¬ n < 10 ∧ ((hexd n).toNat : Int) = 87 + (n : Int)) := by
    have key : ∀ n < 16, (n < 10 ∧ (hexd n).toNat = 48 + n) ∨ (¬ n < 10 ∧ (hexd n).toNat = 87 + n) := by decide
    rcases key n hn with ⟨h1, h2⟩ | ⟨h1, h2⟩
    · exact .inl ⟨h1, by omega⟩
    · exact .inr ⟨h1, by omega⟩
  rcases hx with ⟨h1, h2⟩ | ⟨h1, h2⟩
  · rw [h2]
    have hw : IntKind.u8.wrap (48 + (n : Int)) = 48 + (n : Int) := by rw [IntKind.wrap_u8]; omega
    have t0 : decide ((n : Int) < 10) = true := decide_eq_true (by omega)
    clear h2
    go_enter Tryd.func37, Tryd.ntmps37
    go_wp2_with fail
    go_ret
    exact ⟨rfl, rfl⟩
  · rw [h2]
    have hw : IntKind.u8.wrap (87 + (n : Int)) = 87 + (n : Int) := by rw [IntKind.wrap_u8]; omega
    have t0 : decide ((n : Int) < 10) = false := decide_eq_false (by omega)
    clear h2
    go_enter Tryd.func37, Tryd.ntmps37
    go_wp2_with fail
    go_ret
    exact ⟨ret_int (by omega), rfl⟩
theorem conv_new (w : World) (c : Array Value) (n m : Nat) : (convert 42 42 (.slice (some ⟨w.heap.size, 0, none⟩) n m)).run Tryd.prog (w.alloc (.cells c 5)) = .ok (.slice (some ⟨w.heap.size, 0, none⟩) n m) (w.alloc (.cells c 5 (c.size, c.size + 1))) := by
  have h := alloc1 w (.cells c 5)
  have hs : (w.alloc (.cells c 5)).shape? w.heap.size = some (5, c.size) := by unfold World.shape?; rw [h]
  simp [convert, run_underlying Tryd.underlying42, run_underlying Tryd.underlying5, markStringish, hs, freeze_new]
/-- the text so far -/
def soFar (c j : Nat) : List UInt8 := [48, 102] ++ (hexN 16 c).take j
theorem soFar_succ (c j : Nat) (hj : j < 16) : soFar c (j + 1) = soFar c j ++ [hexd (c / 16 ^ (15 - j) % 16)] := by
  have h := hexN_at 16 c j hj
  unfold soFar
  rw [List.take_add_one, h, show 16 - 1 - j = 15 - j by omega]
  simp
theorem soFar_len (c j : Nat) (hj : j ≤ 16) : (soFar c j).length = 2 + j := by
  unfold soFar
  rw [List.length_append, List.length_take, hexN_len]; simp; omega
theorem soFar_all (c : Nat) : soFar c 16 = [48, 102] ++ hexN 16 c := by
  unfold soFar
  rw [List.take_of_length_le (by rw [hexN_len]; omega)]
theorem refPrint_num (u : Nat) (hu : u < 18446744073709551616) (h0 : nanW u = false) (h1 : u ≠ 9218868437227405312) (h2 : u ≠ 18442240474082181120) (w : World) : Calls Tryd.prog 19 #[.int .i64 (iw u)] w fun e w' => e = .returned (.string ⟨([48, 102] ++ hexN 16 (canonW u)).toArray⟩) ∧ Below w.heap.size w w' := by
  have K1 := fun w => refCanon_any u hu w
  have hc := canon_lt u hu
  have n1 : canonW u ≠ 9221120237041090560 := fun e => by
    have h := nan_canon u
    rw [e, h0] at h; cases h
  have n2 : canonW u ≠ 9218868437227405312 := fun e => h1 ((canon_infs h0 _ (.inl rfl)).1 e)
  have n3 : canonW u ≠ 18442240474082181120 := fun e => h2 ((canon_infs h0 _ (.inr rfl)).1 e)
  obtain ⟨c, hcc⟩ : ∃ c, c = canonW u := ⟨_, rfl⟩
  rw [← hcc] at K1 hc n1 n2 n3 ⊢
  clear hcc h0 h1 h2
  have hw := iw_u64 c hc
  have t1 : ((c : Int) == 9221120237041090560) = false := neq_cast (b := 9221120237041090560) n1
  have t2 : ((c : Int) == 9218868437227405312) = false := neq_cast (b := 9218868437227405312) n2
  have t3 : ((c : Int) == 18442240474082181120) = false := neq_cast (b := 18442240474082181120) n3
  have hcv := conv_new
  have HC := Lib.hid hc
  have H0 : Hid (Mine (w.alloc (.cells #[.int .u8 48, .int .u8 102] 5 (2, 3))) w.heap.size (.slice (some ⟨w.heap.size, 0, none⟩) 2 2) (soFar c 0) ∧ Below w.heap.size w (w.alloc (.cells #[.int .u8 48, .int .u8 102] 5 (2, 3)))) :=
    Lib.hid ⟨.inr ⟨Holds.of_heap (alloc1 _ _) rfl 2 2 rfl (by omega), _, _, rfl⟩, (Below.refl _ _).alloc (Nat.le_refl _) _⟩
  clear n1 n2 n3 hc
  go_enter Tryd.func19, Tryd.ntmps19
  go_wp2_with fail
  refine (K1 _).mono ?_; rintro e w' ⟨rfl, rfl⟩; go_wp2_with fail
  clear K1 t1 t2 t3 hcv
  go_loopw [4, 5] (fun v i wr => ∃ (j : Nat), j ≤ 16 ∧ i = .int .i64 (60 - 4 * (j : Int)) ∧ Hid (Mine wr w.heap.size v (soFar c j) ∧ Below w.heap.size w wr)) (fun _ i _ => (intOf i + 4).toNat)
  case atStart => exact ⟨0, by omega, rfl, H0⟩
  case round =>
    clear H0
    obtain ⟨j, hj, rfl, HR⟩ := hrel
    rename_i v _
    obtain ⟨wo, rfl⟩ : ∃ wo : World, wo = wr := ⟨_, rfl⟩
    by_cases hj2 : j < 16
    · have t0 : decide (4 * (j : Int) ≤ 60) = true := decide_eq_true (by omega)
      obtain ⟨q, hq⟩ : ∃ q, q = c / 16 ^ (15 - j) := ⟨_, rfl⟩
      have ks : (c : Int) / 2 ^ (60 - 4 * j) = (q : Int) := by
        rw [hq, show 60 - 4 * j = 4 * (15 - j) by omega, Int.pow_mul, show (2 : Int) ^ 4 = ((16 : Nat) : Int) from rfl, ← Int.natCast_pow, ← Int.natCast_ediv]
      have ka := and15 q (by have := HC.out; have := Nat.div_le_self c (16 ^ (15 - j)); omega)
      have K2 := fun w => digit_any (q % 16) (by omega) w
      have hss := soFar_succ c j hj2
      rw [← hq] at hss
      obtain ⟨d, hd⟩ : ∃ d, q % 16 = d := ⟨_, rfl⟩
      rw [hd] at ka K2 hss
      obtain ⟨v2, w2, HRUN, HR2⟩ := app_step HR.out (hexd d) (by rw [soFar_len _ _ hj]; omega)
      rw [← hss] at HR2
      clear hd hq hss
      go_wp2_with fail
      refine (K2 _).mono ?_; rintro e w' ⟨rfl, rfl⟩
      go_wp2_with (at_builtin; refine wpList_append_run rfl _ _ 42 rfl rfl rfl (HRUN.out _) ?_)
      go_roundw
      case rel => exact ⟨j + 1, by omega, by go_num, HR2⟩
      case measure => simp [intOf]; omega
    · have t0 : decide (4 * (j : Int) ≤ 60) = false := decide_eq_false (by omega)
      obtain rfl : j = 16 := by omega
      have k3 := toStr' HR.out.1.holds
      rw [soFar_all] at k3
      go_wp2_with fail
      go_ret
      exact ⟨rfl, HR.out.2⟩
theorem refPrint_any (u : Nat) (hu : u < 18446744073709551616) (w : World) : Calls Tryd.prog 19 #[.int .i64 (iw u)] w fun e w' => e = .returned (.string ⟨(prW u).toArray⟩) ∧ Below w.heap.size w w' := by
  cases h0 : nanW u
  · by_cases h1 : u = 9218868437227405312
    · subst h1
      have K1 := fun w => refCanon_any 9218868437227405312 (by decide) w
      rw [show iw (canonW 9218868437227405312) = 9218868437227405312 from rfl] at K1
      clear hu h0
      go_enter Tryd.func19, Tryd.ntmps19
      go_wp2_with fail
      refine (K1 _).mono ?_; rintro e w' ⟨rfl, rfl⟩; go_wp2_with fail
      go_ret
      exact ⟨rfl, Below.refl _ _⟩
    · by_cases h2 : u = 18442240474082181120
      · subst h2
        have K1 := fun w => refCanon_any 18442240474082181120 (by decide) w
        rw [show iw (canonW 18442240474082181120) = -4503599627370496 from rfl] at K1
        have hw : IntKind.u64.wrap (-4503599627370496) = 18442240474082181120 := by decide
        clear hu h0 h1
        go_enter Tryd.func19, Tryd.ntmps19
        go_wp2_with fail
        refine (K1 _).mono ?_; rintro e w' ⟨rfl, rfl⟩; go_wp2_with fail
        go_ret
        exact ⟨rfl, Below.refl _ _⟩
      · have e : prW u = [48, 102] ++ hexN 16 (canonW u) := by unfold prW; rw [h0, if_neg (by decide), if_neg h1, if_neg h2]
        rw [e]
        exact refPrint_num u hu h0 h1 h2 w
  · have K1 := fun w => refCanon_any u hu w
    rw [canon_nan h0, show iw 9221120237041090560 = 9221120237041090560 from rfl] at K1
    have e : prW u = [78, 65, 78] := by unfold prW; rw [h0]; rfl
    rw [e]
    clear h0 e
    go_enter Tryd.func19, Tryd.ntmps19
    go_wp2_with fail
    refine (K1 _).mono ?_; rintro e w' ⟨rfl, rfl⟩; go_wp2_with fail
    go_ret
    exact ⟨rfl, Below.refl _ _⟩
end Go.Proofs.YtacbijgnmhkgoaaDoor
