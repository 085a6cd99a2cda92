/- The walk of HeavyFew: of at most m unlike numbers all counts are exact. Conditions: none. -/
import Derived.Test.YthmaabnacednmaaHeavyLives
import Derived.Test.YthmaabnacednmaaHeavyFewPlain
set_option maxRecDepth 100000
namespace Go.Proofs.Ythmaabnacednmaa
open Go.RowKit Go.Maps Go.Sort

def natsU (l : List Nat) : List Value := l.map fun n : Nat => .int .u64 (n : Int)
theorem natsU_len (l : List Nat) : (natsU l).length = l.length := by simp [natsU]
theorem natsU_at {l : List Nat} {k : Nat} (h : k < l.length) : (natsU l)[k]? = some (.int .u64 (l[k] : Int)) := by simp [natsU, h]

set_option maxHeartbeats 6400000 in
theorem few_long {w : World} (u : Nat) (hu : u < 18446744073709551616) (la : Option Addr) (ln lc : Nat) (hln : 400 < ln) :
    Calls Try.prog 12 #[.int .u64 (u : Int), .slice la ln lc] w fun e w' => e = .returned (.bool true) ∧ Below w.heap.size w w' := by
  obtain ⟨m, hm⟩ : ∃ m : Nat, m = 1 + u % 64 := ⟨_, rfl⟩
  have e1 : (1 : Int) + (u : Int) % 64 = (m : Int) := by omega
  have hu0 : (0 : Int) ≤ (u : Int) := by omega
  have hu1 : (u : Int) < 18446744073709551616 := by omega
  have KN := side_new (Side.nil w) 0 (m := m) (by omega) (by omega)
  have KL := Lib.hid (fun W => lives_any W)
  have tl : decide ((400 : Int) < (ln : Int)) = true := decide_eq_true (by omega)
  clear hm hln hu
  go_enter Try.func12, Try.ntmps12
  go_wp2_with fail
  refine KN.mono ?_
  rintro e w1 ⟨p, rfl, S1⟩
  have HB := Lib.hid S1.out.base
  have K2 := KL.out w1
  clear KN KL S1
  go_wp2_with fail
  refine K2.mono ?_
  rintro e w2 ⟨rfl, hb⟩
  have HF := Lib.hid (HB.out.trans (hb.mono HB.out.size))
  clear K2 hb
  go_wp2_with fail
  go_ret
  exact ⟨rfl, HF.out⟩

def modsI (m : Nat) (l : List Nat) : List Int := l.map fun x => ((x % m : Nat) : Int)
theorem modsI_len (m : Nat) (l : List Nat) : (modsI m l).length = l.length := by simp [modsI]
theorem modsI_at (m : Nat) {l : List Nat} {k : Nat} (h : k < l.length) : (modsI m l)[k]'(by rw [modsI_len]; exact h) = ((l[k] % m : Nat) : Int) := by simp [modsI]

set_option maxHeartbeats 16000000 in
theorem few_short {w : World} (u : Nat) (hu : u < 18446744073709551616) (la : Option Addr) (ln lc : Nat) (hln : ln ≤ 400) {l : List Nat} (hl : Holds w (.slice la ln lc) (natsU l)) (hll : l.length = ln) (hx : ∀ x ∈ l, x < 18446744073709551616) :
    Calls Try.prog 12 #[.int .u64 (u : Int), .slice la ln lc] w fun e w' => e = .returned (.bool true) ∧ Below w.heap.size w w' := by
  obtain ⟨m, hm⟩ : ∃ m : Nat, m = 1 + u % 64 := ⟨_, rfl⟩
  have e1 : (1 : Int) + (u : Int) % 64 = (m : Int) := by omega
  have hu0 : (0 : Int) ≤ (u : Int) := by omega
  have hu1 : (u : Int) < 18446744073709551616 := by omega
  have KN := side_new (Side.nil w) 0 (m := m) (by omega) (by omega)
  have tl : ¬ (400 : Int) < (ln : Int) := by omega
  have m1 : 1 ≤ m := by omega
  have m2 : m ≤ 64 := by omega
  have HX := Lib.hid hx
  have HLL := Lib.hid hll
  have HL := Lib.hid hl
  have HF : Hid (∀ k, k ≤ ln → FewAt m (insAll (HV.none_ m) ((modsI m l).take k)) ((modsI m l).take k)) := Lib.hid fun k hk =>
    FewAt.all (modsI m l) (by rw [modsI_len]; omega) (fun x hx => by
      obtain ⟨y, _, rfl⟩ := List.mem_map.1 hx
      have := Nat.mod_lt y (show 0 < m by omega)
      omega) k (by rw [modsI_len]; omega)
  clear hm hln hu hx hll hl
  go_enter Try.func12, Try.ntmps12
  go_wp2_with fail
  refine KN.mono ?_
  rintro e w1 ⟨p, rfl, S1⟩
  clear KN e1 hu0 hu1
  go_wp2_with fail
  go_loopw [35] (fun s wr => ∃ k : Nat, s = .int .i64 k ∧ k ≤ ln ∧ Hid (Side w [(0, Hk p (insAll (HV.none_ m) ((modsI m l).take k)))] wr)) (fun s _ => ln - (intOf s).toNat)
  case atStart => exact ⟨0, rfl, Nat.zero_le _, S1.out⟩
  case round =>
    clear S1
    obtain ⟨k, rfl, hk, HS⟩ := hrel
    by_cases hlt : k < ln
    · have hz : (k : Int) < (ln : Int) := by omega
      have hkl : k < l.length := by rw [HLL.out]; exact hlt
      have hh := HL.out.below HS.out.base
      obtain ⟨ad, hla⟩ := hh.ptr (by omega)
      subst hla
      have hc := hh.cell (natsU_at hkl)
      have hb := HX.out l[k] (List.getElem_mem hkl)
      obtain ⟨R, hR⟩ : ∃ R : Nat, l[k] % m = R := ⟨_, rfl⟩
      have hRm : R < m := by rw [← hR]; exact Nat.mod_lt _ (by omega)
      obtain ⟨X, hXe⟩ : ∃ X : Nat, l[k] = X := ⟨_, rfl⟩
      have KI := side_ins HS.out (fun e he => by simp at he) (x := (R : Int)) (by unfold InI; omega)
      have hst : (insAll (HV.none_ m) ((modsI m l).take k)).ins (R : Int) = insAll (HV.none_ m) ((modsI m l).take (k + 1)) := by
        rw [insAll_take _ _ (by rw [modsI_len]; exact hkl), modsI_at m hkl, hR]
      rw [hst] at KI
      rw [hXe] at hc hb hR
      have tr : (X : Int) % (m : Int) = (R : Int) := by rw [← hR]; simp
      have x0 : (0 : Int) ≤ (X : Int) := by omega
      have x1 : (X : Int) < 18446744073709551616 := by omega
      have mz : ¬ (m : Int) = 0 := by omega
      have mz2 : ((m : Int) == 0) = false := by simp; omega
      have mp : (0 : Int) < (m : Int) := by omega
      have mw : IntKind.u64.wrap (m : Int) = (m : Int) := by simp [IntKind.wrap, IntKind.bits, IntKind.signed]; omega
      clear hst hR hXe hkl hb HS
      go_wp2_with fail
      refine KI.mono ?_
      rintro e w2 ⟨rfl, S2⟩
      clear KI tr x0 x1 mz mz2 mp mw hc
      go_wp2_with fail
      go_roundw
      case rel => exact ⟨k + 1, by go_num, by omega, S2⟩
      case measure => simp [intOf]; omega
    · obtain rfl : k = ln := by omega
      have hv := HF.out k (Nat.le_refl _)
      have eT : (modsI m l).take k = modsI m l := List.take_of_length_le (by rw [modsI_len, HLL.out]; exact Nat.le_refl _)
      rw [eT] at hv
      obtain ⟨V, hV⟩ : ∃ V, insAll (HV.none_ m) (modsI m l) = V := ⟨_, rfl⟩
      rw [hV] at hv
      have S2 : Hid (Side w [(0, Hk p V)] wr) := by have := HS.out; rw [eT, hV] at this; exact this
      have KC := side_counters S2.out (List.mem_cons_self ..)
      have HV' := Lib.hid hv
      clear HS hV eT hv HF
      go_wp2_with fail
      refine KC.mono ?_
      rintro e w2 ⟨g, c, rfl, hg, hc, hRow, hBel⟩
      have HB2 := Lib.hid ((S2.out.below hBel).base)
      have HR2 := Lib.hid hRow
      have hvl : V.L.length ≤ 400 := by
        have h1 := (side_good S2.out (List.mem_cons_self ..)).1.len
        have := HV'.out.em
        omega
      clear KC hRow hBel hg hc S2
      go_wp2_with fail
      go_loopw [9, 50] (fun s9 s50 wr => ∃ (j : Nat) (t : Int), s9 = .int .i64 t ∧ s50 = .int .i64 j ∧ j ≤ V.L.length ∧ 0 ≤ t ∧ t ≤ 400 ∧ Hid (t = total (V.L.take j)) ∧ Hid (Below w2.heap.size w2 wr)) (fun _ s _ => V.L.length - (intOf s).toNat)
      case atStart => exact ⟨0, 0, rfl, rfl, Nat.zero_le _, by omega, by omega, (by show (0 : Int) = _; simp [total]), Below.refl _ _⟩
      case round =>
        obtain ⟨j, t, rfl, rfl, hj, t0, t1, HT, HB⟩ := hrel
        by_cases hlt2 : j < V.L.length
        · have hz2 : (j : Int) < (V.L.length : Int) := by omega
          obtain ⟨⟨a, y⟩, hq⟩ : ∃ q, V.L[j]? = some q := ⟨_, List.getElem?_eq_getElem hlt2⟩
          obtain ⟨r0, r1, _, _⟩ := (HR2.out.below HB.out).cell hq
          simp only at r0 r1
          have hct : Hid ((times (modsI m l) a : Int) = y) := by
            have h1 := HV'.out.ct a
            have h2 := cnt_mem HV'.out.asc (List.mem_of_getElem? hq)
            show _ = _
            rw [← h1, h2]
          have NT : Hid (t + y = total (V.L.take (j + 1))) := by
            have := HT.out
            show _ = _
            rw [total_take_succ hq, this]
          have ht2 : t + y ≤ 400 := by
            have h1 := NT.out
            have h2 := HV'.out.tot
            have h3 : total V.L = total (V.L.take (j + 1)) + total (V.L.drop (j + 1)) := by rw [← total_append, List.take_append_drop]
            have h4 := total_nonneg (L := V.L.drop (j + 1)) fun x hx => HV'.out.pos x (List.mem_of_mem_drop hx)
            rw [modsI_len] at h2
            have := HLL.out
            omega
          have hy0 : 1 ≤ y := HV'.out.pos _ (List.mem_of_getElem? hq)
          clear hq HT
          go_wp2_with fail
          obtain ⟨W, hW⟩ : ∃ W, wr.alloc (.cells #[.int .i64 a, .int .i64 y] 89) = W := ⟨_, rfl⟩
          have BW : Hid (Below w2.heap.size w2 W) := by rw [← hW]; exact HB.out.alloc HB.out.size _
          have CW : Hid (∀ W', Below W.heap.size W W' → W'.cell? ⟨wr.heap.size, 0, none⟩ = some (.int .i64 a) ∧ W'.cell? ⟨wr.heap.size, 1, none⟩ = some (.int .i64 y)) := Lib.hid fun W' hb => by
            have hn := heap_alloc_new wr (.cells #[.int .i64 a, .int .i64 y] 89)
            rw [hW] at hn
            have hlt := lt_of_heap hn
            have hn2 := (hb.block _ hlt).trans hn
            exact ⟨by rw [cell_of_row _ _ _ _ _ _ hn2]; rfl, by rw [cell_of_row _ _ _ _ _ _ hn2]; rfl⟩
          rw [hW]
          clear hW r0 r1
          go_loopw [12, 56] (fun s12 s56 wr2 => ∃ (i : Nat) (c : Int), s12 = .int .i64 c ∧ s56 = .int .i64 i ∧ i ≤ k ∧ 0 ≤ c ∧ c ≤ i ∧ Hid (c = (times ((modsI m l).take i) a : Int)) ∧ Hid (Below W.heap.size W wr2)) (fun _ s _ => k - (intOf s).toNat)
          case atStart => exact ⟨0, 0, rfl, rfl, Nat.zero_le _, by omega, by omega, (by show (0 : Int) = _; simp [times]), Below.refl _ _⟩
          case round =>
            obtain ⟨i, cc, rfl, rfl, hi, c0, c1, HC, HBi⟩ := hrel
            obtain ⟨x0, x1⟩ := CW.out _ HBi.out
            by_cases hlt3 : i < k
            · have hz3 : (i : Int) < (k : Int) := by omega
              have hkl : i < l.length := by rw [HLL.out]; exact hlt3
              have hh := HL.out.below (HB2.out.trans ((BW.out.trans (HBi.out.mono BW.out.size)).mono HB2.out.size))
              obtain ⟨ad, hla⟩ := hh.ptr (by omega)
              subst hla
              have hc := hh.cell (natsU_at hkl)
              have hb := HX.out l[i] (List.getElem_mem hkl)
              obtain ⟨R, hR⟩ : ∃ R : Nat, l[i] % m = R := ⟨_, rfl⟩
              have hRm : R < m := by rw [← hR]; exact Nat.mod_lt _ (by omega)
              obtain ⟨X, hXe⟩ : ∃ X : Nat, l[i] = X := ⟨_, rfl⟩
              have NC : Hid ((times ((modsI m l).take (i + 1)) a : Int) = cc + if (R : Int) = a then 1 else 0) := by
                have h1 := HC.out
                show _ = _
                rw [List.take_succ_eq_append_getElem (by rw [modsI_len]; exact hkl), times_snoc, modsI_at m hkl, hR, h1]
                split <;> simp
              rw [hXe] at hc hb hR
              have tr : (X : Int) % (m : Int) = (R : Int) := by rw [← hR]; simp
              have y0 : (0 : Int) ≤ (X : Int) := by omega
              have y1 : (X : Int) < 18446744073709551616 := by omega
              have mz : ¬ (m : Int) = 0 := by omega
              have mz2 : ((m : Int) == 0) = false := by simp; omega
              have mp : (0 : Int) < (m : Int) := by omega
              have mw : IntKind.u64.wrap (m : Int) = (m : Int) := by simp [IntKind.wrap, IntKind.bits, IntKind.signed]; omega
              have wr' : IntKind.i64.wrap (R : Int) = (R : Int) := by rw [IntKind.wrap_i64]; omega
              clear hR hXe hkl hb hh
              by_cases heq : (R : Int) = a
              · have h1 := NC.out
                rw [if_pos heq] at h1
                have NC2 := Lib.hid h1
                have hbe : ((R : Int) == a) = true := by simpa using heq
                clear NC h1 heq
                go_wp2_with fail
                go_quiet (fail)
                go_wp2_with fail
                go_roundw
                case rel => exact ⟨i + 1, cc + 1, by go_num, by go_num, by omega, by omega, by omega, NC2.out.symm, below_dN HBi.out _⟩
                case measure => simp [intOf]; omega
              · have h1 := NC.out
                rw [if_neg heq] at h1
                have NC2 := Lib.hid h1
                have hbe : ((R : Int) == a) = false := by simpa using heq
                clear NC h1 heq
                go_wp2_with fail
                go_quiet (fail)
                go_wp2_with fail
                go_roundw
                case rel => exact ⟨i + 1, cc, by go_num, by go_num, by omega, by omega, by omega, by have := NC2.out; show _ = _; omega, below_dN HBi.out _⟩
                case measure => simp [intOf]; omega
            · obtain rfl : i = k := by omega
              have hcy : cc = y := by
                have h1 := HC.out
                rw [List.take_of_length_le (by rw [modsI_len, HLL.out]; exact Nat.le_refl _), hct.out] at h1
                exact h1
              subst hcy
              have tw : IntKind.i64.wrap (t + cc) = t + cc := by rw [IntKind.wrap_i64]; omega
              have B3 : Hid (Below w2.heap.size w2 wr) := BW.out.trans (HBi.out.mono BW.out.size)
              clear HC hct CW
              go_wp2_with fail
              go_roundw
              case rel => exact ⟨j + 1, t + cc, by go_num, by go_num, by omega, by omega, ht2, NT, B3⟩
              case measure => simp [intOf]; omega
        · obtain rfl : j = V.L.length := by omega
          have hte : t = (k : Int) := by
            have h1 := HT.out
            rw [List.take_length, HV'.out.tot, modsI_len, HLL.out] at h1
            exact h1
          subst hte
          have KL := lives_any wr
          have HF := Lib.hid (HB2.out.trans (HB.out.mono HB2.out.size))
          clear HT HB
          go_wp2_with fail
          refine KL.mono ?_
          rintro e w5 ⟨rfl, hb⟩
          have HF2 := Lib.hid (HF.out.trans (hb.mono HF.out.size))
          clear hb KL
          go_wp2_with fail
          go_ret
          exact ⟨rfl, HF2.out⟩
theorem u64s_nats (l : List UInt64) : u64s l = natsU (l.map UInt64.toNat) := by simp [u64s, natsU]
theorem few_any {w : World} (u : Nat) (hu : u < 18446744073709551616) (la : Option Addr) (ln lc : Nat) {l : List UInt64} (hl : Holds w (.slice la ln lc) (u64s l)) (hll : l.length = ln) :
    Calls Try.prog 12 #[.int .u64 (u : Int), .slice la ln lc] w fun e w' => e = .returned (.bool true) ∧ Below w.heap.size w w' := by
  rcases Nat.lt_or_ge 400 ln with g | g
  · exact few_long u hu la ln lc g
  · rw [u64s_nats] at hl
    exact few_short u hu la ln lc g hl (by simpa using hll) fun x hx => by
      obtain ⟨y, _, rfl⟩ := List.mem_map.1 hx
      exact y.toNat_lt
end Go.Proofs.Ythmaabnacednmaa
