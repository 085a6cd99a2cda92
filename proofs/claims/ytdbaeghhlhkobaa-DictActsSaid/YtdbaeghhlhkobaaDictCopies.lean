/- The walk of DictCopies. Conditions: none. -/
import Derived.Test.YtdbaeghhlhkobaaDictBack
set_option maxRecDepth 100000
namespace Go.Proofs.Ytdbaeghhlhkobaa
open Go.RowKit Go.Maps Go.Sort Go.Lib Go.Shelf

theorem add_prefix (K : Int) (L : List VV) (x : VV) : ∃ Y, addL K L x = L ++ Y := by
  unfold addL
  split
  · exact ⟨_, rfl⟩
  · exact ⟨[], by simp⟩
theorem wi_long {m n : Nat} (h : m < n) (hn : n ≤ maxLen) : IntKind.i64.wrap ((m : Int) + 1) = (m : Int) + 1 := by unfold maxLen at hn; rw [IntKind.wrap_i64]; omega
theorem at_prefix {L Y : List VV} {i : Nat} {x : VV} (h : L[i]? = some x) : atV (L ++ Y) (i : Int) = some x := by
  unfold atV
  rw [if_pos (by omega)]
  show (L ++ Y)[i]? = some x
  obtain ⟨hi, e⟩ := List.getElem?_eq_some_iff.1 h
  rw [List.getElem?_append_left hi, h]
/-- a round that adds the value of a row -/
theorem add_round {w0 wr : World} {E : List (Nat × Thing)} {i q : Nat} {K : Int} {L : List VV} (h : Side w0 ((i, Dt q K L) :: E) wr) (hi : ∀ e ∈ E, e.1 ≠ i) {x : VV} (hx : x.ty) :
    Calls Try.prog 15 #[.pointer (some ⟨q, 0, none⟩), x.val] (wr.alloc (.cells #[.int .i64 x.k, .int .i64 x.n, .string x.s] 29)) fun e w' => e = .returned (.tuple #[.int .i64 (addI K L x), .int .i64 (addE K L x)]) ∧ Hid (Side w0 ((i, Dt q K (addL K L x)) :: E) w') :=
  side_dadd (h.below ((Below.refl _ _).alloc (Nat.le_refl _) _)) hi hx
set_option maxHeartbeats 6400000 in
theorem copies_walk {w : World} (K : Int) {v1 v2 : Value} {xs ys : List VV} (hv : HoldsV w v1 xs) (hx : TyAll xs) (hl : xs.length ≤ maxLen) (hu : HoldsV w v2 ys) (hy : TyAll ys) (hm : ys.length ≤ maxLen) :
    Calls Try.prog 7 #[.int .i64 K, v1, v2] w fun e w' => e = .returned (.bool true) ∧ Below w.heap.size w w' := by
  have KL := lives_any
  obtain ⟨a, c, rfl, hc⟩ := hv.form
  obtain ⟨a2, cc2, rfl, hc2⟩ := hu.form
  by_cases hK : K < 1 ∨ 4 < K
  · have KN := dnew_no hK
    generalize xs.length = N at *
    generalize ys.length = N2 at *
    clear hv hx hK hc hu hy hc2 hl hm
    go_enter Try.func7, Try.ntmps7
    go_wp2_with fail
    refine (KN _).mono ?_
    rintro e w' ⟨rfl, rfl⟩
    go_wp2_with fail
    refine (KL _).mono ?_
    rintro e w' ⟨rfl, hb⟩
    go_wp2_with fail
    go_ret
    exact ⟨rfl, hb⟩
  have KN := side_dnew (Side.nil w) 1 (K := K) (by omega) (by omega)
  obtain ⟨N, hN⟩ : ∃ N, xs.length = N := ⟨_, rfl⟩
  obtain ⟨N2, hN2⟩ : ∃ N2, ys.length = N2 := ⟨_, rfl⟩
  have HV := Lib.hid hv
  have HX := Lib.hid hx
  have HU := Lib.hid hu
  have HY := Lib.hid hy
  rw [hN] at HV hl ⊢
  rw [hN2] at HU hm ⊢
  have HL := Lib.hid hl
  have HM := Lib.hid hm
  have HN := Lib.hid hN
  have HN2 := Lib.hid hN2
  clear hv hx hK hc hu hy hc2 hl hm hN hN2
  cases t0 : decide ((600 : Int) < wrap64 ((N : Int) + (N2 : Int)))
  · go_enter Try.func7, Try.ntmps7
    go_wp2_with fail
    refine KN.mono ?_
    rintro e w1 ⟨q, rfl, h1⟩
    clear KN
    go_wp2_with fail
    clear t0
    go_loopw [37] (fun s wr => ∃ m : Nat, s = .int .i64 m ∧ m ≤ N ∧ Hid (∃ L, Side w [(1, Dt q K L)] wr)) (fun s _ => N - (RowKit.intOf s).toNat)
    case atStart => exact ⟨0, rfl, Nat.zero_le _, [], h1.out⟩
    case round =>
      obtain ⟨m, rfl, hm, HS⟩ := hrel
      by_cases hlt : m < N
      · obtain ⟨x, hx⟩ : ∃ x, xs[m]? = some x := ⟨xs[m]'(HN.out ▸ hlt), List.getElem?_eq_getElem _⟩
        obtain ⟨L, hM⟩ := HS.out
        obtain ⟨ad, rfl, d0, d1, d2⟩ := (HV.out.below hM.base).at_ hx
        have KA := add_round hM (fun _ h => by cases h) (HX.out x (List.mem_of_getElem? hx))
        have hw64 := wi_long hlt HL.out
        have b0 : (0 : Int) ≤ (m : Int) := Int.natCast_nonneg m
        have b1 : (m : Int) < (N : Int) := Int.ofNat_lt.2 hlt
        generalize addI K L x = I at *
        generalize addE K L x = E at *
        obtain ⟨k, y, s⟩ := x
        simp only at d0 d1 d2 KA
        clear hx hM HS h1
        go_wp2_with fail
        refine KA.mono ?_
        rintro e w2 ⟨rfl, ho2⟩
        have HS2 : Hid (∃ L, Side w [(1, Dt q K L)] w2) := Lib.hid ⟨_, ho2.out⟩
        clear KA ho2
        go_wp2_with fail
        go_roundw
        case rel => exact ⟨m + 1, by go_num, hlt, HS2⟩
        case measure => simp [RowKit.intOf]; omega
      · obtain ⟨L, hM⟩ := HS.out
        have KLn := side_dlen hM mem0
        have KC := side_dcopy hM mem0 2
        have hL5 := side_len hM mem0
        obtain ⟨n, hn⟩ : ∃ n, L.length = n := ⟨_, rfl⟩
        rw [hn] at KLn hL5
        have Hn := Lib.hid hn
        have HL5 := Lib.hid hL5
        clear HS hM h1 hn hL5
        go_wp2_with fail
        refine KLn.mono ?_
        rintro e w2 ⟨rfl, rfl⟩
        clear KLn
        go_wp2_with fail
        refine KC.mono ?_
        rintro e w3 ⟨r, rfl, hS⟩
        have HS0 : Hid (∃ Y, Side w [(1, Dt q K (L ++ Y)), (2, Dt r K L)] w3) := Lib.hid ⟨[], by rw [List.append_nil]; exact hS.out.sub (by simp)⟩
        clear KC hS
        go_wp2_with fail
        go_loopw [51] (fun s wr => ∃ m : Nat, s = .int .i64 m ∧ m ≤ N2 ∧ Hid (∃ Y, Side w [(1, Dt q K (L ++ Y)), (2, Dt r K L)] wr)) (fun s _ => N2 - (RowKit.intOf s).toNat)
        case atStart => exact ⟨0, rfl, Nat.zero_le _, HS0⟩
        case round =>
          obtain ⟨m, rfl, hm, HS⟩ := hrel
          by_cases hlt : m < N2
          · obtain ⟨x, hx⟩ : ∃ x, ys[m]? = some x := ⟨ys[m]'(HN2.out ▸ hlt), List.getElem?_eq_getElem _⟩
            obtain ⟨Y, hM⟩ := HS.out
            obtain ⟨ad, rfl, d0, d1, d2⟩ := (HU.out.below hM.base).at_ hx
            have KA := add_round hM (by simp) (HY.out x (List.mem_of_getElem? hx))
            obtain ⟨Z, hZ⟩ := add_prefix K (L ++ Y) x
            rw [hZ, List.append_assoc] at KA
            have hw64 := wi_long hlt HM.out
            have b0 : (0 : Int) ≤ (m : Int) := Int.natCast_nonneg m
            have b1 : (m : Int) < (N2 : Int) := Int.ofNat_lt.2 hlt
            generalize addI K (L ++ Y) x = I at *
            generalize addE K (L ++ Y) x = E at *
            obtain ⟨k, y, s⟩ := x
            simp only at d0 d1 d2 KA
            clear hx hM HS HS0 hZ
            go_wp2_with fail
            refine KA.mono ?_
            rintro e w2 ⟨rfl, ho2⟩
            have HS2 : Hid (∃ Y, Side w [(1, Dt q K (L ++ Y)), (2, Dt r K L)] w2) := Lib.hid ⟨_, ho2.out⟩
            clear KA ho2
            go_wp2_with fail
            go_roundw
            case rel => exact ⟨m + 1, by go_num, hlt, HS2⟩
            case measure => simp [RowKit.intOf]; omega
          · obtain ⟨Y, hM⟩ := HS.out
            have KLn := side_dlen hM mem1
            have KK1 := side_dkind hM mem0
            have KK2 := side_dkind hM mem1
            have KV := side_dvalues hM mem1
            rw [Hn.out] at KLn
            have hnn : ((n : Int) != (n : Int)) = false := by simp
            have hKK : (K != K) = false := by simp
            have HSM := Lib.hid hM
            clear HS HS0 hM hm
            go_wp2_with fail
            refine KLn.mono ?_
            rintro e w4 ⟨rfl, rfl⟩
            clear KLn
            go_wp2_with fail
            refine KK2.mono ?_
            rintro e w4 ⟨rfl, rfl⟩
            clear KK2
            go_wp2_with fail
            refine KK1.mono ?_
            rintro e w4 ⟨rfl, rfl⟩
            clear KK1
            go_wp2_with fail
            refine KV.mono ?_
            rintro e w4 ⟨cv, rfl, hrow, hb⟩
            obtain ⟨ca, ck, rfl, hck, _⟩ := hrow.form2
            have HR := Lib.hid hrow.holds
            rw [Hn.out] at hck HR
            have HS4 := Lib.hid (And.intro (HSM.out.below hb) HR.out)
            have HLn := Hn.out
            rw [HLn]
            clear KV hrow hb HSM HLn
            go_wp2_with fail
            go_loopw [77] (fun s wr => ∃ m : Nat, s = .int .i64 m ∧ m ≤ n ∧ Hid (Side w [(1, Dt q K (L ++ Y)), (2, Dt r K L)] wr ∧ HoldsV wr (.slice ca n ck) L)) (fun s _ => n - (RowKit.intOf s).toNat)
            case atStart => exact ⟨0, rfl, Nat.zero_le _, HS4⟩
            case round =>
              obtain ⟨m, rfl, hm, HS⟩ := hrel
              by_cases hlt : m < n
              · obtain ⟨x, hx⟩ : ∃ x, L[m]? = some x := ⟨L[m]'(Hn.out ▸ hlt), List.getElem?_eq_getElem _⟩
                have hx2 : atV (L ++ Y) (m : Int) = some x := at_prefix hx
                obtain ⟨hM, hH⟩ := HS.out
                obtain ⟨ad, rfl, d0, d1, d2⟩ := hH.at_ hx
                have hb0 := (Below.refl wr.heap.size wr).alloc (Nat.le_refl _) (.cells #[.int .i64 x.k, .int .i64 x.n, .string x.s] 29)
                have KVal := side_dvalue (hM.below hb0) mem0 (m : Int)
                rw [hx2] at KVal
                have hw64 := wi_step hlt (by have := HL5.out; omega)
                have b0 : (0 : Int) ≤ (m : Int) := Int.natCast_nonneg m
                have b1 : (m : Int) < (n : Int) := Int.ofNat_lt.2 hlt
                have KE := neq_val
                have KU := guard_val
                obtain ⟨k, y, s⟩ := x
                have HNX := Lib.hid (fun W (hb : Below (wr.alloc (.cells #[.int .i64 k, .int .i64 y, .string s] 29)).heap.size (wr.alloc (.cells #[.int .i64 k, .int .i64 y, .string s] 29)) W) => (show (W.cell? ⟨wr.heap.size, 0, none⟩ = some (.int .i64 k) ∧ W.cell? ⟨wr.heap.size, 1, none⟩ = some (.int .i64 y) ∧ W.cell? ⟨wr.heap.size, 2, none⟩ = some (.string s)) ∧ Below wr.heap.size wr W from
                  ⟨(C3.new wr _ _ _ _).keep hb (by simp), hb0.trans (hb.mono (by simp))⟩))
                have HMH := Lib.hid (And.intro hM hH)
                simp only [Option.getD_some, Option.isSome_some] at d0 d1 d2 KVal
                clear hx hx2 hM hH HS HS4 hb0
                go_wp2_with fail
                refine KVal.mono ?_
                rintro e w5 ⟨rfl, hb⟩
                obtain ⟨⟨f0, f1, f2⟩, hb2⟩ := HNX.out _ hb
                have hb3 := hb2.alloc hb2.size (.cells #[.int .i64 k, .int .i64 y, .string s] 29)
                have g0 := cell_alloc (o := .cells #[.int .i64 k, .int .i64 y, .string s] 29) f0
                have g1 := cell_alloc (o := .cells #[.int .i64 k, .int .i64 y, .string s] 29) f1
                have g2 := cell_alloc (o := .cells #[.int .i64 k, .int .i64 y, .string s] 29) f2
                have HF := Lib.hid (And.intro (HMH.out.1.below hb3) (HMH.out.2.below hb3))
                clear KVal hb hb2 hb3 HNX HMH
                go_wp2_with fail
                go_roundw
                case rel => exact ⟨m + 1, by go_num, hlt, HF⟩
                case measure => simp [RowKit.intOf]; omega
              · have HSM := Lib.hid HS.out.1
                clear HS HS4 hm
                go_wp2_with fail
                go_loopw [98] (fun s wr => ∃ m : Nat, s = .int .i64 m ∧ m ≤ N2 ∧ Hid (Side w [(1, Dt q K (L ++ Y)), (2, Dt r K L)] wr)) (fun s _ => N2 - (RowKit.intOf s).toNat)
                case atStart => exact ⟨0, rfl, Nat.zero_le _, HSM⟩
                case round =>
                  obtain ⟨m, rfl, hm, HS⟩ := hrel
                  by_cases hlt : m < N2
                  · obtain ⟨x, hx⟩ : ∃ x, ys[m]? = some x := ⟨ys[m]'(HN2.out ▸ hlt), List.getElem?_eq_getElem _⟩
                    have hM := HS.out
                    obtain ⟨ad, rfl, d0, d1, d2⟩ := (HU.out.below hM.base).at_ hx
                    have hb0 := (Below.refl wr.heap.size wr).alloc (Nat.le_refl _) (.cells #[.int .i64 x.k, .int .i64 x.n, .string x.s] 29)
                    have KF := side_dfind (hM.below hb0) mem1 (HY.out x (List.mem_of_getElem? hx))
                    have hw64 := wi_long hlt HM.out
                    have b0 : (0 : Int) ≤ (m : Int) := Int.natCast_nonneg m
                    have b1 : (m : Int) < (N2 : Int) := Int.ofNat_lt.2 hlt
                    obtain ⟨o, ho⟩ : ∃ o, posV L x = o := ⟨_, rfl⟩
                    rw [ho] at KF
                    have HB0 := Lib.hid (hM.below hb0)
                    cases o with
                    | none =>
                      obtain ⟨k, y, s⟩ := x
                      simp only [Option.getD_none, Option.isSome_none] at d0 d1 d2 KF HB0
                      clear hx hM HS HSM ho hb0
                      go_wp2_with fail
                      refine KF.mono ?_
                      rintro e w5 ⟨rfl, hb⟩
                      have HF := Lib.hid (HB0.out.below hb)
                      clear KF hb HB0
                      go_wp2_with fail
                      go_roundw
                      case rel => exact ⟨m + 1, by go_num, hlt, HF⟩
                      case measure => simp [RowKit.intOf]; omega
                    | some i =>
                      have hin := pos_lt ho
                      rw [Hn.out] at hin
                      have p1 : decide ((n : Int) ≤ (i : Int)) = false := decide_eq_false (by omega)
                      have p2 : decide (n ≤ i) = false := decide_eq_false (by omega)
                      obtain ⟨k, y, s⟩ := x
                      simp only [Option.getD_some, Option.isSome_some] at d0 d1 d2 KF HB0
                      clear hx hM HS HSM ho hb0 hin
                      go_wp2_with fail
                      refine KF.mono ?_
                      rintro e w5 ⟨rfl, hb⟩
                      have HF := Lib.hid (HB0.out.below hb)
                      clear KF hb HB0
                      go_wp2_with fail
                      go_roundw
                      case rel => exact ⟨m + 1, by go_num, hlt, HF⟩
                      case measure => simp [RowKit.intOf]; omega
                  · have HB := Lib.hid HS.out.base
                    clear HS HSM hm
                    go_wp2_with fail
                    refine (KL _).mono ?_
                    rintro e w' ⟨rfl, hb⟩
                    have FB := Lib.hid (HB.out.trans (hb.mono HB.out.size))
                    clear hb
                    go_wp2_with fail
                    go_ret
                    exact ⟨rfl, FB.out⟩
  · go_enter Try.func7, Try.ntmps7
    go_wp2_with fail
    refine KN.mono ?_
    rintro e w1 ⟨q, rfl, h1⟩
    clear KN
    go_wp2_with fail
    refine (KL _).mono ?_
    rintro e w' ⟨rfl, hb⟩
    have FB := Lib.hid (h1.out.base.trans (hb.mono h1.out.base.size))
    clear h1 hb
    go_wp2_with fail
    go_ret
    exact ⟨rfl, FB.out⟩
end Go.Proofs.Ytdbaeghhlhkobaa
