/- Contract of the reference's Parse. Conditions: the text is no longer than any string. -/
import Derived.Test.YtnljlbdecknbpaaWideU
set_option maxRecDepth 100000
namespace Go.Proofs.Ytnljlbdecknbpaa
open Go.RowKit

theorem add_fit (A B : Int) (ha : fitW A = true) (hb : fitW B = true) (w : World) : Calls Try.prog 10 #[.agg #[.int .i64 (hiW A), .int .u64 (loW A)], .agg #[.int .i64 (hiW B), .int .u64 (loW B)]] w fun e w' => e = .returned (.tuple #[.agg #[.int .i64 (hiW (ansW (A + B))), .int .u64 (loW (ansW (A + B)))], .bool (fitW (A + B))]) ∧ Below w.heap.size w w' := by
  have h1 := w_split A
  have h2 := w_split B
  have K := refAdd_any (hiW A) (loW A) (hiW B) (loW B) w (fit_hi ha).1 (fit_hi ha).2 h1.2.1 h1.2.2 (fit_hi hb).1 (fit_hi hb).2 h2.2.1 h2.2.2
  rw [h1.1, h2.1] at K
  exact K
theorem turned_dig (d : Nat) (hd : d < 10) (w : World) : Calls Try.prog 32 #[.agg #[.int .i64 (hiW (d : Int)), .int .u64 (loW (d : Int))]] w fun e w' => e = .returned (.agg #[.int .i64 (hiW (-(d : Int))), .int .u64 (loW (-(d : Int)))]) ∧ Below w.heap.size w w' := by
  have h1 := w_split (d : Int)
  have h2 := w_split (-(d : Int))
  have K := turned_wrap (hiW (d : Int)) (loW (d : Int)) w h1.2.1 h1.2.2
  rw [h1.1, show IntKind.i64.wrap (hiW (-(d : Int))) = hiW (-(d : Int)) by rw [IntKind.wrap_i64]; omega] at K
  exact K
theorem ans_fit (Z : Int) : fitW (ansW Z) = true := by
  unfold ansW
  by_cases h : fitW Z = true
  · rw [h, if_pos rfl]; exact h
  · rw [if_neg h]; rfl
theorem dc_cells {wr : World} {g : Nat} {X Y : Int} {t : TypeId} (h : wr.heap[g]? = some (.cells #[.int .i64 X, .int .u64 Y] t (0, 0))) : wr.cell? ⟨g, 0, none⟩ = some (.int .i64 X) ∧ wr.cell? ⟨g, 1, none⟩ = some (.int .u64 Y) ∧ wr.frozen? ⟨g, 0, none⟩ = false ∧ wr.frozen? ⟨g, 1, none⟩ = false :=
  ⟨by rw [cell_of_row _ _ _ _ _ _ h]; rfl, by rw [cell_of_row _ _ _ _ _ _ h]; rfl, free_of_row h 0, free_of_row h 1⟩
theorem dc_next {wr w1 : World} {g : Nat} {o : Obj} (h : wr.heap[g]? = some o) (hb : Below wr.heap.size wr w1) : w1.heap[g]? = some o := by rw [hb.block _ (lt_of_heap h)]; exact h
theorem dc_store {wr : World} {g : Nat} {X Y : Int} {t : TypeId} (h : wr.heap[g]? = some (.cells #[.int .i64 X, .int .u64 Y] t (0, 0))) (Z : Int) : ((wr.setCell ⟨g, 0, none⟩ (.int .i64 (hiW Z))).setCell ⟨g, 1, none⟩ (.int .u64 (loW Z))).heap[g]? = some (.cells #[.int .i64 (hiW Z), .int .u64 (loW Z)] t (0, 0)) := by
  rw [heap_set (heap_set h _)]; rfl
set_option maxHeartbeats 6400000 in
theorem refParse_neg (s : ByteArray) (l k : List UInt8) (K : Nat) (hl : s.toList = l) (hcut : Cut l k true) (hkK : k.length = K) (h0 : 0 < s.size) (hc0 : ((s[0].toNat : Nat) : Int) = 45) (hK : s.size - 1 = K) (hx : (s.extract 1 s.size).data.toList = k) (w : World) : Calls Try.prog 25 #[.string s] w (ParseP l w) := by
  have HY := Lib.hid (yes_of hcut)
  have KA := add_fit
  have KO := fun (d : Nat) (hd : d < 10) w => refOf_any (d : Int) w (by omega) (by omega)
  have KT := turned_dig
  clear hcut
  by_cases hK1 : K = 0
  · have HNo := Lib.hid (show NoText l from fun N hf e => digs_ne N.natAbs (by rw [← (HY.out N hf e).1]; exact List.length_eq_zero_iff.1 (hkK.trans hK1)))
    subst hK1
    clear hx hkK hl
    go_enter Try.func25, Try.ntmps25
    go_wp2_with fail
    refine bodyPost_ret (v := .tuple #[.agg #[.int .i64 0, .int .u64 0], .bool false]) (by simp [results, Try.results25, go_sem]) rfl (parseP_no ((Below.refl _ _).alloc (Nat.le_refl _) _) HNo.out)
  by_cases hK2 : 39 < K
  · have HNo := Lib.hid (show NoText l from fun N hf e => by
      have h1 := (HY.out N hf e).1
      have h2 := (HY.out N hf e).2.2.1
      have h3 := len39 (n := N.natAbs) (by omega)
      rw [← h1] at h3
      omega)
    have t2 : (1 : Int) ≤ (K : Int) := by omega
    have t3 : (39 : Int) < (K : Int) := by omega
    clear hx hkK hl hK1
    go_enter Try.func25, Try.ntmps25
    go_wp2_with fail
    refine bodyPost_ret (v := .tuple #[.agg #[.int .i64 0, .int .u64 0], .bool false]) (by simp [results, Try.results25, go_sem]) rfl (parseP_no ((Below.refl _ _).alloc (Nat.le_refl _) _) HNo.out)
  have HL := Lib.hid hl
  have HKK := Lib.hid hkK
  have t2 : ¬ (K : Int) < 1 := by omega
  have t3 : ¬ (39 : Int) < (K : Int) := by omega
  have hK39 : K ≤ 39 := by omega
  have hts : (s.extract 1 s.size).size = K := by rw [str_size, hx, hkK]
  have HAT := Lib.hid (show ∀ (i : Nat) (h : i < (s.extract 1 s.size).size), k[i]? = some ((s.extract 1 s.size)[i]) from fun i h => by rw [str_at, ← hx, List.getElem?_eq_getElem])
  have hs0 : PS w ((w.alloc (.cells #[.int .i64 0, .int .u64 0] 24)).alloc (.cells #[.int .i64 0, .int .u64 0] 24)) 0 := ⟨(ds_new _ _ _).1, (ds_new _ _ _).2, two_new _ _ _⟩
  have HS0 := Lib.hid hs0
  clear hx hl hkK hK1 hK2 hs0
  go_enter Try.func25, Try.ntmps25
  go_wp2_with fail
  generalize s.extract 1 s.size = t at *
  clear hK hc0
  go_loopw [7] (fun i wr => ∃ (j : Nat) (W : Int), j ≤ K ∧ i = .int .i64 (j : Int) ∧ Hid (PS w wr W ∧ Knows l k true j W)) (fun i _ => K - (intOf i).toNat)
  case atStart => exact ⟨0, 0, by omega, rfl, Lib.hid ⟨HS0.out, rfl, fun N _ _ => rfl⟩⟩
  case round =>
    clear HS0
    obtain ⟨j, W, hj, rfl, HR⟩ := hrel
    by_cases hlt : j < K
    · have hjs : j < t.size := by omega
      have hjl : j < k.length := by rw [HKK.out]; exact hlt
      have hlk : t[j] = k[j] := by have := HAT.out j hjs; rw [List.getElem?_eq_getElem hjl] at this; exact (Option.some.inj this).symm
      have hx8 := k[j].toNat_lt
      by_cases hD : isD k[j]
      · obtain ⟨d, hd⟩ : ∃ d : Nat, k[j].toNat = 48 + d := ⟨k[j].toNat - 48, by have := hD.1; omega⟩
        have hd10 : d < 10 := by have := hD.2; omega
        have hc : ((t[j].toNat : Nat) : Int) = 48 + (d : Int) := by rw [hlk, hd]; omega
        have HD := Lib.hid hd
        clear hD hx8 hlk hd
        have HX0 := Lib.hid (XS.new HR.out.1)
        have hcell := HR.out.1.cells
        go_wp2_with fail
        clear hcell
        go_loopw [9, 10] (fun okv kv wr2 => ∃ (m : Nat) (X : Int) (ok : Bool), m ≤ 10 ∧ kv = .int .i64 (m : Int) ∧ okv = .bool ok ∧ Hid (XS w wr2 wr.heap.size W X ∧ fitW X = true ∧ (ok = true → X = (m : Int) * W) ∧ ∀ N, fitW N = true → l = printL N → ok = true)) (fun _ kv _ => 10 - (intOf kv).toNat)
        case atStart => exact ⟨0, 0, true, by omega, rfl, rfl, Lib.hid ⟨HX0.out, rfl, fun _ => by simp, fun _ _ _ => rfl⟩⟩
        case round =>
          obtain ⟨m, X, ok, hm, rfl, rfl, HX⟩ := hrel
          cases ok with
          | true =>
            by_cases hm10 : m < 10
            · have hX := HX.out.2.2.1 rfl
              have Kadd := KA X W HX.out.2.1 HR.out.2.1
              obtain ⟨f, hf⟩ : ∃ f, fitW (X + W) = f := ⟨_, rfl⟩
              obtain ⟨Y, hY⟩ : ∃ Y, ansW (X + W) = Y := ⟨_, rfl⟩
              rw [hf, hY] at Kadd
              have HN := Lib.hid (show fitW Y = true ∧ (f = true → Y = ((m + 1 : Nat) : Int) * W) ∧ ∀ N, fitW N = true → l = printL N → f = true from
                ⟨by rw [← hY]; exact ans_fit _, fun h => by rw [← hY]; unfold ansW; rw [hf, h, if_pos rfl, hX, add_one_mul'], fun N hN e => by rw [← hf, hX, add_one_mul']; exact mul_fits HY.out HR.out.2 hjl (by omega) hN e⟩)
              have hcx := HX.out.1.cells
              have hcw := HX.out.1.1.cells
              clear hf hY hX
              go_wp2_with fail
              refine (Kadd _).mono ?_
              rintro e w4 ⟨rfl, b4⟩
              have h4 := HX.out.1.next b4
              have hcx4 := h4.cells
              have HX5 := Lib.hid (h4.store Y)
              clear hcx hcw b4 h4 Kadd
              go_wp2_with fail
              go_roundw
              case rel => exact ⟨m + 1, Y, f, by omega, by go_num, rfl, Lib.hid ⟨HX5.out, HN.out.1, HN.out.2.1, HN.out.2.2⟩⟩
              case measure => first | (simp [intOf]; done) | (simp [intOf]; omega)
            · have hX := HX.out.2.2.1 rfl
              obtain rfl : m = 10 := by omega
              have hDf : fitW (-(d : Int)) = true := fit_iff.2 (by omega)
              have Kadd := KA X (-(d : Int)) HX.out.2.1 hDf
              obtain ⟨f, hf⟩ : ∃ f, fitW (X + -(d : Int)) = f := ⟨_, rfl⟩
              obtain ⟨Y, hY⟩ : ∃ Y, ansW (X + -(d : Int)) = Y := ⟨_, rfl⟩
              rw [hf, hY] at Kadd
              have HN := Lib.hid (show (f = true → Knows l k true (j + 1) Y) ∧ (f = false → NoText l) from
                ⟨fun h => by rw [← hY]; unfold ansW; rw [hf, h, if_pos rfl, hX]; exact next_knows HR.out.2 hjl HD.out (by rw [hX] at hf; exact hf.trans h), fun h N hN e => by
                  have h1 := next_fits HY.out HR.out.2 hjl HD.out hN e
                  rw [hX] at hf
                  have h2 : fitW (((10 : Nat) : Int) * W + -(d : Int)) = true := h1
                  rw [hf, h] at h2
                  cases h2⟩)
              have Kof : ∀ w, Calls Try.prog 21 #[.int .i64 (48 + (d : Int) - 48)] w fun e w' => e = .returned (.agg #[.int .i64 (hiW (d : Int)), .int .u64 (loW (d : Int))]) ∧ Below w.heap.size w w' := fun w => by
                rw [show (48 : Int) + (d : Int) - 48 = (d : Int) by omega]; exact KO d hd10 w
              have Kt := KT d hd10
              clear hf hY hX hDf
              have hm9 : ¬ (((10 : Nat) : Int) < 10) := by decide
              go_wp2_with fail
              refine (Kof _).mono ?_
              rintro e w4 ⟨rfl, b4⟩
              have h4 := HX.out.1.next b4
              have hg := lt_of_heap h4.2.1
              have h5 := h4.alloc (.cells #[.int .i64 (hiW (d : Int)), .int .u64 (loW (d : Int))] 24)
              have k5 := alloc1 w4 (.cells #[.int .i64 (hiW (d : Int)), .int .u64 (loW (d : Int))] 24)
              have c5 := dc_cells k5
              have x5 := h5.cells
              clear b4
              go_wp2_with fail
              refine (Kt _).mono ?_
              rintro e w5 ⟨rfl, b5⟩
              have h6 := h5.next b5
              have k6 := dc_next k5 b5
              have c6 := dc_cells k6
              have h7 := h6.far hg (.int .i64 (hiW (-(d : Int)))) (.int .u64 (loW (-(d : Int))))
              have k7 := dc_store k6 (-(d : Int))
              have c7 := dc_cells k7
              have x7 := h7.cells
              clear b5 h5 k5 c5 h4 x5 h6 k6
              go_wp2_with fail
              refine (Kadd _).mono ?_
              rintro e w8 ⟨rfl, b8⟩
              have h8 := h7.next b8
              have x8 := h8.cells
              have h9 := h8.store Y
              have x9 := h9.cells
              cases f with
              | false =>
                have HNo := Lib.hid (HN.out.2 rfl)
                have hres := h9.1.res
                have hr1 := fun u => (set_two hres.1 hres.2.1 u u).1
                have hr2 := fun u v => (set_two hres.1 hres.2.1 u v).2
                have HB := Lib.hid h9.1.done
                clear b8 h8 h9 h7 Kadd Kof
                go_wp2_with fail
                refine bodyPost_ret (v := .tuple #[.agg #[.int .i64 0, .int .u64 0], .bool false]) (by simp [results, Try.results25, go_sem, hr1, hr2]) rfl (parseP_no (HB.out _ _) HNo.out)
              | true =>
                have HKN := Lib.hid (HN.out.1 rfl)
                have y9 := h9.1.cells
                have HPS := Lib.hid (h9.1.store Y)
                clear b8 h8 h9 h7 Kadd Kof
                go_wp2_with fail
                go_roundw
                case rel => exact ⟨j + 1, Y, by omega, by go_num, Lib.hid ⟨HPS.out, HKN.out⟩⟩
                case measure => first | (simp [intOf]; done) | (simp [intOf]; omega)
          | false =>
            have HNo := Lib.hid (show NoText l from fun N hN e => by have := HX.out.2.2.2 N hN e; cases this)
            have Kof : ∀ w, Calls Try.prog 21 #[.int .i64 (48 + (d : Int) - 48)] w fun e w' => e = .returned (.agg #[.int .i64 (hiW (d : Int)), .int .u64 (loW (d : Int))]) ∧ Below w.heap.size w w' := fun w => by
              rw [show (48 : Int) + (d : Int) - 48 = (d : Int) by omega]; exact KO d hd10 w
            have Kt := KT d hd10
            by_cases hm10 : m < 10
            all_goals
              go_wp2_with fail
              refine (Kof _).mono ?_
              rintro e w4 ⟨rfl, b4⟩
              have h4 := HX.out.1.next b4
              have hg := lt_of_heap h4.2.1
              have h5 := h4.alloc (.cells #[.int .i64 (hiW (d : Int)), .int .u64 (loW (d : Int))] 24)
              have k5 := alloc1 w4 (.cells #[.int .i64 (hiW (d : Int)), .int .u64 (loW (d : Int))] 24)
              have c5 := dc_cells k5
              have x5 := h5.cells
              clear b4
              go_wp2_with fail
              refine (Kt _).mono ?_
              rintro e w5 ⟨rfl, b5⟩
              have h6 := h5.next b5
              have k6 := dc_next k5 b5
              have c6 := dc_cells k6
              have h7 := h6.far hg (.int .i64 (hiW (-(d : Int)))) (.int .u64 (loW (-(d : Int))))
              have k7 := dc_store k6 (-(d : Int))
              have c7 := dc_cells k7
              have x7 := h7.cells
              clear b5 h5 k5 c5 h4 x5 h6 k6
              have hres := h7.1.res
              have hr1 := fun u => (set_two hres.1 hres.2.1 u u).1
              have hr2 := fun u v => (set_two hres.1 hres.2.1 u v).2
              have HB := Lib.hid h7.1.done
              go_wp2_with fail
              refine bodyPost_ret (v := .tuple #[.agg #[.int .i64 0, .int .u64 0], .bool false]) (by simp [results, Try.results25, go_sem, hr1, hr2]) rfl (parseP_no (HB.out _ _) HNo.out)
      · have HNo := Lib.hid (show NoText l from fun N hN e => hD (by have h1 := (HY.out N hN e).1; exact digs_isD N.natAbs _ (by rw [← h1]; exact List.getElem_mem hjl)))
        have hD2 : k[j].toNat < 48 ∨ (¬ k[j].toNat < 48 ∧ 57 < k[j].toNat) := by unfold isD at hD; omega
        obtain ⟨c, hc⟩ : ∃ c : Int, ((t[j].toNat : Nat) : Int) = c := ⟨_, rfl⟩
        rw [hlk] at hc
        have hcs : (c < 48) ∨ (¬ c < 48 ∧ 57 < c) := by omega
        rw [← hlk] at hc
        clear hD hD2 hx8 hlk
        have hres := HR.out.1.res
        have hr1 := fun u => (set_two hres.1 hres.2.1 u u).1
        have hr2 := fun u v => (set_two hres.1 hres.2.1 u v).2
        have HB := Lib.hid HR.out.1.done
        rcases hcs with hcs | ⟨hcs, hcs2⟩
        all_goals
          go_wp2_with fail
          refine bodyPost_ret (v := .tuple #[.agg #[.int .i64 0, .int .u64 0], .bool false]) (by simp [results, Try.results25, go_sem, hr1, hr2]) rfl (parseP_no (HB.out _ _) HNo.out)
    · have hjK : j = K := by omega
      have KP := fun w => refPrint_any (hiW W) (loW W) w (fit_hi HR.out.2.1).1 (fit_hi HR.out.2.1).2 (w_split W).2.1 (w_split W).2.2
      rw [(w_split W).1] at KP
      obtain ⟨P, hP⟩ : ∃ P : ByteArray, ⟨(printL W).toArray⟩ = P := ⟨_, rfl⟩
      have hPl : P.toList = printL W := by rw [str_list, ← hP]
      rw [hP] at KP
      have hcw := HR.out.1.cells
      clear hP
      obtain ⟨p, hp1⟩ : ∃ p, hiW W = p := ⟨_, rfl⟩
      obtain ⟨q, hp2⟩ : ∃ p, loW W = p := ⟨_, rfl⟩
      have HPQ := Lib.hid (And.intro hp1 hp2)
      rw [hp1, hp2] at KP hcw
      by_cases hpl : printL W = l
      · have t5 : (P.toList == s.toList) = true := by rw [hPl, HL.out, hpl]; simp
        have HPL := Lib.hid hpl
        clear hPl hpl hp1 hp2
        go_wp2_with fail
        refine (KP _).mono ?_
        rintro e w4 ⟨rfl, b4⟩
        have h4 := HR.out.1.next b4
        have hres := h4.res
        have hr1 := fun u => (set_two hres.1 hres.2.1 u u).1
        have hr2 := fun u v => (set_two hres.1 hres.2.1 u v).2
        have HB := Lib.hid h4.done
        have hcw4 := h4.cells
        rw [HPQ.out.1, HPQ.out.2] at hcw4
        clear b4 h4 hcw KP
        go_wp2_with fail
        refine bodyPost_ret (v := .tuple #[.agg #[.int .i64 p, .int .u64 q], .bool true]) (by simp [results, Try.results25, go_sem, hr1, hr2]) rfl ⟨W, true, by rw [← HPQ.out.1, ← HPQ.out.2], HB.out _ _, fun _ => ⟨HR.out.2.1, HPL.out.symm⟩, fun h => by cases h⟩
      · have t5 : (P.toList == s.toList) = false := by rw [hPl, HL.out, beq_eq_false_iff_ne]; exact hpl
        have HNo := Lib.hid (show NoText l from fun N hN e => hpl (by
          obtain ⟨g1, g2, _, _⟩ := HY.out N hN e
          have g3 := HR.out.2.2 N hN e
          rw [hjK, ← HKK.out, List.take_length, g1, digs_val] at g3
          rw [show W = N from g3.trans g2.symm, e]))
        clear hPl hpl hp1 hp2
        go_wp2_with fail
        refine (KP _).mono ?_
        rintro e w4 ⟨rfl, b4⟩
        have h4 := HR.out.1.next b4
        have hres := h4.res
        have hr1 := fun u => (set_two hres.1 hres.2.1 u u).1
        have hr2 := fun u v => (set_two hres.1 hres.2.1 u v).2
        have HB := Lib.hid h4.done
        clear b4 h4 hcw KP
        go_wp2_with fail
        refine bodyPost_ret (v := .tuple #[.agg #[.int .i64 0, .int .u64 0], .bool false]) (by simp [results, Try.results25, go_sem, hr1, hr2]) rfl (parseP_no (HB.out _ _) HNo.out)
end Go.Proofs.Ytnljlbdecknbpaa
