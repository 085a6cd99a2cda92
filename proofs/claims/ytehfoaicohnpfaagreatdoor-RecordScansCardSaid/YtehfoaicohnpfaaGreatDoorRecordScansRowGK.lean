/- The texts RqrD RqrE, one behind the other; each one's own comment says what it holds. -/
import Derived.Test.YtehfoaicohnpfaaGreatDoorRecordScansRowGJ
/- Contract of the document's Load. Conditions: at most 1000000 bytes. -/
set_option maxRecDepth 100000
namespace Go.Proofs.YtehfoaicohnpfaaGreatDoor
open Go.RowKit Go.Maps Go.Sort Go.Lib

/-- the end of a loop of reads -/
theorem loop_end {α : Type} {step : RS → α × RS} {n i : Nat} {s : RS} (h : ¬ (i < n ∧ s.2 = false)) : loopF step (n - i) s = ([], s) := by
  by_cases h1 : i < n
  · have h2 : s.2 = true := by
      cases e : s.2
      · exact absurd ⟨h1, e⟩ h
      · rfl
    exact loopF_t _ _ _ h2
  · rw [show n - i = 0 by omega]; rfl
theorem loop_go {α : Type} {step : RS → α × RS} {n i : Nat} {l : List UInt8} (h : i < n) : loopF step (n - i) (l, false) = ((step (l, false)).1 :: (loopF step (n - (i + 1)) (step (l, false)).2).1, (loopF step (n - (i + 1)) (step (l, false)).2).2) := by
  rw [show n - i = (n - (i + 1)) + 1 by omega]
  conv => lhs; unfold loopF
  rw [if_neg (by simp)]
set_option maxHeartbeats 12800000 in
theorem rload_bad {w : World} {pa : Option Addr} {nl k : Nat} {l : List UInt8} (H : Holds w (.slice pa nl k) (u8s l)) (hl : l.length ≤ 1000000) (hk : (numF (l, false)).1 < 1 ∨ 3 < (numF (l, false)).1) :
    Calls Tryz.prog 15 #[.slice pa nl k] w (RLoadP w l) := by
  have hnl := H.len.1
  rw [u8s_len] at hnl
  have HNL := Lib.hid hnl
  obtain ⟨P, hP⟩ : ∃ P, RLoadP w l = P := ⟨_, rfl⟩
  rw [hP]
  have FC := Lib.hid (fun (W' : World) (hb : Below w.heap.size w W') (h : loadF l = none) => (by rw [← hP]; exact ⟨hb, .inr ⟨h, rfl⟩⟩ : P (.returned (.tuple #[.agg #[.int .i64 0, .string ⟨#[]⟩, .slice none 0 0, .string ⟨#[]⟩, .string ⟨#[]⟩, .slice none 0 0, .slice none 0 0, .string ⟨#[]⟩, .slice none 0 0], .int .i64 8])) W'))
  have FO := Lib.hid (fun (x : RV) (a b c d : Value) (W' : World) (hb : Below w.heap.size w W') (h : loadF l = some x) (hk : RecOk w.heap.size x a b c d W') => (by rw [← hP]; exact ⟨hb, .inl ⟨x, a, b, c, d, h, rfl, hk⟩⟩ : P (.returned (.tuple #[recV x a b c d, .int .i64 0])) W'))
  have HS0 := Lib.hid (LdQ.start H)
  have KN := rnum_at HS0.out.rd hl
  have hnum := numF_len (l, false)
  have HLN0 : Hid (loadF l = none) := Lib.hid (by unfold loadF; rw [if_pos hk])
  obtain ⟨⟨u, s1⟩, hq⟩ : ∃ v, numF (l, false) = v := ⟨_, rfl⟩
  rw [hq] at KN hk
  simp only at KN hk
  clear hq hnum H hP hl hnl
  by_cases h1 : u < 1
  · have t1 : u < 1 := h1
    have t1' : decide ((u : Int) < 1) = true := decide_eq_true (by omega)
    clear hk h1
    go_enter Tryz.func15, Tryz.ntmps15
    go_wp2_with fail
    refine KN.mono ?_
    rintro e w1 ⟨rfl, hr, he⟩
    have S := Lib.hid (HS0.out.read hr he)
    clear hr he KN HS0
    have HLN : Hid (loadF l = none) := Lib.hid (HLN0.out)
    obtain ⟨⟨z0, z1, z2, z3, z4, z5, z6, z7, z8, zf⟩, hx, hbf, _⟩ := S.out.done (.int .i64 0) (.string ⟨#[]⟩) (.slice none 0 0) (.string ⟨#[]⟩) (.string ⟨#[]⟩) (.slice none 0 0) (.slice none 0 0) (.string ⟨#[]⟩) (.slice none 0 0)
    obtain ⟨y0, y1, y2, y3, y4, y5, y6, y7, y8, _⟩ := nine_cells hx
    have FI := FC.out _ hbf HLN.out
    unfold set9 at y0 y1 y2 y3 y4 y5 y6 y7 y8 FI
    clear hx hbf
    go_wp2_with fail
    refine bodyPost_ret (v := .tuple #[.agg #[.int .i64 0, .string ⟨#[]⟩, .slice none 0 0, .string ⟨#[]⟩, .string ⟨#[]⟩, .slice none 0 0, .slice none 0 0, .string ⟨#[]⟩, .slice none 0 0], .int .i64 8]) ?_ rfl FI
    simp [results, Tryz.results15, go_sem, y0, y1, y2, y3, y4, y5, y6, y7, y8]

  · have t1 : ¬ u < 1 := h1
    have t2 : 3 < u := by omega
    have t1' : decide ((u : Int) < 1) = false := decide_eq_false (by omega)
    have t2' : decide ((3 : Int) < (u : Int)) = true := decide_eq_true (by omega)
    clear hk h1
    go_enter Tryz.func15, Tryz.ntmps15
    go_wp2_with fail
    refine KN.mono ?_
    rintro e w1 ⟨rfl, hr, he⟩
    have S := Lib.hid (HS0.out.read hr he)
    clear hr he KN HS0
    have HLN : Hid (loadF l = none) := Lib.hid (HLN0.out)
    obtain ⟨⟨z0, z1, z2, z3, z4, z5, z6, z7, z8, zf⟩, hx, hbf, _⟩ := S.out.done (.int .i64 0) (.string ⟨#[]⟩) (.slice none 0 0) (.string ⟨#[]⟩) (.string ⟨#[]⟩) (.slice none 0 0) (.slice none 0 0) (.string ⟨#[]⟩) (.slice none 0 0)
    obtain ⟨y0, y1, y2, y3, y4, y5, y6, y7, y8, _⟩ := nine_cells hx
    have FI := FC.out _ hbf HLN.out
    unfold set9 at y0 y1 y2 y3 y4 y5 y6 y7 y8 FI
    clear hx hbf
    go_wp2_with fail
    refine bodyPost_ret (v := .tuple #[.agg #[.int .i64 0, .string ⟨#[]⟩, .slice none 0 0, .string ⟨#[]⟩, .string ⟨#[]⟩, .slice none 0 0, .slice none 0 0, .string ⟨#[]⟩, .slice none 0 0], .int .i64 8]) ?_ rfl FI
    simp [results, Tryz.results15, go_sem, y0, y1, y2, y3, y4, y5, y6, y7, y8]

set_option maxHeartbeats 12800000 in
theorem rload_1 {w : World} {pa : Option Addr} {nl k : Nat} {l : List UInt8} (H : Holds w (.slice pa nl k) (u8s l)) (hl : l.length ≤ 1000000) (hk : (numF (l, false)).1 = 1) :
    Calls Tryz.prog 15 #[.slice pa nl k] w (RLoadP w l) := by
  have hnl := H.len.1
  rw [u8s_len] at hnl
  have HNL := Lib.hid hnl
  obtain ⟨P, hP⟩ : ∃ P, RLoadP w l = P := ⟨_, rfl⟩
  rw [hP]
  have FC := Lib.hid (fun (W' : World) (hb : Below w.heap.size w W') (h : loadF l = none) => (by rw [← hP]; exact ⟨hb, .inr ⟨h, rfl⟩⟩ : P (.returned (.tuple #[.agg #[.int .i64 0, .string ⟨#[]⟩, .slice none 0 0, .string ⟨#[]⟩, .string ⟨#[]⟩, .slice none 0 0, .slice none 0 0, .string ⟨#[]⟩, .slice none 0 0], .int .i64 8])) W'))
  have FO := Lib.hid (fun (x : RV) (a b c d : Value) (W' : World) (hb : Below w.heap.size w W') (h : loadF l = some x) (hk : RecOk w.heap.size x a b c d W') => (by rw [← hP]; exact ⟨hb, .inl ⟨x, a, b, c, d, h, rfl, hk⟩⟩ : P (.returned (.tuple #[recV x a b c d, .int .i64 0])) W'))
  have HS0 := Lib.hid (LdQ.start H)
  have KN := rnum_at HS0.out.rd hl
  have hnum := numF_len (l, false)
  have hkk : ¬ ((numF (l, false)).1 < 1 ∨ 3 < (numF (l, false)).1) := by omega
  have HLO : Hid (loadF l = if okF l (bodF (numF (l, false)).1 (numF (l, false)).2) = true then some (bodF (numF (l, false)).1 (numF (l, false)).2).1 else none) := Lib.hid (by unfold loadF; rw [if_neg hkk])
  have HII := Lib.hid (bod_in hl hkk)
  obtain ⟨⟨u, s1⟩, hq⟩ : ∃ v, numF (l, false) = v := ⟨_, rfl⟩
  rw [hq] at KN hk HLO HII hnum
  simp only at KN hk HLO HII hnum
  have HL1 := Lib.hid (show s1.1.length ≤ 1000000 by omega)
  subst hk
  clear hq hnum H hP hl hnl hkk
  go_enter Tryz.func15, Tryz.ntmps15
  go_wp2_with fail
  refine KN.mono ?_
  rintro e w1 ⟨rfl, hr, he⟩
  have S := Lib.hid (HS0.out.read hr he)
  obtain ⟨p0, p1, p2, p3, p4, p5, p6, p7, p8⟩ := S.out.cells
  have pf := S.out.free
  have S2 := Lib.hid (S.out.setK 1)
  obtain ⟨g0, _⟩ := S2.out.cells
  have KT := rtxt_at S2.out.rd HL1.out
  have htl := txtF_len s1
  obtain ⟨⟨t1, s2⟩, hT1⟩ : ∃ v, txtF s1 = v := ⟨_, rfl⟩
  rw [hT1] at KT htl
  have HT1 := Lib.hid hT1
  have HL2 := Lib.hid (show s2.1.length ≤ 1000000 by have := HL1.out; simp only at htl; omega)
  clear hr he KN HS0 hT1 htl
  go_wp2_with fail
  refine KT.mono ?_
  rintro e w3 ⟨rfl, hr, he⟩
  have S3 := Lib.hid (S2.out.read hr he)
  obtain ⟨_, g1, _⟩ := S3.out.cells
  have gf := S3.out.free
  have S4 := Lib.hid (S3.out.setTn t1)
  have KC := rcnt_at S4.out.rd HL2.out
  have hcl := cntF_len s2
  have hcle := cntF_le s2
  obtain ⟨⟨cn, s3⟩, hC1⟩ : ∃ v, cntF s2 = v := ⟨_, rfl⟩
  rw [hC1] at KC hcl hcle
  have HC1 := Lib.hid hC1
  have HL3 := Lib.hid (show s3.1.length ≤ 1000000 ∧ cn ≤ 1000000 by have := HL2.out; simp only at hcl hcle; omega)
  clear hr he KT hC1 hcl hcle g0 p0 p1 p2 p3 p4 p5 p6 p7 p8 pf S S2
  go_wp2_with fail
  refine KC.mono ?_
  rintro e w4 ⟨rfl, hr, he⟩
  have S5 := Lib.hid (show LdQ w s3 (tabV (t1, [])) (.slice none 0 0) (.slice none 0 0) (.slice none 0 0) (.slice none 0 0) w4 from S4.out.read hr he)
  obtain ⟨TT, hTT⟩ : ∃ v, loopF stepC cn s3 = v := ⟨_, rfl⟩
  have HTT := Lib.hid hTT
  have HT0 : Hid (bodF 1 s1 = (tabV (t1, TT.1), TT.2)) := Lib.hid (by
    unfold bodF
    rw [if_pos rfl]
    unfold tabF
    simp only
    rw [HT1.out, HC1.out, hTT])
  clear hr he KC g1 gf S3 S4 hTT
  go_wp2_with fail
  go_loopw [8] (fun s8 W => ∃ (i : Nat) (acc : List (ByteArray × Int)) (s : RS) (a1 : Option Addr) (c1 : Nat), s8 = .int .i64 i ∧ i ≤ cn ∧ Hid (acc.length = i) ∧ Hid (LdQ w s (tabV (t1, acc)) (.slice a1 i c1) (.slice none 0 0) (.slice none 0 0) (.slice none 0 0) W) ∧ Hid (s.1.length ≤ 1000000) ∧ Hid ((acc ++ (loopF stepC (cn - i) s).1, (loopF stepC (cn - i) s).2) = TT)) (fun s8 _ => cn - (RowKit.intOf s8).toNat)
  case atStart => exact ⟨0, [], s3, none, 0, rfl, by omega, Lib.hid rfl, S5, Lib.hid HL3.out.1, Lib.hid (by rw [List.nil_append]; exact HTT.out)⟩
  case round =>
    clear S5
    obtain ⟨i, acc, s, a1, c1, rfl, hi, HAC, S, HLS, HRel⟩ := hrel
    by_cases hgo : i < cn ∧ s.2 = false
    · obtain ⟨hlt, hsf⟩ := hgo
      obtain ⟨sl, sf⟩ := s
      simp only at hsf
      subst hsf
      obtain ⟨pr', nr', cr', q0, q1, hnr, _, _⟩ := bool_cell S.out.rd
      simp only at q1
      have hg := loop_go (step := stepC) (l := sl) hlt
      have KT := rtxt_at S.out.rd HLS.out
      have htl := txtF_len (sl, false)
      obtain ⟨⟨t2, s5⟩, hT2⟩ : ∃ v, txtF (sl, false) = v := ⟨_, rfl⟩
      rw [hT2] at KT htl
      have hsl5 : s5.1.length ≤ 1000000 := by have := HLS.out; simp only at htl this; omega
      have hnl6 := numF_len s5
      have KNN := Lib.hid (fun (V : World) (hV : RdAt V (w.heap.size + 1) s5) => rnum_at hV hsl5)
      obtain ⟨⟨u6, s6⟩, hN6⟩ : ∃ v, numF s5 = v := ⟨_, rfl⟩
      rw [hN6] at KNN hnl6
      have hw6 : RowKit.wrap64 (u6 : Int) = iN u6 := by unfold iN RowKit.wrap64; rw [IntKind.wrap_i64]
      obtain ⟨z6, hz6⟩ : ∃ z, iN u6 = z := ⟨_, rfl⟩
      rw [hz6] at hw6
      have hst : stepC (sl, false) = ((t2, z6), s6) := by
        rw [← hz6]
        unfold stepC
        rw [hT2]
        simp only
        rw [hN6]
      rw [hst] at hg
      have HG := Lib.hid hg
      have HL6 := Lib.hid (show s6.1.length ≤ 1000000 by simp only at hnl6; omega)
      have hlt' : (i : Int) < (cn : Int) := Int.ofNat_lt.2 hlt
      have b0 : (0 : Int) ≤ (i : Int) := Int.natCast_nonneg i
      have hwi : IntKind.i64.wrap ((i : Int) + 1) = (i : Int) + 1 := by have := HL3.out.2; rw [IntKind.wrap_i64]; omega
      have HLT := Lib.hid hlt
      clear hnr hg htl hT2 hsl5 hnl6 hN6 hst hi hlt hz6
      go_wp2_with fail
      refine KT.mono ?_
      rintro e w5 ⟨rfl, hr, he⟩
      have S := Lib.hid ((S.out.read hr he).drewN 1)
      clear hr he KT q0 q1
      go_wp2_with fail
      have hS0 := S.out.cells.2.2.1
      refine wp_region_mix (fun V => V.cell? ⟨w.heap.size + 2, 2, none⟩ = some (.slice a1 i c1)) 12 [(true, 0), (true, 1), (true, 2), (true, 3), (true, 4), (false, 5), (true, 6), (true, 7), (false, 8), (false, 9), (true, 10), (true, 11), (false, 12)] (by kernel_rfl) (by decide +kernel) rfl (by decide +kernel) hS0 ?_
      iterate 5
        refine wpMix_take (v := ?_) rfl rfl ?_ ?_
        rotate_left
        · (intro W hW; (try dsimp only at hW); go_simp) <;> with_reducible rfl
        simp only [Act.put, List.setIfInBounds_toArray, List.set_cons_zero, List.set_cons_succ]
      refine wpMix_run rfl ?_
      intro K hK
      go_wp2_with fail
      refine (KNN.out _ S.out.rd).mono ?_
      rintro e w6 ⟨rfl, hr, he⟩
      have S := Lib.hid (S.out.read hr he)
      clear hr he KNN
      go_wp2_with fail
      refine hK.out _ _ (fun _ => S.out.cells.2.2.1) ?_
      clear hK K hS0
      iterate 2
        refine wpMix_take (v := ?_) rfl rfl ?_ ?_
        rotate_left
        · (intro W hW; (try dsimp only at hW); go_simp) <;> with_reducible rfl
        simp only [Act.put, List.setIfInBounds_toArray, List.set_cons_zero, List.set_cons_succ]
      refine wpMix_run rfl ?_
      intro K hK
      go_wp2_with fail
      refine hK.out _ _ (fun _ => (S.out.next (below_o w6 _)).cells.2.2.1) ?_
      clear hK K
      obtain ⟨a9, c9, X, R9, B9, S9⟩ := S.out.pushC (t2, z6) (by have := HAC.out; have := HL3.out.2; have := HLT.out; show acc.length ≤ 1000000; omega)
      have hS9 : LdQ w s6 (tabV (t1, acc ++ [(t2, z6)])) (.slice a9 (acc.length + 1) c9) (.slice none 0 0) (.slice none 0 0) (.slice none 0 0) (X.setCell ⟨w.heap.size + 2, 2, none⟩ (.slice a9 (acc.length + 1) c9)) := S9.out
      have R9' := R9.out
      simp only at R9'
      have hlen : (tabV (t1, acc)).tc.length = i := HAC.out
      rw [hlen] at R9'
      have hlen2 : acc.length = i := HAC.out
      rw [hlen2] at hS9
      have hXb := B9.trans S.out.box
      have hX2 : X.cell? ⟨w.heap.size + 2, 2, none⟩ = some (.slice a1 i c1) := by rw [cell_of_row _ _ _ _ _ _ hXb]; rfl
      have hXf := free_of_row hXb 2
      have HS9 := Lib.hid hS9
      have RR := Lib.hid R9'
      clear hS9 R9 R9' S9 hlen hlen2 hXb B9
      rw [hw6]
      clear hw6
      refine wpMix_run rfl ?_
      intro K hK
      refine wpList_append_run rfl (.tmp 94) (.tmp 100) 34 rfl rfl rfl (RR.out _) ?_
      go_wp2_with fail
      refine hK.out _ _ (fun _ => hX2) ?_
      clear hK K
      iterate 2
        refine wpMix_take (v := ?_) rfl rfl ?_ ?_
        rotate_left
        · (intro W hW; (try dsimp only at hW); go_simp) <;> with_reducible rfl
        simp only [Act.put, List.setIfInBounds_toArray, List.set_cons_zero, List.set_cons_succ]
      refine wpMix_run rfl ?_
      intro K hK
      go_wp2_with fail
      refine hK.out _ _ (fun h => absurd rfl h) ?_
      clear hK K
      refine wpMix_nil ?_
      clear hX2 hXf RR S
      go_wp2_with fail
      go_roundw
      case rel => exact ⟨i + 1, acc ++ [(t2, z6)], s6, a9, c9, by go_num, by have := HLT.out; omega, Lib.hid (by rw [List.length_append, HAC.out]; rfl), HS9, Lib.hid HL6.out, Lib.hid (by rw [← HRel.out, HG.out, List.append_assoc]; rfl)⟩
      case measure => have := HLT.out; simp [RowKit.intOf]; omega
    have hend := loop_end (step := stepC) hgo
    have hrel := HRel.out
    rw [hend, List.append_nil] at hrel
    have HT : Hid (bodF 1 s1 = (tabV (t1, acc), s)) := Lib.hid (by rw [HT0.out, ← hrel])
    have hex : ¬ ((i : Int) < (cn : Int)) ∨ ((i : Int) < (cn : Int) ∧ s.2 = true) := by
      by_cases h1 : i < cn
      · refine .inr ⟨by omega, ?_⟩
        cases e : s.2
        · exact absurd ⟨h1, e⟩ hgo
        · rfl
      · exact .inl (by omega)
    clear hgo hend hrel HT0 HRel HAC HLS hi HTT
    have HLF : Hid (loadF l = if okF l (tabV (t1, acc), s) = true then some (tabV (t1, acc)) else none) := Lib.hid (by rw [HLO.out, HT.out])
    obtain ⟨pr', nr', cr', q0, q1, hnr, _, _⟩ := bool_cell S.out.rd
    have HIN := Lib.hid (fun (h : (s : RS).2 = false) => (by have := HII.out (by rw [HT.out]; exact h); rw [HT.out] at this; exact this : (tabV (t1, acc)).inI))
    have HNR := Lib.hid hnr
    clear hnr HT HLO HII
    obtain ⟨lF, fF⟩ := s
    simp only at q1
    simp only at hex
    cases fF
    rotate_left
    · clear HIN
      rcases hex with hA | ⟨hA, _⟩
      · have tA : decide ((i : Int) < (cn : Int)) = false := decide_eq_false hA
        have HLN : Hid (loadF l = none) := Lib.hid (by rw [HLF.out, ok_wrong rfl]; rfl)
        obtain ⟨⟨z0, z1, z2, z3, z4, z5, z6, z7, z8, zf⟩, hx, hbf, _⟩ := S.out.done (.int .i64 0) (.string ⟨#[]⟩) (.slice none 0 0) (.string ⟨#[]⟩) (.string ⟨#[]⟩) (.slice none 0 0) (.slice none 0 0) (.string ⟨#[]⟩) (.slice none 0 0)
        obtain ⟨y0, y1, y2, y3, y4, y5, y6, y7, y8, _⟩ := nine_cells hx
        have FI := FC.out _ hbf HLN.out
        unfold set9 at y0 y1 y2 y3 y4 y5 y6 y7 y8 FI
        clear hx hbf
        go_wp2_with fail
        refine bodyPost_ret (v := .tuple #[.agg #[.int .i64 0, .string ⟨#[]⟩, .slice none 0 0, .string ⟨#[]⟩, .string ⟨#[]⟩, .slice none 0 0, .slice none 0 0, .string ⟨#[]⟩, .slice none 0 0], .int .i64 8]) ?_ rfl FI
        simp [results, Tryz.results15, go_sem, y0, y1, y2, y3, y4, y5, y6, y7, y8]

      · have tA : decide ((i : Int) < (cn : Int)) = true := decide_eq_true hA
        have HLN : Hid (loadF l = none) := Lib.hid (by rw [HLF.out, ok_wrong rfl]; rfl)
        obtain ⟨⟨z0, z1, z2, z3, z4, z5, z6, z7, z8, zf⟩, hx, hbf, _⟩ := S.out.done (.int .i64 0) (.string ⟨#[]⟩) (.slice none 0 0) (.string ⟨#[]⟩) (.string ⟨#[]⟩) (.slice none 0 0) (.slice none 0 0) (.string ⟨#[]⟩) (.slice none 0 0)
        obtain ⟨y0, y1, y2, y3, y4, y5, y6, y7, y8, _⟩ := nine_cells hx
        have FI := FC.out _ hbf HLN.out
        unfold set9 at y0 y1 y2 y3 y4 y5 y6 y7 y8 FI
        clear hx hbf
        go_wp2_with fail
        refine bodyPost_ret (v := .tuple #[.agg #[.int .i64 0, .string ⟨#[]⟩, .slice none 0 0, .string ⟨#[]⟩, .string ⟨#[]⟩, .slice none 0 0, .slice none 0 0, .string ⟨#[]⟩, .slice none 0 0], .int .i64 8]) ?_ rfl FI
        simp [results, Tryz.results15, go_sem, y0, y1, y2, y3, y4, y5, y6, y7, y8]

    have hA : ¬ ((i : Int) < (cn : Int)) := by
      rcases hex with hA | ⟨_, hB⟩
      · exact hA
      · cases hB
    have tA : decide ((i : Int) < (cn : Int)) = false := decide_eq_false hA
    clear hex
    obtain ⟨p0, p1, p2, p3, p4, p5, p6, p7, p8⟩ := S.out.cells
    by_cases hlF : lF = []
    rotate_left
    · have hpos : 0 < nr' := by rw [HNR.out]; exact List.length_pos_iff.2 hlF
      have t9 : decide ((0 : Int) < (nr' : Int)) = true := decide_eq_true (by omega)
      have HLN : Hid (loadF l = none) := Lib.hid (by rw [HLF.out, ok_right, if_neg (by simp [hlF])])
      obtain ⟨⟨z0, z1, z2, z3, z4, z5, z6, z7, z8, zf⟩, hx, hbf, _⟩ := S.out.done (.int .i64 0) (.string ⟨#[]⟩) (.slice none 0 0) (.string ⟨#[]⟩) (.string ⟨#[]⟩) (.slice none 0 0) (.slice none 0 0) (.string ⟨#[]⟩) (.slice none 0 0)
      obtain ⟨y0, y1, y2, y3, y4, y5, y6, y7, y8, _⟩ := nine_cells hx
      have FI := FC.out _ hbf HLN.out
      unfold set9 at y0 y1 y2 y3 y4 y5 y6 y7 y8 FI
      clear hx hbf
      go_wp2_with fail
      refine bodyPost_ret (v := .tuple #[.agg #[.int .i64 0, .string ⟨#[]⟩, .slice none 0 0, .string ⟨#[]⟩, .string ⟨#[]⟩, .slice none 0 0, .slice none 0 0, .string ⟨#[]⟩, .slice none 0 0], .int .i64 8]) ?_ rfl FI
      simp [results, Tryz.results15, go_sem, y0, y1, y2, y3, y4, y5, y6, y7, y8]

    have hn0 : nr' = 0 := by rw [HNR.out, hlF]; rfl
    subst hn0
    have t9 : decide ((0 : Int) < ((0 : Nat) : Int)) = false := rfl
    have KG := refgood_all S.out.ok.holds (HIN.out rfl) S.out.ok.lens
    unfold recV at KG
    obtain ⟨gq, hgq⟩ : ∃ g, goodR (tabV (t1, acc)) = g := ⟨_, rfl⟩
    rw [hgq] at KG
    have HGQ := Lib.hid hgq
    have HLE := Lib.hid hlF
    clear hgq hlF HIN
    cases gq
    · go_wp2_with fail
      refine KG.mono ?_
      rintro e w9 ⟨rfl, hb9⟩
      have S := Lib.hid (S.out.next hb9)
      clear hb9 KG p0 p1 p2 p3 p4 p5 p6 p7 p8 q0 q1
      have HLN : Hid (loadF l = none) := Lib.hid (by rw [HLF.out, ok_right, if_neg (by simp [HGQ.out])])
      obtain ⟨⟨z0, z1, z2, z3, z4, z5, z6, z7, z8, zf⟩, hx, hbf, _⟩ := S.out.done (.int .i64 0) (.string ⟨#[]⟩) (.slice none 0 0) (.string ⟨#[]⟩) (.string ⟨#[]⟩) (.slice none 0 0) (.slice none 0 0) (.string ⟨#[]⟩) (.slice none 0 0)
      obtain ⟨y0, y1, y2, y3, y4, y5, y6, y7, y8, _⟩ := nine_cells hx
      have FI := FC.out _ hbf HLN.out
      unfold set9 at y0 y1 y2 y3 y4 y5 y6 y7 y8 FI
      clear hx hbf
      go_wp2_with fail
      refine bodyPost_ret (v := .tuple #[.agg #[.int .i64 0, .string ⟨#[]⟩, .slice none 0 0, .string ⟨#[]⟩, .string ⟨#[]⟩, .slice none 0 0, .slice none 0 0, .string ⟨#[]⟩, .slice none 0 0], .int .i64 8]) ?_ rfl FI
      simp [results, Tryz.results15, go_sem, y0, y1, y2, y3, y4, y5, y6, y7, y8]

    go_wp2_with fail
    refine KG.mono ?_
    rintro e w9 ⟨rfl, hb9⟩
    have S := Lib.hid (S.out.next hb9)
    clear hb9 KG p0 p1 p2 p3 p4 p5 p6 p7 p8 q0 q1
    by_cases hbig : 262144 < l.length
    · have t8 : decide ((262144 : Int) < (nl : Int)) = true := decide_eq_true (by have := HNL.out; omega)
      have t8' : 262144 < nl := by have := HNL.out; omega
      have HBIG := Lib.hid hbig
      clear hbig
      have HLN : Hid (loadF l = none) := Lib.hid (by rw [HLF.out, ok_right, if_neg (by have := HBIG.out; simp; intro _ _; omega)])
      obtain ⟨⟨z0, z1, z2, z3, z4, z5, z6, z7, z8, zf⟩, hx, hbf, _⟩ := S.out.done (.int .i64 0) (.string ⟨#[]⟩) (.slice none 0 0) (.string ⟨#[]⟩) (.string ⟨#[]⟩) (.slice none 0 0) (.slice none 0 0) (.string ⟨#[]⟩) (.slice none 0 0)
      obtain ⟨y0, y1, y2, y3, y4, y5, y6, y7, y8, _⟩ := nine_cells hx
      have FI := FC.out _ hbf HLN.out
      unfold set9 at y0 y1 y2 y3 y4 y5 y6 y7 y8 FI
      clear hx hbf
      go_wp2_with fail
      refine bodyPost_ret (v := .tuple #[.agg #[.int .i64 0, .string ⟨#[]⟩, .slice none 0 0, .string ⟨#[]⟩, .string ⟨#[]⟩, .slice none 0 0, .slice none 0 0, .string ⟨#[]⟩, .slice none 0 0], .int .i64 8]) ?_ rfl FI
      simp [results, Tryz.results15, go_sem, y0, y1, y2, y3, y4, y5, y6, y7, y8]

    have t8 : decide ((262144 : Int) < (nl : Int)) = false := decide_eq_false (by have := HNL.out; omega)
    have t8' : ¬ 262144 < nl := by have := HNL.out; omega
    have HOK : Hid (loadF l = some (tabV (t1, acc))) := Lib.hid (by rw [HLF.out, ok_right, if_pos (by simp [HLE.out, HGQ.out]; omega)])
    clear hbig
    obtain ⟨p0, p1, p2, p3, p4, p5, p6, p7, p8⟩ := S.out.cells
    obtain ⟨⟨z0, z1, z2, z3, z4, z5, z6, z7, z8, zf⟩, hx, hbf, hok⟩ := S.out.done (.int .i64 (tabV (t1, acc)).k) (.string (tabV (t1, acc)).tn) (.slice a1 i c1) (.string (tabV (t1, acc)).rn) (.string (tabV (t1, acc)).rt) (.slice none 0 0) (.slice none 0 0) (.string (tabV (t1, acc)).nm) (.slice none 0 0)
    obtain ⟨y0, y1, y2, y3, y4, y5, y6, y7, y8, _⟩ := nine_cells hx
    have FI := FO.out _ (.slice a1 i c1) (.slice none 0 0) (.slice none 0 0) (.slice none 0 0) _ hbf HOK.out hok
    unfold set9 at y0 y1 y2 y3 y4 y5 y6 y7 y8 FI
    unfold recV at FI
    clear hx hbf hok
    go_wp2_with fail
    refine bodyPost_ret (v := .tuple #[.agg #[.int .i64 (tabV (t1, acc)).k, .string (tabV (t1, acc)).tn, (.slice a1 i c1), .string (tabV (t1, acc)).rn, .string (tabV (t1, acc)).rt, (.slice none 0 0), (.slice none 0 0), .string (tabV (t1, acc)).nm, (.slice none 0 0)], .int .i64 0]) ?_ rfl FI
    simp [results, Tryz.results15, go_sem, y0, y1, y2, y3, y4, y5, y6, y7, y8]
end Go.Proofs.YtehfoaicohnpfaaGreatDoor
/- Contract of the document's Load: records of a rollup. Conditions: at most 1000000 bytes. -/
set_option maxRecDepth 100000
namespace Go.Proofs.YtehfoaicohnpfaaGreatDoor
open Go.RowKit Go.Maps Go.Sort Go.Lib

set_option maxHeartbeats 12800000 in
theorem rload_2 {w : World} {pa : Option Addr} {nl k : Nat} {l : List UInt8} (H : Holds w (.slice pa nl k) (u8s l)) (hl : l.length ≤ 1000000) (hk : (numF (l, false)).1 = 2) :
    Calls Tryz.prog 15 #[.slice pa nl k] w (RLoadP w l) := by
  have hnl := H.len.1
  rw [u8s_len] at hnl
  have HNL := Lib.hid hnl
  obtain ⟨P, hP⟩ : ∃ P, RLoadP w l = P := ⟨_, rfl⟩
  rw [hP]
  have FC := Lib.hid (fun (W' : World) (hb : Below w.heap.size w W') (h : loadF l = none) => (by rw [← hP]; exact ⟨hb, .inr ⟨h, rfl⟩⟩ : P (.returned (.tuple #[.agg #[.int .i64 0, .string ⟨#[]⟩, .slice none 0 0, .string ⟨#[]⟩, .string ⟨#[]⟩, .slice none 0 0, .slice none 0 0, .string ⟨#[]⟩, .slice none 0 0], .int .i64 8])) W'))
  have FO := Lib.hid (fun (x : RV) (a b c d : Value) (W' : World) (hb : Below w.heap.size w W') (h : loadF l = some x) (hk : RecOk w.heap.size x a b c d W') => (by rw [← hP]; exact ⟨hb, .inl ⟨x, a, b, c, d, h, rfl, hk⟩⟩ : P (.returned (.tuple #[recV x a b c d, .int .i64 0])) W'))
  have HS0 := Lib.hid (LdQ.start H)
  have KN := rnum_at HS0.out.rd hl
  have hnum := numF_len (l, false)
  have hkk : ¬ ((numF (l, false)).1 < 1 ∨ 3 < (numF (l, false)).1) := by omega
  have HLO : Hid (loadF l = if okF l (bodF (numF (l, false)).1 (numF (l, false)).2) = true then some (bodF (numF (l, false)).1 (numF (l, false)).2).1 else none) := Lib.hid (by unfold loadF; rw [if_neg hkk])
  have HII := Lib.hid (bod_in hl hkk)
  obtain ⟨⟨u, s1⟩, hq⟩ : ∃ v, numF (l, false) = v := ⟨_, rfl⟩
  rw [hq] at KN hk HLO HII hnum
  simp only at KN hk HLO HII hnum
  have HL1 := Lib.hid (show s1.1.length ≤ 1000000 by omega)
  subst hk
  clear hq hnum H hP hl hnl hkk
  go_enter Tryz.func15, Tryz.ntmps15
  go_wp2_with fail
  refine KN.mono ?_
  rintro e w1 ⟨rfl, hr, he⟩
  have S := Lib.hid (HS0.out.read hr he)
  obtain ⟨p0, p1, p2, p3, p4, p5, p6, p7, p8⟩ := S.out.cells
  have pf := S.out.free
  have S2 := Lib.hid (S.out.setK 2)
  obtain ⟨g0, _⟩ := S2.out.cells
  have KT := rtxt_at S2.out.rd HL1.out
  have htl := txtF_len s1
  obtain ⟨⟨t1, s2⟩, hT1⟩ : ∃ v, txtF s1 = v := ⟨_, rfl⟩
  rw [hT1] at KT htl
  have HT1 := Lib.hid hT1
  have HL2 := Lib.hid (show s2.1.length ≤ 1000000 by have := HL1.out; simp only at htl; omega)
  clear hr he KN HS0 hT1 htl
  go_wp2_with fail
  refine KT.mono ?_
  rintro e w3 ⟨rfl, hr, he⟩
  have S3 := Lib.hid (S2.out.read hr he)
  obtain ⟨_, _, _, g1, _⟩ := S3.out.cells
  have gf := S3.out.free
  have S4 := Lib.hid (S3.out.setRn t1)
  have KT2 := rtxt_at S4.out.rd HL2.out
  have htl := txtF_len s2
  obtain ⟨⟨t2, s3⟩, hT2⟩ : ∃ v, txtF s2 = v := ⟨_, rfl⟩
  rw [hT2] at KT2 htl
  have HT2 := Lib.hid hT2
  have HL3 := Lib.hid (show s3.1.length ≤ 1000000 by have := HL2.out; simp only at htl; omega)
  clear hr he KT hT2 htl g0 p0 p1 p2 p3 p4 p5 p6 p7 p8 pf S S2
  go_wp2_with fail
  refine KT2.mono ?_
  rintro e w4 ⟨rfl, hr, he⟩
  have S5 := Lib.hid (S4.out.read hr he)
  clear g1 gf S3 S4
  obtain ⟨_, _, _, _, g1, _⟩ := S5.out.cells
  have gf := S5.out.free
  have S6 := Lib.hid (S5.out.setRt t2)
  have KC := rcnt_at S6.out.rd HL3.out
  have hcl := cntF_len s3
  have hcle := cntF_le s3
  obtain ⟨⟨cn, s4⟩, hC1⟩ : ∃ v, cntF s3 = v := ⟨_, rfl⟩
  rw [hC1] at KC hcl hcle
  have HC1 := Lib.hid hC1
  have HL4 := Lib.hid (show s4.1.length ≤ 1000000 ∧ cn ≤ 1000000 by have := HL3.out; simp only at hcl hcle; omega)
  clear hr he KT2 hC1 hcl hcle
  go_wp2_with fail
  refine KC.mono ?_
  rintro e w5 ⟨rfl, hr, he⟩
  have S7 := Lib.hid (show LdQ w s4 (rolV (t1, t2, [], [])) (.slice none 0 0) (.slice none 0 0) (.slice none 0 0) (.slice none 0 0) w5 from S6.out.read hr he)
  obtain ⟨TT, hTT⟩ : ∃ v, loopF txtF cn s4 = v := ⟨_, rfl⟩
  have HTT := Lib.hid hTT
  clear hr he KC g1 gf S5 S6 hTT
  go_wp2_with fail
  go_loopw [11] (fun s8 W => ∃ (i : Nat) (acc : List ByteArray) (s : RS) (a1 : Option Addr) (c1 : Nat), s8 = .int .i64 i ∧ i ≤ cn ∧ Hid (acc.length = i) ∧ Hid (LdQ w s (rolV (t1, t2, acc, [])) (.slice none 0 0) (.slice a1 i c1) (.slice none 0 0) (.slice none 0 0) W) ∧ Hid (s.1.length ≤ 1000000) ∧ Hid ((acc ++ (loopF txtF (cn - i) s).1, (loopF txtF (cn - i) s).2) = TT)) (fun s8 _ => cn - (RowKit.intOf s8).toNat)
  case atStart => exact ⟨0, [], s4, none, 0, rfl, by omega, Lib.hid rfl, S7, Lib.hid HL4.out.1, Lib.hid (by rw [List.nil_append]; exact HTT.out)⟩
  case round =>
    clear S7
    obtain ⟨i, acc, s, a1, c1, rfl, hi, HAC, S, HLS, HRel⟩ := hrel
    by_cases hgo : i < cn ∧ s.2 = false
    · obtain ⟨hlt, hsf⟩ := hgo
      obtain ⟨sl, sf⟩ := s
      simp only at hsf
      subst hsf
      obtain ⟨pr', nr', cr', q0, q1, hnr, _, _⟩ := bool_cell S.out.rd
      simp only at q1
      have hg := loop_go (step := txtF) (l := sl) hlt
      have htl := txtF_len (sl, false)
      have hls := HLS.out
      have KNN := Lib.hid (fun (V : World) (hV : RdAt V (w.heap.size + 1) (sl, false)) => rtxt_at hV hls)
      obtain ⟨⟨y6, s6⟩, hT6⟩ : ∃ v, txtF (sl, false) = v := ⟨_, rfl⟩
      rw [hT6] at KNN htl hg
      have HG := Lib.hid hg
      have HL6 := Lib.hid (show s6.1.length ≤ 1000000 by simp only at htl hls; omega)
      have hlt' : (i : Int) < (cn : Int) := Int.ofNat_lt.2 hlt
      have b0 : (0 : Int) ≤ (i : Int) := Int.natCast_nonneg i
      have hwi : IntKind.i64.wrap ((i : Int) + 1) = (i : Int) + 1 := by have := HL4.out.2; rw [IntKind.wrap_i64]; omega
      have HLT := Lib.hid hlt
      clear hnr hg htl hT6 hls hi hlt
      go_wp2_with fail
      have S := Lib.hid (S.out.drewN 1)
      clear q0 q1
      have hS0 := S.out.cells.2.2.2.2.2.1
      refine wp_region_mix (fun V => V.cell? ⟨w.heap.size + 2, 5, none⟩ = some (.slice a1 i c1)) 9 [(true, 0), (true, 1), (true, 2), (true, 3), (false, 4), (false, 5), (false, 6), (true, 7), (true, 8), (false, 9)] (by kernel_rfl) (by decide +kernel) rfl (by decide +kernel) hS0 ?_
      iterate 4
        refine wpMix_take (v := ?_) rfl rfl ?_ ?_
        rotate_left
        · (intro W hW; (try dsimp only at hW); go_simp) <;> with_reducible rfl
        simp only [Act.put, List.setIfInBounds_toArray, List.set_cons_zero, List.set_cons_succ]
      refine wpMix_run rfl ?_
      intro K hK
      go_wp2_with fail
      refine (KNN.out _ S.out.rd).mono ?_
      rintro e w6 ⟨rfl, hr, he⟩
      have S := Lib.hid (S.out.read hr he)
      clear hr he KNN
      go_wp2_with fail
      refine hK.out _ _ (fun _ => S.out.cells.2.2.2.2.2.1) ?_
      clear hK K hS0
      refine wpMix_run rfl ?_
      intro K hK
      go_wp2_with fail
      refine hK.out _ _ (fun _ => (S.out.next (below_o w6 _)).cells.2.2.2.2.2.1) ?_
      clear hK K
      obtain ⟨a9, c9, X, R9, B9, S9⟩ := S.out.pushD y6 (by have := HAC.out; have := HL4.out.2; have := HLT.out; show acc.length ≤ 1000000; omega)
      have hS9 : LdQ w s6 (rolV (t1, t2, acc ++ [y6], [])) (.slice none 0 0) (.slice a9 (acc.length + 1) c9) (.slice none 0 0) (.slice none 0 0) (X.setCell ⟨w.heap.size + 2, 5, none⟩ (.slice a9 (acc.length + 1) c9)) := S9.out
      have R9' := R9.out
      have hlen : (rolV (t1, t2, acc, [])).rd.length = i := HAC.out
      rw [hlen] at R9'
      have hlen2 : acc.length = i := HAC.out
      rw [hlen2] at hS9
      have hXb := B9.trans S.out.box
      have hX2 : X.cell? ⟨w.heap.size + 2, 5, none⟩ = some (.slice a1 i c1) := by rw [cell_of_row _ _ _ _ _ _ hXb]; rfl
      have hXf := free_of_row hXb 5
      have HS9 := Lib.hid hS9
      have RR := Lib.hid R9'
      clear hS9 R9 R9' S9 hlen hlen2 hXb B9
      refine wpMix_run rfl ?_
      intro K hK
      refine wpList_append_run rfl (.tmp 130) (.tmp 133) 37 rfl rfl rfl (RR.out _) ?_
      go_wp2_with fail
      refine hK.out _ _ (fun _ => hX2) ?_
      clear hK K
      iterate 2
        refine wpMix_take (v := ?_) rfl rfl ?_ ?_
        rotate_left
        · (intro W hW; (try dsimp only at hW); go_simp) <;> with_reducible rfl
        simp only [Act.put, List.setIfInBounds_toArray, List.set_cons_zero, List.set_cons_succ]
      refine wpMix_run rfl ?_
      intro K hK
      go_wp2_with fail
      refine hK.out _ _ (fun h => absurd rfl h) ?_
      clear hK K
      refine wpMix_nil ?_
      clear hX2 hXf RR S
      go_wp2_with fail
      go_roundw
      case rel => exact ⟨i + 1, acc ++ [y6], s6, a9, c9, by go_num, by have := HLT.out; omega, Lib.hid (by rw [List.length_append, HAC.out]; rfl), HS9, Lib.hid HL6.out, Lib.hid (by rw [← HRel.out, HG.out, List.append_assoc]; rfl)⟩
      case measure => have := HLT.out; simp [RowKit.intOf]; omega
    have hend := loop_end (step := txtF) hgo
    have hTT2 := HRel.out
    rw [hend, List.append_nil] at hTT2
    have hTT2 := hTT2.symm
    by_cases h1 : i < cn
    · have hB : s.2 = true := by
        cases e : s.2
        · exact absurd ⟨h1, e⟩ hgo
        · rfl
      obtain ⟨ls, fs⟩ := s
      simp only at hB
      subst hB
      have tA : decide ((i : Int) < (cn : Int)) = true := decide_eq_true (by omega)
      have hA : (i : Int) < (cn : Int) := by omega
      clear hgo hend HRel HAC hi h1
      obtain ⟨pr', nr', cr', q0, q1, hnr, _, _⟩ := bool_cell S.out.rd
      clear hnr
      have KC := rcnt_at S.out.rd HLS.out
      have hcl := cntF_len (ls, true)
      have hcle := cntF_le (ls, true)
      obtain ⟨⟨n2, s6⟩, hC2⟩ : ∃ v, cntF (ls, true) = v := ⟨_, rfl⟩
      rw [hC2] at KC hcl hcle
      have HL6 := Lib.hid (show s6.1.length ≤ 1000000 ∧ n2 ≤ 1000000 by have := HLS.out; simp only at hcl hcle this; omega)
      obtain ⟨TT3, hTT3⟩ : ∃ v, loopF stepM n2 s6 = v := ⟨_, rfl⟩
      have HTT3 := Lib.hid hTT3
      have HT0 : Hid (bodF 2 s1 = (rolV (t1, t2, acc, TT3.1), TT3.2)) := Lib.hid (by
        have h9 := HTT.out
        rw [hTT2] at h9
        unfold bodF
        rw [if_neg (by decide), if_pos rfl]
        unfold rolF
        simp only
        rw [HT1.out, HT2.out, HC1.out, h9, hC2, hTT3])
      clear hcl hcle hC2 hTT3 hTT2 HTT HLS
      try simp only at q1
      go_wp2_with fail
      refine KC.mono ?_
      rintro e w7 ⟨rfl, hr, he⟩
      have S7 := Lib.hid (show LdQ w s6 (rolV (t1, t2, acc, [])) (.slice none 0 0) (.slice a1 i c1) (.slice none 0 0) (.slice none 0 0) w7 from S.out.read hr he)
      clear hr he KC q0 q1 S
      go_wp2_with fail
      go_loopw [12] (fun s8 W => ∃ (j : Nat) (ac : List (Int × ByteArray)) (s : RS) (a3 : Option Addr) (c3 : Nat), s8 = .int .i64 j ∧ j ≤ n2 ∧ Hid (ac.length = j) ∧ Hid (LdQ w s (rolV (t1, t2, acc, ac)) (.slice none 0 0) (.slice a1 i c1) (.slice a3 j c3) (.slice none 0 0) W) ∧ Hid (s.1.length ≤ 1000000) ∧ Hid ((ac ++ (loopF stepM (n2 - j) s).1, (loopF stepM (n2 - j) s).2) = TT3)) (fun s8 _ => n2 - (RowKit.intOf s8).toNat)
      case atStart => exact ⟨0, [], s6, none, 0, rfl, by omega, Lib.hid rfl, S7, Lib.hid HL6.out.1, Lib.hid (by rw [List.nil_append]; exact HTT3.out)⟩
      case round =>
        clear S7
        obtain ⟨j, ac, s, a3, c3, rfl, hj, HAC3, S, HLS, HRel⟩ := hrel
        by_cases hgo : j < n2 ∧ s.2 = false
        · obtain ⟨hlt, hsf⟩ := hgo
          obtain ⟨sl, sf⟩ := s
          simp only at hsf
          subst hsf
          obtain ⟨pr', nr', cr', q0, q1, hnr, _, _⟩ := bool_cell S.out.rd
          simp only at q1
          have hg := loop_go (step := stepM) (l := sl) hlt
          have KT := rnum_at S.out.rd HLS.out
          have htl := numF_len (sl, false)
          obtain ⟨⟨u5, s5⟩, hN5⟩ : ∃ v, numF (sl, false) = v := ⟨_, rfl⟩
          rw [hN5] at KT htl
          have hsl5 : s5.1.length ≤ 1000000 := by have := HLS.out; simp only at htl this; omega
          have hnl6 := txtF_len s5
          have KNN := Lib.hid (fun (V : World) (hV : RdAt V (w.heap.size + 1) s5) => rtxt_at hV hsl5)
          obtain ⟨⟨y6, s8⟩, hT6⟩ : ∃ v, txtF s5 = v := ⟨_, rfl⟩
          rw [hT6] at KNN hnl6
          have hw6 : RowKit.wrap64 (u5 : Int) = iN u5 := by unfold iN RowKit.wrap64; rw [IntKind.wrap_i64]
          obtain ⟨z5, hz5⟩ : ∃ z, iN u5 = z := ⟨_, rfl⟩
          rw [hz5] at hw6
          have hst : stepM (sl, false) = ((z5, y6), s8) := by
            rw [← hz5]
            unfold stepM
            rw [hN5]
            simp only
            rw [hT6]
          rw [hst] at hg
          have HG := Lib.hid hg
          have HL8 := Lib.hid (show s8.1.length ≤ 1000000 by simp only at hnl6; omega)
          have hlt' : (j : Int) < (n2 : Int) := Int.ofNat_lt.2 hlt
          have b0 : (0 : Int) ≤ (j : Int) := Int.natCast_nonneg j
          have hwi : IntKind.i64.wrap ((j : Int) + 1) = (j : Int) + 1 := by have := HL6.out.2; rw [IntKind.wrap_i64]; omega
          have HLT := Lib.hid hlt
          clear hnr hg htl hN5 hsl5 hnl6 hT6 hst hj hlt hz5
          go_wp2_with fail
          refine KT.mono ?_
          rintro e w5 ⟨rfl, hr, he⟩
          have S := Lib.hid ((S.out.read hr he).drewN 1)
          clear hr he KT q0 q1
          go_wp2_with fail
          have hS0 := S.out.cells.2.2.2.2.2.2.1
          refine wp_region_mix (fun V => V.cell? ⟨w.heap.size + 2, 6, none⟩ = some (.slice a3 j c3)) 11 [(true, 0), (true, 1), (true, 2), (true, 3), (true, 4), (false, 5), (true, 6), (false, 7), (false, 8), (true, 9), (true, 10), (false, 11)] (by kernel_rfl) (by decide +kernel) rfl (by decide +kernel) hS0 ?_
          iterate 5
            refine wpMix_take (v := ?_) rfl rfl ?_ ?_
            rotate_left
            · (intro W hW; (try dsimp only at hW); go_simp) <;> with_reducible rfl
            simp only [Act.put, List.setIfInBounds_toArray, List.set_cons_zero, List.set_cons_succ]
          refine wpMix_run rfl ?_
          intro K hK
          go_wp2_with fail
          refine (KNN.out _ S.out.rd).mono ?_
          rintro e w6 ⟨rfl, hr, he⟩
          have S := Lib.hid (S.out.read hr he)
          clear hr he KNN
          go_wp2_with fail
          refine hK.out _ _ (fun _ => S.out.cells.2.2.2.2.2.2.1) ?_
          clear hK K hS0
          iterate 1
            refine wpMix_take (v := ?_) rfl rfl ?_ ?_
            rotate_left
            · (intro W hW; (try dsimp only at hW); go_simp) <;> with_reducible rfl
            simp only [Act.put, List.setIfInBounds_toArray, List.set_cons_zero, List.set_cons_succ]
          refine wpMix_run rfl ?_
          intro K hK
          go_wp2_with fail
          refine hK.out _ _ (fun _ => (S.out.next (below_o w6 _)).cells.2.2.2.2.2.2.1) ?_
          clear hK K
          obtain ⟨a9, c9, X, R9, B9, S9⟩ := S.out.pushM (z5, y6) (by have := HAC3.out; have := HL6.out.2; have := HLT.out; show ac.length ≤ 1000000; omega)
          have hS9 : LdQ w s8 (rolV (t1, t2, acc, ac ++ [(z5, y6)])) (.slice none 0 0) (.slice a1 i c1) (.slice a9 (ac.length + 1) c9) (.slice none 0 0) (X.setCell ⟨w.heap.size + 2, 6, none⟩ (.slice a9 (ac.length + 1) c9)) := S9.out
          have R9' := R9.out
          simp only at R9'
          have hlen : (rolV (t1, t2, acc, ac)).rm.length = j := HAC3.out
          rw [hlen] at R9'
          have hlen2 : ac.length = j := HAC3.out
          rw [hlen2] at hS9
          have hXb := B9.trans S.out.box
          have hX2 : X.cell? ⟨w.heap.size + 2, 6, none⟩ = some (.slice a3 j c3) := by rw [cell_of_row _ _ _ _ _ _ hXb]; rfl
          have hXf := free_of_row hXb 6
          have HS9 := Lib.hid hS9
          have RR := Lib.hid R9'
          clear hS9 R9 R9' S9 hlen hlen2 hXb B9
          clear hw6
          refine wpMix_run rfl ?_
          intro K hK
          refine wpList_append_run rfl (.tmp 156) (.tmp 161) 38 rfl rfl rfl (RR.out _) ?_
          go_wp2_with fail
          refine hK.out _ _ (fun _ => hX2) ?_
          clear hK K
          iterate 2
            refine wpMix_take (v := ?_) rfl rfl ?_ ?_
            rotate_left
            · (intro W hW; (try dsimp only at hW); go_simp) <;> with_reducible rfl
            simp only [Act.put, List.setIfInBounds_toArray, List.set_cons_zero, List.set_cons_succ]
          refine wpMix_run rfl ?_
          intro K hK
          go_wp2_with fail
          refine hK.out _ _ (fun h => absurd rfl h) ?_
          clear hK K
          refine wpMix_nil ?_
          clear hX2 hXf RR S
          go_wp2_with fail
          go_roundw
          case rel => exact ⟨j + 1, ac ++ [(z5, y6)], s8, a9, c9, by go_num, by have := HLT.out; omega, Lib.hid (by rw [List.length_append, HAC3.out]; rfl), HS9, Lib.hid HL8.out, Lib.hid (by rw [← HRel.out, HG.out, List.append_assoc]; rfl)⟩
          case measure => have := HLT.out; simp [RowKit.intOf]; omega
        have hend := loop_end (step := stepM) hgo
        have hrel := HRel.out
        rw [hend, List.append_nil] at hrel
        have HT : Hid (bodF 2 s1 = (rolV (t1, t2, acc, ac), s)) := Lib.hid (by rw [HT0.out, ← hrel])
        have hex : ¬ ((j : Int) < (n2 : Int)) ∨ ((j : Int) < (n2 : Int) ∧ s.2 = true) := by
          by_cases h1 : j < n2
          · refine .inr ⟨by omega, ?_⟩
            cases e : s.2
            · exact absurd ⟨h1, e⟩ hgo
            · rfl
          · exact .inl (by omega)
        clear hgo hend hrel HT0 HRel HAC3 HLS hj HTT3
        have HLF : Hid (loadF l = if okF l (rolV (t1, t2, acc, ac), s) = true then some (rolV (t1, t2, acc, ac)) else none) := Lib.hid (by rw [HLO.out, HT.out])
        obtain ⟨pr', nr', cr', q0, q1, hnr, _, _⟩ := bool_cell S.out.rd
        have HIN := Lib.hid (fun (h : (s : RS).2 = false) => (by have := HII.out (by rw [HT.out]; exact h); rw [HT.out] at this; exact this : (rolV (t1, t2, acc, ac)).inI))
        have HNR := Lib.hid hnr
        clear hnr HT HLO HII
        obtain ⟨lF, fF⟩ := s
        simp only at q1
        simp only at hex
        cases fF
        rotate_left
        · clear HIN
          rcases hex with hA | ⟨hA, _⟩
          · have tA : decide ((j : Int) < (n2 : Int)) = false := decide_eq_false hA
            have HLN : Hid (loadF l = none) := Lib.hid (by rw [HLF.out, ok_wrong rfl]; rfl)
            obtain ⟨⟨z0, z1, z2, z3, z4, z5, z6, z7, z8, zf⟩, hx, hbf, _⟩ := S.out.done (.int .i64 0) (.string ⟨#[]⟩) (.slice none 0 0) (.string ⟨#[]⟩) (.string ⟨#[]⟩) (.slice none 0 0) (.slice none 0 0) (.string ⟨#[]⟩) (.slice none 0 0)
            obtain ⟨y0, y1, y2, y3, y4, y5, y6, y7, y8, _⟩ := nine_cells hx
            have FI := FC.out _ hbf HLN.out
            unfold set9 at y0 y1 y2 y3 y4 y5 y6 y7 y8 FI
            clear hx hbf
            go_wp2_with fail
            refine bodyPost_ret (v := .tuple #[.agg #[.int .i64 0, .string ⟨#[]⟩, .slice none 0 0, .string ⟨#[]⟩, .string ⟨#[]⟩, .slice none 0 0, .slice none 0 0, .string ⟨#[]⟩, .slice none 0 0], .int .i64 8]) ?_ rfl FI
            simp [results, Tryz.results15, go_sem, y0, y1, y2, y3, y4, y5, y6, y7, y8]

          · have tA : decide ((j : Int) < (n2 : Int)) = true := decide_eq_true hA
            have HLN : Hid (loadF l = none) := Lib.hid (by rw [HLF.out, ok_wrong rfl]; rfl)
            obtain ⟨⟨z0, z1, z2, z3, z4, z5, z6, z7, z8, zf⟩, hx, hbf, _⟩ := S.out.done (.int .i64 0) (.string ⟨#[]⟩) (.slice none 0 0) (.string ⟨#[]⟩) (.string ⟨#[]⟩) (.slice none 0 0) (.slice none 0 0) (.string ⟨#[]⟩) (.slice none 0 0)
            obtain ⟨y0, y1, y2, y3, y4, y5, y6, y7, y8, _⟩ := nine_cells hx
            have FI := FC.out _ hbf HLN.out
            unfold set9 at y0 y1 y2 y3 y4 y5 y6 y7 y8 FI
            clear hx hbf
            go_wp2_with fail
            refine bodyPost_ret (v := .tuple #[.agg #[.int .i64 0, .string ⟨#[]⟩, .slice none 0 0, .string ⟨#[]⟩, .string ⟨#[]⟩, .slice none 0 0, .slice none 0 0, .string ⟨#[]⟩, .slice none 0 0], .int .i64 8]) ?_ rfl FI
            simp [results, Tryz.results15, go_sem, y0, y1, y2, y3, y4, y5, y6, y7, y8]

        have hA : ¬ ((j : Int) < (n2 : Int)) := by
          rcases hex with hA | ⟨_, hB⟩
          · exact hA
          · cases hB
        have tA : decide ((j : Int) < (n2 : Int)) = false := decide_eq_false hA
        clear hex
        obtain ⟨p0, p1, p2, p3, p4, p5, p6, p7, p8⟩ := S.out.cells
        by_cases hlF : lF = []
        rotate_left
        · have hpos : 0 < nr' := by rw [HNR.out]; exact List.length_pos_iff.2 hlF
          have t9 : decide ((0 : Int) < (nr' : Int)) = true := decide_eq_true (by omega)
          have HLN : Hid (loadF l = none) := Lib.hid (by rw [HLF.out, ok_right, if_neg (by simp [hlF])])
          obtain ⟨⟨z0, z1, z2, z3, z4, z5, z6, z7, z8, zf⟩, hx, hbf, _⟩ := S.out.done (.int .i64 0) (.string ⟨#[]⟩) (.slice none 0 0) (.string ⟨#[]⟩) (.string ⟨#[]⟩) (.slice none 0 0) (.slice none 0 0) (.string ⟨#[]⟩) (.slice none 0 0)
          obtain ⟨y0, y1, y2, y3, y4, y5, y6, y7, y8, _⟩ := nine_cells hx
          have FI := FC.out _ hbf HLN.out
          unfold set9 at y0 y1 y2 y3 y4 y5 y6 y7 y8 FI
          clear hx hbf
          go_wp2_with fail
          refine bodyPost_ret (v := .tuple #[.agg #[.int .i64 0, .string ⟨#[]⟩, .slice none 0 0, .string ⟨#[]⟩, .string ⟨#[]⟩, .slice none 0 0, .slice none 0 0, .string ⟨#[]⟩, .slice none 0 0], .int .i64 8]) ?_ rfl FI
          simp [results, Tryz.results15, go_sem, y0, y1, y2, y3, y4, y5, y6, y7, y8]

        have hn0 : nr' = 0 := by rw [HNR.out, hlF]; rfl
        subst hn0
        have t9 : decide ((0 : Int) < ((0 : Nat) : Int)) = false := rfl
        have KG := refgood_all S.out.ok.holds (HIN.out rfl) S.out.ok.lens
        unfold recV at KG
        obtain ⟨gq, hgq⟩ : ∃ g, goodR (rolV (t1, t2, acc, ac)) = g := ⟨_, rfl⟩
        rw [hgq] at KG
        have HGQ := Lib.hid hgq
        have HLE := Lib.hid hlF
        clear hgq hlF HIN
        cases gq
        · go_wp2_with fail
          refine KG.mono ?_
          rintro e w9 ⟨rfl, hb9⟩
          have S := Lib.hid (S.out.next hb9)
          clear hb9 KG p0 p1 p2 p3 p4 p5 p6 p7 p8 q0 q1
          have HLN : Hid (loadF l = none) := Lib.hid (by rw [HLF.out, ok_right, if_neg (by simp [HGQ.out])])
          obtain ⟨⟨z0, z1, z2, z3, z4, z5, z6, z7, z8, zf⟩, hx, hbf, _⟩ := S.out.done (.int .i64 0) (.string ⟨#[]⟩) (.slice none 0 0) (.string ⟨#[]⟩) (.string ⟨#[]⟩) (.slice none 0 0) (.slice none 0 0) (.string ⟨#[]⟩) (.slice none 0 0)
          obtain ⟨y0, y1, y2, y3, y4, y5, y6, y7, y8, _⟩ := nine_cells hx
          have FI := FC.out _ hbf HLN.out
          unfold set9 at y0 y1 y2 y3 y4 y5 y6 y7 y8 FI
          clear hx hbf
          go_wp2_with fail
          refine bodyPost_ret (v := .tuple #[.agg #[.int .i64 0, .string ⟨#[]⟩, .slice none 0 0, .string ⟨#[]⟩, .string ⟨#[]⟩, .slice none 0 0, .slice none 0 0, .string ⟨#[]⟩, .slice none 0 0], .int .i64 8]) ?_ rfl FI
          simp [results, Tryz.results15, go_sem, y0, y1, y2, y3, y4, y5, y6, y7, y8]

        go_wp2_with fail
        refine KG.mono ?_
        rintro e w9 ⟨rfl, hb9⟩
        have S := Lib.hid (S.out.next hb9)
        clear hb9 KG p0 p1 p2 p3 p4 p5 p6 p7 p8 q0 q1
        by_cases hbig : 262144 < l.length
        · have t8 : decide ((262144 : Int) < (nl : Int)) = true := decide_eq_true (by have := HNL.out; omega)
          have t8' : 262144 < nl := by have := HNL.out; omega
          have HBIG := Lib.hid hbig
          clear hbig
          have HLN : Hid (loadF l = none) := Lib.hid (by rw [HLF.out, ok_right, if_neg (by have := HBIG.out; simp; intro _ _; omega)])
          obtain ⟨⟨z0, z1, z2, z3, z4, z5, z6, z7, z8, zf⟩, hx, hbf, _⟩ := S.out.done (.int .i64 0) (.string ⟨#[]⟩) (.slice none 0 0) (.string ⟨#[]⟩) (.string ⟨#[]⟩) (.slice none 0 0) (.slice none 0 0) (.string ⟨#[]⟩) (.slice none 0 0)
          obtain ⟨y0, y1, y2, y3, y4, y5, y6, y7, y8, _⟩ := nine_cells hx
          have FI := FC.out _ hbf HLN.out
          unfold set9 at y0 y1 y2 y3 y4 y5 y6 y7 y8 FI
          clear hx hbf
          go_wp2_with fail
          refine bodyPost_ret (v := .tuple #[.agg #[.int .i64 0, .string ⟨#[]⟩, .slice none 0 0, .string ⟨#[]⟩, .string ⟨#[]⟩, .slice none 0 0, .slice none 0 0, .string ⟨#[]⟩, .slice none 0 0], .int .i64 8]) ?_ rfl FI
          simp [results, Tryz.results15, go_sem, y0, y1, y2, y3, y4, y5, y6, y7, y8]

        have t8 : decide ((262144 : Int) < (nl : Int)) = false := decide_eq_false (by have := HNL.out; omega)
        have t8' : ¬ 262144 < nl := by have := HNL.out; omega
        have HOK : Hid (loadF l = some (rolV (t1, t2, acc, ac))) := Lib.hid (by rw [HLF.out, ok_right, if_pos (by simp [HLE.out, HGQ.out]; omega)])
        clear hbig
        obtain ⟨p0, p1, p2, p3, p4, p5, p6, p7, p8⟩ := S.out.cells
        obtain ⟨⟨z0, z1, z2, z3, z4, z5, z6, z7, z8, zf⟩, hx, hbf, hok⟩ := S.out.done (.int .i64 (rolV (t1, t2, acc, ac)).k) (.string (rolV (t1, t2, acc, ac)).tn) (.slice none 0 0) (.string (rolV (t1, t2, acc, ac)).rn) (.string (rolV (t1, t2, acc, ac)).rt) (.slice a1 i c1) (.slice a3 j c3) (.string (rolV (t1, t2, acc, ac)).nm) (.slice none 0 0)
        obtain ⟨y0, y1, y2, y3, y4, y5, y6, y7, y8, _⟩ := nine_cells hx
        have FI := FO.out _ (.slice none 0 0) (.slice a1 i c1) (.slice a3 j c3) (.slice none 0 0) _ hbf HOK.out hok
        unfold set9 at y0 y1 y2 y3 y4 y5 y6 y7 y8 FI
        unfold recV at FI
        clear hx hbf hok
        go_wp2_with fail
        refine bodyPost_ret (v := .tuple #[.agg #[.int .i64 (rolV (t1, t2, acc, ac)).k, .string (rolV (t1, t2, acc, ac)).tn, (.slice none 0 0), .string (rolV (t1, t2, acc, ac)).rn, .string (rolV (t1, t2, acc, ac)).rt, (.slice a1 i c1), (.slice a3 j c3), .string (rolV (t1, t2, acc, ac)).nm, (.slice none 0 0)], .int .i64 0]) ?_ rfl FI
        simp [results, Tryz.results15, go_sem, y0, y1, y2, y3, y4, y5, y6, y7, y8]
    · have tA : decide ((i : Int) < (cn : Int)) = false := decide_eq_false (by omega)
      have hA : ¬ ((i : Int) < (cn : Int)) := by omega
      clear hgo hend HRel HAC hi h1
      obtain ⟨pr', nr', cr', q0, q1, hnr, _, _⟩ := bool_cell S.out.rd
      clear hnr
      have KC := rcnt_at S.out.rd HLS.out
      have hcl := cntF_len s
      have hcle := cntF_le s
      obtain ⟨⟨n2, s6⟩, hC2⟩ : ∃ v, cntF s = v := ⟨_, rfl⟩
      rw [hC2] at KC hcl hcle
      have HL6 := Lib.hid (show s6.1.length ≤ 1000000 ∧ n2 ≤ 1000000 by have := HLS.out; simp only at hcl hcle this; omega)
      obtain ⟨TT3, hTT3⟩ : ∃ v, loopF stepM n2 s6 = v := ⟨_, rfl⟩
      have HTT3 := Lib.hid hTT3
      have HT0 : Hid (bodF 2 s1 = (rolV (t1, t2, acc, TT3.1), TT3.2)) := Lib.hid (by
        have h9 := HTT.out
        rw [hTT2] at h9
        unfold bodF
        rw [if_neg (by decide), if_pos rfl]
        unfold rolF
        simp only
        rw [HT1.out, HT2.out, HC1.out, h9, hC2, hTT3])
      clear hcl hcle hC2 hTT3 hTT2 HTT HLS
      try simp only at q1
      go_wp2_with fail
      refine KC.mono ?_
      rintro e w7 ⟨rfl, hr, he⟩
      have S7 := Lib.hid (show LdQ w s6 (rolV (t1, t2, acc, [])) (.slice none 0 0) (.slice a1 i c1) (.slice none 0 0) (.slice none 0 0) w7 from S.out.read hr he)
      clear hr he KC q0 q1 S
      go_wp2_with fail
      go_loopw [12] (fun s8 W => ∃ (j : Nat) (ac : List (Int × ByteArray)) (s : RS) (a3 : Option Addr) (c3 : Nat), s8 = .int .i64 j ∧ j ≤ n2 ∧ Hid (ac.length = j) ∧ Hid (LdQ w s (rolV (t1, t2, acc, ac)) (.slice none 0 0) (.slice a1 i c1) (.slice a3 j c3) (.slice none 0 0) W) ∧ Hid (s.1.length ≤ 1000000) ∧ Hid ((ac ++ (loopF stepM (n2 - j) s).1, (loopF stepM (n2 - j) s).2) = TT3)) (fun s8 _ => n2 - (RowKit.intOf s8).toNat)
      case atStart => exact ⟨0, [], s6, none, 0, rfl, by omega, Lib.hid rfl, S7, Lib.hid HL6.out.1, Lib.hid (by rw [List.nil_append]; exact HTT3.out)⟩
      case round =>
        clear S7
        obtain ⟨j, ac, s, a3, c3, rfl, hj, HAC3, S, HLS, HRel⟩ := hrel
        by_cases hgo : j < n2 ∧ s.2 = false
        · obtain ⟨hlt, hsf⟩ := hgo
          obtain ⟨sl, sf⟩ := s
          simp only at hsf
          subst hsf
          obtain ⟨pr', nr', cr', q0, q1, hnr, _, _⟩ := bool_cell S.out.rd
          simp only at q1
          have hg := loop_go (step := stepM) (l := sl) hlt
          have KT := rnum_at S.out.rd HLS.out
          have htl := numF_len (sl, false)
          obtain ⟨⟨u5, s5⟩, hN5⟩ : ∃ v, numF (sl, false) = v := ⟨_, rfl⟩
          rw [hN5] at KT htl
          have hsl5 : s5.1.length ≤ 1000000 := by have := HLS.out; simp only at htl this; omega
          have hnl6 := txtF_len s5
          have KNN := Lib.hid (fun (V : World) (hV : RdAt V (w.heap.size + 1) s5) => rtxt_at hV hsl5)
          obtain ⟨⟨y6, s8⟩, hT6⟩ : ∃ v, txtF s5 = v := ⟨_, rfl⟩
          rw [hT6] at KNN hnl6
          have hw6 : RowKit.wrap64 (u5 : Int) = iN u5 := by unfold iN RowKit.wrap64; rw [IntKind.wrap_i64]
          obtain ⟨z5, hz5⟩ : ∃ z, iN u5 = z := ⟨_, rfl⟩
          rw [hz5] at hw6
          have hst : stepM (sl, false) = ((z5, y6), s8) := by
            rw [← hz5]
            unfold stepM
            rw [hN5]
            simp only
            rw [hT6]
          rw [hst] at hg
          have HG := Lib.hid hg
          have HL8 := Lib.hid (show s8.1.length ≤ 1000000 by simp only at hnl6; omega)
          have hlt' : (j : Int) < (n2 : Int) := Int.ofNat_lt.2 hlt
          have b0 : (0 : Int) ≤ (j : Int) := Int.natCast_nonneg j
          have hwi : IntKind.i64.wrap ((j : Int) + 1) = (j : Int) + 1 := by have := HL6.out.2; rw [IntKind.wrap_i64]; omega
          have HLT := Lib.hid hlt
          clear hnr hg htl hN5 hsl5 hnl6 hT6 hst hj hlt hz5
          go_wp2_with fail
          refine KT.mono ?_
          rintro e w5 ⟨rfl, hr, he⟩
          have S := Lib.hid ((S.out.read hr he).drewN 1)
          clear hr he KT q0 q1
          go_wp2_with fail
          have hS0 := S.out.cells.2.2.2.2.2.2.1
          refine wp_region_mix (fun V => V.cell? ⟨w.heap.size + 2, 6, none⟩ = some (.slice a3 j c3)) 11 [(true, 0), (true, 1), (true, 2), (true, 3), (true, 4), (false, 5), (true, 6), (false, 7), (false, 8), (true, 9), (true, 10), (false, 11)] (by kernel_rfl) (by decide +kernel) rfl (by decide +kernel) hS0 ?_
          iterate 5
            refine wpMix_take (v := ?_) rfl rfl ?_ ?_
            rotate_left
            · (intro W hW; (try dsimp only at hW); go_simp) <;> with_reducible rfl
            simp only [Act.put, List.setIfInBounds_toArray, List.set_cons_zero, List.set_cons_succ]
          refine wpMix_run rfl ?_
          intro K hK
          go_wp2_with fail
          refine (KNN.out _ S.out.rd).mono ?_
          rintro e w6 ⟨rfl, hr, he⟩
          have S := Lib.hid (S.out.read hr he)
          clear hr he KNN
          go_wp2_with fail
          refine hK.out _ _ (fun _ => S.out.cells.2.2.2.2.2.2.1) ?_
          clear hK K hS0
          iterate 1
            refine wpMix_take (v := ?_) rfl rfl ?_ ?_
            rotate_left
            · (intro W hW; (try dsimp only at hW); go_simp) <;> with_reducible rfl
            simp only [Act.put, List.setIfInBounds_toArray, List.set_cons_zero, List.set_cons_succ]
          refine wpMix_run rfl ?_
          intro K hK
          go_wp2_with fail
          refine hK.out _ _ (fun _ => (S.out.next (below_o w6 _)).cells.2.2.2.2.2.2.1) ?_
          clear hK K
          obtain ⟨a9, c9, X, R9, B9, S9⟩ := S.out.pushM (z5, y6) (by have := HAC3.out; have := HL6.out.2; have := HLT.out; show ac.length ≤ 1000000; omega)
          have hS9 : LdQ w s8 (rolV (t1, t2, acc, ac ++ [(z5, y6)])) (.slice none 0 0) (.slice a1 i c1) (.slice a9 (ac.length + 1) c9) (.slice none 0 0) (X.setCell ⟨w.heap.size + 2, 6, none⟩ (.slice a9 (ac.length + 1) c9)) := S9.out
          have R9' := R9.out
          simp only at R9'
          have hlen : (rolV (t1, t2, acc, ac)).rm.length = j := HAC3.out
          rw [hlen] at R9'
          have hlen2 : ac.length = j := HAC3.out
          rw [hlen2] at hS9
          have hXb := B9.trans S.out.box
          have hX2 : X.cell? ⟨w.heap.size + 2, 6, none⟩ = some (.slice a3 j c3) := by rw [cell_of_row _ _ _ _ _ _ hXb]; rfl
          have hXf := free_of_row hXb 6
          have HS9 := Lib.hid hS9
          have RR := Lib.hid R9'
          clear hS9 R9 R9' S9 hlen hlen2 hXb B9
          clear hw6
          refine wpMix_run rfl ?_
          intro K hK
          refine wpList_append_run rfl (.tmp 156) (.tmp 161) 38 rfl rfl rfl (RR.out _) ?_
          go_wp2_with fail
          refine hK.out _ _ (fun _ => hX2) ?_
          clear hK K
          iterate 2
            refine wpMix_take (v := ?_) rfl rfl ?_ ?_
            rotate_left
            · (intro W hW; (try dsimp only at hW); go_simp) <;> with_reducible rfl
            simp only [Act.put, List.setIfInBounds_toArray, List.set_cons_zero, List.set_cons_succ]
          refine wpMix_run rfl ?_
          intro K hK
          go_wp2_with fail
          refine hK.out _ _ (fun h => absurd rfl h) ?_
          clear hK K
          refine wpMix_nil ?_
          clear hX2 hXf RR S
          go_wp2_with fail
          go_roundw
          case rel => exact ⟨j + 1, ac ++ [(z5, y6)], s8, a9, c9, by go_num, by have := HLT.out; omega, Lib.hid (by rw [List.length_append, HAC3.out]; rfl), HS9, Lib.hid HL8.out, Lib.hid (by rw [← HRel.out, HG.out, List.append_assoc]; rfl)⟩
          case measure => have := HLT.out; simp [RowKit.intOf]; omega
        have hend := loop_end (step := stepM) hgo
        have hrel := HRel.out
        rw [hend, List.append_nil] at hrel
        have HT : Hid (bodF 2 s1 = (rolV (t1, t2, acc, ac), s)) := Lib.hid (by rw [HT0.out, ← hrel])
        have hex : ¬ ((j : Int) < (n2 : Int)) ∨ ((j : Int) < (n2 : Int) ∧ s.2 = true) := by
          by_cases h1 : j < n2
          · refine .inr ⟨by omega, ?_⟩
            cases e : s.2
            · exact absurd ⟨h1, e⟩ hgo
            · rfl
          · exact .inl (by omega)
        clear hgo hend hrel HT0 HRel HAC3 HLS hj HTT3
        have HLF : Hid (loadF l = if okF l (rolV (t1, t2, acc, ac), s) = true then some (rolV (t1, t2, acc, ac)) else none) := Lib.hid (by rw [HLO.out, HT.out])
        obtain ⟨pr', nr', cr', q0, q1, hnr, _, _⟩ := bool_cell S.out.rd
        have HIN := Lib.hid (fun (h : (s : RS).2 = false) => (by have := HII.out (by rw [HT.out]; exact h); rw [HT.out] at this; exact this : (rolV (t1, t2, acc, ac)).inI))
        have HNR := Lib.hid hnr
        clear hnr HT HLO HII
        obtain ⟨lF, fF⟩ := s
        simp only at q1
        simp only at hex
        cases fF
        rotate_left
        · clear HIN
          rcases hex with hA | ⟨hA, _⟩
          · have tA : decide ((j : Int) < (n2 : Int)) = false := decide_eq_false hA
            have HLN : Hid (loadF l = none) := Lib.hid (by rw [HLF.out, ok_wrong rfl]; rfl)
            obtain ⟨⟨z0, z1, z2, z3, z4, z5, z6, z7, z8, zf⟩, hx, hbf, _⟩ := S.out.done (.int .i64 0) (.string ⟨#[]⟩) (.slice none 0 0) (.string ⟨#[]⟩) (.string ⟨#[]⟩) (.slice none 0 0) (.slice none 0 0) (.string ⟨#[]⟩) (.slice none 0 0)
            obtain ⟨y0, y1, y2, y3, y4, y5, y6, y7, y8, _⟩ := nine_cells hx
            have FI := FC.out _ hbf HLN.out
            unfold set9 at y0 y1 y2 y3 y4 y5 y6 y7 y8 FI
            clear hx hbf
            go_wp2_with fail
            refine bodyPost_ret (v := .tuple #[.agg #[.int .i64 0, .string ⟨#[]⟩, .slice none 0 0, .string ⟨#[]⟩, .string ⟨#[]⟩, .slice none 0 0, .slice none 0 0, .string ⟨#[]⟩, .slice none 0 0], .int .i64 8]) ?_ rfl FI
            simp [results, Tryz.results15, go_sem, y0, y1, y2, y3, y4, y5, y6, y7, y8]

          · have tA : decide ((j : Int) < (n2 : Int)) = true := decide_eq_true hA
            have HLN : Hid (loadF l = none) := Lib.hid (by rw [HLF.out, ok_wrong rfl]; rfl)
            obtain ⟨⟨z0, z1, z2, z3, z4, z5, z6, z7, z8, zf⟩, hx, hbf, _⟩ := S.out.done (.int .i64 0) (.string ⟨#[]⟩) (.slice none 0 0) (.string ⟨#[]⟩) (.string ⟨#[]⟩) (.slice none 0 0) (.slice none 0 0) (.string ⟨#[]⟩) (.slice none 0 0)
            obtain ⟨y0, y1, y2, y3, y4, y5, y6, y7, y8, _⟩ := nine_cells hx
            have FI := FC.out _ hbf HLN.out
            unfold set9 at y0 y1 y2 y3 y4 y5 y6 y7 y8 FI
            clear hx hbf
            go_wp2_with fail
            refine bodyPost_ret (v := .tuple #[.agg #[.int .i64 0, .string ⟨#[]⟩, .slice none 0 0, .string ⟨#[]⟩, .string ⟨#[]⟩, .slice none 0 0, .slice none 0 0, .string ⟨#[]⟩, .slice none 0 0], .int .i64 8]) ?_ rfl FI
            simp [results, Tryz.results15, go_sem, y0, y1, y2, y3, y4, y5, y6, y7, y8]

        have hA : ¬ ((j : Int) < (n2 : Int)) := by
          rcases hex with hA | ⟨_, hB⟩
          · exact hA
          · cases hB
        have tA : decide ((j : Int) < (n2 : Int)) = false := decide_eq_false hA
        clear hex
        obtain ⟨p0, p1, p2, p3, p4, p5, p6, p7, p8⟩ := S.out.cells
        by_cases hlF : lF = []
        rotate_left
        · have hpos : 0 < nr' := by rw [HNR.out]; exact List.length_pos_iff.2 hlF
          have t9 : decide ((0 : Int) < (nr' : Int)) = true := decide_eq_true (by omega)
          have HLN : Hid (loadF l = none) := Lib.hid (by rw [HLF.out, ok_right, if_neg (by simp [hlF])])
          obtain ⟨⟨z0, z1, z2, z3, z4, z5, z6, z7, z8, zf⟩, hx, hbf, _⟩ := S.out.done (.int .i64 0) (.string ⟨#[]⟩) (.slice none 0 0) (.string ⟨#[]⟩) (.string ⟨#[]⟩) (.slice none 0 0) (.slice none 0 0) (.string ⟨#[]⟩) (.slice none 0 0)
          obtain ⟨y0, y1, y2, y3, y4, y5, y6, y7, y8, _⟩ := nine_cells hx
          have FI := FC.out _ hbf HLN.out
          unfold set9 at y0 y1 y2 y3 y4 y5 y6 y7 y8 FI
          clear hx hbf
          go_wp2_with fail
          refine bodyPost_ret (v := .tuple #[.agg #[.int .i64 0, .string ⟨#[]⟩, .slice none 0 0, .string ⟨#[]⟩, .string ⟨#[]⟩, .slice none 0 0, .slice none 0 0, .string ⟨#[]⟩, .slice none 0 0], .int .i64 8]) ?_ rfl FI
          simp [results, Tryz.results15, go_sem, y0, y1, y2, y3, y4, y5, y6, y7, y8]

        have hn0 : nr' = 0 := by rw [HNR.out, hlF]; rfl
        subst hn0
        have t9 : decide ((0 : Int) < ((0 : Nat) : Int)) = false := rfl
        have KG := refgood_all S.out.ok.holds (HIN.out rfl) S.out.ok.lens
        unfold recV at KG
        obtain ⟨gq, hgq⟩ : ∃ g, goodR (rolV (t1, t2, acc, ac)) = g := ⟨_, rfl⟩
        rw [hgq] at KG
        have HGQ := Lib.hid hgq
        have HLE := Lib.hid hlF
        clear hgq hlF HIN
        cases gq
        · go_wp2_with fail
          refine KG.mono ?_
          rintro e w9 ⟨rfl, hb9⟩
          have S := Lib.hid (S.out.next hb9)
          clear hb9 KG p0 p1 p2 p3 p4 p5 p6 p7 p8 q0 q1
          have HLN : Hid (loadF l = none) := Lib.hid (by rw [HLF.out, ok_right, if_neg (by simp [HGQ.out])])
          obtain ⟨⟨z0, z1, z2, z3, z4, z5, z6, z7, z8, zf⟩, hx, hbf, _⟩ := S.out.done (.int .i64 0) (.string ⟨#[]⟩) (.slice none 0 0) (.string ⟨#[]⟩) (.string ⟨#[]⟩) (.slice none 0 0) (.slice none 0 0) (.string ⟨#[]⟩) (.slice none 0 0)
          obtain ⟨y0, y1, y2, y3, y4, y5, y6, y7, y8, _⟩ := nine_cells hx
          have FI := FC.out _ hbf HLN.out
          unfold set9 at y0 y1 y2 y3 y4 y5 y6 y7 y8 FI
          clear hx hbf
          go_wp2_with fail
          refine bodyPost_ret (v := .tuple #[.agg #[.int .i64 0, .string ⟨#[]⟩, .slice none 0 0, .string ⟨#[]⟩, .string ⟨#[]⟩, .slice none 0 0, .slice none 0 0, .string ⟨#[]⟩, .slice none 0 0], .int .i64 8]) ?_ rfl FI
          simp [results, Tryz.results15, go_sem, y0, y1, y2, y3, y4, y5, y6, y7, y8]

        go_wp2_with fail
        refine KG.mono ?_
        rintro e w9 ⟨rfl, hb9⟩
        have S := Lib.hid (S.out.next hb9)
        clear hb9 KG p0 p1 p2 p3 p4 p5 p6 p7 p8 q0 q1
        by_cases hbig : 262144 < l.length
        · have t8 : decide ((262144 : Int) < (nl : Int)) = true := decide_eq_true (by have := HNL.out; omega)
          have t8' : 262144 < nl := by have := HNL.out; omega
          have HBIG := Lib.hid hbig
          clear hbig
          have HLN : Hid (loadF l = none) := Lib.hid (by rw [HLF.out, ok_right, if_neg (by have := HBIG.out; simp; intro _ _; omega)])
          obtain ⟨⟨z0, z1, z2, z3, z4, z5, z6, z7, z8, zf⟩, hx, hbf, _⟩ := S.out.done (.int .i64 0) (.string ⟨#[]⟩) (.slice none 0 0) (.string ⟨#[]⟩) (.string ⟨#[]⟩) (.slice none 0 0) (.slice none 0 0) (.string ⟨#[]⟩) (.slice none 0 0)
          obtain ⟨y0, y1, y2, y3, y4, y5, y6, y7, y8, _⟩ := nine_cells hx
          have FI := FC.out _ hbf HLN.out
          unfold set9 at y0 y1 y2 y3 y4 y5 y6 y7 y8 FI
          clear hx hbf
          go_wp2_with fail
          refine bodyPost_ret (v := .tuple #[.agg #[.int .i64 0, .string ⟨#[]⟩, .slice none 0 0, .string ⟨#[]⟩, .string ⟨#[]⟩, .slice none 0 0, .slice none 0 0, .string ⟨#[]⟩, .slice none 0 0], .int .i64 8]) ?_ rfl FI
          simp [results, Tryz.results15, go_sem, y0, y1, y2, y3, y4, y5, y6, y7, y8]

        have t8 : decide ((262144 : Int) < (nl : Int)) = false := decide_eq_false (by have := HNL.out; omega)
        have t8' : ¬ 262144 < nl := by have := HNL.out; omega
        have HOK : Hid (loadF l = some (rolV (t1, t2, acc, ac))) := Lib.hid (by rw [HLF.out, ok_right, if_pos (by simp [HLE.out, HGQ.out]; omega)])
        clear hbig
        obtain ⟨p0, p1, p2, p3, p4, p5, p6, p7, p8⟩ := S.out.cells
        obtain ⟨⟨z0, z1, z2, z3, z4, z5, z6, z7, z8, zf⟩, hx, hbf, hok⟩ := S.out.done (.int .i64 (rolV (t1, t2, acc, ac)).k) (.string (rolV (t1, t2, acc, ac)).tn) (.slice none 0 0) (.string (rolV (t1, t2, acc, ac)).rn) (.string (rolV (t1, t2, acc, ac)).rt) (.slice a1 i c1) (.slice a3 j c3) (.string (rolV (t1, t2, acc, ac)).nm) (.slice none 0 0)
        obtain ⟨y0, y1, y2, y3, y4, y5, y6, y7, y8, _⟩ := nine_cells hx
        have FI := FO.out _ (.slice none 0 0) (.slice a1 i c1) (.slice a3 j c3) (.slice none 0 0) _ hbf HOK.out hok
        unfold set9 at y0 y1 y2 y3 y4 y5 y6 y7 y8 FI
        unfold recV at FI
        clear hx hbf hok
        go_wp2_with fail
        refine bodyPost_ret (v := .tuple #[.agg #[.int .i64 (rolV (t1, t2, acc, ac)).k, .string (rolV (t1, t2, acc, ac)).tn, (.slice none 0 0), .string (rolV (t1, t2, acc, ac)).rn, .string (rolV (t1, t2, acc, ac)).rt, (.slice a1 i c1), (.slice a3 j c3), .string (rolV (t1, t2, acc, ac)).nm, (.slice none 0 0)], .int .i64 0]) ?_ rfl FI
        simp [results, Tryz.results15, go_sem, y0, y1, y2, y3, y4, y5, y6, y7, y8]
end Go.Proofs.YtehfoaicohnpfaaGreatDoor
