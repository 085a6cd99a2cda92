/- The texts RqrF RecBytesP, one behind the other; each one's own comment says what it holds. -/
import Derived.Test.YtehfoaicohnpfaaGreatDoorRecordScansRowGK
import Derived.Test.YtehfoaicohnpfaaGreatDoorRecordScansRowGI
import Derived.Test.YtehfoaicohnpfaaGreatDoorRecordScansRowGF
/- Contract of the document's Load: batches; all of it. Conditions: at most 1000000 bytes. -/
set_option maxRecDepth 100000
namespace Go.Proofs.YtehfoaicohnpfaaGreatDoor
open Go.RowKit Go.Maps Go.Sort Go.Lib

set_option maxHeartbeats 12800000 in
theorem rload_3 {w : World} {pa : Option Addr} {nl k : Nat} {l : List UInt8} (H : Holds w (.slice pa nl k) (u8s l)) (hl : l.length ≤ 1000000) (hk : (numF (l, false)).1 = 3) :
    Calls Tryz.prog 15 #[.slice pa nl k] w (RLoadP w l) := by
  have hnl := H.len.1
  rw [u8s_len] at hnl
  have HNL := Lib.hid hnl
  obtain ⟨P, hP⟩ : ∃ P, RLoadP w l = P := ⟨_, rfl⟩
  rw [hP]
  have FC := Lib.hid (fun (W' : World) (hb : Below w.heap.size w W') (h : loadF l = none) => (by rw [← hP]; exact ⟨hb, .inr ⟨h, rfl⟩⟩ : P (.returned (.tuple #[.agg #[.int .i64 0, .string ⟨#[]⟩, .slice none 0 0, .string ⟨#[]⟩, .string ⟨#[]⟩, .slice none 0 0, .slice none 0 0, .string ⟨#[]⟩, .slice none 0 0], .int .i64 8])) W'))
  have FO := Lib.hid (fun (x : RV) (a b c d : Value) (W' : World) (hb : Below w.heap.size w W') (h : loadF l = some x) (hk : RecOk w.heap.size x a b c d W') => (by rw [← hP]; exact ⟨hb, .inl ⟨x, a, b, c, d, h, rfl, hk⟩⟩ : P (.returned (.tuple #[recV x a b c d, .int .i64 0])) W'))
  have HS0 := Lib.hid (LdQ.start H)
  have KN := rnum_at HS0.out.rd hl
  have hnum := numF_len (l, false)
  have hkk : ¬ ((numF (l, false)).1 < 1 ∨ 3 < (numF (l, false)).1) := by omega
  have HLO : Hid (loadF l = if okF l (bodF (numF (l, false)).1 (numF (l, false)).2) = true then some (bodF (numF (l, false)).1 (numF (l, false)).2).1 else none) := Lib.hid (by unfold loadF; rw [if_neg hkk])
  have HII := Lib.hid (bod_in hl hkk)
  obtain ⟨⟨u, s1⟩, hq⟩ : ∃ v, numF (l, false) = v := ⟨_, rfl⟩
  rw [hq] at KN hk HLO HII hnum
  simp only at KN hk HLO HII hnum
  have HL1 := Lib.hid (show s1.1.length ≤ 1000000 by omega)
  subst hk
  clear hq hnum H hP hl hnl hkk
  go_enter Tryz.func15, Tryz.ntmps15
  go_wp2_with fail
  refine KN.mono ?_
  rintro e w1 ⟨rfl, hr, he⟩
  have S := Lib.hid (HS0.out.read hr he)
  obtain ⟨p0, p1, p2, p3, p4, p5, p6, p7, p8⟩ := S.out.cells
  have pf := S.out.free
  have S2 := Lib.hid (S.out.setK 3)
  obtain ⟨g0, _⟩ := S2.out.cells
  have KT := rtxt_at S2.out.rd HL1.out
  have htl := txtF_len s1
  obtain ⟨⟨t1, s2⟩, hT1⟩ : ∃ v, txtF s1 = v := ⟨_, rfl⟩
  rw [hT1] at KT htl
  have HT1 := Lib.hid hT1
  have HL2 := Lib.hid (show s2.1.length ≤ 1000000 by have := HL1.out; simp only at htl; omega)
  clear hr he KN HS0 hT1 htl
  go_wp2_with fail
  refine KT.mono ?_
  rintro e w3 ⟨rfl, hr, he⟩
  have S3 := Lib.hid (S2.out.read hr he)
  obtain ⟨_, _, _, _, _, _, _, g1, _⟩ := S3.out.cells
  have gf := S3.out.free
  have S4 := Lib.hid (S3.out.setNm t1)
  have KC := rcnt_at S4.out.rd HL2.out
  have hcl := cntF_len s2
  have hcle := cntF_le s2
  obtain ⟨⟨cn, s3⟩, hC1⟩ : ∃ v, cntF s2 = v := ⟨_, rfl⟩
  rw [hC1] at KC hcl hcle
  have HC1 := Lib.hid hC1
  have HL3 := Lib.hid (show s3.1.length ≤ 1000000 ∧ cn ≤ 1000000 by have := HL2.out; simp only at hcl hcle; omega)
  clear hr he KT hC1 hcl hcle g0 p0 p1 p2 p3 p4 p5 p6 p7 p8 pf S S2
  go_wp2_with fail
  refine KC.mono ?_
  rintro e w4 ⟨rfl, hr, he⟩
  have S5 := Lib.hid (show LdQ w s3 (batV t1 []) (.slice none 0 0) (.slice none 0 0) (.slice none 0 0) (.slice none 0 0) w4 from S4.out.read hr he)
  obtain ⟨TT, hTT⟩ : ∃ v, loopF stepR cn s3 = v := ⟨_, rfl⟩
  have HTT := Lib.hid hTT
  have HT0 : Hid (bodF 3 s1 = (batV t1 TT.1, TT.2)) := Lib.hid (by
    unfold bodF
    rw [if_neg (by decide), if_neg (by decide)]
    unfold batF
    simp only
    rw [HT1.out, HC1.out, hTT])
  clear hr he KC g1 gf S3 S4 hTT
  go_wp2_with fail
  go_loopw [15] (fun s8 W => ∃ (i : Nat) (acc : List (List VV)) (s : RS) (a1 : Option Addr) (c1 : Nat), s8 = .int .i64 i ∧ i ≤ cn ∧ Hid (acc.length = i) ∧ Hid (LdQ w s (batV t1 acc) (.slice none 0 0) (.slice none 0 0) (.slice none 0 0) (.slice a1 i c1) W) ∧ Hid (s.1.length ≤ 1000000) ∧ Hid ((acc ++ (loopF stepR (cn - i) s).1, (loopF stepR (cn - i) s).2) = TT)) (fun s8 _ => cn - (RowKit.intOf s8).toNat)
  case atStart => exact ⟨0, [], s3, none, 0, rfl, by omega, Lib.hid rfl, S5, Lib.hid HL3.out.1, Lib.hid (by rw [List.nil_append]; exact HTT.out)⟩
  case round =>
    clear S5
    obtain ⟨i, acc, s, a1, c1, rfl, hi, HAC, S, HLS, HRel⟩ := hrel
    by_cases hgo : i < cn ∧ s.2 = false
    · obtain ⟨hlt, hsf⟩ := hgo
      obtain ⟨sl, sf⟩ := s
      simp only at hsf
      subst hsf
      obtain ⟨pr', nr', cr', q0, q1, hnr, _, _⟩ := bool_cell S.out.rd
      simp only at q1
      have hg := loop_go (step := stepR) (l := sl) hlt
      have KT := rtxt_at S.out.rd HLS.out
      have htl := txtF_len (sl, false)
      have htb : (txtF (sl, false)).1.data.toList.length ≤ 1000000 := by
        have h1 := cntF_le (sl, false)
        have h2 := cntF_len (sl, false)
        have := HLS.out
        simp only at h2 this
        simp only [txtF, List.length_take]
        omega
      have hst : stepR (sl, false) = match loadV (txtF (sl, false)).1.data.toList with
        | some r => (r, (txtF (sl, false)).2)
        | none => ([], ((txtF (sl, false)).2.1, true)) := rfl
      obtain ⟨⟨t2, s5⟩, hT2⟩ : ∃ v, txtF (sl, false) = v := ⟨_, rfl⟩
      rw [hT2] at KT htl htb hst
      simp only at htb hst
      have HTB := Lib.hid htb
      have HST := Lib.hid hst
      have HG := Lib.hid hg
      have HL5 := Lib.hid (show s5.1.length ≤ 1000000 by have := HLS.out; simp only at htl this; omega)
      have hlt' : (i : Int) < (cn : Int) := Int.ofNat_lt.2 hlt
      have b0 : (0 : Int) ≤ (i : Int) := Int.natCast_nonneg i
      have hwi : IntKind.i64.wrap ((i : Int) + 1) = (i : Int) + 1 := by have := HL3.out.2; rw [IntKind.wrap_i64]; omega
      have HLT := Lib.hid hlt
      clear hnr hg htl hT2 hst htb hi hlt
      go_wp2_with fail
      refine KT.mono ?_
      rintro e w5 ⟨rfl, hr, he⟩
      have S := Lib.hid (S.out.read hr he)
      obtain ⟨k5, W5, hcv, hb5, hH⟩ := str_slice w5 t2
      have hcv := hcv 0 rfl
      have KL := refvload_own hH HTB.out
      have S := Lib.hid (S.out.next hb5)
      clear hr he KT q0 q1 hb5 hH
      go_wp2_with fail
      refine KL.mono ?_
      rintro e w6 ⟨⟨v', ⟨r, e1, ho, rfl⟩ | ⟨e1, rfl, rfl⟩⟩, hb6⟩
      · have hB0 := S.out.bel.size
        have S := Lib.hid (S.out.next hb6)
        have hr : w6.ownsRow w.heap.size 99 3 v' r.length (flatC r) := ownsRow_rebase3v ho (fun g hg => Nat.le_trans hB0 (ho.lt g hg).1)
        obtain ⟨va, vc, rfl, _⟩ := ownsRow_form hr
        obtain ⟨a9, c9, X, R9, B9, S9⟩ := S.out.pushR r hr (by have := HAC.out; have := HL3.out.2; have := HLT.out; show acc.length ≤ 1000000; omega)
        have hst := HST.out
        rw [e1] at hst
        simp only at hst
        have hg := HG.out
        rw [hst] at hg
        have HG2 := Lib.hid hg
        have hS9 : LdQ w s5 (batV t1 (acc ++ [r])) (.slice none 0 0) (.slice none 0 0) (.slice none 0 0) (.slice a9 (acc.length + 1) c9) (X.setCell ⟨w.heap.size + 2, 8, none⟩ (.slice a9 (acc.length + 1) c9)) := S9.out
        have R9' := R9.out
        have hlen : (batV t1 acc).ws.length = i := HAC.out
        rw [hlen] at R9'
        have hlen2 : acc.length = i := HAC.out
        rw [hlen2] at hS9
        have hc8 := S.out.cells.2.2.2.2.2.2.2.2
        have hX8 : X.cell? ⟨w.heap.size + 2, 8, none⟩ = some (.slice a1 i c1) := by rw [cell_of_row _ _ _ _ _ _ (B9.trans S.out.box)]; rfl
        have hXf := free_of_row (B9.trans S.out.box) 8
        have HS9 := Lib.hid hS9
        have RR := Lib.hid R9'
        generalize r.length = m at *
        clear hS9 R9 R9' S9 hlen hlen2 B9 hst hg HG HST hr ho e1 hb6 KL hB0 S hcv
        go_wp2_with (at_builtin; refine wpList_append_run rfl _ _ 41 rfl rfl rfl (RR.out _) ?_)
        clear hXf hX8 hc8 RR
        go_roundw
        case rel => exact ⟨i + 1, acc ++ [r], s5, a9, c9, by go_num, by have := HLT.out; omega, Lib.hid (by rw [List.length_append, HAC.out]; rfl), HS9, Lib.hid HL5.out, Lib.hid (by rw [← HRel.out, HG2.out, List.append_assoc]; rfl)⟩
        case measure => have := HLT.out; simp [RowKit.intOf]; omega
      · have S0 := Lib.hid (S.out.next hb6)
        obtain ⟨_, _, _, _, qw, _, _, fw⟩ := bool_cell S0.out.rd

        have S := Lib.hid (S0.out.read S0.out.rd.wrong (else_set _))
        obtain ⟨a9, c9, X, R9, B9, S9⟩ := S.out.pushR (r1 := none) (rn := 0) (rc := 0) [] (nilRow _ _ _ _) (by have := HAC.out; have := HL3.out.2; have := HLT.out; show acc.length ≤ 1000000; omega)
        have hst := HST.out
        rw [e1] at hst
        simp only at hst
        have hg := HG.out
        rw [hst] at hg
        have HG2 := Lib.hid hg
        have hS9 : LdQ w (s5.1, true) (batV t1 (acc ++ [[]])) (.slice none 0 0) (.slice none 0 0) (.slice none 0 0) (.slice a9 (acc.length + 1) c9) (X.setCell ⟨w.heap.size + 2, 8, none⟩ (.slice a9 (acc.length + 1) c9)) := S9.out
        have R9' := R9.out
        have hsz : (w6.setCell ⟨w.heap.size + 1, 1, none⟩ (.bool true)).heap.size = w6.heap.size := by simp
        rw [hsz] at R9'
        have hlen : (batV t1 acc).ws.length = i := HAC.out
        rw [hlen] at R9'
        have hlen2 : acc.length = i := HAC.out
        rw [hlen2] at hS9
        have hc8 := S.out.cells.2.2.2.2.2.2.2.2
        have hX8 : X.cell? ⟨w.heap.size + 2, 8, none⟩ = some (.slice a1 i c1) := by rw [cell_of_row _ _ _ _ _ _ (B9.trans S.out.box)]; rfl
        have hXf := free_of_row (B9.trans S.out.box) 8
        have HS9 := Lib.hid hS9
        have RR := Lib.hid R9'
        clear hsz hS9 R9 R9' S9 hlen hlen2 B9 hst hg HG HST e1 hb6 KL S S0 hcv
        go_wp2_with (at_builtin; refine wpList_append_run rfl _ _ 41 rfl rfl rfl (RR.out _) ?_)
        clear hXf hX8 hc8 RR fw qw
        go_roundw
        case rel => exact ⟨i + 1, acc ++ [[]], (s5.1, true), a9, c9, by go_num, by have := HLT.out; omega, Lib.hid (by rw [List.length_append, HAC.out]; rfl), HS9, Lib.hid HL5.out, Lib.hid (by rw [← HRel.out, HG2.out, List.append_assoc]; rfl)⟩
        case measure => have := HLT.out; simp [RowKit.intOf]; omega
    have hend := loop_end (step := stepR) hgo
    have hrel := HRel.out
    rw [hend, List.append_nil] at hrel
    have HT : Hid (bodF 3 s1 = (batV t1 acc, s)) := Lib.hid (by rw [HT0.out, ← hrel])
    have hex : ¬ ((i : Int) < (cn : Int)) ∨ ((i : Int) < (cn : Int) ∧ s.2 = true) := by
      by_cases h1 : i < cn
      · refine .inr ⟨by omega, ?_⟩
        cases e : s.2
        · exact absurd ⟨h1, e⟩ hgo
        · rfl
      · exact .inl (by omega)
    clear hgo hend hrel HT0 HRel HAC HLS hi HTT
    have HLF : Hid (loadF l = if okF l (batV t1 acc, s) = true then some (batV t1 acc) else none) := Lib.hid (by rw [HLO.out, HT.out])
    obtain ⟨pr', nr', cr', q0, q1, hnr, _, _⟩ := bool_cell S.out.rd
    have HIN := Lib.hid (fun (h : (s : RS).2 = false) => (by have := HII.out (by rw [HT.out]; exact h); rw [HT.out] at this; exact this : (batV t1 acc).inI))
    have HNR := Lib.hid hnr
    clear hnr HT HLO HII
    obtain ⟨lF, fF⟩ := s
    simp only at q1
    simp only at hex
    cases fF
    rotate_left
    · clear HIN
      rcases hex with hA | ⟨hA, _⟩
      · have tA : decide ((i : Int) < (cn : Int)) = false := decide_eq_false hA
        have HLN : Hid (loadF l = none) := Lib.hid (by rw [HLF.out, ok_wrong rfl]; rfl)
        obtain ⟨⟨z0, z1, z2, z3, z4, z5, z6, z7, z8, zf⟩, hx, hbf, _⟩ := S.out.done (.int .i64 0) (.string ⟨#[]⟩) (.slice none 0 0) (.string ⟨#[]⟩) (.string ⟨#[]⟩) (.slice none 0 0) (.slice none 0 0) (.string ⟨#[]⟩) (.slice none 0 0)
        obtain ⟨y0, y1, y2, y3, y4, y5, y6, y7, y8, _⟩ := nine_cells hx
        have FI := FC.out _ hbf HLN.out
        unfold set9 at y0 y1 y2 y3 y4 y5 y6 y7 y8 FI
        clear hx hbf
        go_wp2_with fail
        refine bodyPost_ret (v := .tuple #[.agg #[.int .i64 0, .string ⟨#[]⟩, .slice none 0 0, .string ⟨#[]⟩, .string ⟨#[]⟩, .slice none 0 0, .slice none 0 0, .string ⟨#[]⟩, .slice none 0 0], .int .i64 8]) ?_ rfl FI
        simp [results, Tryz.results15, go_sem, y0, y1, y2, y3, y4, y5, y6, y7, y8]

      · have tA : decide ((i : Int) < (cn : Int)) = true := decide_eq_true hA
        have HLN : Hid (loadF l = none) := Lib.hid (by rw [HLF.out, ok_wrong rfl]; rfl)
        obtain ⟨⟨z0, z1, z2, z3, z4, z5, z6, z7, z8, zf⟩, hx, hbf, _⟩ := S.out.done (.int .i64 0) (.string ⟨#[]⟩) (.slice none 0 0) (.string ⟨#[]⟩) (.string ⟨#[]⟩) (.slice none 0 0) (.slice none 0 0) (.string ⟨#[]⟩) (.slice none 0 0)
        obtain ⟨y0, y1, y2, y3, y4, y5, y6, y7, y8, _⟩ := nine_cells hx
        have FI := FC.out _ hbf HLN.out
        unfold set9 at y0 y1 y2 y3 y4 y5 y6 y7 y8 FI
        clear hx hbf
        go_wp2_with fail
        refine bodyPost_ret (v := .tuple #[.agg #[.int .i64 0, .string ⟨#[]⟩, .slice none 0 0, .string ⟨#[]⟩, .string ⟨#[]⟩, .slice none 0 0, .slice none 0 0, .string ⟨#[]⟩, .slice none 0 0], .int .i64 8]) ?_ rfl FI
        simp [results, Tryz.results15, go_sem, y0, y1, y2, y3, y4, y5, y6, y7, y8]

    have hA : ¬ ((i : Int) < (cn : Int)) := by
      rcases hex with hA | ⟨_, hB⟩
      · exact hA
      · cases hB
    have tA : decide ((i : Int) < (cn : Int)) = false := decide_eq_false hA
    clear hex
    obtain ⟨p0, p1, p2, p3, p4, p5, p6, p7, p8⟩ := S.out.cells
    by_cases hlF : lF = []
    rotate_left
    · have hpos : 0 < nr' := by rw [HNR.out]; exact List.length_pos_iff.2 hlF
      have t9 : decide ((0 : Int) < (nr' : Int)) = true := decide_eq_true (by omega)
      have HLN : Hid (loadF l = none) := Lib.hid (by rw [HLF.out, ok_right, if_neg (by simp [hlF])])
      obtain ⟨⟨z0, z1, z2, z3, z4, z5, z6, z7, z8, zf⟩, hx, hbf, _⟩ := S.out.done (.int .i64 0) (.string ⟨#[]⟩) (.slice none 0 0) (.string ⟨#[]⟩) (.string ⟨#[]⟩) (.slice none 0 0) (.slice none 0 0) (.string ⟨#[]⟩) (.slice none 0 0)
      obtain ⟨y0, y1, y2, y3, y4, y5, y6, y7, y8, _⟩ := nine_cells hx
      have FI := FC.out _ hbf HLN.out
      unfold set9 at y0 y1 y2 y3 y4 y5 y6 y7 y8 FI
      clear hx hbf
      go_wp2_with fail
      refine bodyPost_ret (v := .tuple #[.agg #[.int .i64 0, .string ⟨#[]⟩, .slice none 0 0, .string ⟨#[]⟩, .string ⟨#[]⟩, .slice none 0 0, .slice none 0 0, .string ⟨#[]⟩, .slice none 0 0], .int .i64 8]) ?_ rfl FI
      simp [results, Tryz.results15, go_sem, y0, y1, y2, y3, y4, y5, y6, y7, y8]

    have hn0 : nr' = 0 := by rw [HNR.out, hlF]; rfl
    subst hn0
    have t9 : decide ((0 : Int) < ((0 : Nat) : Int)) = false := rfl
    have KG := refgood_all S.out.ok.holds (HIN.out rfl) S.out.ok.lens
    unfold recV at KG
    obtain ⟨gq, hgq⟩ : ∃ g, goodR (batV t1 acc) = g := ⟨_, rfl⟩
    rw [hgq] at KG
    have HGQ := Lib.hid hgq
    have HLE := Lib.hid hlF
    clear hgq hlF HIN
    cases gq
    · go_wp2_with fail
      refine KG.mono ?_
      rintro e w9 ⟨rfl, hb9⟩
      have S := Lib.hid (S.out.next hb9)
      clear hb9 KG p0 p1 p2 p3 p4 p5 p6 p7 p8 q0 q1
      have HLN : Hid (loadF l = none) := Lib.hid (by rw [HLF.out, ok_right, if_neg (by simp [HGQ.out])])
      obtain ⟨⟨z0, z1, z2, z3, z4, z5, z6, z7, z8, zf⟩, hx, hbf, _⟩ := S.out.done (.int .i64 0) (.string ⟨#[]⟩) (.slice none 0 0) (.string ⟨#[]⟩) (.string ⟨#[]⟩) (.slice none 0 0) (.slice none 0 0) (.string ⟨#[]⟩) (.slice none 0 0)
      obtain ⟨y0, y1, y2, y3, y4, y5, y6, y7, y8, _⟩ := nine_cells hx
      have FI := FC.out _ hbf HLN.out
      unfold set9 at y0 y1 y2 y3 y4 y5 y6 y7 y8 FI
      clear hx hbf
      go_wp2_with fail
      refine bodyPost_ret (v := .tuple #[.agg #[.int .i64 0, .string ⟨#[]⟩, .slice none 0 0, .string ⟨#[]⟩, .string ⟨#[]⟩, .slice none 0 0, .slice none 0 0, .string ⟨#[]⟩, .slice none 0 0], .int .i64 8]) ?_ rfl FI
      simp [results, Tryz.results15, go_sem, y0, y1, y2, y3, y4, y5, y6, y7, y8]

    go_wp2_with fail
    refine KG.mono ?_
    rintro e w9 ⟨rfl, hb9⟩
    have S := Lib.hid (S.out.next hb9)
    clear hb9 KG p0 p1 p2 p3 p4 p5 p6 p7 p8 q0 q1
    by_cases hbig : 262144 < l.length
    · have t8 : decide ((262144 : Int) < (nl : Int)) = true := decide_eq_true (by have := HNL.out; omega)
      have t8' : 262144 < nl := by have := HNL.out; omega
      have HBIG := Lib.hid hbig
      clear hbig
      have HLN : Hid (loadF l = none) := Lib.hid (by rw [HLF.out, ok_right, if_neg (by have := HBIG.out; simp; intro _ _; omega)])
      obtain ⟨⟨z0, z1, z2, z3, z4, z5, z6, z7, z8, zf⟩, hx, hbf, _⟩ := S.out.done (.int .i64 0) (.string ⟨#[]⟩) (.slice none 0 0) (.string ⟨#[]⟩) (.string ⟨#[]⟩) (.slice none 0 0) (.slice none 0 0) (.string ⟨#[]⟩) (.slice none 0 0)
      obtain ⟨y0, y1, y2, y3, y4, y5, y6, y7, y8, _⟩ := nine_cells hx
      have FI := FC.out _ hbf HLN.out
      unfold set9 at y0 y1 y2 y3 y4 y5 y6 y7 y8 FI
      clear hx hbf
      go_wp2_with fail
      refine bodyPost_ret (v := .tuple #[.agg #[.int .i64 0, .string ⟨#[]⟩, .slice none 0 0, .string ⟨#[]⟩, .string ⟨#[]⟩, .slice none 0 0, .slice none 0 0, .string ⟨#[]⟩, .slice none 0 0], .int .i64 8]) ?_ rfl FI
      simp [results, Tryz.results15, go_sem, y0, y1, y2, y3, y4, y5, y6, y7, y8]

    have t8 : decide ((262144 : Int) < (nl : Int)) = false := decide_eq_false (by have := HNL.out; omega)
    have t8' : ¬ 262144 < nl := by have := HNL.out; omega
    have HOK : Hid (loadF l = some (batV t1 acc)) := Lib.hid (by rw [HLF.out, ok_right, if_pos (by simp [HLE.out, HGQ.out]; omega)])
    clear hbig
    obtain ⟨p0, p1, p2, p3, p4, p5, p6, p7, p8⟩ := S.out.cells
    obtain ⟨⟨z0, z1, z2, z3, z4, z5, z6, z7, z8, zf⟩, hx, hbf, hok⟩ := S.out.done (.int .i64 (batV t1 acc).k) (.string (batV t1 acc).tn) (.slice none 0 0) (.string (batV t1 acc).rn) (.string (batV t1 acc).rt) (.slice none 0 0) (.slice none 0 0) (.string (batV t1 acc).nm) (.slice a1 i c1)
    obtain ⟨y0, y1, y2, y3, y4, y5, y6, y7, y8, _⟩ := nine_cells hx
    have FI := FO.out _ (.slice none 0 0) (.slice none 0 0) (.slice none 0 0) (.slice a1 i c1) _ hbf HOK.out hok
    unfold set9 at y0 y1 y2 y3 y4 y5 y6 y7 y8 FI
    unfold recV at FI
    clear hx hbf hok
    go_wp2_with fail
    refine bodyPost_ret (v := .tuple #[.agg #[.int .i64 (batV t1 acc).k, .string (batV t1 acc).tn, (.slice none 0 0), .string (batV t1 acc).rn, .string (batV t1 acc).rt, (.slice none 0 0), (.slice none 0 0), .string (batV t1 acc).nm, (.slice a1 i c1)], .int .i64 0]) ?_ rfl FI
    simp [results, Tryz.results15, go_sem, y0, y1, y2, y3, y4, y5, y6, y7, y8]
/-- the document's Load -/
theorem refrload_any {w : World} {pa : Option Addr} {nl k : Nat} {l : List UInt8} (H : Holds w (.slice pa nl k) (u8s l)) (hl : l.length ≤ 1000000) :
    Calls Tryz.prog 15 #[.slice pa nl k] w (RLoadP w l) := by
  by_cases h0 : (numF (l, false)).1 < 1 ∨ 3 < (numF (l, false)).1
  · exact rload_bad H hl h0
  · by_cases h1 : (numF (l, false)).1 = 1
    · exact rload_1 H hl h1
    · by_cases h2 : (numF (l, false)).1 = 2
      · exact rload_2 H hl h2
      · exact rload_3 H hl (by omega)
end Go.Proofs.YtehfoaicohnpfaaGreatDoor
/- What RecordBytes needs beside the contracts: one form of what Bytes and Load answer, of both sides. Conditions: at most 1000000 bytes; a good record is short. -/
set_option maxRecDepth 100000
namespace Go.Proofs.YtehfoaicohnpfaaGreatDoor
open Go.RowKit Go.Maps Go.Sort Go.Lib

def bbR (x : RV) : List UInt8 := if goodR x = true then bytR x else []
def ccR (x : RV) : Int := if goodR x = true then 0 else 2
theorem bytP_one {w w' : World} {x : RV} {e : Ending} (h : BytP w x e w') (hs : goodR x = true → (bytR x).length ≤ 262144) :
    ∃ a n c, e = .returned (.tuple #[.slice a n c, .int .i64 (ccR x)]) ∧ Holds w' (.slice a n c) (u8s (bbR x)) ∧ Below w.heap.size w w' := by
  unfold bbR ccR
  obtain ⟨hb, ⟨hg, rfl⟩ | ⟨hg, hl, _⟩ | ⟨hg, hl, v, rfl, ho⟩⟩ := h
  · rw [if_neg (by rw [hg]; simp), if_neg (by rw [hg]; simp)]
    exact ⟨none, 0, 0, rfl, Holds.of_row (e := 5) (base := 0) (nilRow w' 0 _ 1), hb⟩
  · exact absurd (hs hg) (by omega)
  · rw [if_pos hg, if_pos hg]
    obtain ⟨va, vc, rfl, _⟩ := ownsRow_form ho
    exact ⟨va, _, vc, rfl, Holds.of_row (by rw [u8s_len]; exact ho), hb⟩
/-- what Load of these bytes answers -/
def LdOf (l : List UInt8) (y : RV) (a b c d : Value) (g : Int) : Prop := (loadR l = some y ∧ g = 0) ∨ (loadR l = none ∧ y = zeroR ∧ a = nilV ∧ b = nilV ∧ c = nilV ∧ d = nilV ∧ g = 8)
theorem zero_holds (w : World) : RecOk 0 zeroR nilV nilV nilV nilV w := ⟨nilRow _ _ _ _, nilRow _ _ _ _, nilRow _ _ _ _, RowsOk.nil _ _⟩
theorem load_one {w w' : World} {l : List UInt8} {e : Ending} (h : LoadRP w l e w') :
    ∃ y a b c d g, e = .returned (.tuple #[recV y a b c d, .int .i64 g]) ∧ RecH w' y a b c d ∧ (∀ r ∈ y.ws, r.length ≤ 9223372036854775807) ∧ LdOf l y a b c d g ∧ Below w.heap.size w w' := by
  obtain ⟨hb, ⟨x, a, b, c, d, h1, rfl, hk⟩ | ⟨h1, rfl⟩⟩ := h
  · exact ⟨x, a, b, c, d, 0, rfl, hk.holds, hk.lens, .inl ⟨h1, rfl⟩, hb⟩
  · exact ⟨zeroR, nilV, nilV, nilV, nilV, 8, rfl, (zero_holds w').holds, (zero_holds w').lens, .inr ⟨h1, rfl, rfl, rfl, rfl, rfl, rfl⟩, hb⟩
theorem rload_one {w w' : World} {l : List UInt8} (hl : l.length ≤ 1000000) {e : Ending} (h : RLoadP w l e w') :
    ∃ y a b c d g, e = .returned (.tuple #[recV y a b c d, .int .i64 g]) ∧ RecH w' y a b c d ∧ LdOf l y a b c d g ∧ Below w.heap.size w w' := by
  obtain ⟨hb, ⟨x, a, b, c, d, h1, rfl, hk⟩ | ⟨h1, rfl⟩⟩ := h
  · rw [loadF_eq hl, qLoad_eq hl] at h1
    exact ⟨x, a, b, c, d, 0, rfl, hk.holds, .inl ⟨h1, rfl⟩, hb⟩
  · rw [loadF_eq hl, qLoad_eq hl] at h1
    exact ⟨zeroR, nilV, nilV, nilV, nilV, 8, rfl, (zero_holds w').holds, .inr ⟨h1, rfl, rfl, rfl, rfl, rfl, rfl⟩, hb⟩
theorem LdOf.one {l : List UInt8} {y y' : RV} {a b c d a' b' c' d' : Value} {g g' : Int} (h : LdOf l y a b c d g) (h' : LdOf l y' a' b' c' d' g') : y = y' ∧ g = g' := by
  rcases h with ⟨h1, rfl⟩ | ⟨h1, rfl, _, _, _, _, rfl⟩
  · rcases h' with ⟨h2, rfl⟩ | ⟨h2, _⟩
    · rw [h1] at h2; cases h2; exact ⟨rfl, rfl⟩
    · rw [h1] at h2; cases h2
  · rcases h' with ⟨h2, _⟩ | ⟨h2, rfl, _, _, _, _, rfl⟩
    · rw [h1] at h2; cases h2
    · exact ⟨rfl, rfl⟩
set_option maxHeartbeats 3200000 in
theorem same_zero (w : World) : Calls Tryz.prog 10 #[recV zeroR nilV nilV nilV nilV, recV zeroR nilV nilV nilV nilV] w fun e w' => e = .returned (.bool true) ∧ Below w.heap.size w w' := by
  have hb1 := below_o w (.cells #[.int .i64 0, .string ⟨#[]⟩, .slice none 0 0, .string ⟨#[]⟩, .string ⟨#[]⟩, .slice none 0 0, .slice none 0 0, .string ⟨#[]⟩, .slice none 0 0] 43)
  have hb2 := hb1.alloc (by simp) (.cells #[.int .i64 0, .string ⟨#[]⟩, .slice none 0 0, .string ⟨#[]⟩, .string ⟨#[]⟩, .slice none 0 0, .slice none 0 0, .string ⟨#[]⟩, .slice none 0 0] 44)
  have te : ((⟨#[]⟩ : ByteArray) ++ ⟨#[]⟩ ++ ⟨#[]⟩).toList.isEmpty = true := by rw [Lib.toList_data]; rfl
  unfold recV zeroR nilV nilS
  go_enter Tryz.func10, Tryz.ntmps10
  go_wp2_with fail
  go_ret
  exact ⟨rfl, hb2⟩
theorem same_any {w : World} {l : List UInt8} (hl : l.length ≤ 1000000) {y : RV} {a b c d a' b' c' d' : Value} {g g' : Int} (h1 : RecH w y a b c d) (h2 : RecH w y a' b' c' d') (hr : ∀ r ∈ y.ws, r.length ≤ 9223372036854775807) (o1 : LdOf l y a b c d g) (o2 : LdOf l y a' b' c' d' g') :
    Calls Tryz.prog 10 #[recV y a b c d, recV y a' b' c' d'] w fun e w' => e = .returned (.bool true) ∧ Below w.heap.size w w' := by
  rcases o1 with ⟨q1, _⟩ | ⟨q1, e1, rfl, rfl, rfl, rfl, _⟩
  · obtain ⟨hg, hi, hn, _⟩ := (loadR_iff hl).1 q1
    exact same_good h1 h2 hi hg hn hr
  · rcases o2 with ⟨q2, _⟩ | ⟨_, _, rfl, rfl, rfl, rfl, _⟩
    · rw [q1] at q2; cases q2
    · subst e1; exact same_zero w
end Go.Proofs.YtehfoaicohnpfaaGreatDoor
