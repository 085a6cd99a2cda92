/- The texts RecI RecJ RecK RecL, one behind the other; each one's own comment says what it holds. -/
import Derived.Test.YtehfoaicohnpfaaGreatDoorRecordScansRowGB
/- Which batches and records may be: contracts of good, bare and Good. Conditions: texts and slices of at most 2^50 elements. -/
set_option maxRecDepth 100000
namespace Go.Proofs.YtehfoaicohnpfaaGreatDoor
open Go.RowKit Go.Maps Go.Sort Go.Lib

theorem few_nat (n most : Nat) (w : World) : Calls Tryz.prog 93 #[.int .i64 (n : Int), .int .i64 (most : Int)] w fun e w' => e = .returned (.bool (fewB n most)) ∧ w = w' := by
  have e : (decide ((1 : Int) ≤ (n : Int)) && decide ((n : Int) ≤ (most : Int))) = fewB n most := by unfold fewB; rw [Bool.eq_iff_iff]; simp; omega
  have := few_any (n : Int) (most : Int) w
  rw [e] at this
  exact this
theorem rowG_false {n : Nat} {r : List VV} (h : r.length ≠ n) : rowG n r = false := by unfold rowG; rw [decide_eq_false h]; rfl
theorem rowG_eq {n : Nat} {r : List VV} (h : r.length = n) : rowG n r = r.all VV.good := by unfold rowG; rw [decide_eq_true h]; rfl
set_option maxHeartbeats 1600000 in
theorem bgood_any {w : World} {v : Value} {ws : List (List VV)} (nm : ByteArray) (h : RowsH w v ws) (hi : ∀ r ∈ ws, ∀ x ∈ r, x.inI) :
    Calls Tryz.prog 97 #[.agg #[.string nm, v]] w fun e w' => e = .returned (.bool (goodBat ws)) ∧ Below w.heap.size w w' := by
  obtain ⟨a, c, rfl, hc⟩ := h.form
  have hb0 := below_o w (.cells #[.string nm, .slice a ws.length c] 89)
  have KF := fun w => few_nat ws.length 200 w
  obtain ⟨B, hB⟩ : ∃ B, goodBat ws = B := ⟨_, rfl⟩
  rw [hB]
  cases h2 : fewB ws.length 200
  · obtain rfl : B = false := by rw [← hB]; unfold goodBat; rw [h2]; rfl
    rw [h2] at KF
    generalize ws.length = n at *
    clear h hi hB h2 hc
    go_enter Tryz.func97, Tryz.ntmps97
    go_wp2_with fail
    refine (KF _).mono ?_
    rintro e w1 ⟨rfl, rfl⟩
    go_wp2_with fail
    go_ret
    exact ⟨rfl, hb0⟩
  rw [h2] at KF
  obtain ⟨hn1, hn2⟩ := fewB_iff.1 h2
  obtain ⟨r0, hr0⟩ : ∃ r0, ws[0]? = some r0 := ⟨ws[0]'(by omega), List.getElem?_eq_getElem _⟩
  have hh : ws.headD [] = r0 := by
    cases ws with
    | nil => simp at hr0
    | cons x l => simp at hr0; simpa using hr0
  have hBe : B = (fewB r0.length 8 && ws.all (rowG r0.length)) := by rw [← hB]; unfold goodBat; rw [h2, hh]; rfl
  obtain ⟨ad, u0, k0, rfl, c0, hv0⟩ := h.at_ hr0
  have e00 : ad.add 0 = ad := by unfold Addr.add; simp
  rw [e00] at c0
  have d0 := kept_below hb0 _ _ c0
  have K8 := fun w => few_nat r0.length 8 w
  have LT := Lib.hid (World.block_lt_of_cell? _ _ c0)
  have C0 := Lib.hid (fun (w' : World) (hb : Below w.heap.size w w') => kept_below hb _ _ c0)
  have H := Lib.hid (fun (w' : World) (hb : Below w.heap.size w w') => h.kept (kept_below hb))
  have HI := Lib.hid hi
  obtain ⟨m, hm⟩ : ∃ m, m = r0.length := ⟨_, rfl⟩
  rw [← hm] at hBe K8 d0 C0
  obtain ⟨n, hn⟩ : ∃ n, n = ws.length := ⟨_, rfl⟩
  rw [← hn] at KF hn1 hn2 hc H d0 ⊢
  have HN := Lib.hid hn
  have HB0 := Lib.hid hb0
  have p0 : (0 : Int) < (n : Int) := by omega
  rw [← hn] at HB0
  clear h hi hB h2 hc c0 hh hr0 hv0 e00 hn hb0
  cases h8 : fewB m 8
  · obtain rfl : B = false := by rw [hBe, h8]; rfl
    rw [h8] at K8
    clear hBe h8 hm HN C0 H HI
    go_enter Tryz.func97, Tryz.ntmps97
    go_wp2_with fail
    refine (KF _).mono ?_
    rintro e w1 ⟨rfl, rfl⟩
    go_wp2_with fail
    refine (K8 _).mono ?_
    rintro e w1 ⟨rfl, rfl⟩
    go_wp2_with fail
    go_ret
    exact ⟨rfl, HB0.out⟩
  rw [h8] at K8
  rw [h8, Bool.true_and] at hBe
  have HBE := Lib.hid hBe
  have hm8 := (fewB_iff.1 h8).2
  have HM := Lib.hid hm
  have H200 := Lib.hid hn2
  clear hBe h8 hm
  obtain ⟨W0, hW0⟩ : ∃ W0, w.alloc (.cells #[.string nm, .slice (some ad) n c] 89) = W0 := ⟨_, rfl⟩
  have hq : W0.heap[w.heap.size]? = some (.cells #[.string nm, .slice (some ad) n c] 89 (0, 0)) := by rw [← hW0]; exact heap_alloc_new w _
  have q1 : W0.cell? ⟨w.heap.size, 1, none⟩ = some (.slice (some ad) n c) := by rw [cell_of_row _ _ _ _ _ _ hq]; rfl
  rw [hW0] at HB0 d0
  have hs0 : W0.heap.size = w.heap.size + 1 := by rw [← hW0]; simp
  have Q1 := Lib.hid (fun (w' : World) (hb : Below W0.heap.size W0 w') => kept_below hb _ _ q1)
  have HS0 := Lib.hid hs0
  clear hq hs0 hn1 hn2
  go_enter Tryz.func97, Tryz.ntmps97
  go_wp2_with fail
  clear hW0
  refine (KF _).mono ?_
  rintro e w1 ⟨rfl, rfl⟩
  go_wp2_with fail
  refine (K8 _).mono ?_
  rintro e w1 ⟨rfl, rfl⟩
  clear KF K8
  go_wp2_with fail
  go_loopw [22] (fun k wr => ∃ i : Nat, k = .int .i64 i ∧ i ≤ n ∧ Hid ((ws.take i).all (rowG m) = true ∧ Below W0.heap.size W0 wr)) (fun k _ => n - (RowKit.intOf k).toNat)
  case atStart => exact ⟨0, rfl, Nat.zero_le _, Lib.hid ⟨by simp, Below.refl _ _⟩⟩
  case round =>
    clear d0 q1
    obtain ⟨i, rfl, hin, HS⟩ := hrel
    have HBw := Lib.hid (HB0.out.trans (HS.out.2.mono (by rw [HS0.out]; omega)))
    by_cases hlt : i < n
    · obtain ⟨r, hr⟩ : ∃ r, ws[i]? = some r := ⟨ws[i]'(HN.out ▸ hlt), List.getElem?_eq_getElem _⟩
      have b0 : (0 : Int) ≤ (i : Int) := Int.natCast_nonneg i
      have b1 : (i : Int) < (n : Int) := Int.ofNat_lt.2 hlt
      have hw64 := wi_next hlt (Nat.le_trans H200.out (by decide))
      have HR := H.out wr HBw.out
      obtain ⟨ad', u, k, e, d0, hv⟩ := HR.at_ hr
      cases e
      have z0 := C0.out wr HBw.out
      have q1 := Q1.out wr HS.out.2
      have hri := HI.out r (List.mem_of_getElem? hr)
      by_cases hne : r.length = m
      · have KG := fun (w' : World) (hb : Below wr.heap.size wr w') => rowgood_any (hv.below hb) hri (by omega)
        have hge := rowG_eq hne
        rw [hne] at d0 KG
        have t0 : ((m : Int) != (m : Int)) = false := by simp
        have KG1 := KG wr (Below.refl _ _)
        clear KG hv hri HR
        cases hgr : r.all VV.good
        · obtain rfl : B = false := by rw [HBE.out]; exact all_false hr (hge.trans hgr)
          rw [hgr] at KG1
          have HBl := Lib.hid HBw.out
          clear hr hge hgr hne HS
          go_wp2_with fail
          refine KG1.mono ?_
          rintro e w2 ⟨rfl, hb2⟩
          have FIN := HBl.out.trans (hb2.mono HBl.out.size)
          clear hb2
          go_wp2_with fail
          go_ret
          exact ⟨rfl, FIN⟩
        · have hT := (all_take_succ hr HS.out.1).trans (hge.trans hgr)
          rw [hgr] at KG1
          have HBl := Lib.hid HS.out.2
          have HT := Lib.hid hT
          clear hr hge hgr hne HS hT
          go_wp2_with fail
          refine KG1.mono ?_
          rintro e w2 ⟨rfl, hb2⟩
          have FIN := Lib.hid (HBl.out.trans (hb2.mono HBl.out.size))
          clear hb2
          go_wp2_with fail
          go_roundw
          case rel => exact ⟨i + 1, by go_num, hlt, Lib.hid ⟨HT.out, FIN.out⟩⟩
          case measure => simp [RowKit.intOf]; omega
      · obtain rfl : B = false := by rw [HBE.out]; exact all_false hr (rowG_false hne)
        have t0 : ((r.length : Int) != (m : Int)) = true := by rw [bne_iff_ne]; omega
        have FIN := HBw.out
        generalize r.length = rl at *
        clear hr hne HS hv hri HR
        go_wp2_with fail
        go_ret
        exact ⟨rfl, FIN⟩
    · have hei : i = n := end_eq hin hlt
      obtain rfl : B = true := by rw [HBE.out, ← HS.out.1, hei, HN.out, List.take_length]
      have FIN := HBw.out
      clear HS HBE HBw
      go_wp2_with fail
      go_ret
      exact ⟨rfl, FIN⟩
end Go.Proofs.YtehfoaicohnpfaaGreatDoor
/- Which records may be: contracts of bare and Good. Conditions: slices of at most 2^60 elements. -/
set_option maxRecDepth 100000
namespace Go.Proofs.YtehfoaicohnpfaaGreatDoor
open Go.RowKit Go.Maps Go.Sort Go.Lib

def bareB (an bn cn dn : Nat) (tn rn rt nm : ByteArray) : Bool := ((((an + bn + cn + dn : Nat) : Int) == 0) && ((tn.toList == []) && ((rn.toList == []) && ((rt.toList == []) && (nm.toList == [])))))
set_option maxHeartbeats 1600000 in
theorem bare_any (k : Int) (tn rn rt nm : ByteArray) (a1 b1 c1 d1 : Option Addr) (an ac bn bc cn cc dn dc : Nat) (w : World) (ha : an ≤ 1152921504606846976) (hb : bn ≤ 1152921504606846976) (hc : cn ≤ 1152921504606846976) (hd : dn ≤ 1152921504606846976) :
    Calls Tryz.prog 23 #[.agg #[.int .i64 k, .string tn, .slice a1 an ac, .string rn, .string rt, .slice b1 bn bc, .slice c1 cn cc, .string nm, .slice d1 dn dc]] w fun e w' =>
      e = .returned (.bool (bareB an bn cn dn tn rn rt nm)) ∧ Below w.heap.size w w' := by
  obtain ⟨s1, hs1⟩ : ∃ s1, an + bn = s1 := ⟨_, rfl⟩
  obtain ⟨s2, hs2⟩ : ∃ s2, s1 + cn = s2 := ⟨_, rfl⟩
  obtain ⟨s3, hs3⟩ : ∃ s3, s2 + dn = s3 := ⟨_, rfl⟩
  have e1 : IntKind.i64.wrap ((an : Int) + (bn : Int)) = (s1 : Int) := by rw [IntKind.wrap_i64]; omega
  have e2 : IntKind.i64.wrap ((s1 : Int) + (cn : Int)) = (s2 : Int) := by rw [IntKind.wrap_i64]; omega
  have e3 : IntKind.i64.wrap ((s2 : Int) + (dn : Int)) = (s3 : Int) := by rw [IntKind.wrap_i64]; omega
  unfold bareB
  rw [hs1, hs2, hs3]
  clear hs1 hs2 hs3 ha hb hc hd
  cases t0 : ((s3 : Int) == 0)
  · go_enter Tryz.func23, Tryz.ntmps23
    go_wp2_with fail
    go_ret
    exact ⟨rfl, below_o _ _⟩
  cases t1 : (tn.toList == [])
  · go_enter Tryz.func23, Tryz.ntmps23
    go_wp2_with fail
    go_ret
    exact ⟨rfl, below_o _ _⟩
  cases t2 : (rn.toList == [])
  · go_enter Tryz.func23, Tryz.ntmps23
    go_wp2_with fail
    go_ret
    exact ⟨rfl, below_o _ _⟩
  cases t3 : (rt.toList == [])
  · go_enter Tryz.func23, Tryz.ntmps23
    go_wp2_with fail
    go_ret
    exact ⟨rfl, below_o _ _⟩
  cases t4 : (nm.toList == [])
  · go_enter Tryz.func23, Tryz.ntmps23
    go_wp2_with fail
    go_ret
    exact ⟨rfl, below_o _ _⟩
  go_enter Tryz.func23, Tryz.ntmps23
  go_wp2_with fail
  go_ret
  exact ⟨rfl, below_o _ _⟩
theorem str_empty (s : ByteArray) : (s.toList == []) = (s.size == 0) := by
  rw [Lib.toList_data, Lib.size_eq, Bool.eq_iff_iff]
  simp
  exact ⟨fun h => ByteArray.ext h, fun h => by rw [h]; rfl⟩
theorem m_table_good (v : Value) (w : World) : (method 256 86 v "talus/record.good").run Tryz.prog w = .ok (91, v) w := by kernel_rfl
theorem m_rollup_good (v : Value) (w : World) : (method 256 87 v "talus/record.good").run Tryz.prog w = .ok (95, v) w := by kernel_rfl
theorem m_batch_good (v : Value) (w : World) : (method 256 89 v "talus/record.good").run Tryz.prog w = .ok (97, v) w := by kernel_rfl
/-- slices are not too long -/
structure RV.fit (x : RV) : Prop where
  tc : x.tc.length ≤ 1152921504606846976
  rd : x.rd.length ≤ 1152921504606846976
  rm : x.rm.length ≤ 1152921504606846976
  ws : x.ws.length ≤ 1152921504606846976
theorem box9 {w W w2 : World} {x : Value} {t : TypeId} {n : Nat} (h1 : Below n w W) (hn : n ≤ W.heap.size) (h2 : Below (W.alloc (.cells #[x] t)).heap.size (W.alloc (.cells #[x] t)) w2) : Below n w w2 := h1.trans (((below_o W _).trans (h2.mono (by simp))).mono hn)
theorem goodT {x : RV} (hk : x.k = 1) : goodR x = (fewB x.tc.length 8 && bareB 0 x.rd.length x.rm.length x.ws.length ⟨#[]⟩ x.rn x.rt x.nm) := by
  unfold goodR noR noB bareB
  rw [if_pos hk, str_empty, str_empty, str_empty, str_empty, Bool.eq_iff_iff]
  simp only [Bool.and_eq_true, beq_iff_eq]
  constructor
  · rintro ⟨a, ⟨⟨⟨b, c⟩, d⟩, e⟩, f, g⟩
    exact ⟨a, by omega, rfl, b, c, f⟩
  · rintro ⟨a, b, c, d, e, f⟩
    exact ⟨a, ⟨⟨⟨d, e⟩, by omega⟩, by omega⟩, f, by omega⟩
theorem goodO {x : RV} (hk : x.k = 2) : goodR x = ((decide (x.rd.length ≤ 8) && decide (x.rm.length ≤ 16)) && bareB x.tc.length 0 0 x.ws.length x.tn ⟨#[]⟩ ⟨#[]⟩ x.nm) := by
  unfold goodR noT noB bareB goodRol
  rw [if_neg (by omega), if_pos hk, str_empty, str_empty, str_empty, Bool.eq_iff_iff]
  simp only [Bool.and_eq_true, beq_iff_eq]
  constructor
  · rintro ⟨a, ⟨b, c⟩, f, g⟩
    exact ⟨a, by omega, b, rfl, rfl, f⟩
  · rintro ⟨a, b, c, d, e, f⟩
    exact ⟨a, ⟨c, by omega⟩, f, by omega⟩
theorem goodB {x : RV} (hk : x.k = 3) : goodR x = (goodBat x.ws && bareB x.tc.length x.rd.length x.rm.length 0 x.tn x.rn x.rt ⟨#[]⟩) := by
  unfold goodR noT noR bareB
  rw [if_neg (by omega), if_neg (by omega), if_pos hk, str_empty, str_empty, str_empty, str_empty, Bool.eq_iff_iff]
  simp only [Bool.and_eq_true, beq_iff_eq]
  constructor
  · rintro ⟨a, ⟨b, c⟩, ⟨⟨d, e⟩, f⟩, g⟩
    exact ⟨a, by omega, b, d, e, rfl⟩
  · rintro ⟨a, b, c, d, e, f⟩
    exact ⟨a, ⟨c, by omega⟩, ⟨⟨d, e⟩, by omega⟩, by omega⟩
set_option maxHeartbeats 3200000 in
theorem rgood_1 {w : World} {x : RV} {a b c d : Value} (h : RecH w x a b c d) (hi : x.inI) (hf : x.fit) (hk : x.k = 1) :
    Calls Tryz.prog 11 #[recV x a b c d] w fun e w' => e = .returned (.bool (goodR x)) ∧ Below w.heap.size w w' := by
  obtain ⟨a1, ac, b1, bc, c1, cc, d1, dc, rfl, rfl, rfl, rfl⟩ := h.form
  rw [goodT hk]
  unfold recV
  rw [hk]
  have KS := split_1 x.tn x.rn x.rt x.nm a1 b1 c1 d1 x.tc.length ac x.rd.length bc x.rm.length cc x.ws.length dc
  have KB := fun w => bare_any 1 ⟨#[]⟩ x.rn x.rt x.nm none b1 c1 d1 0 0 x.rd.length bc x.rm.length cc x.ws.length dc w (by decide) hf.rd hf.rm hf.ws
  have KG := tgood_any x.tn a1 x.tc.length ac
  have mg := m_table_good
  have HB0 := Lib.hid (below_o w (.cells #[.int .i64 1, .string x.tn, .slice a1 x.tc.length ac, .string x.rn, .string x.rt, .slice b1 x.rd.length bc, .slice c1 x.rm.length cc, .string x.nm, .slice d1 x.ws.length dc] 43))
  obtain ⟨k, tn, tc, rn, rt, rd, rm, nm, ws⟩ := x
  simp only at *
  clear hk hi hf h
  generalize tc.length = an at *
  generalize rd.length = bn at *
  generalize rm.length = cn at *
  generalize hgb : fewB an 8 = gb at *
  generalize ws.length = dn at *
  generalize hbb : bareB 0 bn cn dn ⟨#[]⟩ rn rt nm = bb at *
  clear hbb hgb
  cases gb
  · go_enter Tryz.func11, Tryz.ntmps11
    go_wp2_with fail
    refine (KS _).mono ?_
    rintro e w1 ⟨rfl, hb1⟩
    have HB1 := Lib.hid (HB0.out.trans (hb1.mono HB0.out.size))
    clear hb1 KS
    go_wp2_with fail
    refine (KG _).mono ?_
    rintro e w2 ⟨rfl, hb2⟩
    have FIN := HB1.out.trans (((below_o w1 _).trans (hb2.mono (by simp))).mono HB1.out.size)
    clear hb2
    go_wp2_with fail
    go_ret
    exact ⟨rfl, FIN⟩
  · go_enter Tryz.func11, Tryz.ntmps11
    go_wp2_with fail
    refine (KS _).mono ?_
    rintro e w1 ⟨rfl, hb1⟩
    have HB1 := Lib.hid (HB0.out.trans (hb1.mono HB0.out.size))
    clear hb1 KS
    go_wp2_with fail
    obtain ⟨W1, hW1⟩ : ∃ W1, w1.alloc (.cells #[.int .i64 1, .string ⟨#[]⟩, .slice none 0 0, .string rn, .string rt, .slice b1 bn bc, .slice c1 cn cc, .string nm, .slice d1 dn dc] 43) = W1 := ⟨_, rfl⟩
    have hq : W1.heap[w1.heap.size]? = some (.cells #[.int .i64 1, .string ⟨#[]⟩, .slice none 0 0, .string rn, .string rt, .slice b1 bn bc, .slice c1 cn cc, .string nm, .slice d1 dn dc] 43 (0, 0)) := by rw [← hW1]; exact heap_alloc_new w1 _
    have hbq : Below w1.heap.size w1 W1 := by rw [← hW1]; exact below_o _ _
    have hsq : w1.heap.size < W1.heap.size := by rw [← hW1]; simp
    (try rw [hW1])
    refine (KG _).mono ?_
    rintro e w2 ⟨rfl, hb2⟩
    obtain ⟨q0, q1, q2, q3, q4, q5, q6, q7, q8, _⟩ := nine_cells ((hb2.block _ hsq).trans hq)
    have HB2 := Lib.hid (HB1.out.trans ((hbq.trans (hb2.mono (by omega))).mono HB1.out.size))
    clear hb2 hq hbq hsq hW1
    go_wp2_with fail
    refine (KB _).mono ?_
    rintro e w3 ⟨rfl, hb3⟩
    have FIN := HB2.out.trans (hb3.mono HB2.out.size)
    clear hb3
    go_wp2_with fail
    go_ret
    exact ⟨rfl, FIN⟩
set_option maxHeartbeats 3200000 in
theorem rgood_2 {w : World} {x : RV} {a b c d : Value} (h : RecH w x a b c d) (hi : x.inI) (hf : x.fit) (hk : x.k = 2) :
    Calls Tryz.prog 11 #[recV x a b c d] w fun e w' => e = .returned (.bool (goodR x)) ∧ Below w.heap.size w w' := by
  obtain ⟨a1, ac, b1, bc, c1, cc, d1, dc, rfl, rfl, rfl, rfl⟩ := h.form
  rw [goodO hk]
  unfold recV
  rw [hk]
  have KS := split_2 x.tn x.rn x.rt x.nm a1 b1 c1 d1 x.tc.length ac x.rd.length bc x.rm.length cc x.ws.length dc
  have KB := fun w => bare_any 2 x.tn ⟨#[]⟩ ⟨#[]⟩ x.nm a1 none none d1 x.tc.length ac 0 0 0 0 x.ws.length dc w hf.tc (by decide) (by decide) hf.ws
  have KG := rgood_any x.rn x.rt b1 c1 x.rd.length bc x.rm.length cc
  have mg := m_rollup_good
  have HB0 := Lib.hid (below_o w (.cells #[.int .i64 2, .string x.tn, .slice a1 x.tc.length ac, .string x.rn, .string x.rt, .slice b1 x.rd.length bc, .slice c1 x.rm.length cc, .string x.nm, .slice d1 x.ws.length dc] 43))
  obtain ⟨k, tn, tc, rn, rt, rd, rm, nm, ws⟩ := x
  simp only at *
  clear hk hi hf h
  generalize tc.length = an at *
  generalize rd.length = bn at *
  generalize rm.length = cn at *
  generalize hgb : (decide (bn ≤ 8) && decide (cn ≤ 16)) = gb at *
  generalize ws.length = dn at *
  generalize hbb : bareB an 0 0 dn tn ⟨#[]⟩ ⟨#[]⟩ nm = bb at *
  clear hbb hgb
  cases gb
  · go_enter Tryz.func11, Tryz.ntmps11
    go_wp2_with fail
    refine (KS _).mono ?_
    rintro e w1 ⟨rfl, hb1⟩
    have HB1 := Lib.hid (HB0.out.trans (hb1.mono HB0.out.size))
    clear hb1 KS
    go_wp2_with fail
    refine (KG _).mono ?_
    rintro e w2 ⟨rfl, hb2⟩
    have FIN := HB1.out.trans (((below_o w1 _).trans (hb2.mono (by simp))).mono HB1.out.size)
    clear hb2
    go_wp2_with fail
    go_ret
    exact ⟨rfl, FIN⟩
  · go_enter Tryz.func11, Tryz.ntmps11
    go_wp2_with fail
    refine (KS _).mono ?_
    rintro e w1 ⟨rfl, hb1⟩
    have HB1 := Lib.hid (HB0.out.trans (hb1.mono HB0.out.size))
    clear hb1 KS
    go_wp2_with fail
    obtain ⟨W1, hW1⟩ : ∃ W1, w1.alloc (.cells #[.int .i64 2, .string tn, .slice a1 an ac, .string ⟨#[]⟩, .string ⟨#[]⟩, .slice none 0 0, .slice none 0 0, .string nm, .slice d1 dn dc] 43) = W1 := ⟨_, rfl⟩
    have hq : W1.heap[w1.heap.size]? = some (.cells #[.int .i64 2, .string tn, .slice a1 an ac, .string ⟨#[]⟩, .string ⟨#[]⟩, .slice none 0 0, .slice none 0 0, .string nm, .slice d1 dn dc] 43 (0, 0)) := by rw [← hW1]; exact heap_alloc_new w1 _
    have hbq : Below w1.heap.size w1 W1 := by rw [← hW1]; exact below_o _ _
    have hsq : w1.heap.size < W1.heap.size := by rw [← hW1]; simp
    (try rw [hW1])
    refine (KG _).mono ?_
    rintro e w2 ⟨rfl, hb2⟩
    obtain ⟨q0, q1, q2, q3, q4, q5, q6, q7, q8, _⟩ := nine_cells ((hb2.block _ hsq).trans hq)
    have HB2 := Lib.hid (HB1.out.trans ((hbq.trans (hb2.mono (by omega))).mono HB1.out.size))
    clear hb2 hq hbq hsq hW1
    go_wp2_with fail
    refine (KB _).mono ?_
    rintro e w3 ⟨rfl, hb3⟩
    have FIN := HB2.out.trans (hb3.mono HB2.out.size)
    clear hb3
    go_wp2_with fail
    go_ret
    exact ⟨rfl, FIN⟩
set_option maxHeartbeats 3200000 in
theorem rgood_3 {w : World} {x : RV} {a b c d : Value} (h : RecH w x a b c d) (hi : x.inI) (hf : x.fit) (hk : x.k = 3) :
    Calls Tryz.prog 11 #[recV x a b c d] w fun e w' => e = .returned (.bool (goodR x)) ∧ Below w.heap.size w w' := by
  obtain ⟨a1, ac, b1, bc, c1, cc, d1, dc, rfl, rfl, rfl, rfl⟩ := h.form
  rw [goodB hk]
  unfold recV
  rw [hk]
  have KS := split_3 x.tn x.rn x.rt x.nm a1 b1 c1 d1 x.tc.length ac x.rd.length bc x.rm.length cc x.ws.length dc
  have KB := fun w => bare_any 3 x.tn x.rn x.rt ⟨#[]⟩ a1 b1 c1 none x.tc.length ac x.rd.length bc x.rm.length cc 0 0 w hf.tc hf.rd hf.rm (by decide)
  have KG := Lib.hid (fun (w' : World) (hb : Below w.heap.size w w') => bgood_any x.nm (h.ws.kept (kept_below hb)) hi.ws)
  have mg := m_batch_good
  have HB0 := Lib.hid (below_o w (.cells #[.int .i64 3, .string x.tn, .slice a1 x.tc.length ac, .string x.rn, .string x.rt, .slice b1 x.rd.length bc, .slice c1 x.rm.length cc, .string x.nm, .slice d1 x.ws.length dc] 43))
  obtain ⟨k, tn, tc, rn, rt, rd, rm, nm, ws⟩ := x
  simp only at *
  clear hk hi hf h
  generalize tc.length = an at *
  generalize rd.length = bn at *
  generalize rm.length = cn at *
  generalize goodBat ws = gb at *
  generalize ws.length = dn at *
  generalize hbb : bareB an bn cn 0 tn rn rt ⟨#[]⟩ = bb at *
  clear hbb
  cases gb
  · go_enter Tryz.func11, Tryz.ntmps11
    go_wp2_with fail
    refine (KS _).mono ?_
    rintro e w1 ⟨rfl, hb1⟩
    have HB1 := Lib.hid (HB0.out.trans (hb1.mono HB0.out.size))
    clear hb1 KS
    go_wp2_with fail
    refine (KG.out _ (HB1.out.trans ((below_o w1 _).mono HB1.out.size))).mono ?_
    rintro e w2 ⟨rfl, hb2⟩
    have FIN := HB1.out.trans (((below_o w1 _).trans (hb2.mono (by simp))).mono HB1.out.size)
    clear hb2
    go_wp2_with fail
    go_ret
    exact ⟨rfl, FIN⟩
  · go_enter Tryz.func11, Tryz.ntmps11
    go_wp2_with fail
    refine (KS _).mono ?_
    rintro e w1 ⟨rfl, hb1⟩
    have HB1 := Lib.hid (HB0.out.trans (hb1.mono HB0.out.size))
    clear hb1 KS
    go_wp2_with fail
    obtain ⟨W1, hW1⟩ : ∃ W1, w1.alloc (.cells #[.int .i64 3, .string tn, .slice a1 an ac, .string rn, .string rt, .slice b1 bn bc, .slice c1 cn cc, .string ⟨#[]⟩, .slice none 0 0] 43) = W1 := ⟨_, rfl⟩
    have hq : W1.heap[w1.heap.size]? = some (.cells #[.int .i64 3, .string tn, .slice a1 an ac, .string rn, .string rt, .slice b1 bn bc, .slice c1 cn cc, .string ⟨#[]⟩, .slice none 0 0] 43 (0, 0)) := by rw [← hW1]; exact heap_alloc_new w1 _
    have hbq : Below w1.heap.size w1 W1 := by rw [← hW1]; exact below_o _ _
    have hsq : w1.heap.size < W1.heap.size := by rw [← hW1]; simp
    (try rw [hW1])
    refine (KG.out _ (HB1.out.trans (hbq.mono HB1.out.size))).mono ?_
    rintro e w2 ⟨rfl, hb2⟩
    obtain ⟨q0, q1, q2, q3, q4, q5, q6, q7, q8, _⟩ := nine_cells ((hb2.block _ hsq).trans hq)
    have HB2 := Lib.hid (HB1.out.trans ((hbq.trans (hb2.mono (by omega))).mono HB1.out.size))
    clear hb2 hq hbq hsq hW1
    go_wp2_with fail
    refine (KB _).mono ?_
    rintro e w3 ⟨rfl, hb3⟩
    have FIN := HB2.out.trans (hb3.mono HB2.out.size)
    clear hb3
    go_wp2_with fail
    go_ret
    exact ⟨rfl, FIN⟩
theorem rgood_no (x : RV) (h1 : x.k ≠ 1) (h2 : x.k ≠ 2) (h3 : x.k ≠ 3) {w : World} {a b c d : Value} (h : RecH w x a b c d) :
    Calls Tryz.prog 11 #[recV x a b c d] w fun e w' => e = .returned (.bool (goodR x)) ∧ Below w.heap.size w w' := by
  obtain ⟨a1, ac, b1, bc, c1, cc, d1, dc, rfl, rfl, rfl, rfl⟩ := h.form
  have eg : goodR x = false := by unfold goodR; rw [if_neg h1, if_neg h2, if_neg h3]
  rw [eg]
  unfold recV
  have KS := split_no x.k h1 h2 h3 x.tn x.rn x.rt x.nm a1 b1 c1 d1 x.tc.length ac x.rd.length bc x.rm.length cc x.ws.length dc
  have HB0 := Lib.hid (below_o w (.cells #[.int .i64 x.k, .string x.tn, .slice a1 x.tc.length ac, .string x.rn, .string x.rt, .slice b1 x.rd.length bc, .slice c1 x.rm.length cc, .string x.nm, .slice d1 x.ws.length dc] 43))
  obtain ⟨k, tn, tc, rn, rt, rd, rm, nm, ws⟩ := x
  simp only at *
  clear h1 h2 h3 eg h
  generalize tc.length = an at *
  generalize rd.length = bn at *
  generalize rm.length = cn at *
  generalize ws.length = dn at *
  go_enter Tryz.func11, Tryz.ntmps11
  go_wp2_with fail
  refine (KS _).mono ?_
  rintro e w1 ⟨rfl, hb1⟩
  have FIN := HB0.out.trans ((hb1.mono HB0.out.size).trans ((below_o w1 (.cells #[.int .i64 k, .string tn, .slice a1 an ac, .string rn, .string rt, .slice b1 bn bc, .slice c1 cn cc, .string nm, .slice d1 dn dc] 43)).mono (Nat.le_trans HB0.out.size hb1.size)))
  clear hb1 KS
  go_wp2_with fail
  go_ret
  exact ⟨rfl, FIN⟩
/-- Good, at any record -/
theorem rgood_all {w : World} {x : RV} {a b c d : Value} (h : RecH w x a b c d) (hi : x.inI) (hf : x.fit) :
    Calls Tryz.prog 11 #[recV x a b c d] w fun e w' => e = .returned (.bool (goodR x)) ∧ Below w.heap.size w w' := by
  by_cases h1 : x.k = 1
  · exact rgood_1 h hi hf h1
  by_cases h2 : x.k = 2
  · exact rgood_2 h hi hf h2
  by_cases h3 : x.k = 3
  · exact rgood_3 h hi hf h3
  exact rgood_no x h1 h2 h3 h
end Go.Proofs.YtehfoaicohnpfaaGreatDoor
/- A record's bytes: numbers, texts, and what each kind puts. Conditions: at most 2^44 bytes. -/
set_option maxRecDepth 100000
namespace Go.Proofs.YtehfoaicohnpfaaGreatDoor
open Go.RowKit Go.Maps Go.Sort Go.Lib

/-- blocks that hold no bytes are as they were -/
def Typ (w w' : World) : Prop := w.heap.size ≤ w'.heap.size ∧ ∀ (k : Nat) (cs : Array Value) (t : TypeId), w.heap[k]? = some (.cells cs t (0, 0)) → t ≠ 5 → w'.heap[k]? = some (.cells cs t (0, 0))
theorem Typ.refl (w : World) : Typ w w := ⟨Nat.le_refl _, fun _ _ _ h _ => h⟩
theorem Typ.trans {a b c : World} (h : Typ a b) (k : Typ b c) : Typ a c := ⟨Nat.le_trans h.1 k.1, fun n cs t hn ht => k.2 n cs t (h.2 n cs t hn ht) ht⟩
theorem Typ.below {w w' : World} (h : Below w.heap.size w w') : Typ w w' := ⟨h.size, fun k _ _ hk _ => (h.block k (lt_of_heap hk)).trans hk⟩
theorem Typ.grown {w w' : World} {B : Nat} {v : Value} {n : Nat} {xs : List Value} (ho : w.ownsRow B 5 1 v n xs) (h : w.grownBy w' v.ownBlock) : Typ w w' :=
  ⟨h.size, fun k _ _ hk ht => (h.block k (lt_of_heap hk) (fun e => row_ne ho hk ht k e.symm rfl)).trans hk⟩
/-- bytes that are put behind others -/
def PutP (w wr : World) (acc : List UInt8) (e : Ending) (w' : World) : Prop := ∃ v', e = .returned v' ∧ Out w w' v' acc ∧ Typ wr w'
theorem Out.start (w : World) : Out w w (.slice none 0 0) [] := ⟨World.ownsRow_nil _ _ _ _, Below.refl _ _⟩
theorem putNumber_at {w wr : World} {v : Value} {acc : List UInt8} (h : Out w wr v acc) (n : Int) (hl : acc.length ≤ 17592186044000) :
    Calls Tryz.prog 59 #[v, .int .i64 n] wr (PutP w wr (acc ++ inL n)) := by
  have KP := put_nil (uN n) (uN_lt n) wr
  have hw := uN_wrap n
  have hd := dig_len10 (uN_lt n)
  have hin : inL n = dig (uN n) := rfl
  rw [hin]
  generalize uN n = u at *
  obtain ⟨a, c, rfl, _⟩ := ownsRow_form h.1
  have HO := Lib.hid h
  have HD := Lib.hid (And.intro hd hl)
  obtain ⟨m, hm⟩ : ∃ m, acc.length = m := ⟨_, rfl⟩
  have HM := Lib.hid hm
  rw [hm]
  clear h hd hl hin hm
  go_enter Tryz.func59, Tryz.ntmps59
  go_wp2_with fail
  refine KP.mono ?_
  rintro e w1 ⟨v1, rfl, ho, hb⟩
  have h1 := HO.out.next hb
  have hO : Holds w1 v1 (u8s (dig u)) := Holds.of_row (by rw [u8s_len]; exact ho)
  obtain ⟨v', w2, r, o, g, _⟩ := app8 h1.1 h1.2.size hO (by have := HD.out; omega)
  have FIN : Hid (PutP w wr (acc ++ dig u) (.returned v') w2) := Lib.hid ⟨v', rfl, ⟨o, h1.2.trans (below_grown g h1.2.size (ownsRow_ge h1.1))⟩, (Typ.below hb).trans (Typ.grown h1.1 g)⟩
  rw [HM.out] at r
  have R := Lib.hid r
  clear ho hb h1 hO o g r KP
  go_wp2_with (at_builtin; refine wpList_append_run rfl _ _ 22 rfl rfl rfl (R.out _) ?_)
  go_ret
  exact FIN.out
theorem inL_len (n : Int) : (inL n).length ≤ 10 := dig_len10 (uN_lt n)
theorem putText_at {w wr : World} {v : Value} {acc : List UInt8} (h : Out w wr v acc) (s : ByteArray) (hl : acc.length + s.size + 10 ≤ 17592186044000) :
    Calls Tryz.prog 94 #[v, .string s] wr (PutP w wr (acc ++ txL s)) := by
  have KN := putNumber_at h (s.size : Int) (by omega)
  have ht : txL s = inL (s.size : Int) ++ s.data.toList := by unfold txL inL; rw [uN_nat (by omega)]
  have hd := inL_len (s.size : Int)
  rw [ht, ← List.append_assoc]
  generalize inL (s.size : Int) = D at *
  obtain ⟨a, c, rfl, _⟩ := ownsRow_form h.1
  have HL := Lib.hid (And.intro hd hl)
  obtain ⟨m, hm⟩ : ∃ m, acc.length = m := ⟨_, rfl⟩
  have HM := Lib.hid hm
  rw [hm] at KN ⊢
  clear h hd hl ht hm
  go_enter Tryz.func94, Tryz.ntmps94
  go_wp2_with fail
  refine KN.mono ?_
  rintro e w1 ⟨v1, rfl, ho, hT⟩
  obtain ⟨v', w2, r, o, g⟩ := app_str (u := 9) Tryz.underlying9 ho.1 ho.2.size s (by rw [List.length_append]; have := HL.out; omega)
  have FIN : Hid (PutP w wr (acc ++ D ++ s.data.toList) (.returned v') w2) := Lib.hid ⟨v', rfl, ⟨o, ho.2.trans (below_grown g ho.2.size (ownsRow_ge ho.1))⟩, hT.trans (Typ.grown ho.1 g)⟩
  obtain ⟨va, vc, hv, _⟩ := ownsRow_form ho.1
  generalize (acc ++ D).length = N at hv
  subst hv
  have R := Lib.hid r
  clear ho hT o g r KN
  go_wp2_with (at_builtin; refine wpList_append_run2 rfl _ _ 22 9 rfl rfl rfl (R.out _) ?_)
  go_ret
  exact FIN.out
end Go.Proofs.YtehfoaicohnpfaaGreatDoor
/- A record's bytes: what a table, a rollup and a batch put. Conditions: at most 2^43 bytes. -/
set_option maxRecDepth 100000
namespace Go.Proofs.YtehfoaicohnpfaaGreatDoor
open Go.RowKit Go.Maps Go.Sort Go.Lib

theorem Out.typ {w wr : World} {v : Value} {acc : List UInt8} (h : Out w wr v acc) (o : Obj) : Out w (wr.alloc o) v acc := h.next (below_o _ _)
theorem inL_nat {n : Nat} (h : n < 18446744073709551616) : inL (n : Int) = dig n := by unfold inL; rw [uN_nat h]
theorem many_take {α : Type} {e : α → List UInt8} {l : List α} {i : Nat} {x : α} (h : l[i]? = some x) : manyL e (l.take (i + 1)) = manyL e (l.take i) ++ e x := by
  rw [List.take_add_one, h, Option.toList_some, manyL_snoc]
theorem many_le {α : Type} {e : α → List UInt8} : ∀ (l : List α) (i : Nat), (manyL e (l.take i)).length ≤ (manyL e l).length
  | [], i => by simp
  | x :: l, 0 => by simp [manyL]
  | x :: l, i + 1 => by
    rw [List.take_succ_cons, manyL_cons, manyL_cons, List.length_append, List.length_append]
    have := many_le (e := e) l i
    omega
theorem put_room {α : Type} {e : α → List UInt8} {l : List α} {i : Nat} {x : α} (h : l[i]? = some x) : (manyL e (l.take i)).length + (e x).length ≤ (manyL e l).length := by
  have h1 := many_le (e := e) l (i + 1)
  rw [many_take h, List.length_append] at h1
  exact h1
theorem PutP.eq {w wr : World} {a b : List UInt8} (h : a = b) {e : Ending} {w' : World} (hp : PutP w wr a e w') : PutP w wr b e w' := h ▸ hp
/-- the box of a struct of two cells, and those cells -/
theorem two_at {w : World} {x y : Value} {t : TypeId} : (w.alloc (.cells #[x, y] t)).heap[w.heap.size]? = some (.cells #[x, y] t (0, 0)) := heap_alloc_new w _
set_option maxHeartbeats 1600000 in
theorem tput_at {w wz : World} {v : Value} {acc : List UInt8} (h : Out w wz v acc) (tn : ByteArray) (cs : List (ByteArray × Int)) {a : Value} (ha : Holds2 w a (cs.map colC)) (hl : acc.length + (txL tn ++ (dig cs.length ++ manyL colL cs)).length ≤ 8796093022208) (hn : cs.length ≤ 1000000000) :
    Calls Tryz.prog 92 #[.agg #[.string tn, a], v] wz (PutP w wz (acc ++ (txL tn ++ (dig cs.length ++ manyL colL cs)))) := by
  obtain ⟨a1, c1, rfl, hc⟩ := ha.form
  rw [List.length_map] at *
  obtain ⟨F, hF⟩ : ∃ F, acc ++ (txL tn ++ (dig cs.length ++ manyL colL cs)) = F := ⟨_, rfl⟩
  rw [hF]
  have hF2 : (acc ++ txL tn) ++ dig cs.length ++ manyL colL cs = F := by rw [← hF]; simp only [List.append_assoc]
  simp only [List.length_append] at hl
  have htl := txL_len tn
  obtain ⟨va, vc, hv, _⟩ := ownsRow_form h.1
  have HB := Lib.hid (fun (o : Obj) => h.typ o)
  have HTb := Lib.hid (fun (o : Obj) => Typ.below (below_o wz o))
  have KT := fun (o : Obj) => putText_at (h.typ o) tn (by omega)
  have KN := Lib.hid (fun (W : World) (v' : Value) (ho : Out w W v' (acc ++ txL tn)) => putNumber_at ho (cs.length : Int) (by rw [List.length_append]; omega))
  rw [inL_nat (by omega)] at KN
  have HR := Lib.hid (fun (i : Nat) (s : ByteArray) (z : Int) (hi : cs[i]? = some (s, z)) => (by
    have h1 := put_room (e := colL) hi
    simp only [colL, List.length_append] at h1
    have h2 := txL_len s
    have h3 := inL_len z
    simp only [List.length_append]
    exact ⟨by omega, by omega⟩ : ((acc ++ txL tn) ++ dig cs.length ++ manyL colL (cs.take i)).length + s.size + 10 ≤ 17592186044000 ∧ (((acc ++ txL tn) ++ dig cs.length ++ manyL colL (cs.take i)) ++ txL s).length ≤ 17592186044000))
  have HA := Lib.hid ha
  have HF := Lib.hid hF2
  subst hv
  generalize acc.length = m at *
  obtain ⟨n, hn'⟩ : ∃ n, n = cs.length := ⟨_, rfl⟩
  rw [← hn'] at KN HR HF hn hc HA ⊢
  have HN := Lib.hid hn'
  have HNL := Lib.hid hn
  clear h ha hl hF hF2 htl hn' hn
  go_enter Tryz.func92, Tryz.ntmps92
  go_wp2_with fail
  refine (KT _).mono ?_
  rintro e w1 ⟨v1, rfl, ho1, hT1⟩
  have hq := hT1.2 _ _ _ (heap_alloc_new wz _) (by decide)
  have q1 : w1.cell? ⟨wz.heap.size, 1, none⟩ = some (.slice a1 n c1) := by rw [cell_of_row _ _ _ _ _ _ hq]; rfl
  have KN1 := KN.out w1 v1 ho1
  have HT1 := Lib.hid ((HTb.out _).trans hT1)
  obtain ⟨va1, vc1, hv1, _⟩ := ownsRow_form ho1.1
  generalize (acc ++ txL tn).length = m1 at hv1
  subst hv1
  have HQ := Lib.hid hq
  clear ho1 hT1 hq KT KN
  go_wp2_with fail
  refine KN1.mono ?_
  rintro e w2 ⟨v2, rfl, ho2, hT2⟩
  have q2 : w2.cell? ⟨wz.heap.size, 1, none⟩ = some (.slice a1 n c1) := by rw [cell_of_row _ _ _ _ _ _ (hT2.2 _ _ _ HQ.out (by decide))]; rfl
  have HT2 := Lib.hid (HT1.out.trans hT2)
  have HO2 := Lib.hid ho2
  clear ho2 hT2 KN1 q1 HQ HT1
  go_wp2_with fail
  go_loopw [1, 19] (fun s1 k W => ∃ (i : Nat) (v' : Value), k = .int .i64 i ∧ v' = s1 ∧ i ≤ n ∧ Hid (Out w W v' ((acc ++ txL tn) ++ dig n ++ manyL colL (cs.take i)) ∧ Typ wz W)) (fun _ k _ => n - (RowKit.intOf k).toNat)
  case atStart => exact ⟨0, v2, rfl, rfl, Nat.zero_le _, Lib.hid ⟨by simpa [manyL] using HO2.out, HT2.out⟩⟩
  case round =>
    clear HO2 HT2 q2
    obtain ⟨i, v', rfl, rfl, hin, HS⟩ := hrel
    by_cases hlt : i < n
    · obtain ⟨⟨s, z⟩, hx⟩ : ∃ c, cs[i]? = some c := ⟨cs[i]'(HN.out ▸ hlt), List.getElem?_eq_getElem _⟩
      obtain ⟨ad, rfl, d0, d1⟩ := (HA.out.kept (kept_below HS.out.1.2)).at_ (i := i) (x := colC (s, z)) (by rw [List.getElem?_map, hx]; rfl)
      have b0 : (0 : Int) ≤ (i : Int) := Int.natCast_nonneg i
      have b1 : (i : Int) < (n : Int) := Int.ofNat_lt.2 hlt
      have hw64 := wi_next hlt HNL.out
      obtain ⟨r1, r2⟩ := HR.out i s z hx
      have hnx : (acc ++ txL tn) ++ dig n ++ manyL colL (cs.take (i + 1)) = ((acc ++ txL tn) ++ dig n ++ manyL colL (cs.take i)) ++ txL s ++ inL z := by
        rw [many_take hx]
        simp only [colL, List.append_assoc]
      have HNX := Lib.hid hnx
      generalize (acc ++ txL tn) ++ dig n ++ manyL colL (cs.take i) = X at *
      simp only [colC] at d0 d1
      have HX := Lib.hid (fun (o : Obj) => HS.out.1.typ o)
      have KT := fun (o : Obj) => putText_at (HS.out.1.typ o) s r1
      have KN := Lib.hid (fun (W : World) (v' : Value) (ho : Out w W v' (X ++ txL s)) => putNumber_at ho z r2)
      have HTW := Lib.hid (fun (o : Obj) => HS.out.2.trans (Typ.below (below_o wr o)))
      obtain ⟨va, vc, hv, _⟩ := ownsRow_form HS.out.1.1
      generalize X.length = m3 at hv
      subst hv
      clear HS hnx r1 r2 hx
      go_wp2_with fail
      refine (KT _).mono ?_
      rintro e w3 ⟨v3, rfl, ho3, hT3⟩
      have hq := hT3.2 _ _ _ (heap_alloc_new wr _) (by decide)
      have q0 : w3.cell? ⟨wr.heap.size, 0, none⟩ = some (.string s) := by rw [cell_of_row _ _ _ _ _ _ hq]; rfl
      have q1 : w3.cell? ⟨wr.heap.size, 1, none⟩ = some (.int .i64 z) := by rw [cell_of_row _ _ _ _ _ _ hq]; rfl
      have KN1 := KN.out w3 v3 ho3
      have HT3 := Lib.hid ((HTW.out _).trans hT3)
      obtain ⟨va1, vc1, hv1, _⟩ := ownsRow_form ho3.1
      generalize (X ++ txL s).length = m4 at hv1
      subst hv1
      clear ho3 hT3 hq KT KN HX HTW
      go_wp2_with fail
      refine KN1.mono ?_
      rintro e w4 ⟨v4, rfl, ho4, hT4⟩
      have HFIN : Hid (Out w w4 v4 ((acc ++ txL tn) ++ dig n ++ manyL colL (cs.take (i + 1))) ∧ Typ wz w4) := Lib.hid ⟨by rw [HNX.out]; exact ho4, HT3.out.trans hT4⟩
      clear ho4 hT4 KN1 HT3 q0 q1
      go_wp2_with fail
      go_roundw
      case rel => exact ⟨i + 1, v4, by go_num, rfl, hlt, HFIN⟩
      case measure => simp [RowKit.intOf]; omega
    · have hei : i = n := end_eq hin hlt
      have FIN : Hid (PutP w wz F (.returned v') wr) := Lib.hid ⟨v', rfl, by
        rw [← HF.out]
        have := HS.out.1
        rw [hei, HN.out, List.take_length] at this
        rw [HN.out]
        exact this, HS.out.2⟩
      clear HS HF
      go_wp2_with fail
      go_ret
      exact FIN.out
end Go.Proofs.YtehfoaicohnpfaaGreatDoor
