/- Load of the document. Conditions: at most 300000 bytes. -/
import Derived.Test.YtknghmcdnlkfcaaMColY
set_option maxRecDepth 100000
namespace Go.Proofs.Ytknghmcdnlkfcaa
open Go.RowKit Go.Maps Go.Sort

theorem below_cells2z {B : Nat} {w V : World} {S : Nat} {x y : Value} (hb : Below B w V) (hS : S < B) (h0 : w.cell? ⟨S, 0, none⟩ = some x) (h1 : w.cell? ⟨S, 1, none⟩ = some y) : V.cell? ⟨S, 0, none⟩ = some x ∧ V.cell? ⟨S, 1, none⟩ = some y :=
  ⟨by rw [hb.cell (show S < B from hS)]; exact h0, by rw [hb.cell (show S < B from hS)]; exact h1⟩
/-- bools behind a vector's bools, its ids lying elsewhere -/
theorem nat_app {t : TypeId} {G : Nat} {W W' : World} {nv iv : Value} {L : List Bool} (h0 : W.heap[G]? = some (.cells #[nv, iv] t (0, 0))) (h1 : RowB (G + 1) nv L W) (hb : Below W.heap.size W W')
    {sv : Value} {l : List Bool} (hs : Holds W' sv (bls l)) (hl : L.length + l.length ≤ 17592186044416) :
    ∃ v' w2, Hid (∀ ty, (Builtin.append_ #[22, 22] ty #[nv, sv]).run Try.prog W' = .ok v' w2) ∧ w2.heap[G]? = some (.cells #[nv, iv] t (0, 0)) ∧
      Hid ((w2.setCell ⟨G, 0, none⟩ v').heap[G]? = some (.cells #[v', iv] t (0, 0)) ∧ RowB (G + 1) v' (L ++ l) (w2.setCell ⟨G, 0, none⟩ v') ∧ Below G W (w2.setCell ⟨G, 0, none⟩ v')) := by
  have hG := lt_of_heap h0
  have k1 := h1.below hb
  have k0 : W'.heap[G]? = some (.cells #[nv, iv] t (0, 0)) := (hb.block _ hG).trans h0
  have hGs : G + 1 ≤ W'.heap.size := by have := hb.size; omega
  obtain ⟨v', w2, r, o, g⟩ := appB k1 hGs hs hl
  have hne : nv.ownBlock ≠ some G := fun e => by have := (k1.lt G e).1; omega
  have g0 : w2.heap[G]? = some (.cells #[nv, iv] t (0, 0)) := (g.block G (by omega) hne.symm).trans k0
  have b2 : Below (G + 1) W w2 := (hb.mono (by omega)).trans (⟨g.os, g.tape, g.output, g.size, fun k hk => g.block k (by omega) (fun e => by have := (k1.lt k e.symm).1; omega)⟩)
  exact ⟨v', w2, Lib.hid r, g0, Lib.hid ⟨heap_set g0 _, ownsRow_of_block o (fun x hx => vset_other (by have := (o.lt x hx).1; omega) _), (b2.mono (Nat.le_succ _)).trans (vset_below (Nat.le_refl _) _)⟩⟩
set_option maxHeartbeats 6400000 in
theorem rcload_any {w : World} {a : Option Addr} {n k : Nat} {bs : List UInt8} (h : Holds w (.slice a n k) (u8s bs)) (hl : bs.length ≤ 300000) :
    Calls Try.prog 13 #[.slice a n k] w (OutL w (loadV bs) (loadE bs)) := by
  have e1 := h.len.1
  rw [u8s_len] at e1
  have hkn := h.len.2
  obtain ⟨W, hW⟩ : ∃ W, w.alloc (.cells #[.slice none 0 0, .slice none 0 0] 33) = W := ⟨_, rfl⟩
  have hb0 : Below w.heap.size w W := by rw [← hW]; exact below_box _ _
  have hs : W.heap.size = w.heap.size + 1 := by rw [← hW]; simp
  have KG := refGet_any (h.below hb0) (by omega)
  obtain ⟨hq1, hu1⟩ := getN_bd bs
  have hC := fun (w1 : World) (x y : Value) => @vclear1 w w1 33 x y
  rw [hW] at hC
  have HC := Lib.hid hC
  have hLN := @load_no bs
  have hRV : refV bs = if (getN bs).2 = 0 ∨ 1000 < (getN bs).1 then none else if bs.length < (getN bs).2 + ((getN bs).1 + 7) / 8 then none else if (unpackAns 1 ((getN bs).1 : Int) ((bs.take ((getN bs).2 + ((getN bs).1 + 7) / 8)).drop (getN bs).2)).2 ≠ 0 then none else
    if (rdec (getN bs).1 (bs.drop ((getN bs).2 + ((getN bs).1 + 7) / 8))).2 = false then none else
    some ⟨(unpackAns 1 ((getN bs).1 : Int) ((bs.take ((getN bs).2 + ((getN bs).1 + 7) / 8)).drop (getN bs).2)).1.map unmU, (rdec (getN bs).1 (bs.drop ((getN bs).2 + ((getN bs).1 + 7) / 8))).1⟩ := rfl
  obtain ⟨u, hu⟩ : ∃ u, (getN bs).1 = u := ⟨_, rfl⟩
  obtain ⟨q, hq⟩ : ∃ q, (getN bs).2 = q := ⟨_, rfl⟩
  obtain ⟨T, hT⟩ : ∃ T, q + (u + 7) / 8 = T := ⟨_, rfl⟩
  rw [hu, hq] at KG hRV
  rw [hq] at hq1
  rw [hT] at hRV
  have hnone : refV bs = none → loadV bs = ⟨[], []⟩ ∧ loadE bs = 8 := fun e => hLN (fun V hV => by rw [e] at hV; cases hV)
  obtain ⟨⟨y0, y1, y2, y3⟩, ⟨r0, r1⟩, x2⟩ := HC.out W (.slice none 0 0) (.slice none 0 0) (Below.refl _ _)
  have hHOW : (loadV bs = ⟨[], []⟩ ∧ loadE bs = 8) → OutL w (loadV bs) (loadE bs) (.returned (.tuple #[.agg #[.slice none 0 0, .slice none 0 0], .int .i64 8])) ((W.setCell ⟨w.heap.size, 0, none⟩ (.slice none 0 0)).setCell ⟨w.heap.size, 1, none⟩ (.slice none 0 0)) := fun e => by rw [e.1, e.2]; exact outL_none x2
  by_cases hq0 : q = 0
  · rw [if_pos (.inl hq0)] at hRV
    have HO := Lib.hid (hHOW (hnone hRV))
    subst hq0
    clear h hl hb0 hs hq1 hu1 hC hu hq hRV e1 hLN hnone hHOW HC x2 hT
    go_enter Try.func13, Try.ntmps13
    go_wp2_with fail
    refine KG.mono ?_
    rintro e w' ⟨rfl, rfl⟩
    go_wp2_with fail
    refine bodyPost_ret (v := .tuple #[.agg #[.slice none 0 0, .slice none 0 0], .int .i64 8]) ?_ rfl HO.out
    simp [results, Try.results13, go_sem, r0, r1]
  have t0 : (q == 0) = false := by rw [beq_eq_false_iff_ne]; exact hq0
  have t1 : ((q : Int) == 0) = false := by rw [beq_eq_false_iff_ne]; omega
  by_cases hu0 : 1000 < u
  · rw [if_pos (.inr hu0)] at hRV
    have HO := Lib.hid (hHOW (hnone hRV))
    have t2 : decide ((1000 : Int) < (u : Int)) = true := decide_eq_true (by omega)
    have t3 : decide (1000 < u) = true := decide_eq_true hu0
    clear h hl hb0 hs hq1 hu1 hC hu hq hRV e1 hLN hnone hHOW HC x2 hu0 hq0 hT
    go_enter Try.func13, Try.ntmps13
    go_wp2_with fail
    refine KG.mono ?_
    rintro e w' ⟨rfl, rfl⟩
    go_wp2_with fail
    refine bodyPost_ret (v := .tuple #[.agg #[.slice none 0 0, .slice none 0 0], .int .i64 8]) ?_ rfl HO.out
    simp [results, Try.results13, go_sem, r0, r1]
  rw [if_neg (by omega)] at hRV
  have t2 : decide ((1000 : Int) < (u : Int)) = false := decide_eq_false (by omega)
  have t3 : decide (1000 < u) = false := decide_eq_false hu0
  have hwu : IntKind.i64.wrap (u : Int) = (u : Int) := by rw [IntKind.wrap_i64]; omega
  have hTi : (q : Int) + ((u : Int) + 7) / 8 = (T : Int) := by omega
  have hq9 : q ≤ 300000 := by omega
  by_cases hTn : n < T
  · rw [if_pos (by omega)] at hRV
    have HO := Lib.hid (hHOW (hnone hRV))
    have t4 : decide ((n : Int) < (T : Int)) = true := decide_eq_true (by omega)
    have t5 : decide (n < T) = true := decide_eq_true hTn
    clear h hl hb0 hs hq1 hu1 hC hu hq hRV e1 hLN hnone hHOW HC x2 hq0 hTn hT
    go_enter Try.func13, Try.ntmps13
    go_wp2_with fail
    refine KG.mono ?_
    rintro e w' ⟨rfl, rfl⟩
    go_wp2_with fail
    refine bodyPost_ret (v := .tuple #[.agg #[.slice none 0 0, .slice none 0 0], .int .i64 8]) ?_ rfl HO.out
    simp [results, Try.results13, go_sem, r0, r1]
  rw [if_neg (by omega)] at hRV
  have t4 : decide ((n : Int) < (T : Int)) = false := decide_eq_false (by omega)
  have t5 : decide (n < T) = false := decide_eq_false hTn
  obtain ⟨ad, rfl⟩ := h.ptr (by omega)
  have hTq : q ≤ T := by omega
  have htake : Holds w (.slice (some ad) T k) (u8s (bs.take T)) := by
    have := h.take T (by omega)
    rw [show (u8s bs).take T = u8s (bs.take T) by simp [u8s, List.map_take]] at this
    exact this
  obtain ⟨A2, j1, j2, hc2⟩ := cut_one htake hTq
  obtain ⟨A1, i1, i2, hc1⟩ := cut_one h (show T ≤ n by omega)
  have hsl2 : ((bs.take T).drop q).length = T - q := by rw [List.length_drop, List.length_take]; omega
  have HUn := Lib.hid (fun (V : World) (hv : Below w.heap.size w V) => by
    have := refUnpack_all (bs := (bs.take T).drop q) (w := V) (a := some A2) (cap := k - q) (by rw [hsl2]; exact hc2.below hv) 1 (u : Int)
    rw [hsl2] at this
    exact this)
  have hul := unpackAns_len 1 (u : Int) ((bs.take T).drop q)
  obtain ⟨NU, hNU⟩ : ∃ NU, (unpackAns 1 (u : Int) ((bs.take T).drop q)).1 = NU := ⟨_, rfl⟩
  obtain ⟨EU, hEU⟩ : ∃ EU, (unpackAns 1 (u : Int) ((bs.take T).drop q)).2 = EU := ⟨_, rfl⟩
  obtain ⟨nl, hnl⟩ : ∃ nl, NU.length = nl := ⟨_, rfl⟩
  rw [hNU, hEU] at HUn hRV
  rw [hnl] at HUn
  rw [hNU] at hul
  have HId := Lib.hid (fun (V : World) (hv : Below w.heap.size w V) => rids_any (N := u) (hc1.below hv) (by rw [List.length_drop]; omega))
  obtain ⟨LI, hLI⟩ : ∃ LI, (rdec u (bs.drop T)).1 = LI := ⟨_, rfl⟩
  obtain ⟨ok, hok⟩ : ∃ ok, (rdec u (bs.drop T)).2 = ok := ⟨_, rfl⟩
  obtain ⟨il, hil⟩ : ∃ il, LI.length = il := ⟨_, rfl⟩
  rw [hLI, hok] at HId hRV
  unfold OutK at HId
  rw [hil] at HId
  have HH := Lib.hid (fun (V : World) (hv : Below w.heap.size w V) => toStr (h.below hv))
  have HBW := Lib.hid hb0
  have HS := Lib.hid hs
  have b0 : (0 : Int) ≤ (T : Int) := Int.natCast_nonneg T
  have b1 : (T : Int) ≤ (n : Int) := by omega
  have b2 : (q : Int) ≤ (T : Int) := by omega
  have b3 : (T : Int) ≤ (k : Int) := by omega
  have b6 : (0 : Int) ≤ (q : Int) := Int.natCast_nonneg q
  have b7 : (n : Int) ≤ (k : Int) := by omega
  have hn9 : n ≤ 300000 := by omega
  have HOX : Hid (∀ V, Below (w.heap.size + 1) W V → (loadV bs = ⟨[], []⟩ ∧ loadE bs = 8) → OutL w (loadV bs) (loadE bs) (.returned (.tuple #[.agg #[.slice none 0 0, .slice none 0 0], .int .i64 8])) ((V.setCell ⟨w.heap.size, 0, none⟩ (.slice none 0 0)).setCell ⟨w.heap.size, 1, none⟩ (.slice none 0 0))) := Lib.hid (fun V hV e => by rw [e.1, e.2]; exact outL_none (HC.out V (.slice none 0 0) (.slice none 0 0) hV).2.2)
  by_cases hE0 : EU = 0
  case neg =>
    rw [if_pos hE0] at hRV
    have HN := Lib.hid (hnone hRV)
    have t6 : (EU != 0) = true := by rw [bne_iff_ne]; exact hE0
    have t7 : (EU == 0) = false := by rw [beq_eq_false_iff_ne]; exact hE0
    clear h hl hb0 hs hq1 hu1 hC hu hq hRV e1 hLN hnone hHOW x2 hu0 hq0 hTn hT htake hc2 hc1 hsl2 hul hNU hEU hnl hLI hok hil HId hE0 y0 y1 y2 y3 r0 r1
    go_enter Try.func13, Try.ntmps13
    go_wp2_with fail
    refine KG.mono ?_
    rintro e w' ⟨rfl, rfl⟩
    go_wp2_with fail
    refine (HUn.out _ HBW.out).mono ?_
    rintro e w2 ⟨ua, uk, rfl, HV⟩
    have hb2 : Below (w.heap.size + 1) W w2 := HV.out.2.mono (by rw [HS.out]; omega)
    obtain ⟨⟨y0, y1, y2, y3⟩, ⟨r0, r1⟩, _⟩ := HC.out w2 (.slice none 0 0) (.slice none 0 0) hb2
    have HO := Lib.hid (HOX.out w2 hb2 HN.out)
    clear HV hb2 HUn HOX
    go_wp2_with fail
    refine bodyPost_ret (v := .tuple #[.agg #[.slice none 0 0, .slice none 0 0], .int .i64 8]) ?_ rfl HO.out
    simp [results, Try.results13, go_sem, r0, r1]
  subst hE0
  rw [if_neg (by simp)] at hRV
  by_cases hk0 : ok = false
  · rw [if_pos hk0] at hRV
    have HN := Lib.hid (hnone hRV)
    subst hk0
    clear h hl hb0 hs hq1 hu1 hC hu hq hRV e1 hLN hnone hHOW x2 hu0 hq0 hTn hT htake hc2 hc1 hsl2 hul hNU hEU hnl hLI hok hil y0 y1 y2 y3 r0 r1
    go_enter Try.func13, Try.ntmps13
    go_wp2_with fail
    refine KG.mono ?_
    rintro e w' ⟨rfl, rfl⟩
    go_wp2_with fail
    refine (HUn.out _ HBW.out).mono ?_
    rintro e w2 ⟨ua, uk, rfl, HV⟩
    have hbw : Below w.heap.size w w2 := HBW.out.trans (HV.out.2.mono HBW.out.size)
    have KI := HId.out w2 hbw
    have HB2 := Lib.hid HV.out.2
    clear HV HUn hbw HId
    go_wp2_with fail
    refine KI.mono ?_
    rintro e w3 ⟨ia, ik, rfl, _, hb3, _⟩
    have hb23 : Below (w.heap.size + 1) W w3 := (HB2.out.trans (hb3.mono HB2.out.size)).mono (by rw [HS.out]; omega)
    obtain ⟨⟨y0, y1, y2, y3⟩, ⟨r0, r1⟩, _⟩ := HC.out w3 (.slice none 0 0) (.slice none 0 0) hb23
    have HO := Lib.hid (HOX.out w3 hb23 HN.out)
    clear KI hb3 hb23 HOX
    go_wp2_with fail
    refine bodyPost_ret (v := .tuple #[.agg #[.slice none 0 0, .slice none 0 0], .int .i64 8]) ?_ rfl HO.out
    simp [results, Try.results13, go_sem, r0, r1]
  have hk1 : ok = true := by simpa using hk0
  subst hk1
  rw [if_neg (by simp)] at hRV
  obtain ⟨VC, hVC⟩ : ∃ VC : CV, ⟨NU.map unmU, LI⟩ = VC := ⟨_, rfl⟩
  rw [hVC] at hRV
  have hvn : VC.nl = NU.map unmU := by rw [← hVC]
  have hvi : VC.il = LI := by rw [← hVC]
  have HVN := Lib.hid hvn
  have HVI := Lib.hid hvi
  have HNO : Hid (¬ (goodC VC = true ∧ bytesC VC = bs) → loadV bs = ⟨[], []⟩ ∧ loadE bs = 8) := Lib.hid (fun hne => hLN (fun V hV => by rw [hRV] at hV; cases hV; exact hne))
  have HYES : Hid (goodC VC = true → bytesC VC = bs → loadV bs = VC ∧ loadE bs = 0) := Lib.hid (fun g1 g2 => load_yes g1 g2)
  have HNL := Lib.hid (And.intro hnl hul)
  have HIL := Lib.hid hil
  clear h hl hb0 hs hq1 hu1 hC hu hq hRV e1 hLN hnone hHOW x2 hu0 hq0 hTn hT htake hc2 hc1 hsl2 hul hNU hEU hnl hLI hok hil y0 y1 y2 y3 r0 r1 hVC hvn hvi hk0
  go_enter Try.func13, Try.ntmps13
  go_wp2_with fail
  (try rw [hW])
  clear hW
  refine KG.mono ?_
  rintro e w' ⟨rfl, rfl⟩
  go_wp2_with fail
  refine (HUn.out _ HBW.out).mono ?_
  rintro e w2 ⟨ua, uk, rfl, HV⟩
  have hbw : Below w.heap.size w w2 := HBW.out.trans (HV.out.2.mono HBW.out.size)
  have KI := HId.out w2 hbw
  have HB2 := Lib.hid HV.out.2
  have HU := Lib.hid HV.out.1
  clear HV HUn hbw HId KG
  go_wp2_with fail
  refine KI.mono ?_
  rintro e w3 ⟨ia, ik, rfl, hi3, hb3, hfr⟩
  obtain ⟨G, hG⟩ : ∃ G, w3.heap.size = G := ⟨_, rfl⟩
  obtain ⟨X, hX⟩ : ∃ X, w3.alloc (.cells #[.slice none 0 0, .slice ia il ik] 33) = X := ⟨_, rfl⟩
  have hbx : Below w3.heap.size w3 X := by rw [← hX]; exact below_box _ _
  have hx0 : X.heap[G]? = some (.cells #[.slice none 0 0, .slice ia il ik] 33 (0, 0)) := by rw [← hX, ← hG]; exact heap_alloc_new _ _
  have hsW := HS.out
  have hs2 := HB2.out.size
  have hs3 := hb3.size
  have HGS : Hid (w.heap.size + 1 ≤ G) := Lib.hid (by omega)
  have HbX : Hid (Below (w.heap.size + 1) W w3) := Lib.hid ((HB2.out.trans (hb3.mono hs2)).mono (by omega))
  have HI3 := Lib.hid hi3
  have HU3 := Lib.hid (HU.out.below hb3)
  have HFR : Hid (∀ ad, ia = some ad → w.heap.size + 1 ≤ ad.block) := Lib.hid (fun ad e => by have := hfr ad e; omega)
  have HV0 : Hid (∃ nv : Value, nv = .slice none 0 0 ∧ X.heap[G]? = some (.cells #[nv, .slice ia il ik] 33 (0, 0)) ∧ RowB (G + 1) nv ((NU.take 0).map unmU) X ∧ Below G w3 X) := Lib.hid ⟨_, rfl, hx0, by simpa using RowB.nil _ _, by rw [← hG]; exact hbx⟩
  have HGG := Lib.hid hG
  clear KI hi3 hb3 hfr hbx hx0 hsW hs2 hs3 HU HB2
  go_wp2_with fail
  (try rw [hG])
  (try rw [hX])
  clear hX hG
  go_loopw [71] (fun s wr => ∃ m : Nat, s = .int .i64 m ∧ m ≤ nl ∧ Hid (∃ nv : Value, wr.heap[G]? = some (.cells #[nv, .slice ia il ik] 33 (0, 0)) ∧ RowB (G + 1) nv ((NU.take m).map unmU) wr ∧ Below G w3 wr)) (fun s _ => nl - (RowKit.intOf s).toNat)
  case atStart => exact ⟨0, rfl, Nat.zero_le _, by obtain ⟨nv, _, h1, h2, h3⟩ := HV0.out; exact Lib.hid ⟨nv, h1, h2, h3⟩⟩
  case round =>
    obtain ⟨m, rfl, hm, HR⟩ := hrel
    obtain ⟨nv, h0, hr, hb⟩ := HR.out
    by_cases hlt : m < nl
    · have hk : m < NU.length := by have := HNL.out.1; omega
      obtain ⟨z, hz⟩ : ∃ z, NU[m]? = some z := ⟨_, List.getElem?_eq_getElem hk⟩
      have hbw : Below w3.heap.size w3 wr := hb.mono (by rw [HGG.out]; exact Nat.le_refl _)
      have GU := HU3.out.below hbw
      obtain ⟨dd, rfl⟩ := GU.ptr (by omega)
      have cu := GU.cell (j := m) (u := .int .u64 (z.toNat : Int)) (by simp [u64s, hz])
      have b0' : (0 : Int) ≤ (m : Int) := Int.natCast_nonneg m
      have b1' : (m : Int) < (nl : Int) := Int.ofNat_lt.2 hlt
      have hw64 := col_next5 hlt (by have := HNL.out.1; have := HNL.out.2; omega)
      obtain ⟨na, nc, rfl, _⟩ := ownsRow_form hr
      obtain ⟨zb, hzb⟩ : ∃ zb, unmU z = zb := ⟨_, rfl⟩
      obtain ⟨v', Y, r1, g0, hY⟩ := nat_app (W := wr) (W' := wr.alloc (.cells #[.bool zb] 4)) (sv := .slice (some ⟨wr.heap.size, 0, none⟩) 1 1) (l := [zb]) h0 hr (below_box _ _) (Holds.of_heap (alloc1 wr _) rfl 1 1 rfl (Nat.le_refl _)) (by rw [List.length_map, List.length_take]; have := HNL.out.2; simp; omega)
      obtain ⟨hY0, hY1, hY2⟩ := hY.out
      have hlen : ((NU.take m).map unmU).length = m := by rw [List.length_map, List.length_take]; omega
      have hlen2 : ((NU.take m).map unmU ++ [zb]).length = m + 1 := by rw [List.length_append, hlen]; rfl
      obtain ⟨va, vc, rfl, _⟩ := ownsRow_form hY1
      have hh : Hid (∃ nv : Value, (Y.setCell ⟨G, 0, none⟩ (.slice va (m + 1) vc)).heap[G]? = some (.cells #[nv, .slice ia il ik] 33 (0, 0)) ∧ RowB (G + 1) nv ((NU.take (m + 1)).map unmU) (Y.setCell ⟨G, 0, none⟩ (.slice va (m + 1) vc)) ∧ Below G w3 (Y.setCell ⟨G, 0, none⟩ (.slice va (m + 1) vc))) := Lib.hid (by
        rw [take_snoc hz, List.map_append, List.map_cons, List.map_nil, hzb]
        rw [hlen2] at hY0 hY1 hY2
        exact ⟨_, hY0, hY1, hb.trans hY2⟩)
      rw [hlen, hlen2] at r1
      have p0 : wr.cell? ⟨G, 0, none⟩ = some (.slice na m nc) := by rw [cell_of_row _ _ _ _ _ _ h0, hlen]; rfl
      have p1 : (wr.alloc (.cells #[.bool zb] 4)).cell? ⟨G, 0, none⟩ = some (.slice na m nc) := cell_more p0 _
      have x0 : Y.cell? ⟨G, 0, none⟩ = some (.slice na m nc) := by rw [cell_of_row _ _ _ _ _ _ g0, hlen]; rfl
      have f0 := free_of_row g0 0
      have hzd : zb = decide (z.toNat = 1) := hzb.symm
      obtain ⟨zn, hzn⟩ : ∃ zn, z.toNat = zn := ⟨_, rfl⟩
      rw [hzn] at cu hzd
      clear HR h0 hr hb hk hz hbw GU hzb g0 hY hY0 hY1 hY2 hlen hlen2 HV0 hzn
      by_cases hz1 : zn = 1
      · subst hz1
        have hzb : zb = true := hzd
        subst hzb
        clear hzd
        go_wp2_with (at_builtin; refine wpList_append_run rfl _ _ 22 rfl rfl rfl (r1.out _) ?_)
        go_roundw
        case rel => exact ⟨m + 1, by go_num, hlt, hh⟩
        case measure => simp [RowKit.intOf]; omega
      · have hzb : zb = false := by rw [hzd]; exact decide_eq_false hz1
        subst hzb
        have u0 : (zn == 1) = false := by rw [beq_eq_false_iff_ne]; exact hz1
        have u1 : ((zn : Int) == 1) = false := by rw [beq_eq_false_iff_ne]; omega
        clear hzd hz1
        go_wp2_with (at_builtin; refine wpList_append_run rfl _ _ 22 rfl rfl rfl (r1.out _) ?_)
        go_roundw
        case rel => exact ⟨m + 1, by go_num, hlt, hh⟩
        case measure => simp [RowKit.intOf]; omega
    · obtain rfl : m = nl := by omega
      have hta : NU.take m = NU := by rw [← HNL.out.1]; exact List.take_length
      rw [hta] at hr
      have hbw : Below w3.heap.size w3 wr := hb.mono (by rw [HGG.out]; exact Nat.le_refl _)
      have hN : Holds wr nv (bls VC.nl) := by rw [HVN.out]; exact hr.holds
      have hI : Holds wr (.slice ia il ik) (i64s VC.il) := by rw [HVI.out]; exact HI3.out.below hbw
      obtain ⟨na, nc, rfl, _⟩ := ownsRow_form hr
      have hml : (NU.map unmU).length = m := by rw [List.length_map]; exact HNL.out.1
      rw [hml] at hN h0
      have KB := rcbytes_any hN hI
      have p0 : wr.cell? ⟨G, 0, none⟩ = some (.slice na m nc) := by rw [cell_of_row _ _ _ _ _ _ h0]; rfl
      have p1 : wr.cell? ⟨G, 1, none⟩ = some (.slice ia il ik) := by rw [cell_of_row _ _ _ _ _ _ h0]; rfl
      have HP := Lib.hid (fun (V : World) (hv : Below wr.heap.size wr V) => below_cells2z hv (lt_of_heap h0) p0 p1)
      have HNr := Lib.hid hN
      have HIr := Lib.hid hI
      have HBr : Hid (Below (w.heap.size + 1) W wr) := Lib.hid (HbX.out.trans (hb.mono HGS.out))
      have HWr : Hid (Below w.heap.size w wr) := Lib.hid (HBW.out.trans (HBr.out.mono (by omega)))
      have HNF : Hid (∀ ad, na = some ad → w.heap.size + 1 ≤ ad.block) := Lib.hid (fun ad e => by have := (hr.lt ad.block (by rw [e]; rfl)).1; have := HGS.out; omega)
      clear HR h0 hr hb hta hbw hN hI hml HV0
      cases hgd : goodC VC
      · have hbe : bytV VC = [] ∧ bytE VC = 2 := by simp [bytV, bytE, hgd]
        rw [hbe.1, hbe.2] at KB
        have HN := Lib.hid (HNO.out (fun g => by rw [hgd] at g; cases g.1))
        clear hgd hbe HNO HYES
        go_wp2_with fail
        refine KB.mono ?_
        rintro e w5 ⟨ba, bk, rfl, _, hb5⟩
        have hbb : Below (w.heap.size + 1) W w5 := HBr.out.trans (hb5.mono (by have := HBr.out.size; have := HS.out; omega))
        obtain ⟨⟨y0, y1, y2, y3⟩, ⟨r0, r1⟩, _⟩ := HC.out w5 (.slice none 0 0) (.slice none 0 0) hbb
        have HO := Lib.hid (HOX.out w5 hbb HN.out)
        clear KB hb5 hbb HOX
        go_wp2_with fail
        refine bodyPost_ret (v := .tuple #[.agg #[.slice none 0 0, .slice none 0 0], .int .i64 8]) ?_ rfl HO.out
        simp [results, Try.results13, go_sem, r0, r1]
      have hbe : bytV VC = bytesC VC ∧ bytE VC = 0 := by simp [bytV, bytE, hgd]
      rw [hbe.1, hbe.2] at KB
      obtain ⟨BV, hBV⟩ : ∃ BV, bytesC VC = BV := ⟨_, rfl⟩
      obtain ⟨bl, hbl⟩ : ∃ bl, BV.length = bl := ⟨_, rfl⟩
      rw [hBV] at KB HNO HYES
      unfold OutB at KB
      rw [hbl] at KB
      have HGD := Lib.hid hgd
      clear hgd hbe hBV hbl
      by_cases heq : BV = bs
      · have HY := Lib.hid (HYES.out HGD.out heq)
        have HEQ := Lib.hid heq
        clear heq HNO HYES
        go_wp2_with fail
        refine KB.mono ?_
        rintro e w5 ⟨ba, bk, rfl, ht, hb5⟩
        have hbb : Below (w.heap.size + 1) W w5 := HBr.out.trans (hb5.mono (by have := HBr.out.size; have := HS.out; omega))
        have s1 := toStr ht
        have s2 := HH.out w5 (HWr.out.trans (hb5.mono HWr.out.size))
        have s4 : (BV == bs) = true := by rw [beq_iff_eq]; exact HEQ.out
        have s5 : (!BV == bs) = false := by rw [s4]; rfl
        obtain ⟨q0, q1⟩ := HP.out w5 hb5
        obtain ⟨⟨y0, y1, y2, y3⟩, ⟨r0, r1⟩, x2⟩ := HC.out w5 (.slice na m nc) (.slice ia il ik) hbb
        have FIN : Hid (OutL w (loadV bs) (loadE bs) (.returned (.tuple #[.agg #[.slice na m nc, .slice ia il ik], .int .i64 0])) ((w5.setCell ⟨w.heap.size, 0, none⟩ (.slice na m nc)).setCell ⟨w.heap.size, 1, none⟩ (.slice ia il ik))) := Lib.hid (by
          rw [HY.out.1, HY.out.2]
          have hne : ∀ k, k ≠ w.heap.size → ((w5.setCell ⟨w.heap.size, 0, none⟩ (.slice na m nc)).setCell ⟨w.heap.size, 1, none⟩ (.slice ia il ik)).heap[k]? = w5.heap[k]? := fun k hk => by rw [vset_other hk, vset_other hk]
          exact ⟨_, _, _, _, _, _, rfl, (HNr.out.below hb5).of_blocks (S := w.heap.size) (fun ad _ j => Addr.add_block ad j) (fun ad e _ => by have := HNF.out ad e; omega) hne,
            (HIr.out.below hb5).of_blocks (S := w.heap.size) (fun ad _ j => Addr.add_block ad j) (fun ad e _ => by have := HFR.out ad e; omega) hne, x2⟩)
        clear KB ht hb5 hbb x2 HOX
        go_wp2_with fail
        refine bodyPost_ret (v := .tuple #[.agg #[.slice na m nc, .slice ia il ik], .int .i64 0]) ?_ rfl FIN.out
        simp [results, Try.results13, go_sem, r0, r1]
      · have HN := Lib.hid (HNO.out (fun g => heq g.2))
        have HEQ := Lib.hid heq
        clear heq HNO HYES
        go_wp2_with fail
        refine KB.mono ?_
        rintro e w5 ⟨ba, bk, rfl, ht, hb5⟩
        have hbb : Below (w.heap.size + 1) W w5 := HBr.out.trans (hb5.mono (by have := HBr.out.size; have := HS.out; omega))
        have s1 := toStr ht
        have s2 := HH.out w5 (HWr.out.trans (hb5.mono HWr.out.size))
        have s4 : (BV == bs) = false := by rw [beq_eq_false_iff_ne]; exact HEQ.out
        have s5 : (!BV == bs) = true := by rw [s4]; rfl
        obtain ⟨⟨y0, y1, y2, y3⟩, ⟨r0, r1⟩, _⟩ := HC.out w5 (.slice none 0 0) (.slice none 0 0) hbb
        have HO := Lib.hid (HOX.out w5 hbb HN.out)
        clear KB ht hb5 hbb HOX
        go_wp2_with fail
        refine bodyPost_ret (v := .tuple #[.agg #[.slice none 0 0, .slice none 0 0], .int .i64 8]) ?_ rfl HO.out
        simp [results, Try.results13, go_sem, r0, r1]
end Go.Proofs.Ytknghmcdnlkfcaa
