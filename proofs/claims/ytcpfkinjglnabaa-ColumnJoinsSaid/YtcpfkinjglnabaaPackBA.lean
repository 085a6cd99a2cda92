/- The texts ColN, one behind the other; each one's own comment says what it holds. -/
import Derived.Test.YtcpfkinjglnabaaPackAZ
import Derived.Test.YtcpfkinjglnabaaPackAR
/- What bytes seem to be a vector of. Conditions: at most 300000 bytes. -/
set_option maxRecDepth 100000
namespace Go.Proofs.Ytcpfkinjglnabaa
open Go.RowKit Go.Maps Go.Sort

def fnsD (B C : Nat) : Value := .agg #[.func (.func 100) #[] #[.pointer (some ⟨B, 0, none⟩), .pointer (some ⟨C, 0, none⟩)], .func (.func 102) #[] #[.pointer (some ⟨B, 0, none⟩)], .func (.func 104) #[] #[.pointer (some ⟨B, 0, none⟩)]]
theorem addr_succ (a : Addr) (n : Nat) : a.add (n + 1) = ⟨a.block, a.off + (n + 1), none⟩ := by unfold Addr.add; simp
theorem three_boxes (w : World) (A B C : Obj) : (((w.alloc A).alloc B).alloc C).heap[w.heap.size]? = some A ∧ (((w.alloc A).alloc B).alloc C).heap[w.heap.size + 1]? = some B ∧ (((w.alloc A).alloc B).alloc C).heap[w.heap.size + 2]? = some C := by
  obtain ⟨_, q1, q2⟩ := two_boxes w A B
  have h1 : ((w.alloc A).alloc B).heap.size = w.heap.size + 2 := by simp
  refine ⟨?_, ?_, ?_⟩
  · rw [heap_alloc_old _ _ (by omega)]; exact q1
  · rw [heap_alloc_old _ _ (by omega)]; exact q2
  · rw [← h1]; exact heap_alloc_new _ C
set_option maxHeartbeats 800000 in
theorem decodings_any (w : World) (a : Option Addr) (n k : Nat) (N : Int) :
    Calls Try.prog 77 #[.int .i64 N, .slice a n k] w fun e w' => ∃ B C, e = .returned (fnsD B C) ∧ Hid (w'.cell? ⟨C, 0, none⟩ = some (.int .i64 N) ∧ w'.cell? ⟨B, 0, none⟩ = some (.slice a n k) ∧ Below w.heap.size w w') := by
  obtain ⟨W, hW⟩ : ∃ W, ((w.alloc (.cells #[.int .i64 N] 3)).alloc (.cells #[.slice a n k] 68)).alloc (.cells #[.nilFunc, .nilFunc, .nilFunc] 145) = W := ⟨_, rfl⟩
  obtain ⟨q0, q1, q2⟩ := three_boxes w (.cells #[.int .i64 N] 3) (.cells #[.slice a n k] 68) (.cells #[.nilFunc, .nilFunc, .nilFunc] 145)
  have hb0 : Below w.heap.size w W := by rw [← hW]; exact (((Below.refl _ _).alloc (Nat.le_refl _) _).alloc (by simp) _).alloc (by simp; omega) _
  rw [hW] at q0 q1 q2
  obtain ⟨⟨c3, c4, c5, c6, c7, c8⟩, ⟨r0, r1, r2⟩, s3, s4⟩ := set3 (y0 := .func (.func 100) #[] #[.pointer (some ⟨w.heap.size + 1, 0, none⟩), .pointer (some ⟨w.heap.size, 0, none⟩)]) (y1 := .func (.func 102) #[] #[.pointer (some ⟨w.heap.size + 1, 0, none⟩)]) (y2 := .func (.func 104) #[] #[.pointer (some ⟨w.heap.size + 1, 0, none⟩)]) q2
  have p0 := cell_of_row _ _ 0 _ _ _ ((s4 w.heap.size (by omega)).trans q0)
  have p1 := cell_of_row _ _ 0 _ _ _ ((s4 (w.heap.size + 1) (by omega)).trans q1)
  have HF := Lib.hid (And.intro p0 (And.intro p1 (hb0.trans (s3.mono (by omega)))))
  clear q0 q1 q2 hb0 s3 s4 p0 p1
  go_enter Try.func77, Try.ntmps77
  go_wp2_with fail
  refine bodyPost_ret (v := fnsD (w.heap.size + 1) w.heap.size) ?_ rfl ⟨_, _, rfl, HF⟩
  simp [results, Try.results77, go_sem, r0, r1, r2, fnsD]
/-- what bytes seem to be of -/
def readC (bs : List UInt8) : CV :=
  if (getN bs).2 = 0 ∨ 1000 < (getN bs).1 then ⟨[], []⟩ else
  if bs.length ≤ (getN bs).2 + ((getN bs).1 + 7) / 8 then ⟨[], []⟩ else
  if 3 ≤ (bs.getD ((getN bs).2 + ((getN bs).1 + 7) / 8) 0).toNat then ⟨[], []⟩ else
  ⟨(unpackAns 1 ((getN bs).1 : Int) ((bs.take ((getN bs).2 + ((getN bs).1 + 7) / 8)).drop (getN bs).2)).1.map unmU,
   decI (bs.getD ((getN bs).2 + ((getN bs).1 + 7) / 8) 0).toNat (getN bs).1 (bs.drop ((getN bs).2 + ((getN bs).1 + 7) / 8 + 1))⟩
/-- a vector comes out -/
def OutC (w : World) (c : CV) (e : Ending) (w' : World) : Prop := ∃ a1 n1 k1 a2 n2 k2, e = .returned (.agg #[.slice a1 n1 k1, .slice a2 n2 k2]) ∧ Holds w' (.slice a1 n1 k1) (bls c.nl) ∧ Holds w' (.slice a2 n2 k2) (i64s c.il) ∧ Below w.heap.size w w' ∧ (∀ ad, a1 = some ad → w.heap.size ≤ ad.block) ∧ (∀ ad, a2 = some ad → w.heap.size ≤ ad.block)
theorem outC_none {w w' : World} (h : Below w.heap.size w w') : OutC w ⟨[], []⟩ (.returned (.agg #[.slice none 0 0, .slice none 0 0])) w' := ⟨_, _, _, _, _, _, rfl, Holds.nil _, Holds.nil _, h, fun ad e => (by cases e), fun ad e => (by cases e)⟩
set_option maxHeartbeats 1600000 in
theorem cread_any {w : World} {a : Option Addr} {n k : Nat} {bs : List UInt8} (h : Holds w (.slice a n k) (u8s bs)) (hl : bs.length ≤ 300000) :
    Calls Try.prog 53 #[.slice a n k] w (OutC w (readC bs)) := by
  have e1 := h.len.1
  rw [u8s_len] at e1
  have hkn := h.len.2
  obtain ⟨W, hW⟩ : ∃ W, w.alloc (.cells #[.slice none 0 0, .slice none 0 0] 27) = W := ⟨_, rfl⟩
  have hb0 : Below w.heap.size w W := by rw [← hW]; exact below_box _ _
  have hs : W.heap.size = w.heap.size + 1 := by rw [← hW]; simp
  have KG := Get_any (h.below hb0) (by omega)
  obtain ⟨hq1, hu1⟩ := getN_bd bs
  have hC := fun (w1 : World) (x y : Value) => @vclear1 w w1 27 x y
  rw [hW] at hC
  have HC := Lib.hid hC
  obtain ⟨u, hu⟩ : ∃ u, (getN bs).1 = u := ⟨_, rfl⟩
  obtain ⟨q, hq⟩ : ∃ q, (getN bs).2 = q := ⟨_, rfl⟩
  rw [hu, hq] at KG
  rw [hq] at hq1
  have hR : readC bs = if q = 0 ∨ 1000 < u then ⟨[], []⟩ else if bs.length ≤ q + (u + 7) / 8 then ⟨[], []⟩ else if 3 ≤ (bs.getD (q + (u + 7) / 8) 0).toNat then ⟨[], []⟩ else
      ⟨(unpackAns 1 (u : Int) ((bs.take (q + (u + 7) / 8)).drop q)).1.map unmU, decI (bs.getD (q + (u + 7) / 8) 0).toNat u (bs.drop (q + (u + 7) / 8 + 1))⟩ := by rw [← hu, ← hq]; rfl
  by_cases hq0 : q = 0
  · rw [if_pos (.inl hq0)] at hR
    rw [hR]
    subst hq0
    obtain ⟨⟨y0, y1, y2, y3⟩, ⟨r0, r1⟩, x2⟩ := HC.out W (.slice none 0 0) (.slice none 0 0) (Below.refl _ _)
    clear h hl hb0 hs hq1 hu1 hC hu hq hR e1
    go_enter Try.func53, Try.ntmps53
    go_wp2_with fail
    refine KG.mono ?_
    rintro e w' ⟨rfl, rfl⟩
    go_wp2_with fail
    refine bodyPost_ret (v := .agg #[.slice none 0 0, .slice none 0 0]) ?_ rfl (outC_none x2)
    simp [results, Try.results53, go_sem, r0, r1]
  have t0 : (q == 0) = false := by rw [beq_eq_false_iff_ne]; exact hq0
  have t1 : ((q : Int) == 0) = false := by rw [beq_eq_false_iff_ne]; omega
  by_cases hu0 : 1000 < u
  · rw [if_pos (.inr hu0)] at hR
    rw [hR]
    have t2 : decide ((1000 : Int) < (u : Int)) = true := decide_eq_true (by omega)
    have t3 : decide (1000 < u) = true := decide_eq_true hu0
    obtain ⟨⟨y0, y1, y2, y3⟩, ⟨r0, r1⟩, x2⟩ := HC.out W (.slice none 0 0) (.slice none 0 0) (Below.refl _ _)
    clear h hl hb0 hs hq1 hu1 hC hu hq hR e1 hu0 hq0
    go_enter Try.func53, Try.ntmps53
    go_wp2_with fail
    refine KG.mono ?_
    rintro e w' ⟨rfl, rfl⟩
    go_wp2_with fail
    refine bodyPost_ret (v := .agg #[.slice none 0 0, .slice none 0 0]) ?_ rfl (outC_none x2)
    simp [results, Try.results53, go_sem, r0, r1]
  rw [if_neg (by omega)] at hR
  have t2 : decide ((1000 : Int) < (u : Int)) = false := decide_eq_false (by omega)
  have t3 : decide (1000 < u) = false := decide_eq_false hu0
  have hwu : IntKind.i64.wrap (u : Int) = (u : Int) := by rw [IntKind.wrap_i64]; omega
  obtain ⟨T, hT⟩ : ∃ T, q + (u + 7) / 8 = T := ⟨_, rfl⟩
  rw [hT] at hR
  by_cases hTn : n ≤ T
  · rw [if_pos (by omega)] at hR
    rw [hR]
    obtain ⟨⟨y0, y1, y2, y3⟩, ⟨r0, r1⟩, x2⟩ := HC.out W (.slice none 0 0) (.slice none 0 0) (Below.refl _ _)
    have hq9 : q ≤ 300000 := by omega
    clear h hl hb0 hs hq1 hu1 hC hu hq hR e1 hq0
    go_enter Try.func53, Try.ntmps53
    go_wp2_with fail
    refine KG.mono ?_
    rintro e w' ⟨rfl, rfl⟩
    go_wp2_with fail
    refine bodyPost_ret (v := .agg #[.slice none 0 0, .slice none 0 0]) ?_ rfl (outC_none x2)
    simp [results, Try.results53, go_sem, r0, r1]
  rw [if_neg (by omega)] at hR
  obtain ⟨ad, rfl⟩ := h.ptr (by omega)
  have hTq : q ≤ T := by omega
  have hTi : (q : Int) + ((u : Int) + 7) / 8 = (T : Int) := by omega
  obtain ⟨x, hx⟩ : ∃ x, bs[T]? = some x := ⟨_, List.getElem?_eq_getElem (by omega)⟩
  have hxd : bs.getD T 0 = x := by rw [List.getD_eq_getElem?_getD, hx]; rfl
  rw [hxd] at hR
  have hx256 : x.toNat < 256 := x.toNat_lt
  have cT := h.cell (j := T) (u := .int .u8 (x.toNat : Int)) (by simp [u8s, hx])
  obtain ⟨A1, i1, i2, hc1⟩ := cut_one h (show T + 1 ≤ n by omega)
  rw [addr_succ] at i1 i2
  have hdr : (u8s bs).drop q = u8s (bs.drop q) := by simp [u8s, List.map_drop]
  have hc2 : Holds w (.slice (some (ad.add q)) (T - q) (k - q)) (u8s ((bs.take T).drop q)) := by
    have := (h.take T (by omega)).drop q hTq
    simpa [u8s, List.map_drop, List.map_take] using this
  have hkq : ¬ k = q := by omega
  obtain ⟨kd, hkd⟩ : ∃ kd, x.toNat = kd := ⟨_, rfl⟩
  rw [hkd] at hR cT hx256
  have hwk : IntKind.i64.wrap (kd : Int) = (kd : Int) := by rw [IntKind.wrap_i64]; omega
  have hw1 : IntKind.i64.wrap ((T : Int) + 1) = (T : Int) + 1 := by rw [IntKind.wrap_i64]; omega
  have HDe := Lib.hid (fun (V : World) => decodings_any V (some A1) (n - (T + 1)) (k - (T + 1)) (u : Int))
  have H0 := Lib.hid (fun (V : World) (hv : Below w.heap.size w V) => hc1.below hv)
  have H2 := Lib.hid (fun (V : World) (hv : Below w.heap.size w V) => hc2.below hv)
  have HT := Lib.hid (fun (V : World) (hv : Below w.heap.size w V) => show V.cell? (ad.add T) = some (.int .u8 (kd : Int)) by rw [hv.cell (World.block_lt_of_cell? w _ cT)]; exact cT)
  have HBW := Lib.hid hb0
  have HS := Lib.hid hs
  have HR := Lib.hid hR
  have HL : Hid ((bs.drop (T + 1)).length ≤ 300000) := Lib.hid (by rw [List.length_drop]; omega)
  have hq9 : q ≤ 300000 := by omega
  have hn9 : n ≤ 300000 := by omega
  have b0 : (0 : Int) ≤ (T : Int) := Int.natCast_nonneg T
  have b1 : (T : Int) < (n : Int) := by omega
  have b2 : (q : Int) ≤ (T : Int) := by omega
  have b3 : (T : Int) ≤ (k : Int) := by omega
  have b4 : (T : Int) + 1 ≤ (n : Int) := by omega
  have b5 : (T : Int) + 1 ≤ (k : Int) := by omega
  have b6 : (0 : Int) ≤ (q : Int) := Int.natCast_nonneg q
  have b7 : (n : Int) ≤ (k : Int) := by omega
  have q9 : decide ((n : Int) ≤ (T : Int)) = false := decide_eq_false (by omega)
  have q8 : decide (n ≤ T) = false := decide_eq_false (by omega)
  have tT1 : ((T : Int) + 1).toNat = T + 1 := by omega
  clear h hl hb0 hs hq1 hu1 hC hu hq hR e1 hq0 hx hxd cT hc1 hc2 hdr hkd hT
  by_cases hk3 : 3 ≤ kd
  · have hR3 := HR.out
    rw [if_pos hk3] at hR3
    rw [hR3]
    have t5 : decide ((3 : Int) ≤ (kd : Int)) = true := decide_eq_true (by omega)
    have t6 : decide (3 ≤ kd) = true := decide_eq_true hk3
    clear hk3 HR hR3
    go_enter Try.func53, Try.ntmps53
    go_wp2_with fail
    refine KG.mono ?_
    rintro e w' ⟨rfl, rfl⟩
    go_wp2_with fail
    clear hW
    refine (HDe.out _).mono ?_
    rintro e w1 ⟨B, C, rfl, HD⟩
    unfold fnsD
    have hb1 := HD.out.2.2
    have hbw : Below w.heap.size w w1 := HBW.out.trans (hb1.mono HBW.out.size)
    have hTc := HT.out w1 hbw
    have hsz : w.heap.size + 1 ≤ w1.heap.size := by have := hb1.size; have := HS.out; omega
    have hbx := below_box w1 (.cells #[.func (.func 100) #[] #[.pointer (some ⟨B, 0, none⟩), .pointer (some ⟨C, 0, none⟩)], .func (.func 102) #[] #[.pointer (some ⟨B, 0, none⟩)], .func (.func 104) #[] #[.pointer (some ⟨B, 0, none⟩)]] 145)
    obtain ⟨X, hX⟩ : ∃ X, w1.alloc (.cells #[.func (.func 100) #[] #[.pointer (some ⟨B, 0, none⟩), .pointer (some ⟨C, 0, none⟩)], .func (.func 102) #[] #[.pointer (some ⟨B, 0, none⟩)], .func (.func 104) #[] #[.pointer (some ⟨B, 0, none⟩)]] 145) = X := ⟨_, rfl⟩
    rw [hX] at hbx
    have hTX := HT.out X (hbw.trans (hbx.mono hbw.size))
    obtain ⟨⟨y0, y1, y2, y3⟩, ⟨r0, r1⟩, x2⟩ := HC.out X (.slice none 0 0) (.slice none 0 0) ((hb1.mono (by rw [HS.out]; omega)).trans (hbx.mono hsz))
    clear hb1 hbw hsz hbx hTc HDe HD
    go_wp2_with fail
    refine bodyPost_ret (v := .agg #[.slice none 0 0, .slice none 0 0]) ?_ rfl (outC_none x2)
    simp [results, Try.results53, go_sem, r0, r1]
  have hR3 := HR.out
  rw [if_neg hk3] at hR3
  have HR := Lib.hid hR3
  have t5 : decide ((3 : Int) ≤ (kd : Int)) = false := decide_eq_false (by omega)
  have t6 : decide (3 ≤ kd) = false := decide_eq_false hk3
  obtain rfl | rfl | rfl : kd = 0 ∨ kd = 1 ∨ kd = 2 := by omega
  · clear t5 t6 hR3 hk3
    have t5 : decide ((3 : Int) ≤ ((0 : Nat) : Int)) = false := rfl
    go_enter Try.func53, Try.ntmps53
    go_wp2_with fail
    refine KG.mono ?_
    rintro e w' ⟨rfl, rfl⟩
    go_wp2_with fail
    clear hW
    refine (HDe.out _).mono ?_
    rintro e w1 ⟨B, C, rfl, HD⟩
    unfold fnsD
    have hb1 := HD.out.2.2
    have hbw : Below w.heap.size w w1 := HBW.out.trans (hb1.mono HBW.out.size)
    have hTc := HT.out w1 hbw
    have hsz : w.heap.size + 1 ≤ w1.heap.size := by have := hb1.size; have := HS.out; omega
    have hbx := below_box w1 (.cells #[.func (.func 100) #[] #[.pointer (some ⟨B, 0, none⟩), .pointer (some ⟨C, 0, none⟩)], .func (.func 102) #[] #[.pointer (some ⟨B, 0, none⟩)], .func (.func 104) #[] #[.pointer (some ⟨B, 0, none⟩)]] 145)
    obtain ⟨X, hX⟩ : ∃ X, w1.alloc (.cells #[.func (.func 100) #[] #[.pointer (some ⟨B, 0, none⟩), .pointer (some ⟨C, 0, none⟩)], .func (.func 102) #[] #[.pointer (some ⟨B, 0, none⟩)], .func (.func 104) #[] #[.pointer (some ⟨B, 0, none⟩)]] 145) = X := ⟨_, rfl⟩
    have hx0 : X.heap[w1.heap.size]? = some ((.cells #[.func (.func 100) #[] #[.pointer (some ⟨B, 0, none⟩), .pointer (some ⟨C, 0, none⟩)], .func (.func 102) #[] #[.pointer (some ⟨B, 0, none⟩)], .func (.func 104) #[] #[.pointer (some ⟨B, 0, none⟩)]] 145)) := by rw [← hX]; exact heap_alloc_new _ _
    rw [hX] at hbx
    have hbwX := hbw.trans (hbx.mono hbw.size)
    have hTX := HT.out X hbwX
    have hXs : X.heap.size = w1.heap.size + 1 := by rw [← hX]; simp
    have hf : X.cell? ⟨w1.heap.size, 0, none⟩ = some (.func (.func 100) #[] #[.pointer (some ⟨B, 0, none⟩), .pointer (some ⟨C, 0, none⟩)]) := by rw [cell_of_row _ _ _ _ _ _ hx0]; rfl
    have hbSX : Below (w.heap.size + 1) W X := (hb1.mono (by rw [HS.out]; omega)).trans (hbx.mono hsz)
    have hcBX : X.cell? ⟨B, 0, none⟩ = some (.slice (some A1) (n - (T + 1)) (k - (T + 1))) := by rw [hbx.cell (World.block_lt_of_cell? w1 _ HD.out.2.1)]; exact HD.out.2.1
    have hcCX : X.cell? ⟨C, 0, none⟩ = some (.int .i64 (u : Int)) := by rw [hbx.cell (World.block_lt_of_cell? w1 _ HD.out.1)]; exact HD.out.1
    have KU := unpacked_any (H2.out X.drew (hbwX.trans ((below_drew1 X).mono hbwX.size))) 1 (u : Int)
    have hul := unpackAns_len 1 (u : Int) ((bs.take T).drop q)
    obtain ⟨L, hL⟩ : ∃ L, (unpackAns 1 (u : Int) ((bs.take T).drop q)).1 = L := ⟨_, rfl⟩
    obtain ⟨ul, hul2⟩ : ∃ ul, (u64s L).length = ul := ⟨_, rfl⟩
    unfold OutH at KU
    rw [hL, hul2] at KU
    rw [hL] at hul
    have HRR := HR.out
    rw [hL] at HRR
    have HR2 := Lib.hid HRR
    have HUL := Lib.hid hul
    have HXs := Lib.hid hXs
    have HbSX := Lib.hid hbSX
    have HbwX := Lib.hid hbwX
    have HcBX := Lib.hid hcBX
    have HcCX := Lib.hid hcCX
    have HXw : Hid (w.heap.size + 1 ≤ X.heap.size) := Lib.hid (by omega)
    have hfd : X.drew.cell? ⟨w1.heap.size, 0, none⟩ = some (.func (.func 100) #[] #[.pointer (some ⟨B, 0, none⟩), .pointer (some ⟨C, 0, none⟩)]) := hf
    clear hb1 hbw hsz hbx hTc HDe HD hx0 hbwX hXs hbSX hcBX hcCX hul hL hul2 HRR HR
    go_wp2_with fail
    (try rw [hX])
    clear hX
    refine wp_region_mix (fun V => V.cell? ⟨w1.heap.size, 0, none⟩ = some (.func (.func 100) #[] #[.pointer (some ⟨B, 0, none⟩), .pointer (some ⟨C, 0, none⟩)])) 12 [(true, 0), (true, 1), (true, 2), (true, 3), (true, 7), (true, 8), (true, 9), (false, 4), (false, 5), (false, 6), (false, 10), (true, 11), (false, 12)] (by kernel_rfl) (by decide +kernel) rfl (by decide +kernel) hfd ?_
    iterate 7
      refine wpMix_take (v := ?_) rfl rfl ?_ ?_
      rotate_left
      · (intro V hV; (try dsimp only at hV); go_simp) <;> with_reducible rfl
      simp only [Act.put, List.setIfInBounds_toArray, List.set_cons_zero, List.set_cons_succ]
    refine wpMix_run rfl ?_
    intro K' hK
    go_wp2_with fail
    refine hK.out _ _ (fun _ => hfd) ?_
    clear hK K'
    refine wpMix_run rfl ?_
    intro K' hK
    go_wp2_with fail
    refine KU.mono ?_
    rintro e w4 ⟨ua, uk, rfl, hu, hb4⟩
    have hb4' : Below X.heap.size X w4 := undrew hb4
    have hf4 : w4.cell? ⟨w1.heap.size, 0, none⟩ = some (.func (.func 100) #[] #[.pointer (some ⟨B, 0, none⟩), .pointer (some ⟨C, 0, none⟩)]) := by rw [hb4'.cell (World.block_lt_of_cell? X _ hf)]; exact hf
    have KM := unmarked_any hu HUL.out
    obtain ⟨ml, hml⟩ : ∃ ml, (L.map fUnm).length = ml := ⟨_, rfl⟩
    unfold OutF at KM
    rw [hml] at KM
    have HML := Lib.hid hml
    have HB4 := Lib.hid hb4'
    clear hu hb4 hb4' KU hml
    go_wp2_with fail
    refine hK.out _ _ (fun _ => hf4) ?_
    clear hK K'
    refine wpMix_run rfl ?_
    intro K' hK
    go_wp2_with fail
    refine KM.mono ?_
    rintro e w5 ⟨rfl, hm5, hb5⟩
    have hbX5 : Below X.heap.size X w5 := HB4.out.trans (hb5.mono HB4.out.size)
    have hf5 : w5.cell? ⟨w1.heap.size, 0, none⟩ = some (.func (.func 100) #[] #[.pointer (some ⟨B, 0, none⟩), .pointer (some ⟨C, 0, none⟩)]) := by rw [hbX5.cell (World.block_lt_of_cell? X _ hf)]; exact hf
    have hcB : w5.cell? ⟨B, 0, none⟩ = some (.slice (some A1) (n - (T + 1)) (k - (T + 1))) := by rw [hbX5.cell (World.block_lt_of_cell? X _ HcBX.out)]; exact HcBX.out
    have hcC : w5.cell? ⟨C, 0, none⟩ = some (.int .i64 (u : Int)) := by rw [hbX5.cell (World.block_lt_of_cell? X _ HcCX.out)]; exact HcCX.out
    have hbw5 : Below w.heap.size w w5 := HbwX.out.trans (hbX5.mono HbwX.out.size)
    have KI := dec1_any hcB hcC (H0.out w5 hbw5)
    obtain ⟨ID, hID⟩ : ∃ ID, decI 0 u (bs.drop (T + 1)) = ID := ⟨_, rfl⟩
    obtain ⟨il, hil⟩ : ∃ il, (i64s ID).length = il := ⟨_, rfl⟩
    have HRR := HR2.out
    rw [hID] at HRR
    unfold OutG at KI
    (try simp only [Nat.zero_add] at KI)
    rw [hID, hil] at KI
    have HR3 := Lib.hid HRR
    have HM5 := Lib.hid hm5
    have HX5 := Lib.hid hbX5
    have HW5 := Lib.hid hbw5
    clear KM hm5 hb5 hbX5 hcB hcC hbw5 hID hil HRR HR2 hf4
    go_wp2_with fail
    refine hK.out _ _ (fun _ => hf5) ?_
    clear hK K'
    refine wpMix_run rfl ?_
    intro K' hK
    go_wp2_with fail
    refine KI.mono ?_
    rintro e w6 ⟨ia, ik, rfl, hi6, hb6, hfr⟩
    have hf6 : w6.cell? ⟨w1.heap.size, 0, none⟩ = some (.func (.func 100) #[] #[.pointer (some ⟨B, 0, none⟩), .pointer (some ⟨C, 0, none⟩)]) := by rw [hb6.cell (World.block_lt_of_cell? w5 _ hf5)]; exact hf5
    have hb56 : Below X.heap.size X w6 := HX5.out.trans (hb6.mono HX5.out.size)
    obtain ⟨⟨y0, y1, y2, y3⟩, ⟨r0, r1⟩, x2⟩ := HC.out w6 (.slice (some ⟨w4.heap.size, 0, none⟩) ml ml) (.slice ia il ik) (HbSX.out.trans (hb56.mono HXw.out))
    have FIN : Hid (OutC w (readC bs) (.returned (.agg #[.slice (some ⟨w4.heap.size, 0, none⟩) ml ml, .slice ia il ik])) ((w6.setCell ⟨w.heap.size, 0, none⟩ (.slice (some ⟨w4.heap.size, 0, none⟩) ml ml)).setCell ⟨w.heap.size, 1, none⟩ (.slice ia il ik))) := Lib.hid (by
      rw [HR3.out]
      have hne : ∀ k, k ≠ w.heap.size → ((w6.setCell ⟨w.heap.size, 0, none⟩ (.slice (some ⟨w4.heap.size, 0, none⟩) ml ml)).setCell ⟨w.heap.size, 1, none⟩ (.slice ia il ik)).heap[k]? = w6.heap[k]? := fun k hk => by rw [vset_other hk, vset_other hk]
      refine ⟨_, _, _, _, _, _, rfl, ?_, ?_, x2, (fun ad e => by cases e; show _ ≤ w4.heap.size; have := HB4.out.size; have := HXw.out; omega), (fun ad e => by have := hfr ad e; have := HX5.out.size; have := HXw.out; omega)⟩
      · rw [← map_unm]
        exact (HM5.out.below hb6).of_blocks (S := w.heap.size) (fun ad _ j => Addr.add_block ad j) (fun ad e _ => by cases e; show w4.heap.size ≠ _; have := HB4.out.size; have := HXw.out; omega) hne
      · exact hi6.of_blocks (S := w.heap.size) (fun ad _ j => Addr.add_block ad j) (fun ad e _ => by have := hfr ad e; have := HX5.out.size; have := HXw.out; omega) hne)
    clear KI hi6 hb6 hfr hb56 hf5 x2
    go_wp2_with fail
    refine hK.out _ _ (fun _ => hf6) ?_
    clear hK K'
    iterate 1
      refine wpMix_take (v := ?_) rfl rfl ?_ ?_
      rotate_left
      · (intro V hV; (try dsimp only at hV); go_simp) <;> with_reducible rfl
      simp only [Act.put, List.setIfInBounds_toArray, List.set_cons_zero, List.set_cons_succ]
    refine wpMix_run rfl ?_
    intro K' hK
    go_wp2_with fail
    refine hK.out _ _ (fun h => absurd rfl h) ?_
    clear hK K'
    refine wpMix_nil ?_
    go_wp2_with fail
    refine bodyPost_ret (v := .agg #[.slice (some ⟨w4.heap.size, 0, none⟩) ml ml, .slice ia il ik]) ?_ rfl FIN.out
    simp [results, Try.results53, go_sem, r0, r1]
  · clear t5 t6 hR3 hk3
    have t5 : decide ((3 : Int) ≤ ((1 : Nat) : Int)) = false := rfl
    go_enter Try.func53, Try.ntmps53
    go_wp2_with fail
    refine KG.mono ?_
    rintro e w' ⟨rfl, rfl⟩
    go_wp2_with fail
    clear hW
    refine (HDe.out _).mono ?_
    rintro e w1 ⟨B, C, rfl, HD⟩
    unfold fnsD
    have hb1 := HD.out.2.2
    have hbw : Below w.heap.size w w1 := HBW.out.trans (hb1.mono HBW.out.size)
    have hTc := HT.out w1 hbw
    have hsz : w.heap.size + 1 ≤ w1.heap.size := by have := hb1.size; have := HS.out; omega
    have hbx := below_box w1 (.cells #[.func (.func 100) #[] #[.pointer (some ⟨B, 0, none⟩), .pointer (some ⟨C, 0, none⟩)], .func (.func 102) #[] #[.pointer (some ⟨B, 0, none⟩)], .func (.func 104) #[] #[.pointer (some ⟨B, 0, none⟩)]] 145)
    obtain ⟨X, hX⟩ : ∃ X, w1.alloc (.cells #[.func (.func 100) #[] #[.pointer (some ⟨B, 0, none⟩), .pointer (some ⟨C, 0, none⟩)], .func (.func 102) #[] #[.pointer (some ⟨B, 0, none⟩)], .func (.func 104) #[] #[.pointer (some ⟨B, 0, none⟩)]] 145) = X := ⟨_, rfl⟩
    have hx0 : X.heap[w1.heap.size]? = some ((.cells #[.func (.func 100) #[] #[.pointer (some ⟨B, 0, none⟩), .pointer (some ⟨C, 0, none⟩)], .func (.func 102) #[] #[.pointer (some ⟨B, 0, none⟩)], .func (.func 104) #[] #[.pointer (some ⟨B, 0, none⟩)]] 145)) := by rw [← hX]; exact heap_alloc_new _ _
    rw [hX] at hbx
    have hbwX := hbw.trans (hbx.mono hbw.size)
    have hTX := HT.out X hbwX
    have hXs : X.heap.size = w1.heap.size + 1 := by rw [← hX]; simp
    have hf : X.cell? ⟨w1.heap.size, 1, none⟩ = some (.func (.func 102) #[] #[.pointer (some ⟨B, 0, none⟩)]) := by rw [cell_of_row _ _ _ _ _ _ hx0]; rfl
    have hbSX : Below (w.heap.size + 1) W X := (hb1.mono (by rw [HS.out]; omega)).trans (hbx.mono hsz)
    have hcBX : X.cell? ⟨B, 0, none⟩ = some (.slice (some A1) (n - (T + 1)) (k - (T + 1))) := by rw [hbx.cell (World.block_lt_of_cell? w1 _ HD.out.2.1)]; exact HD.out.2.1
    have hcCX : X.cell? ⟨C, 0, none⟩ = some (.int .i64 (u : Int)) := by rw [hbx.cell (World.block_lt_of_cell? w1 _ HD.out.1)]; exact HD.out.1
    have KU := unpacked_any (H2.out X.drew (hbwX.trans ((below_drew1 X).mono hbwX.size))) 1 (u : Int)
    have hul := unpackAns_len 1 (u : Int) ((bs.take T).drop q)
    obtain ⟨L, hL⟩ : ∃ L, (unpackAns 1 (u : Int) ((bs.take T).drop q)).1 = L := ⟨_, rfl⟩
    obtain ⟨ul, hul2⟩ : ∃ ul, (u64s L).length = ul := ⟨_, rfl⟩
    unfold OutH at KU
    rw [hL, hul2] at KU
    rw [hL] at hul
    have HRR := HR.out
    rw [hL] at HRR
    have HR2 := Lib.hid HRR
    have HUL := Lib.hid hul
    have HXs := Lib.hid hXs
    have HbSX := Lib.hid hbSX
    have HbwX := Lib.hid hbwX
    have HcBX := Lib.hid hcBX
    have HcCX := Lib.hid hcCX
    have HXw : Hid (w.heap.size + 1 ≤ X.heap.size) := Lib.hid (by omega)
    have hfd : X.drew.cell? ⟨w1.heap.size, 1, none⟩ = some (.func (.func 102) #[] #[.pointer (some ⟨B, 0, none⟩)]) := hf
    clear hb1 hbw hsz hbx hTc HDe HD hx0 hbwX hXs hbSX hcBX hcCX hul hL hul2 HRR HR
    go_wp2_with fail
    (try rw [hX])
    clear hX
    refine wp_region_mix (fun V => V.cell? ⟨w1.heap.size, 1, none⟩ = some (.func (.func 102) #[] #[.pointer (some ⟨B, 0, none⟩)])) 12 [(true, 0), (true, 1), (true, 2), (true, 3), (true, 7), (true, 8), (true, 9), (false, 4), (false, 5), (false, 6), (false, 10), (true, 11), (false, 12)] (by kernel_rfl) (by decide +kernel) rfl (by decide +kernel) hfd ?_
    iterate 7
      refine wpMix_take (v := ?_) rfl rfl ?_ ?_
      rotate_left
      · (intro V hV; (try dsimp only at hV); go_simp) <;> with_reducible rfl
      simp only [Act.put, List.setIfInBounds_toArray, List.set_cons_zero, List.set_cons_succ]
    refine wpMix_run rfl ?_
    intro K' hK
    go_wp2_with fail
    refine hK.out _ _ (fun _ => hfd) ?_
    clear hK K'
    refine wpMix_run rfl ?_
    intro K' hK
    go_wp2_with fail
    refine KU.mono ?_
    rintro e w4 ⟨ua, uk, rfl, hu, hb4⟩
    have hb4' : Below X.heap.size X w4 := undrew hb4
    have hf4 : w4.cell? ⟨w1.heap.size, 1, none⟩ = some (.func (.func 102) #[] #[.pointer (some ⟨B, 0, none⟩)]) := by rw [hb4'.cell (World.block_lt_of_cell? X _ hf)]; exact hf
    have KM := unmarked_any hu HUL.out
    obtain ⟨ml, hml⟩ : ∃ ml, (L.map fUnm).length = ml := ⟨_, rfl⟩
    unfold OutF at KM
    rw [hml] at KM
    have HML := Lib.hid hml
    have HB4 := Lib.hid hb4'
    clear hu hb4 hb4' KU hml
    go_wp2_with fail
    refine hK.out _ _ (fun _ => hf4) ?_
    clear hK K'
    refine wpMix_run rfl ?_
    intro K' hK
    go_wp2_with fail
    refine KM.mono ?_
    rintro e w5 ⟨rfl, hm5, hb5⟩
    have hbX5 : Below X.heap.size X w5 := HB4.out.trans (hb5.mono HB4.out.size)
    have hf5 : w5.cell? ⟨w1.heap.size, 1, none⟩ = some (.func (.func 102) #[] #[.pointer (some ⟨B, 0, none⟩)]) := by rw [hbX5.cell (World.block_lt_of_cell? X _ hf)]; exact hf
    have hcB : w5.cell? ⟨B, 0, none⟩ = some (.slice (some A1) (n - (T + 1)) (k - (T + 1))) := by rw [hbX5.cell (World.block_lt_of_cell? X _ HcBX.out)]; exact HcBX.out
    have hcC : w5.cell? ⟨C, 0, none⟩ = some (.int .i64 (u : Int)) := by rw [hbX5.cell (World.block_lt_of_cell? X _ HcCX.out)]; exact HcCX.out
    have hbw5 : Below w.heap.size w w5 := HbwX.out.trans (hbX5.mono HbwX.out.size)
    have KI := dec2_any (N := u) hcB (H0.out w5 hbw5) HL.out
    obtain ⟨ID, hID⟩ : ∃ ID, decI 1 u (bs.drop (T + 1)) = ID := ⟨_, rfl⟩
    obtain ⟨il, hil⟩ : ∃ il, (i64s ID).length = il := ⟨_, rfl⟩
    have HRR := HR2.out
    rw [hID] at HRR
    unfold OutG at KI
    (try simp only [Nat.zero_add] at KI)
    rw [hID, hil] at KI
    have HR3 := Lib.hid HRR
    have HM5 := Lib.hid hm5
    have HX5 := Lib.hid hbX5
    have HW5 := Lib.hid hbw5
    clear KM hm5 hb5 hbX5 hcB hcC hbw5 hID hil HRR HR2 hf4
    go_wp2_with fail
    refine hK.out _ _ (fun _ => hf5) ?_
    clear hK K'
    refine wpMix_run rfl ?_
    intro K' hK
    go_wp2_with fail
    refine KI.mono ?_
    rintro e w6 ⟨ia, ik, rfl, hi6, hb6, hfr⟩
    have hf6 : w6.cell? ⟨w1.heap.size, 1, none⟩ = some (.func (.func 102) #[] #[.pointer (some ⟨B, 0, none⟩)]) := by rw [hb6.cell (World.block_lt_of_cell? w5 _ hf5)]; exact hf5
    have hb56 : Below X.heap.size X w6 := HX5.out.trans (hb6.mono HX5.out.size)
    obtain ⟨⟨y0, y1, y2, y3⟩, ⟨r0, r1⟩, x2⟩ := HC.out w6 (.slice (some ⟨w4.heap.size, 0, none⟩) ml ml) (.slice ia il ik) (HbSX.out.trans (hb56.mono HXw.out))
    have FIN : Hid (OutC w (readC bs) (.returned (.agg #[.slice (some ⟨w4.heap.size, 0, none⟩) ml ml, .slice ia il ik])) ((w6.setCell ⟨w.heap.size, 0, none⟩ (.slice (some ⟨w4.heap.size, 0, none⟩) ml ml)).setCell ⟨w.heap.size, 1, none⟩ (.slice ia il ik))) := Lib.hid (by
      rw [HR3.out]
      have hne : ∀ k, k ≠ w.heap.size → ((w6.setCell ⟨w.heap.size, 0, none⟩ (.slice (some ⟨w4.heap.size, 0, none⟩) ml ml)).setCell ⟨w.heap.size, 1, none⟩ (.slice ia il ik)).heap[k]? = w6.heap[k]? := fun k hk => by rw [vset_other hk, vset_other hk]
      refine ⟨_, _, _, _, _, _, rfl, ?_, ?_, x2, (fun ad e => by cases e; show _ ≤ w4.heap.size; have := HB4.out.size; have := HXw.out; omega), (fun ad e => by have := hfr ad e; have := HX5.out.size; have := HXw.out; omega)⟩
      · rw [← map_unm]
        exact (HM5.out.below hb6).of_blocks (S := w.heap.size) (fun ad _ j => Addr.add_block ad j) (fun ad e _ => by cases e; show w4.heap.size ≠ _; have := HB4.out.size; have := HXw.out; omega) hne
      · exact hi6.of_blocks (S := w.heap.size) (fun ad _ j => Addr.add_block ad j) (fun ad e _ => by have := hfr ad e; have := HX5.out.size; have := HXw.out; omega) hne)
    clear KI hi6 hb6 hfr hb56 hf5 x2
    go_wp2_with fail
    refine hK.out _ _ (fun _ => hf6) ?_
    clear hK K'
    iterate 1
      refine wpMix_take (v := ?_) rfl rfl ?_ ?_
      rotate_left
      · (intro V hV; (try dsimp only at hV); go_simp) <;> with_reducible rfl
      simp only [Act.put, List.setIfInBounds_toArray, List.set_cons_zero, List.set_cons_succ]
    refine wpMix_run rfl ?_
    intro K' hK
    go_wp2_with fail
    refine hK.out _ _ (fun h => absurd rfl h) ?_
    clear hK K'
    refine wpMix_nil ?_
    go_wp2_with fail
    refine bodyPost_ret (v := .agg #[.slice (some ⟨w4.heap.size, 0, none⟩) ml ml, .slice ia il ik]) ?_ rfl FIN.out
    simp [results, Try.results53, go_sem, r0, r1]
  · clear t5 t6 hR3 hk3
    have t5 : decide ((3 : Int) ≤ ((2 : Nat) : Int)) = false := rfl
    go_enter Try.func53, Try.ntmps53
    go_wp2_with fail
    refine KG.mono ?_
    rintro e w' ⟨rfl, rfl⟩
    go_wp2_with fail
    clear hW
    refine (HDe.out _).mono ?_
    rintro e w1 ⟨B, C, rfl, HD⟩
    unfold fnsD
    have hb1 := HD.out.2.2
    have hbw : Below w.heap.size w w1 := HBW.out.trans (hb1.mono HBW.out.size)
    have hTc := HT.out w1 hbw
    have hsz : w.heap.size + 1 ≤ w1.heap.size := by have := hb1.size; have := HS.out; omega
    have hbx := below_box w1 (.cells #[.func (.func 100) #[] #[.pointer (some ⟨B, 0, none⟩), .pointer (some ⟨C, 0, none⟩)], .func (.func 102) #[] #[.pointer (some ⟨B, 0, none⟩)], .func (.func 104) #[] #[.pointer (some ⟨B, 0, none⟩)]] 145)
    obtain ⟨X, hX⟩ : ∃ X, w1.alloc (.cells #[.func (.func 100) #[] #[.pointer (some ⟨B, 0, none⟩), .pointer (some ⟨C, 0, none⟩)], .func (.func 102) #[] #[.pointer (some ⟨B, 0, none⟩)], .func (.func 104) #[] #[.pointer (some ⟨B, 0, none⟩)]] 145) = X := ⟨_, rfl⟩
    have hx0 : X.heap[w1.heap.size]? = some ((.cells #[.func (.func 100) #[] #[.pointer (some ⟨B, 0, none⟩), .pointer (some ⟨C, 0, none⟩)], .func (.func 102) #[] #[.pointer (some ⟨B, 0, none⟩)], .func (.func 104) #[] #[.pointer (some ⟨B, 0, none⟩)]] 145)) := by rw [← hX]; exact heap_alloc_new _ _
    rw [hX] at hbx
    have hbwX := hbw.trans (hbx.mono hbw.size)
    have hTX := HT.out X hbwX
    have hXs : X.heap.size = w1.heap.size + 1 := by rw [← hX]; simp
    have hf : X.cell? ⟨w1.heap.size, 2, none⟩ = some (.func (.func 104) #[] #[.pointer (some ⟨B, 0, none⟩)]) := by rw [cell_of_row _ _ _ _ _ _ hx0]; rfl
    have hbSX : Below (w.heap.size + 1) W X := (hb1.mono (by rw [HS.out]; omega)).trans (hbx.mono hsz)
    have hcBX : X.cell? ⟨B, 0, none⟩ = some (.slice (some A1) (n - (T + 1)) (k - (T + 1))) := by rw [hbx.cell (World.block_lt_of_cell? w1 _ HD.out.2.1)]; exact HD.out.2.1
    have hcCX : X.cell? ⟨C, 0, none⟩ = some (.int .i64 (u : Int)) := by rw [hbx.cell (World.block_lt_of_cell? w1 _ HD.out.1)]; exact HD.out.1
    have KU := unpacked_any (H2.out X.drew (hbwX.trans ((below_drew1 X).mono hbwX.size))) 1 (u : Int)
    have hul := unpackAns_len 1 (u : Int) ((bs.take T).drop q)
    obtain ⟨L, hL⟩ : ∃ L, (unpackAns 1 (u : Int) ((bs.take T).drop q)).1 = L := ⟨_, rfl⟩
    obtain ⟨ul, hul2⟩ : ∃ ul, (u64s L).length = ul := ⟨_, rfl⟩
    unfold OutH at KU
    rw [hL, hul2] at KU
    rw [hL] at hul
    have HRR := HR.out
    rw [hL] at HRR
    have HR2 := Lib.hid HRR
    have HUL := Lib.hid hul
    have HXs := Lib.hid hXs
    have HbSX := Lib.hid hbSX
    have HbwX := Lib.hid hbwX
    have HcBX := Lib.hid hcBX
    have HcCX := Lib.hid hcCX
    have HXw : Hid (w.heap.size + 1 ≤ X.heap.size) := Lib.hid (by omega)
    have hfd : X.drew.cell? ⟨w1.heap.size, 2, none⟩ = some (.func (.func 104) #[] #[.pointer (some ⟨B, 0, none⟩)]) := hf
    clear hb1 hbw hsz hbx hTc HDe HD hx0 hbwX hXs hbSX hcBX hcCX hul hL hul2 HRR HR
    go_wp2_with fail
    (try rw [hX])
    clear hX
    refine wp_region_mix (fun V => V.cell? ⟨w1.heap.size, 2, none⟩ = some (.func (.func 104) #[] #[.pointer (some ⟨B, 0, none⟩)])) 12 [(true, 0), (true, 1), (true, 2), (true, 3), (true, 7), (true, 8), (true, 9), (false, 4), (false, 5), (false, 6), (false, 10), (true, 11), (false, 12)] (by kernel_rfl) (by decide +kernel) rfl (by decide +kernel) hfd ?_
    iterate 7
      refine wpMix_take (v := ?_) rfl rfl ?_ ?_
      rotate_left
      · (intro V hV; (try dsimp only at hV); go_simp) <;> with_reducible rfl
      simp only [Act.put, List.setIfInBounds_toArray, List.set_cons_zero, List.set_cons_succ]
    refine wpMix_run rfl ?_
    intro K' hK
    go_wp2_with fail
    refine hK.out _ _ (fun _ => hfd) ?_
    clear hK K'
    refine wpMix_run rfl ?_
    intro K' hK
    go_wp2_with fail
    refine KU.mono ?_
    rintro e w4 ⟨ua, uk, rfl, hu, hb4⟩
    have hb4' : Below X.heap.size X w4 := undrew hb4
    have hf4 : w4.cell? ⟨w1.heap.size, 2, none⟩ = some (.func (.func 104) #[] #[.pointer (some ⟨B, 0, none⟩)]) := by rw [hb4'.cell (World.block_lt_of_cell? X _ hf)]; exact hf
    have KM := unmarked_any hu HUL.out
    obtain ⟨ml, hml⟩ : ∃ ml, (L.map fUnm).length = ml := ⟨_, rfl⟩
    unfold OutF at KM
    rw [hml] at KM
    have HML := Lib.hid hml
    have HB4 := Lib.hid hb4'
    clear hu hb4 hb4' KU hml
    go_wp2_with fail
    refine hK.out _ _ (fun _ => hf4) ?_
    clear hK K'
    refine wpMix_run rfl ?_
    intro K' hK
    go_wp2_with fail
    refine KM.mono ?_
    rintro e w5 ⟨rfl, hm5, hb5⟩
    have hbX5 : Below X.heap.size X w5 := HB4.out.trans (hb5.mono HB4.out.size)
    have hf5 : w5.cell? ⟨w1.heap.size, 2, none⟩ = some (.func (.func 104) #[] #[.pointer (some ⟨B, 0, none⟩)]) := by rw [hbX5.cell (World.block_lt_of_cell? X _ hf)]; exact hf
    have hcB : w5.cell? ⟨B, 0, none⟩ = some (.slice (some A1) (n - (T + 1)) (k - (T + 1))) := by rw [hbX5.cell (World.block_lt_of_cell? X _ HcBX.out)]; exact HcBX.out
    have hcC : w5.cell? ⟨C, 0, none⟩ = some (.int .i64 (u : Int)) := by rw [hbX5.cell (World.block_lt_of_cell? X _ HcCX.out)]; exact HcCX.out
    have hbw5 : Below w.heap.size w w5 := HbwX.out.trans (hbX5.mono HbwX.out.size)
    have KI := dec3_any (N := u) (m := 0) hcB (H0.out w5 hbw5) HL.out
    obtain ⟨ID, hID⟩ : ∃ ID, decI 2 u (bs.drop (T + 1)) = ID := ⟨_, rfl⟩
    obtain ⟨il, hil⟩ : ∃ il, (i64s ID).length = il := ⟨_, rfl⟩
    have HRR := HR2.out
    rw [hID] at HRR
    unfold OutG at KI
    (try simp only [Nat.zero_add] at KI)
    rw [hID, hil] at KI
    have HR3 := Lib.hid HRR
    have HM5 := Lib.hid hm5
    have HX5 := Lib.hid hbX5
    have HW5 := Lib.hid hbw5
    clear KM hm5 hb5 hbX5 hcB hcC hbw5 hID hil HRR HR2 hf4
    go_wp2_with fail
    refine hK.out _ _ (fun _ => hf5) ?_
    clear hK K'
    refine wpMix_run rfl ?_
    intro K' hK
    go_wp2_with fail
    refine KI.mono ?_
    rintro e w6 ⟨ia, ik, rfl, hi6, hb6, hfr⟩
    have hf6 : w6.cell? ⟨w1.heap.size, 2, none⟩ = some (.func (.func 104) #[] #[.pointer (some ⟨B, 0, none⟩)]) := by rw [hb6.cell (World.block_lt_of_cell? w5 _ hf5)]; exact hf5
    have hb56 : Below X.heap.size X w6 := HX5.out.trans (hb6.mono HX5.out.size)
    obtain ⟨⟨y0, y1, y2, y3⟩, ⟨r0, r1⟩, x2⟩ := HC.out w6 (.slice (some ⟨w4.heap.size, 0, none⟩) ml ml) (.slice ia il ik) (HbSX.out.trans (hb56.mono HXw.out))
    have FIN : Hid (OutC w (readC bs) (.returned (.agg #[.slice (some ⟨w4.heap.size, 0, none⟩) ml ml, .slice ia il ik])) ((w6.setCell ⟨w.heap.size, 0, none⟩ (.slice (some ⟨w4.heap.size, 0, none⟩) ml ml)).setCell ⟨w.heap.size, 1, none⟩ (.slice ia il ik))) := Lib.hid (by
      rw [HR3.out]
      have hne : ∀ k, k ≠ w.heap.size → ((w6.setCell ⟨w.heap.size, 0, none⟩ (.slice (some ⟨w4.heap.size, 0, none⟩) ml ml)).setCell ⟨w.heap.size, 1, none⟩ (.slice ia il ik)).heap[k]? = w6.heap[k]? := fun k hk => by rw [vset_other hk, vset_other hk]
      refine ⟨_, _, _, _, _, _, rfl, ?_, ?_, x2, (fun ad e => by cases e; show _ ≤ w4.heap.size; have := HB4.out.size; have := HXw.out; omega), (fun ad e => by have := hfr ad e; have := HX5.out.size; have := HXw.out; omega)⟩
      · rw [← map_unm]
        exact (HM5.out.below hb6).of_blocks (S := w.heap.size) (fun ad _ j => Addr.add_block ad j) (fun ad e _ => by cases e; show w4.heap.size ≠ _; have := HB4.out.size; have := HXw.out; omega) hne
      · exact hi6.of_blocks (S := w.heap.size) (fun ad _ j => Addr.add_block ad j) (fun ad e _ => by have := hfr ad e; have := HX5.out.size; have := HXw.out; omega) hne)
    clear KI hi6 hb6 hfr hb56 hf5 x2
    go_wp2_with fail
    refine hK.out _ _ (fun _ => hf6) ?_
    clear hK K'
    iterate 1
      refine wpMix_take (v := ?_) rfl rfl ?_ ?_
      rotate_left
      · (intro V hV; (try dsimp only at hV); go_simp) <;> with_reducible rfl
      simp only [Act.put, List.setIfInBounds_toArray, List.set_cons_zero, List.set_cons_succ]
    refine wpMix_run rfl ?_
    intro K' hK
    go_wp2_with fail
    refine hK.out _ _ (fun h => absurd rfl h) ?_
    clear hK K'
    refine wpMix_nil ?_
    go_wp2_with fail
    refine bodyPost_ret (v := .agg #[.slice (some ⟨w4.heap.size, 0, none⟩) ml ml, .slice ia il ik]) ?_ rfl FIN.out
    simp [results, Try.results53, go_sem, r0, r1]
end Go.Proofs.Ytcpfkinjglnabaa
