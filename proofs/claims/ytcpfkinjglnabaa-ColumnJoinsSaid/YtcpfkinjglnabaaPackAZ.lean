/- The texts ColK ColM, one behind the other; each one's own comment says what it holds. -/
import Derived.Test.YtcpfkinjglnabaaPackAY
import Derived.Test.YtcpfkinjglnabaaPackAJ
import Derived.Test.YtcpfkinjglnabaaPackAV
import Derived.Test.YtcpfkinjglnabaaPackAU
import Derived.Test.YtcpfkinjglnabaaPackAE
/- Bytes of a vector. Conditions: none. -/
set_option maxRecDepth 100000
namespace Go.Proofs.Ytcpfkinjglnabaa
open Go.RowKit Go.Maps Go.Sort

def bytesC (c : CV) : List UInt8 := dig c.il.length ++ (packAns 1 (c.nl.map markU)).1 ++ shortL c.il
def bytV (c : CV) : List UInt8 := if goodC c then bytesC c else []
def bytE (c : CV) : Int := if goodC c then 0 else 2
/-- bytes and an error come out -/
def OutB (w : World) (L : List UInt8) (E : Int) (e : Ending) (w' : World) : Prop := ∃ a k, e = .returned (.tuple #[.slice a L.length k, .int .i64 E]) ∧ Holds w' (.slice a L.length k) (u8s L) ∧ Below w.heap.size w w'
theorem short_len (l : List Int) (hl : l.length ≤ 1000) : (shortL l).length ≤ 2000001 := by
  obtain ⟨h1, h2, h3⟩ := encs_len l hl
  have a : (bA l).length ≤ 2000001 := by simp only [bA, List.length_cons]; omega
  have b : (bB l).length ≤ 2000001 := by simp only [bB, List.length_cons]; omega
  have c : (bC l).length ≤ 2000001 := by simp only [bC, List.length_cons]; omega
  have d : (best2 l).length ≤ 2000001 := by unfold best2; split <;> assumption
  unfold shortL; split <;> assumption
theorem marks_len (c : CV) : (packAns 1 (c.nl.map markU)).1.length ≤ 8 * c.nl.length + 1 := by
  have := packAns_len 1 (c.nl.map markU)
  simp only [List.length_map] at this
  exact this
set_option maxHeartbeats 1600000 in
theorem cbytes_any {w : World} {a1 a2 : Option Addr} {n1 n2 k1 k2 : Nat} {c : CV} (h1 : Holds w (.slice a1 n1 k1) (bls c.nl)) (h2 : Holds w (.slice a2 n2 k2) (i64s c.il)) :
    Calls Try.prog 20 #[.agg #[.slice a1 n1 k1, .slice a2 n2 k2]] w (OutB w (bytV c) (bytE c)) := by
  have hb0 := below_box w (.cells #[.slice a1 n1 k1, .slice a2 n2 k2] 27)
  have HB := Lib.hid hb0
  have KG := cgood_any (h1.below hb0) (h2.below hb0)
  cases hg : goodC c
  · rw [hg] at KG
    have HP : Hid (∀ w', Below w.heap.size w w' → OutB w (bytV c) (bytE c) (.returned (.tuple #[.slice none 0 0, .int .i64 2])) w') := Lib.hid fun w' hb => by
      simp only [bytV, bytE, hg, Bool.false_eq_true, if_false]
      exact ⟨none, 0, rfl, Holds.nil _, hb⟩
    clear h1 h2 hb0 hg
    go_enter Try.func20, Try.ntmps20
    go_wp2_with fail
    refine KG.mono ?_
    rintro e w1 ⟨rfl, hb⟩
    go_wp2_with fail
    go_ret2
    exact HP.out _ (HB.out.trans (hb.mono (by simp)))
  rw [hg] at KG
  obtain ⟨hn, hl, _⟩ := good_iff.1 hg
  have e1 := h1.len.1
  have e2 := h2.len.1
  rw [bls_len] at e1
  rw [i64s_len] at e2
  obtain rfl : n2 = n1 := by omega
  have hml := marks_len c
  have hsl := short_len c.il hl
  have hdl := dig_len10 (u := n2) (by omega)
  have KPut := fun (V : World) => Put_any (xs := []) (show Holds V (.slice none 0 0) (u8s []) from Holds.nil V) n2 (by omega) (by simp)
  simp only [List.nil_append] at KPut
  have H1 := Lib.hid (fun (V : World) (hv : Below w.heap.size w V) => h1.below hv)
  have H2 := Lib.hid (fun (V : World) (hv : Below w.heap.size w V) => h2.below hv)
  have HN : Hid (c.nl.length ≤ 1000 ∧ c.il.length ≤ 1000 ∧ (u64s (c.nl.map markU)).length = n2) := Lib.hid ⟨by omega, hl, by rw [u64s_len, List.length_map, e1]⟩
  have HL : Hid ((dig n2).length + (packAns 1 (c.nl.map markU)).1.length + (shortL c.il).length ≤ 3000000) := Lib.hid (by omega)
  have HF : Hid (bytV c = dig n2 ++ (packAns 1 (c.nl.map markU)).1 ++ shortL c.il ∧ bytE c = 0) := Lib.hid ⟨by simp only [bytV, hg, if_true, bytesC, e2], by simp only [bytE, hg, if_true]⟩
  have hw : IntKind.u64.wrap (n2 : Int) = (n2 : Int) := by rw [IntKind.wrap_u64]; omega
  clear h1 h2 hb0 hg hn hl e1 e2 hml hsl hdl
  obtain ⟨D, hD⟩ : ∃ D, dig n2 = D := ⟨_, rfl⟩
  obtain ⟨M, hM⟩ : ∃ M, (packAns 1 (c.nl.map markU)).1 = M := ⟨_, rfl⟩
  obtain ⟨Z, hZ⟩ : ∃ Z, shortL c.il = Z := ⟨_, rfl⟩
  rw [hD] at KPut
  rw [hD, hM, hZ] at HL HF
  have HM := Lib.hid hM
  have HZ := Lib.hid hZ
  obtain ⟨dl, hdl⟩ : ∃ dl, D.length = dl := ⟨_, rfl⟩
  obtain ⟨ml, hml⟩ : ∃ ml, M.length = ml := ⟨_, rfl⟩
  obtain ⟨zl, hzl⟩ : ∃ zl, Z.length = zl := ⟨_, rfl⟩
  have HDL := Lib.hid hdl
  have HML := Lib.hid hml
  have HZL := Lib.hid hzl
  rw [hdl] at KPut
  rw [hdl, hml, hzl] at HL
  clear hD hM hZ hdl hml hzl
  go_enter Try.func20, Try.ntmps20
  go_wp2_with fail
  refine KG.mono ?_
  rintro e w1 ⟨rfl, hb⟩
  have hb1 : Below (w.heap.size + 1) (w.alloc (.cells #[.slice a1 n2 k1, .slice a2 n2 k2] 27)) w1 := hb.mono (by simp)
  obtain ⟨f0, f1⟩ := box2 hb1
  have HB1 := Lib.hid hb1
  have hs1 : w.heap.size + 1 ≤ w1.heap.size := by have := hb1.size; simpa using this
  have HS1 := Lib.hid hs1
  clear KG hb hb1 hs1
  go_wp2_with fail
  refine (KPut w1).mono ?_
  rintro e w2 ⟨v, rfl, ho, hb2⟩
  obtain ⟨pa, pk, rfl, _⟩ := ownsRow_form ho
  have hbx2 := HB1.out.trans (hb2.mono HS1.out)
  have hbw2 := HB.out.trans (hbx2.mono (by omega))
  obtain ⟨g0, g1⟩ := box2 hbx2
  have KM := marks_any (H1.out w2 hbw2) (by have := HN.out.1; omega)
  rw [map_mark] at KM
  unfold OutF at KM
  rw [HN.out.2.2] at KM
  have HO := Lib.hid ho
  have HBX2 := Lib.hid hbx2
  have HB2 := Lib.hid hb2
  clear KPut f0 f1 ho hb2 hbx2 hbw2
  go_wp2_with fail
  refine KM.mono ?_
  rintro e w3 ⟨rfl, hm3, hb3⟩
  have KP := packed_any hm3 (by rw [List.length_map]; have := HN.out.1; omega) 1
  rw [HM.out] at KP
  unfold OutH at KP
  rw [u8s_len, HML.out] at KP
  have HB3 := Lib.hid hb3
  clear KM hm3 hb3 g0 g1
  go_wp2_with fail
  refine KP.mono ?_
  rintro e w4 ⟨qa, qk, rfl, hq, hb4⟩
  have hb24 := HB3.out.trans (hb4.mono HB3.out.size)
  have ho4 := ownsRow_below HO.out hb24
  have hs24 : w1.heap.size ≤ w4.heap.size := Nat.le_trans HB2.out.size hb24.size
  obtain ⟨v5, w5, R5, o5, g5, _⟩ := app8 (xs := D) (by rw [HDL.out]; exact ho4) hs24 hq (by have := HL.out; have := HDL.out; have := HML.out; omega)
  have hb5 : Below w1.heap.size w1 w5 := (HB2.out.trans (hb24.mono HB2.out.size)).trans (below_grown g5 hs24 (fun k e => (ho4.lt k e).1))
  have hbx5 := HB1.out.trans (hb5.mono HS1.out)
  obtain ⟨f0, f1⟩ := box2 hbx5
  obtain ⟨ra, rk, rfl, _⟩ := ownsRow_form o5
  obtain ⟨dm, hdm⟩ : ∃ dm, (D ++ M).length = dm := ⟨_, rfl⟩
  rw [hdm] at R5 o5
  have HDM := Lib.hid hdm
  clear hdm
  have KS := shortest_any (H2.out w5 (HB.out.trans (hbx5.mono (by omega)))) HN.out.2.1
  rw [HZ.out] at KS
  unfold OutH at KS
  rw [u8s_len, HZL.out] at KS
  have R5' := Lib.hid R5
  have O5 := Lib.hid o5
  have HB5 := Lib.hid hb5
  clear KP hq hb4 hb24 ho4 hs24 R5 o5 g5 hb5 hbx5
  go_wp2_with (at_builtin; refine wpList_append_run rfl _ _ 68 rfl rfl rfl (R5'.out _) ?_)
  refine KS.mono ?_
  rintro e w6 ⟨sa, sk, rfl, hs6, hb6⟩
  have ho6 := ownsRow_below O5.out hb6
  rw [← HDM.out] at ho6
  have hs56 : w1.heap.size ≤ w6.heap.size := Nat.le_trans HB5.out.size hb6.size
  obtain ⟨v7, w7, R7, o7, g7, _⟩ := app8 ho6 hs56 hs6 (by have := HL.out; have := HDL.out; have := HML.out; have := HZL.out; simp only [List.length_append]; omega)
  obtain ⟨ta, tk, rfl, _⟩ := ownsRow_form o7
  have hb7 : Below w.heap.size w w7 := HB.out.trans ((HB1.out.mono (by omega)).trans (((HB5.out.trans (hb6.mono HB5.out.size)).trans (below_grown g7 hs56 (fun k e => (ho6.lt k e).1))).mono (by have := HS1.out; omega)))
  obtain ⟨tl, htl⟩ : ∃ tl, (D ++ M ++ Z).length = tl := ⟨_, rfl⟩
  rw [htl] at R7 o7
  rw [HDM.out] at R7
  have R7' := Lib.hid R7
  have FIN : Hid (OutB w (bytV c) (bytE c) (.returned (.tuple #[.slice ta tl tk, .int .i64 0])) w7) := Lib.hid (by
    rw [HF.out.1, HF.out.2]
    exact ⟨ta, tk, by rw [htl], by rw [htl]; exact Holds.of_row (by rw [u8s_len, htl]; exact o7), hb7⟩)
  clear KS hs6 hb6 ho6 hs56 R7 o7 g7 hb7 htl
  go_wp2_with (at_builtin; refine wpList_append_run rfl _ _ 68 rfl rfl rfl (R7'.out _) ?_)
  go_ret2
  exact FIN.out
end Go.Proofs.Ytcpfkinjglnabaa
/- The ways back of a vector's ids. Conditions: at most 300000 bytes. -/
set_option maxRecDepth 100000
namespace Go.Proofs.Ytcpfkinjglnabaa
open Go.RowKit Go.Maps Go.Sort

/-- what bytes tell as ids, by the way's number -/
def decI (kind N : Nat) (r : List UInt8) : List Int :=
  match kind with
  | 0 => match r with
    | [] => []
    | x :: r' => (unpackAns (x.toNat : Int) (N : Int) r').1.map sgnU
  | 1 => (unrAns r).1.map sgnU
  | _ => (undAns r).1
/-- a list comes out, in a block of the call's own -/
def OutG (w : World) (xs : List Value) (e : Ending) (w' : World) : Prop := ∃ a c, e = .returned (.slice a xs.length c) ∧ Holds w' (.slice a xs.length c) xs ∧ Below w.heap.size w w' ∧ ∀ ad, a = some ad → w.heap.size ≤ ad.block
theorem unpackAns_len (wd N : Int) (bs : List UInt8) : (unpackAns wd N bs).1.length ≤ 100000 := by
  unfold unpackAns
  split
  · simp
  · split
    · rw [unpackL_len]; omega
    · simp
theorem unrAns_len (bs : List UInt8) : (unrAns bs).1.length ≤ 100000 := by
  unfold unrAns
  split
  · simp
  · split
    · simp
    · rename_i a h
      exact unr_len h
theorem addr_one (a : Addr) : a.add 1 = ⟨a.block, a.off + 1, none⟩ := by unfold Addr.add; simp
theorem addr_zero (a : Addr) : a.add 0 = a := by unfold Addr.add; simp
theorem cut_one {w : World} {ad : Addr} {bn bc U : Nat} {xs : List UInt8} (hH : Holds w (.slice (some ad) bn bc) (u8s xs)) (hU : U ≤ bn) :
    ∃ A, (if bc = U then ad else ad.add U) = A ∧ (if bc = U then some ad else some (ad.add U)) = some A ∧ Holds w (.slice (some A) (bn - U) (bc - U)) (u8s (xs.drop U)) := by
  have hl := hH.len
  rw [u8s_len] at hl
  have HH := hH.drop U hU
  have hd : (u8s xs).drop U = u8s (xs.drop U) := by simp [u8s, List.map_drop]
  rw [hd] at HH
  by_cases e : bc = U
  · rw [if_pos e]
    refine ⟨ad, rfl, by rw [if_pos e], ?_⟩
    have : bn = U := by omega
    subst this
    subst e
    have h0 : xs.drop bc = [] := List.drop_eq_nil_of_le (by omega)
    rw [h0, Nat.sub_self]
    exact ⟨some ad, 0, rfl, Nat.le_refl _, .inr ⟨ad, rfl, fun j u hj => by simp [u8s] at hj⟩⟩
  · rw [if_neg e]
    exact ⟨ad.add U, rfl, by rw [if_neg e], HH⟩
theorem dec1_nil {W : World} {B C : Nat} {a : Option Addr} {k : Nat} (hb : W.cell? ⟨B, 0, none⟩ = some (.slice a 0 k)) :
    Calls Try.prog 100 #[.pointer (some ⟨B, 0, none⟩), .pointer (some ⟨C, 0, none⟩)] W fun e w' => e = .returned (.slice none 0 0) ∧ w' = W := by
  go_enter Try.func100, Try.ntmps100
  go_wp2_with fail
  go_ret
  exact ⟨rfl, rfl⟩
set_option maxHeartbeats 1600000 in
theorem dec1_any {W : World} {B C : Nat} {a : Option Addr} {n k N : Nat} {r : List UInt8} (hb : W.cell? ⟨B, 0, none⟩ = some (.slice a n k)) (hn : W.cell? ⟨C, 0, none⟩ = some (.int .i64 (N : Int))) (h : Holds W (.slice a n k) (u8s r)) :
    Calls Try.prog 100 #[.pointer (some ⟨B, 0, none⟩), .pointer (some ⟨C, 0, none⟩)] W (OutG W (i64s (decI 0 N r))) := by
  have e1 := h.len.1
  rw [u8s_len] at e1
  cases r with
  | nil =>
    obtain rfl : n = 0 := e1.symm
    refine (dec1_nil hb).mono ?_
    rintro e w' ⟨rfl, rfl⟩
    exact ⟨none, 0, rfl, Holds.nil _, Below.refl _ _, fun ad e => by cases e⟩
  | cons x r =>
    have hpos : 0 < n := by rw [← e1]; simp
    obtain ⟨ad, rfl⟩ := h.ptr hpos
    have c0 := h.cell (j := 0) (u := .int .u8 (x.toNat : Int)) (by simp [u8s])
    rw [addr_zero] at c0
    have hkn := h.len.2
    obtain ⟨A, i1, i2, hc⟩ := cut_one h (show 1 ≤ n by omega)
    simp only [List.drop_one, List.tail_cons] at hc
    rw [addr_one] at i1 i2
    have KU := fun (V : World) (hv : Below W.heap.size W V) => unpacked_any (hc.below hv) (x.toNat : Int) (N : Int)
    have hul := unpackAns_len (x.toNat : Int) (N : Int) r
    have HD : Hid (decI 0 N (x :: r) = (unpackAns (x.toNat : Int) (N : Int) r).1.map sgnU) := Lib.hid rfl
    obtain ⟨L, hL⟩ : ∃ L, (unpackAns (x.toNat : Int) (N : Int) r).1 = L := ⟨_, rfl⟩
    rw [hL] at HD hul
    have hx : x.toNat < 256 := x.toNat_lt
    obtain ⟨xn, hxn⟩ : ∃ xn, x.toNat = xn := ⟨_, rfl⟩
    simp only [hL] at KU
    rw [hxn] at KU c0 hx
    obtain ⟨ul, hul2⟩ : ∃ ul, (u64s L).length = ul := ⟨_, rfl⟩
    unfold OutH at KU
    simp only [hul2] at KU
    have HKU := Lib.hid KU
    have HUL := Lib.hid hul
    have hwx : IntKind.i64.wrap (xn : Int) = (xn : Int) := by rw [IntKind.wrap_i64]; omega
    have t0 : ((n : Int) == 0) = false := by rw [beq_eq_false_iff_ne]; omega
    have t1 : (n == 0) = false := by rw [beq_eq_false_iff_ne]; omega
    have b1 : (1 : Int) ≤ (n : Int) := by omega
    have b2 : (0 : Int) < (n : Int) := by omega
    have b3 : (1 : Int) ≤ (k : Int) := by omega
    have b4 : (n : Int) ≤ (k : Int) := by omega
    have hd1 : W.drew.cell? ⟨B, 0, none⟩ = some (.slice (some ad) n k) := hb
    have HB1 : Hid (Below W.heap.size W W.drew) := Lib.hid (below_drew1 W)
    clear h hc KU hul hul2 hL hxn hx e1
    go_enter Try.func100, Try.ntmps100
    go_wp2_with fail
    refine wp_region_mix (fun V => V.cell? ⟨B, 0, none⟩ = some (.slice (some ad) n k) ∧ V.cell? ⟨C, 0, none⟩ = some (.int .i64 (N : Int)) ∧ V.cell? ad = some (.int .u8 (xn : Int))) 10 [(true, 0), (true, 1), (true, 2), (true, 3), (true, 4), (true, 5), (false, 6), (false, 7), (false, 8), (true, 9)] (by kernel_rfl) (by decide +kernel) rfl (by decide +kernel) ⟨hb, hn, c0⟩ ?_
    iterate 6
      refine wpMix_take (v := ?_) rfl rfl ?_ ?_
      rotate_left
      · (intro V hV; (try dsimp only at hV); go_simp) <;> with_reducible rfl
      simp only [Act.put, List.setIfInBounds_toArray, List.set_cons_zero, List.set_cons_succ]
    refine wpMix_run rfl ?_
    intro K' hK
    go_wp2_with fail
    refine hK.out _ _ (fun _ => ⟨hb, hn, c0⟩) ?_
    clear hK K'
    refine wpMix_run rfl ?_
    intro K' hK
    go_wp2_with fail
    refine (HKU.out _ HB1.out).mono ?_
    rintro e w1 ⟨ua, uk, rfl, hu, hb1⟩
    have hbb := HB1.out.trans (hb1.mono HB1.out.size)
    have s0 : w1.cell? ⟨B, 0, none⟩ = some (.slice (some ad) n k) := by rw [hbb.cell (World.block_lt_of_cell? W _ hb)]; exact hb
    have s1 : w1.cell? ⟨C, 0, none⟩ = some (.int .i64 (N : Int)) := by rw [hbb.cell (World.block_lt_of_cell? W _ hn)]; exact hn
    have s2 : w1.cell? ad = some (.int .u8 (xn : Int)) := by rw [hbb.cell (World.block_lt_of_cell? W _ c0)]; exact c0
    have HS : Hid (w1.cell? ⟨B, 0, none⟩ = some (.slice (some ad) n k) ∧ w1.cell? ⟨C, 0, none⟩ = some (.int .i64 (N : Int)) ∧ w1.cell? ad = some (.int .u8 (xn : Int))) := Lib.hid ⟨s0, s1, s2⟩
    have KS := signed_any hu HUL.out
    obtain ⟨ll, hll⟩ : ∃ ll, (L.map fSgn).length = ll := ⟨_, rfl⟩
    unfold OutF at KS
    rw [hll] at KS
    have HLL := Lib.hid hll
    clear hll
    have HBB := Lib.hid hbb
    clear s0 s1 s2 hu hb1 hbb HKU
    go_wp2_with fail
    refine hK.out _ _ (fun _ => HS.out) ?_
    clear hK K'
    refine wpMix_run rfl ?_
    intro K' hK
    go_wp2_with fail
    refine KS.mono ?_
    rintro e w2 ⟨rfl, hv, hb2⟩
    have HS2 : Hid (w2.cell? ⟨B, 0, none⟩ = some (.slice (some ad) n k) ∧ w2.cell? ⟨C, 0, none⟩ = some (.int .i64 (N : Int)) ∧ w2.cell? ad = some (.int .u8 (xn : Int))) := Lib.hid ⟨by rw [hb2.cell (World.block_lt_of_cell? w1 _ HS.out.1)]; exact HS.out.1, by rw [hb2.cell (World.block_lt_of_cell? w1 _ HS.out.2.1)]; exact HS.out.2.1, by rw [hb2.cell (World.block_lt_of_cell? w1 _ HS.out.2.2)]; exact HS.out.2.2⟩
    have FIN : Hid (OutG W (i64s (decI 0 N (x :: r))) (.returned (.slice (some ⟨w1.heap.size, 0, none⟩) ll ll)) w2) := Lib.hid (by
      rw [HD.out, ← map_sgn]
      unfold OutG
      rw [HLL.out]
      exact ⟨_, _, rfl, hv, HBB.out.trans (hb2.mono HBB.out.size), fun ad e => by cases e; exact HBB.out.size⟩)
    clear KS hv hb2
    go_wp2_with fail
    refine hK.out _ _ (fun _ => HS2.out) ?_
    clear hK K'
    refine wpMix_take (v := ?_) rfl rfl ?_ ?_
    rotate_left
    · (intro V hV; (try dsimp only at hV); go_simp) <;> with_reducible rfl
    simp only [Act.put, List.setIfInBounds_toArray, List.set_cons_zero, List.set_cons_succ]
    refine wpMix_nil ?_
    go_wp2_with fail
    go_ret
    exact FIN.out
theorem dec2_any {W : World} {B : Nat} {a : Option Addr} {n k N : Nat} {r : List UInt8} (hb : W.cell? ⟨B, 0, none⟩ = some (.slice a n k)) (h : Holds W (.slice a n k) (u8s r)) (hl : r.length ≤ 300000) :
    Calls Try.prog 102 #[.pointer (some ⟨B, 0, none⟩)] W (OutG W (i64s (decI 1 N r))) := by
  have KR := Unruns_any h hl
  have HUL := Lib.hid (unrAns_len r)
  have HD : Hid (decI 1 N r = (unrAns r).1.map sgnU) := Lib.hid rfl
  generalize (unrAns r).2 = re at *
  obtain ⟨L, hL⟩ : ∃ L, (unrAns r).1 = L := ⟨_, rfl⟩
  rw [hL] at HD HUL KR
  clear h hl hL
  go_enter Try.func102, Try.ntmps102
  go_wp2_with fail
  refine KR.mono ?_
  rintro e w1 ⟨v, rfl, HR⟩
  obtain ⟨ra, rk, rfl, _⟩ := ownsRow_form HR.out.1
  have KS := signed_any (Holds.of_row (by rw [u64s_len]; exact HR.out.1)) HUL.out
  obtain ⟨ll, hll⟩ : ∃ ll, (L.map fSgn).length = ll := ⟨_, rfl⟩
  unfold OutF at KS
  rw [hll] at KS
  have HLL := Lib.hid hll
  clear hll
  clear KR
  go_wp2_with fail
  refine KS.mono ?_
  rintro e w2 ⟨rfl, hv, hb2⟩
  have FIN : Hid (OutG W (i64s (decI 1 N r)) (.returned (.slice (some ⟨w1.heap.size, 0, none⟩) ll ll)) w2) := Lib.hid (by
    rw [HD.out, ← map_sgn]
    unfold OutG
    rw [HLL.out]
    exact ⟨_, _, rfl, hv, HR.out.2.trans (hb2.mono HR.out.2.size), fun ad e => by cases e; exact HR.out.2.size⟩)
  clear KS hv hb2
  go_wp2_with fail
  go_ret
  exact FIN.out
theorem dec3_any {W : World} {B : Nat} {a : Option Addr} {n k N m : Nat} {r : List UInt8} (hb : W.cell? ⟨B, 0, none⟩ = some (.slice a n k)) (h : Holds W (.slice a n k) (u8s r)) (hl : r.length ≤ 300000) :
    Calls Try.prog 104 #[.pointer (some ⟨B, 0, none⟩)] W (OutG W (i64s (decI (m + 2) N r))) := by
  have KR := Undeltas_any h hl
  have HD : Hid (decI (m + 2) N r = (undAns r).1) := Lib.hid rfl
  generalize (undAns r).2 = re at *
  obtain ⟨L, hL⟩ : ∃ L, (undAns r).1 = L := ⟨_, rfl⟩
  rw [hL] at HD KR
  clear h hl hL
  go_enter Try.func104, Try.ntmps104
  go_wp2_with fail
  refine KR.mono ?_
  rintro e w1 ⟨v, rfl, HR⟩
  obtain ⟨ra, rk, rfl, _⟩ := ownsRow_form HR.out.1
  have FIN : Hid (OutG W (i64s (decI (m + 2) N r)) (.returned (.slice ra L.length rk)) w1) := Lib.hid (by
    rw [HD.out]
    exact ⟨ra, rk, by rw [i64s_len], by rw [i64s_len]; exact Holds.of_row (by rw [i64s_len]; exact HR.out.1), HR.out.2, fun ad e => (HR.out.1.lt ad.block (by rw [e]; rfl)).1⟩)
  clear KR HR
  go_wp2_with fail
  go_ret
  exact FIN.out
end Go.Proofs.Ytcpfkinjglnabaa
