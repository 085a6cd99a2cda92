/- The walk of ValueBytes. Conditions: none. -/
import Derived.Test.YtfmhdnefcapjgaaGreatVbRefLoad
import Derived.Test.YtfmhdnefcapjgaaGreatValE
set_option maxRecDepth 100000
namespace Go.Proofs.YtfmhdnefcapjgaaGreat
open Go.RowKit Go.Maps Go.Sort Go.Lib Go.ChangeShapes Go.WideShapes Go.ChangeAt Go.Deep Go.Joins

/-- a slice of values that came in -/
theorem vals_of {H : Type} {enc : TypeId × Value → H} {w : World} {v : Value} {d : DataW H} {p : List MemPlace} {r : Reach} {b0 : Nat} (hv : Value.okWide Tryz.prog w r b0 22 v)
    (h : DataW.Trod enc Tryz.prog w 0 (fun _ => true) true 22 v d p) : ∃ a n c, v = .slice a n c ∧ ∃ vs : List VV, vs.length = n ∧ HoldsV w (.slice a n c) vs ∧ ∀ x ∈ vs, x.inI := by
  obtain ⟨a, n, c, rfl⟩ := okWide_slice Tryz.underlying22 hv
  obtain ⟨fuel, hf⟩ := h
  refine ⟨a, n, c, rfl, ?_⟩
  rcases open_structs (Tryz.underlying22) (Tryz.underlying37) (by kernel_rfl) (by kernel_rfl) hf with hcs | ⟨a', len, cap, hcs, hlc, _, hi⟩
  · simp [Value.cells] at hcs
    obtain ⟨rfl, rfl, rfl⟩ := hcs
    exact ⟨[], rfl, holdsV_nil w, fun x hx => absurd hx (by simp)⟩
  · simp [Value.cells] at hcs
    obtain ⟨rfl, rfl, rfl⟩ := hcs
    have key : ∀ i, ∃ x : VV, i < n → (w.cell? (a'.add (i * 3)) = some (.int .i64 x.k) ∧ w.cell? ⟨(a'.add (i * 3)).block, (a'.add (i * 3)).off + 1, none⟩ = some (.int .i64 x.n) ∧ w.cell? ⟨(a'.add (i * 3)).block, (a'.add (i * 3)).off + 2, none⟩ = some (.string x.s)) ∧ x.inI := fun i => by
      by_cases hil : i < n
      · obtain ⟨n', hf'⟩ := hi i hil
        obtain ⟨v0, y0, c0, t0⟩ := hf' 0 _ rfl
        obtain ⟨v1, y1, c1, t1⟩ := hf' 1 _ rfl
        obtain ⟨v2, y2, c2, t2⟩ := hf' 2 _ rfl
        obtain ⟨b0, e0, _, z0⟩ := DataW.trod_int Tryz.underlying3 t0
        obtain ⟨b1, e1, _, z1⟩ := DataW.trod_int Tryz.underlying3 t1
        obtain ⟨b2, e2, _, z2⟩ := DataW.trod_string Tryz.underlying9 t2
        simp only [List.cons.injEq, and_true] at e0 e1 e2
        subst e0 e1 e2
        have x1 := bounds_of_i64 z1
        refine ⟨⟨b0, b1, b2⟩, fun _ => ⟨⟨c0, ?_, ?_⟩, ⟨by show _ ≤ b1; omega, by show b1 < _; omega⟩⟩⟩
        · rw [← add_offn a' (i * 3) 1 (by decide)]; exact c1
        · rw [← add_offn a' (i * 3) 2 (by decide)]; exact c2
      · exact ⟨VV.none_, fun h => absurd h hil⟩
    obtain ⟨f, hf'⟩ := Classical.skolem.1 key
    refine ⟨(List.range n).map f, by simp, ⟨some a', c, by simp, by simpa using hlc, .inr ⟨a', rfl, fun i x hx => ?_⟩⟩, fun x hx => ?_⟩
    · rw [List.getElem?_map] at hx
      obtain ⟨j, hj, rfl⟩ := Option.map_eq_some_iff.1 hx
      obtain ⟨hlt, e⟩ := List.getElem?_eq_some_iff.1 hj
      simp at hlt e
      subst e
      exact (hf' i hlt).1
    · obtain ⟨i, hir, rfl⟩ := List.mem_map.1 hx
      exact (hf' i (List.mem_range.1 hir)).2
theorem neq_val (w : World) (k n : Int) (s : ByteArray) : (binOp .neq 37 (vv k n s) (vv k n s)).run Tryz.prog w = .ok (.bool false) w := by
  have h := eql_val w k n s k n s
  have e : sameV k n s k n s = true := by simp [sameV]
  rw [e, run_eql_struct] at h
  rw [run_neq_struct]
  generalize (Op.equalIn 10000 37 (vv k n s) (vv k n s)).run Tryz.prog w = r at *
  cases r with
  | ok b w' => simp [Result.andThen] at h ⊢; exact h
  | halt x w' => simp [Result.andThen] at h
set_option maxHeartbeats 1600000 in
theorem same_vals {w : World} {v1 v2 : Value} {l : List VV} (h : HoldsV w v1 l) (g : HoldsV w v2 l) (hl : l.length ≤ 1000000) : Calls Tryz.prog 12 #[v1, v2] w fun e w' => e = .returned (.bool true) ∧ Below w.heap.size w w' := by
  obtain ⟨a1, c1, rfl, hc1⟩ := h.form
  obtain ⟨a2, c2, rfl, hc2⟩ := g.form
  have KN := neq_val
  have KU := guard_val
  have H := Lib.hid h
  have G := Lib.hid g
  obtain ⟨n, hn⟩ : ∃ n, n = l.length := ⟨_, rfl⟩
  rw [← hn] at hc1 hc2 hl ⊢
  have HN := Lib.hid hn
  have HL := Lib.hid hl
  clear h g hn hl hc1 hc2
  go_enter Tryz.func12, Tryz.ntmps12
  go_wp2_with fail
  go_loopw [5, 13] (fun _ k wr => ∃ (m q : Nat), k = .int .i64 m ∧ m ≤ n ∧ wr = w.drewN q) (fun _ k _ => n - (RowKit.intOf k).toNat)
  case atStart => exact ⟨0, 0, rfl, Nat.zero_le _, (World.drewN_zero _).symm⟩
  case round =>
    obtain ⟨m, q, rfl, hm, rfl⟩ := hrel
    by_cases hlt : m < n
    · obtain ⟨x, hx⟩ : ∃ x, l[m]? = some x := ⟨l[m]'(HN.out ▸ hlt), List.getElem?_eq_getElem _⟩
      obtain ⟨ad1, rfl, d0, d1, d2⟩ := H.out.at_ hx
      obtain ⟨ad2, rfl, e0, e1, e2⟩ := G.out.at_ hx
      obtain ⟨xk, xn, xs⟩ := x
      simp only at d0 d1 d2 e0 e1 e2
      have hw64 := wi_next hlt (Nat.le_trans HL.out (by decide))
      have b0 : (0 : Int) ≤ (m : Int) := Int.natCast_nonneg m
      have b1 : (m : Int) < (n : Int) := Int.ofNat_lt.2 hlt
      clear hx
      go_wp2_with fail
      go_quiet (fail)
      go_wp2_with fail
      go_roundw
      case rel => exact ⟨m + 1, _, by go_num, hlt, rfl⟩
      case measure => simp [RowKit.intOf]; omega
    · go_wp2_with fail
      go_ret
      exact ⟨rfl, ⟨rfl, rfl, rfl, Nat.le_refl _, fun _ _ => rfl⟩⟩
theorem LoadP.both {w w1 w2 : World} {l : List UInt8} {e1 e2 : Ending} (h1 : LoadP w l e1 w1) (h2 : LoadP w1 l e2 w2) :
    ∃ (v1 v2 : Value) (z : Int) (vs : List VV), e1 = .returned (.tuple #[v1, .int .i64 z]) ∧ e2 = .returned (.tuple #[v2, .int .i64 z]) ∧ HoldsV w1 v1 vs ∧ HoldsV w2 v2 vs ∧ Below w.heap.size w w1 ∧ Below w1.heap.size w1 w2 ∧ (vs = [] ∨ loadV l = some vs) := by
  obtain ⟨⟨v1, h1⟩, b1⟩ := h1
  obtain ⟨⟨v2, h2⟩, b2⟩ := h2
  rcases h1 with ⟨vs, e, hv, rfl⟩ | ⟨e, rfl, rfl⟩
  · rcases h2 with ⟨vs', e', hv', rfl⟩ | ⟨e', _, _⟩
    · rw [e] at e'
      cases e'
      exact ⟨v1, v2, 0, vs, rfl, rfl, hv, hv', b1, b2, .inr e⟩
    · rw [e] at e'; cases e'
  · rcases h2 with ⟨vs', e', _, _⟩ | ⟨e', rfl, rfl⟩
    · rw [e] at e'; cases e'
    · exact ⟨_, _, 8, [], rfl, rfl, holdsV_nil _, holdsV_nil _, b1, b2, .inl rfl⟩
theorem loaded_len {l : List UInt8} {vs : List VV} (h : vs = [] ∨ loadV l = some vs) (hl : l.length ≤ 5000) : vs.length ≤ 1000000 := by
  rcases h with rfl | h
  · simp
  · unfold loadV at h
    split at h
    · simp at h
      have := readV_len l
      rw [h] at this; omega
    · cases h
set_option maxHeartbeats 1600000 in
theorem bytes_walk {w : World} {v0 v1 : Value} {vs : List VV} {l : List UInt8} (hV : HoldsV w v0 vs) (hi : ∀ x ∈ vs, x.inI) (hB : Holds w v1 (u8s l)) (h : MaxOk w) :
    Calls Tryz.prog 3 #[v0, v1] w fun e w' => e = .returned (.bool true) ∧ Below w.heap.size w w' := by
  have KL := lives_any
  by_cases hbig : 300 < vs.length ∨ 5000 < l.length
  · obtain ⟨a0, c0, rfl, _⟩ := hV.form
    obtain ⟨a1, c1, rfl, _⟩ := hB.form
    rw [u8s_len]
    have hc : (decide ((300 : Int) < (vs.length : Int)) = true) ∨ (decide ((300 : Int) < (vs.length : Int)) = false ∧ decide ((5000 : Int) < (l.length : Int)) = true) := by
      by_cases h3 : 300 < vs.length
      · exact .inl (decide_eq_true (by omega))
      · exact .inr ⟨decide_eq_false (by omega), decide_eq_true (by omega)⟩
    generalize vs.length = n at *
    generalize l.length = m at *
    clear hbig hV hi hB
    rcases hc with t0 | ⟨t0, t1⟩
    all_goals (
      go_enter Tryz.func3, Tryz.ntmps3
      go_wp2_with fail
      refine (KL _ h).mono ?_
      rintro e w1 ⟨rfl, hb⟩
      go_wp2_with fail
      go_ret
      exact ⟨rfl, hb⟩)
  · have hn : vs.length ≤ 300 := by omega
    have hm : l.length ≤ 5000 := by omega
    have t0 : decide ((300 : Int) < (vs.length : Int)) = false := decide_eq_false (by omega)
    have t1 : decide ((5000 : Int) < (l.length : Int)) = false := decide_eq_false (by omega)
    have K1 := vload_any hB (Nat.le_trans hm (by decide))
    have K2 := Lib.hid (fun (w0 : World) (hb : Below w.heap.size w w0) => refvload_any (hB.below hb) (Nat.le_trans hm (by decide)))
    have K3 := Lib.hid (fun (w0 : World) (hb : Below w.heap.size w w0) => vbytes_any (hV.below hb) (Nat.le_trans hn (by decide)) hi)
    have K4 := Lib.hid (fun (w0 : World) (hb : Below w.heap.size w w0) => refvbytes_any (hV.below hb) (Nat.le_trans hn (by decide)) hi)
    have HLn := Lib.hid (fun (xs : List VV) h => @loaded_len l xs h hm)
    obtain ⟨a0, c0, rfl, _⟩ := hV.form
    obtain ⟨a1, c1, rfl, _⟩ := hB.form
    rw [u8s_len] at *
    have HM := Lib.hid h
    have hz : ∀ z : Int, (z == z) = true := fun z => by simp
    generalize vs.length = n at *
    generalize l.length = m at *
    clear hbig hV hi hB hn hm h
    go_enter Tryz.func3, Tryz.ntmps3
    go_wp2_with fail
    refine K1.mono ?_
    intro e w1 h1
    have hb1 := h1.2
    obtain ⟨⟨x1, h1'⟩, _⟩ := id h1
    have K2' := K2.out w1 hb1
    obtain ⟨r1, he1⟩ : ∃ r1 : Value, e = .returned (.tuple #[x1, r1]) := by
      rcases h1' with ⟨_, _, _, rfl⟩ | ⟨_, _, rfl⟩
      · exact ⟨_, rfl⟩
      · exact ⟨_, rfl⟩
    subst he1
    have H1 := Lib.hid h1
    clear h1 h1' K1 K2 hb1
    go_wp2_with fail
    refine K2'.mono ?_
    intro e w2 h2
    obtain ⟨y1, y2, z, xs, e1, e2, hv1, hv2, hb1, hb2, hxs⟩ := H1.out.both h2
    subst e2
    simp at e1
    obtain ⟨rfl, rfl⟩ := e1
    have HB2 := Lib.hid (hb1.trans (hb2.mono hb1.size))
    have K3' := K3.out w2 HB2.out
    have HX1 := Lib.hid (hv1.below hb2)
    have HX2 := Lib.hid hv2
    have HXS := Lib.hid (HLn.out xs hxs)
    have hzz := hz z
    clear h2 hv1 hv2 hb1 hb2 hxs H1 K2' K3 HLn hz
    go_wp2_with fail
    refine K3'.mono ?_
    rintro e w3 ⟨v3, rfl, ho3, hb3⟩
    have hB3 := HB2.out.trans (hb3.mono HB2.out.size)
    have K4' := K4.out w3 hB3
    have HO3 := Lib.hid (Holds.of_row (xs := u8s (bytesV vs)) (by rw [u8s_len]; exact ho3))
    have HX3 := Lib.hid (HX1.out.below hb3)
    have HX4 := Lib.hid (HX2.out.below hb3)
    have HB3 := Lib.hid hB3
    clear ho3 hb3 hB3 K3' K4 HX1 HX2 HB2
    go_wp2_with fail
    refine K4'.mono ?_
    rintro e w4 ⟨v4, rfl, ho4, hb4⟩
    have KS := Same_any (HO3.out.below hb4) (Holds.of_row (xs := u8s (bytesV vs)) (by rw [u8s_len]; exact ho4))
    rw [decide_eq_true rfl] at KS
    have hB4 := HB3.out.trans (hb4.mono HB3.out.size)
    have KV := same_vals (HX3.out.below hb4) (HX4.out.below hb4) HXS.out
    have HB4 := Lib.hid hB4
    clear ho4 hb4 hB4 HO3 HX3 HX4 HXS HB3 K4'
    go_wp2_with fail
    refine KS.mono ?_
    rintro e w5 ⟨rfl, rfl⟩
    go_wp2_with fail
    refine KV.mono ?_
    rintro e w6 ⟨rfl, hb6⟩
    have HB6 := Lib.hid (HB4.out.trans (hb6.mono HB4.out.size))
    clear hb6 KV KS HB4
    go_wp2_with fail
    refine (KL _ (HM.out.below HB6.out)).mono ?_
    rintro e w7 ⟨rfl, hb7⟩
    have HB7 := Lib.hid (HB6.out.trans (hb7.mono HB6.out.size))
    clear hb7
    go_wp2_with fail
    go_ret
    exact ⟨rfl, HB7.out⟩
end Go.Proofs.YtfmhdnefcapjgaaGreat
