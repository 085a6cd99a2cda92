/- Contract of kmv's Bytes. Conditions: a sketch that was made. -/
import Derived.Test.YtadlfmdliinnnaaKmvEst
import Derived.Test.YtadlfmdliinnnaaCodecPut
set_option maxRecDepth 100000
namespace Go.Proofs.Ytadlfmdliinnnaa
open Go.RowKit Go.Maps Go.Sort

/-- the hash ahead of hash k -/
def prevL (l : List Nat) (k : Nat) : Nat := (0 :: l).getD k 0
/-- the first j differences in bytes -/
def dpart (l : List Nat) (j : Nat) : List UInt8 := (List.range j).flatMap fun k => dig (l.getD k 0 - prevL l k)
/-- a copy in bytes -/
def copB (l : List Nat) : List UInt8 := dig l.length ++ dpart l l.length
/-- all copies in bytes -/
def bytesL (L : List (List Nat)) : List UInt8 := L.flatMap copB
theorem dpart_next (l : List Nat) (j : Nat) (h : j < l.length) : dpart l (j + 1) = dpart l j ++ dig (l[j] - prevL l j) := by
  unfold dpart
  rw [List.range_succ, List.flatMap_append]
  simp [h]
theorem prevL_next (l : List Nat) (j : Nat) (h : j < l.length) : prevL l (j + 1) = l[j] := by simp [prevL, h]
theorem prevL_le {l : List Nat} (hu : Up l) (j : Nat) (h : j < l.length) : prevL l j ≤ l[j] := by
  cases j with
  | zero => simp [prevL]
  | succ j =>
    rw [prevL_next l j (by omega)]
    exact Nat.le_of_lt (List.pairwise_iff_getElem.1 hu j (j + 1) (by omega) h (by omega))
theorem dpart_len {l : List Nat} (hl : ∀ x ∈ l, x < 2305843009213693951) : ∀ j, j ≤ l.length → (dpart l j).length ≤ 10 * j
  | 0, _ => by simp [dpart]
  | j + 1, h => by
    have ih := dpart_len hl j (by omega)
    have hx := hl _ (List.getElem_mem (l := l) (n := j) (by omega))
    have := dig_len10 (u := l[j] - prevL l j) (by omega)
    rw [dpart_next l j (by omega), List.length_append]
    omega
theorem copB_len {t : Nat} {l : List Nat} (h : GoodL t l) (ht : t ≤ 64) : (copB l).length ≤ 650 := by
  have h1 := dpart_len h.lt l.length (Nat.le_refl _)
  have h2 := h.len
  have := dig_len10 (u := l.length) (by omega)
  unfold copB
  rw [List.length_append]
  omega
theorem bytesL_next (L : List (List Nat)) (k : Nat) (h : k < L.length) : bytesL (L.take (k + 1)) = bytesL (L.take k) ++ copB L[k] := by
  unfold bytesL
  rw [List.take_succ_eq_append_getElem h, List.flatMap_append]
  simp
theorem bytesL_len {t : Nat} {L : List (List Nat)} (h : ∀ l ∈ L, GoodL t l) (ht : t ≤ 64) : ∀ k, k ≤ L.length → (bytesL (L.take k)).length ≤ 650 * k
  | 0, _ => by simp [bytesL]
  | k + 1, hk => by
    have ih := bytesL_len h ht k (by omega)
    have := copB_len (h _ (List.getElem_mem (l := L) (n := k) (by omega))) ht
    rw [bytesL_next L k (by omega), List.length_append]
    omega

/-- bytes of the call's own -/
def OwnB (w : World) (xs : List UInt8) (v : Value) (w' : World) : Prop := w'.ownsRow w.heap.size 5 1 v xs.length (u8s xs) ∧ Below w.heap.size w w'
def BytesAt (w : World) (xs : List UInt8) (e : Ending) (w' : World) : Prop := ∃ v, e = .returned v ∧ OwnB w xs v w'
theorem OwnB.put {w wr : World} {xs : List UInt8} {v : Value} (h : OwnB w xs v wr) (d : Nat) (hd : d < 18446744073709551616) (hx : xs.length ≤ 100000) :
    Calls Try.prog 43 #[v, .int .u64 (d : Int)] wr fun e w' => ∃ v', e = .returned v' ∧ Hid (OwnB w (xs ++ dig d) v' w') ∧ Below wr.heap.size wr w' := by
  refine (Put_any (Holds.of_row (by rw [u8s_len]; exact h.1)) d hd (by omega)).mono ?_
  rintro e w' ⟨v', rfl, ho, hb⟩
  exact ⟨v', rfl, ⟨ownsRow_rebase ho (fun g hg => Nat.le_trans h.2.size (ho.lt g hg).1), h.2.trans (hb.mono h.2.size)⟩, hb⟩

set_option maxHeartbeats 3200000 in
theorem bytes_any {T : Tags} {i : Nat} {w : World} {p : Nat} {V : SkV} (h : Sk p V T i w) :
    Calls Try.prog 22 #[.pointer (some ⟨p, 0, none⟩)] w (BytesAt w (bytesL V.L)) := by
  obtain ⟨sa, sc, cb, rows, g⟩ := h
  obtain ⟨c0, c1, c2⟩ := g.cells
  have hset := g.good.set
  have hn7 : V.L.length ≤ 7 := by rw [g.good.len]; exact hset.n7
  have KM := made_yes c0 hset.t2
  have HGR := Lib.hid g.good.row
  have HS := Lib.hid hset
  have HG := Lib.hid g
  clear g hset
  generalize hN : V.L.length = N at *
  have HN := Lib.hid hN
  clear hN
  go_enter Try.func22, Try.ntmps22
  go_wp2_with fail
  refine KM.mono ?_
  rintro e w' ⟨rfl, rfl⟩
  clear KM
  go_wp2_with fail
  go_loopw [3, 16] (fun b k wr => ∃ m : Nat, k = .int .i64 m ∧ m ≤ N ∧ Hid (OwnB w (bytesL (V.L.take m)) b wr)) (fun _ k _ => N - (intOf k).toNat)
  case atStart => exact ⟨0, rfl, Nat.zero_le _, Lib.hid ⟨by simpa [bytesL, u8s] using World.ownsRow_nil _ _ _ _, Below.refl _ _⟩⟩
  case round =>
    obtain ⟨m, rfl, hm, HR⟩ := hrel
    clear c0 c1 c2
    by_cases hlt : m < N
    · have hmL : m < V.L.length := by rw [HN.out]; exact hlt
      obtain ⟨sa1, sc1, cb1, rows1, g1⟩ := HG.out.below HR.out.2
      obtain ⟨c0, c1, c2⟩ := g1.cells
      rw [HN.out] at c2
      obtain ⟨v, hv, c3, f3, hown, hgl⟩ := g1.at_ hmL
      obtain ⟨a, c, rfl, hc, hcm⟩ := ownsRow_form hown
      have hln : V.L[m].length ≤ 64 := by have := hgl.len; have := HS.out.t64; omega
      have hxs := bytesL_len HGR.out HS.out.t64 m (by omega)
      have b0 : (0 : Int) ≤ (m : Int) := by omega
      have b1 : (m : Int) < (N : Int) := by omega
      have HNX := Lib.hid (bytesL_next V.L m hmL)
      have HD := Lib.hid (fun j hj => dpart_len hgl.lt j hj)
      have HGL := Lib.hid hgl
      have HO := Lib.hid (Holds.of_row (by rw [nats_len]; exact hown))
      generalize hl : V.L[m] = l at *
      have KP := Lib.hid (HR.out.put l.length (by omega) (by omega))
      have HL2 := Lib.hid hl
      clear g1 hown hgl hv hl HR
      go_wp2_with fail
      refine KP.out.mono ?_
      rintro e w1 ⟨v1, rfl, ho1, hb1⟩
      obtain ⟨sa2, sc2, cb2, rows2, g2⟩ := HG.out.below ho1.out.2
      obtain ⟨c0', c1', c2'⟩ := g2.cells
      rw [HN.out] at c2'
      obtain ⟨v2, hv2, c3', f3', hown2, hgl2⟩ := g2.at_ hmL
      rw [HL2.out] at hown2
      obtain ⟨a2, k2, rfl, hc2, hcm2⟩ := ownsRow_form hown2
      have HO2 := Lib.hid (Holds.of_row (by rw [nats_len]; exact hown2))
      have HO1 := ho1
      have HX := Lib.hid hxs
      clear g2 hown2 hv2 hgl2 hb1 ho1 KP HO hxs c0 c1 c2 c3
      obtain ⟨wo, hwo⟩ : ∃ wo : World, wo = wr := ⟨_, rfl⟩
      clear hwo
      generalize hn : l.length = n at *
      have HNL := Lib.hid hn
      clear hn
      go_wp2_with fail
      go_loopw [3, 5, 38] (fun b ah j wq => ∃ q : Nat, j = .int .i64 q ∧ q ≤ n ∧ ah = .int .u64 (prevL l q) ∧ Hid (OwnB w (bytesL (V.L.take m) ++ dig n ++ dpart l q) b wq) ∧ Hid (Below w1.heap.size w1 wq)) (fun _ _ j _ => n - (intOf j).toNat)
      case atStart => exact ⟨0, rfl, Nat.zero_le _, rfl, Lib.hid (by simpa [dpart] using HO1.out), Lib.hid (Below.refl _ _)⟩
      case round =>
        obtain ⟨q, rfl, hq, rfl, HQ, HB⟩ := hrel
        by_cases hqn : q < n
        · have hql : q < l.length := by rw [HNL.out]; exact hqn
          have HO3 := HO2.out.below HB.out
          obtain ⟨ad, rfl⟩ := HO3.ptr (by omega)
          have e0 := HO3.cell (nats_at hql)
          have hle := prevL_le HGL.out.up q hql
          have hlt2 := HGL.out.lt _ (List.getElem_mem hql)
          have hpn := prevL_next l q hql
          have hdn := dpart_next l q hql
          generalize l[q] = x at *
          generalize hpv : prevL l q = y at *
          obtain ⟨d, hd⟩ : ∃ d, d = x - y := ⟨_, rfl⟩
          rw [← hd] at hdn
          have ed : (x : Int) - (y : Int) = (d : Int) := by omega
          have hyx : (y : Int) ≤ (x : Int) := by omega
          have KQ := Lib.hid (HQ.out.put d (by omega) (by
            have h1 := HX.out
            have h2 := HD.out q (by omega)
            have h3 := dig_len10 (u := n) (by omega)
            simp only [List.length_append]; omega))
          have q0 : (0 : Int) ≤ (q : Int) := by omega
          have q1 : (q : Int) < (n : Int) := by omega
          have HDN := Lib.hid hdn
          have HPN := Lib.hid hpn
          have hx64 : (x : Int) < 2305843009213693951 := by omega
          clear hdn hpn HO3 HQ hd hpv hle hlt2
          go_wp2_with fail
          refine KQ.out.mono ?_
          rintro e w2 ⟨v2, rfl, ho2, hb2⟩
          have HO4 : Hid (OwnB w (bytesL (V.L.take m) ++ dig n ++ dpart l (q + 1)) v2 w2) := Lib.hid (by rw [HDN.out, ← List.append_assoc]; exact ho2.out)
          have HB4 := Lib.hid (HB.out.trans (hb2.mono HB.out.size))
          clear ho2 hb2 KQ HB
          go_wp2_with fail
          go_roundw
          case rel => exact ⟨q + 1, by go_num, by omega, by rw [HPN.out], HO4, HB4⟩
          case measure => simp [intOf]; omega
        · have hqe : q = n := by omega
          have HF : Hid (OwnB w (bytesL (V.L.take (m + 1))) u3 wr) := Lib.hid (by
            have := HQ.out
            rw [hqe, List.append_assoc] at this
            rw [HNX.out]
            unfold copB
            rw [HNL.out]
            exact this)
          clear HQ hqe HB HO2 HO1
          go_wp2_with fail
          go_roundw
          case rel => exact ⟨m + 1, by go_num, by omega, HF⟩
          case measure => simp [intOf]; omega
    · have hme : m = N := by omega
      have HP : Hid (OwnB w (bytesL V.L) u3 wr) := Lib.hid (by
        have := HR.out
        rw [hme, ← HN.out, List.take_length] at this
        exact this)
      clear HR hme
      go_wp2_with fail
      go_ret
      exact ⟨_, rfl, HP.out⟩
end Go.Proofs.Ytadlfmdliinnnaa
