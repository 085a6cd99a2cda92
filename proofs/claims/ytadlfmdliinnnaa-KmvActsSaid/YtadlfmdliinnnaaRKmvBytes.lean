/- Contract of the reference's Bytes. Conditions: a sketch that was made. -/
import Derived.Test.YtadlfmdliinnnaaRKmvMerge
set_option maxRecDepth 100000
namespace Go.Proofs.Ytadlfmdliinnnaa
open Go.RowKit Go.Maps Go.Sort

theorem OwnB.rput {w wr : World} {xs : List UInt8} {v : Value} (h : OwnB w xs v wr) (d : Nat) (hd : d < 18446744073709551616) (hx : xs.length ≤ 100000) :
    Calls Try.prog 56 #[v, .int .u64 (d : Int)] wr fun e w' => ∃ v', e = .returned v' ∧ Hid (OwnB w (xs ++ dig d) v' w') ∧ Below wr.heap.size wr w' := by
  refine (refPut_any (Holds.of_row (by rw [u8s_len]; exact h.1)) d hd (by omega)).mono ?_
  rintro e w' ⟨v', rfl, ho, hb⟩
  exact ⟨v', rfl, ⟨ownsRow_rebase ho (fun g hg => Nat.le_trans h.2.size (ho.lt g hg).1), h.2.trans (hb.mono h.2.size)⟩, hb⟩

set_option maxHeartbeats 6400000 in
theorem rbytes_any {T : Tags} {i : Nat} {w : World} {p : Nat} {V : SkV} (h : RSk p V T i w) :
    Calls Try.prog 42 #[.pointer (some ⟨p, 0, none⟩)] w (BytesAt w (bytesL V.L)) := by
  obtain ⟨sa, sc, cb, c, cur, g⟩ := h
  obtain ⟨c0, c1, c2⟩ := g.cells
  have HOT := Lib.hid (fun W (hb : Below w.heap.size w W) => g.oth (i := i + 1) (by omega) (Else.of_below (O := fun k => T k = some (i + 1)) hb))
  have hN7 : V.L.length ≤ 7 := by rw [g.good.len]; exact g.good.set.n7
  have HG := Lib.hid g.good
  have ht64 := g.good.set.t64
  clear g c0 c1
  generalize hN : V.L.length = N at *
  have HN := Lib.hid hN
  clear hN
  go_enter Try.func42, Try.ntmps42
  go_wp2_with fail
  go_loopw [3, 14] (fun b k wr => ∃ m : Nat, k = .int .i64 m ∧ m ≤ N ∧ Hid (OwnB w (bytesL (V.L.take m)) b wr)) (fun _ k _ => N - (intOf k).toNat)
  case atStart => exact ⟨0, rfl, Nat.zero_le _, Lib.hid ⟨by simpa [bytesL, u8s] using World.ownsRow_nil _ _ _ _, Below.refl _ _⟩⟩
  case round =>
    obtain ⟨m, rfl, hm, HR⟩ := hrel
    clear c2
    by_cases hlt : m < N
    · have hmL : m < V.L.length := by rw [HN.out]; exact hlt
      obtain ⟨vl, hvl, o3, hH⟩ := (HOT.out wr HR.out.2).row m hmL
      have HHF := Lib.hid (fun W (hb : Below w.heap.size w W) => show Holds W vl (nats V.L[m]) from by
        obtain ⟨v2, h0, _, h2⟩ := (HOT.out W hb).row m hmL
        rw [hvl] at h0
        rw [Option.some.inj h0, ← getD_at hmL []]
        exact h2)
      rw [getD_at hmL] at hH
      have hgl : GoodL V.t V.L[m] := HG.out.row _ (List.getElem_mem hmL)
      have hln : V.L[m].length ≤ 64 := by have := hgl.len; omega
      have hxs := bytesL_len HG.out.row ht64 m (by omega)
      have b0 : (0 : Int) ≤ (m : Int) := by omega
      have b1 : (m : Int) < (N : Int) := by omega
      have HNX := Lib.hid (bytesL_next V.L m hmL)
      have HD := Lib.hid (fun j hj => dpart_len hgl.lt j hj)
      have HGL := Lib.hid hgl
      obtain ⟨al, kl, rfl, _⟩ := hH.form
      generalize V.L[m] = l at *
      have KP := Lib.hid (HR.out.rput l.length (by omega) (by omega))
      rw [nats_len] at o3 HHF
      clear hH hgl hvl HR
      go_wp2_with fail
      refine KP.out.mono ?_
      rintro e w1 ⟨v1, rfl, ho1, hb1⟩
      have HX := Lib.hid hxs
      have HO1 := ho1
      clear hb1 ho1 KP hxs o3
      obtain ⟨wo, hwo⟩ : ∃ wo : World, wo = wr := ⟨_, rfl⟩
      clear hwo
      generalize hn : l.length = n at *
      have HNL := Lib.hid hn
      clear hn
      go_wp2_with fail
      go_loopw [3, 6, 8, 25] (fun b ah _ j wq => ∃ q : Nat, j = .int .i64 q ∧ q ≤ n ∧ ah = .int .u64 (prevL l q) ∧ Hid (OwnB w (bytesL (V.L.take m) ++ dig n ++ dpart l q) b wq)) (fun _ _ _ j _ => n - (intOf j).toNat)
      case atStart => exact ⟨0, rfl, Nat.zero_le _, rfl, Lib.hid (by simpa [dpart] using HO1.out)⟩
      case round =>
        obtain ⟨q, rfl, hq, rfl, HQ⟩ := hrel
        by_cases hqn : q < n
        · have hql : q < l.length := by rw [HNL.out]; exact hqn
          have HO3 := HHF.out _ HQ.out.2
          obtain ⟨ad, rfl⟩ := HO3.ptr (by omega)
          have e0 := HO3.cell (nats_at hql)
          have hle := prevL_le HGL.out.up q hql
          have hlt2 := HGL.out.lt _ (List.getElem_mem hql)
          have hpn := prevL_next l q hql
          have hdn := dpart_next l q hql
          generalize l[q] = x at *
          generalize hpv : prevL l q = y at *
          obtain ⟨d, hd⟩ : ∃ d, d = x - y := ⟨_, rfl⟩
          rw [← hd] at hdn
          have ed : (x : Int) - (y : Int) = (d : Int) := by omega
          have hyx : (y : Int) ≤ (x : Int) := by omega
          have KQ := Lib.hid (HQ.out.rput d (by omega) (by
            have h1 := HX.out
            have h2 := HD.out q (by omega)
            have h3 := dig_len10 (u := n) (by omega)
            simp only [List.length_append]; omega))
          have q0 : (0 : Int) ≤ (q : Int) := by omega
          have q1 : (q : Int) < (n : Int) := by omega
          have HDN := Lib.hid hdn
          have HPN := Lib.hid hpn
          have hx64 : (x : Int) < 2305843009213693951 := by omega
          clear hdn hpn HO3 HQ hd hpv hle hlt2
          go_wp2_with fail
          refine KQ.out.mono ?_
          rintro e w2 ⟨v2, rfl, ho2, hb2⟩
          have HO4 : Hid (OwnB w (bytesL (V.L.take m) ++ dig n ++ dpart l (q + 1)) v2 w2) := Lib.hid (by rw [HDN.out, ← List.append_assoc]; exact ho2.out)
          clear ho2 hb2 KQ
          go_wp2_with fail
          go_roundw
          case rel => exact ⟨q + 1, by go_num, by omega, by rw [HPN.out], HO4⟩
          case measure => simp [intOf]; omega
        · have hqe : q = n := by omega
          have HF : Hid (OwnB w (bytesL (V.L.take (m + 1))) u3 wr) := Lib.hid (by
            have := HQ.out
            rw [hqe, List.append_assoc] at this
            rw [HNX.out]
            unfold copB
            rw [HNL.out]
            exact this)
          clear HQ hqe HO1
          go_wp2_with fail
          go_roundw
          case rel => exact ⟨m + 1, by go_num, by omega, HF⟩
          case measure => simp [intOf]; omega
    · have hme : m = N := by omega
      have HP : Hid (OwnB w (bytesL V.L) u3 wr) := Lib.hid (by
        have := HR.out
        rw [hme, ← HN.out, List.take_length] at this
        exact this)
      clear HR hme
      go_wp2_with fail
      go_ret
      exact ⟨_, rfl, HP.out⟩
end Go.Proofs.Ytadlfmdliinnnaa
