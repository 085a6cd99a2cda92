/- The walk of kmv's Merge, over what is known of both sketches. Conditions: two sketches of one kind. -/
import Derived.Test.YtadlfmdliinnnaaKmvEq
set_option maxRecDepth 100000
namespace Go.Proofs.Ytadlfmdliinnnaa
open Go.RowKit Go.Maps Go.Sort

theorem nats_getD {l : List Nat} {k : Nat} (h : k < l.length) : (nats l)[k]? = some (.int .u64 ((l.getD k 0 : Nat) : Int)) := by
  rw [nats_at h, List.getD_eq_getElem?_getD, List.getElem?_eq_getElem h]; rfl
/-- what the walk of Merge wants: St m: m copies are merged; In m q v: and q hashes of the next one, which v holds -/
structure MergeOk (p q N t : Nat) (L : List (List Nat)) (St : Nat → World → Prop) (In : Nat → Nat → Value → World → Prop) : Prop where
  len : L.length = N
  n7 : N ≤ 7
  start : ∀ m W, m < N → St m W → ∃ cb a c, W.cell? ⟨q, 2, none⟩ = some (.slice (some ⟨cb, 0, none⟩) N N) ∧ W.cell? ⟨cb, m, none⟩ = some (.slice a (L.getD m []).length c) ∧ In m 0 (.slice a (L.getD m []).length c) W
  holds : ∀ m k v W, In m k v W → Holds W v (nats (L.getD m []))
  keep : ∀ m k v W, k < (L.getD m []).length → m < N → In m k v W → Calls Try.prog 33 #[.pointer (some ⟨p, 0, none⟩), .int .i64 (m : Int), .int .u64 (((L.getD m []).getD k 0 : Nat) : Int)] W fun e w' => e = .returned (.tuple #[]) ∧ Hid (In m (k + 1) v w')
  done : ∀ m v W, In m (L.getD m []).length v W → St (m + 1) W
  small : ∀ m, (L.getD m []).length ≤ 1000

set_option maxHeartbeats 6400000 in
theorem merge_walk {w : World} {p q N t : Nat} {L : List (List Nat)} {St : Nat → World → Prop} {In : Nat → Nat → Value → World → Prop} (H : MergeOk p q N t L St In) {sa sb : Addr} {sc sd : Nat} {S : List (Nat × Nat)} (hS : S.length = N)
    (p0 : w.cell? ⟨p, 0, none⟩ = some (.int .i64 t)) (p1 : w.cell? ⟨p, 1, none⟩ = some (.slice (some sa) N sc)) (q0 : w.cell? ⟨q, 0, none⟩ = some (.int .i64 t)) (q1 : w.cell? ⟨q, 1, none⟩ = some (.slice (some sb) N sd))
    (ha : SeedsIn w sa S) (hb : SeedsIn w sb S) (ht : 2 ≤ t) (h0 : St 0 w) (hd : ∀ m W n, St m W → St m (W.drewN n)) :
    Calls Try.prog 16 #[.pointer (some ⟨p, 0, none⟩), .pointer (some ⟨q, 0, none⟩)] w fun e w' => e = .returned (.int .i64 0) ∧ Hid (St N w') := by
  have KP := made_yes p0 ht
  have KQ := Lib.hid (fun n => (made_yes (w := w.drewN n) q0 ht))
  have KE := Lib.hid (fun n => equal_same (w := w.drewN n) (c := sd) (d := sc) (show SeedsIn (w.drewN n) sb S from hb) (show SeedsIn (w.drewN n) sa S from ha) hS (by have := H.n7; omega))
  have HH := Lib.hid H
  have HD := Lib.hid (fun n => hd 0 w n h0)
  have hn7 := H.n7
  clear H hS ha hb h0 hd
  go_enter Try.func16, Try.ntmps16
  go_wp2_with fail
  refine KP.mono ?_
  rintro e w' ⟨rfl, rfl⟩
  clear KP
  go_wp2_with fail
  go_quiet ((first | exact Calls.quiet_of_same ((KQ.out _).mono fun _ _ ⟨h, hw⟩ => ⟨h, hw.symm⟩) | exact Calls.quiet_of (KE.out _)))
  go_wp2_with fail
  go_loopw [5, 44] (fun _ k wr => ∃ m : Nat, k = .int .i64 m ∧ m ≤ N ∧ Hid (St m wr)) (fun _ k _ => N - (intOf k).toNat)
  case atStart => exact ⟨0, rfl, Nat.zero_le _, HD.out _⟩
  case round =>
    obtain ⟨m, rfl, hm, HR⟩ := hrel
    by_cases hlt : m < N
    · obtain ⟨cb, a, c, c2, c3, hin⟩ := HH.out.start m wr hlt HR.out
      have hsm := HH.out.small m
      have b0 : (0 : Int) ≤ (m : Int) := by omega
      have b1 : (m : Int) < (N : Int) := by omega
      have HI := Lib.hid hin
      have HHO := Lib.hid (fun k W (h : In m k (.slice a (L.getD m []).length c) W) => HH.out.holds m k _ W h)
      have HK := Lib.hid (fun k W hk (h : In m k (.slice a (L.getD m []).length c) W) => HH.out.keep m k _ W hk hlt h)
      have HDN := Lib.hid (fun W (h : In m (L.getD m []).length (.slice a (L.getD m []).length c) W) => HH.out.done m _ W h)
      generalize hl : L.getD m [] = l at *
      clear hl hin HR
      generalize hn : l.length = n at *
      obtain ⟨wo, hwo⟩ : ∃ wo : World, wo = wr := ⟨_, rfl⟩
      clear hwo
      have HNL := Lib.hid hn
      clear hn
      go_wp2_with fail
      go_loopw [7, 55] (fun _ j wq => ∃ k : Nat, j = .int .i64 k ∧ k ≤ n ∧ Hid (In m k (.slice a n c) wq)) (fun _ j _ => n - (intOf j).toNat)
      case atStart => exact ⟨0, rfl, Nat.zero_le _, HI.out⟩
      case round =>
        obtain ⟨k, rfl, hk, HQ⟩ := hrel
        by_cases hkn : k < n
        · have hkl : k < l.length := by rw [HNL.out]; exact hkn
          have HO3 := HHO.out k _ HQ.out
          obtain ⟨ad, rfl⟩ := HO3.ptr (by omega)
          have e0 := HO3.cell (nats_getD hkl)
          have KK := Lib.hid (HK.out k _ hkn HQ.out)
          generalize l.getD k 0 = x at *
          have q0 : (0 : Int) ≤ (k : Int) := by omega
          have q1 : (k : Int) < (n : Int) := by omega
          clear HO3 HQ
          go_wp2_with fail
          refine KK.out.mono ?_
          rintro e w2 ⟨rfl, hi⟩
          clear KK
          go_wp2_with fail
          go_roundw
          case rel => exact ⟨k + 1, by go_num, by omega, hi⟩
          case measure => simp [intOf]; omega
        · have hke : k = n := by omega
          have HF : Hid (St (m + 1) wr) := Lib.hid (HDN.out _ (by have := HQ.out; rwa [hke] at this))
          clear HQ hke
          go_wp2_with fail
          go_roundw
          case rel => exact ⟨m + 1, by go_num, by omega, HF⟩
          case measure => simp [intOf]; omega
    · have hme : m = N := by omega
      have HP : Hid (St N wr) := by rw [← hme]; exact HR
      clear HR hme
      go_wp2_with fail
      go_ret
      exact ⟨rfl, HP⟩
end Go.Proofs.Ytadlfmdliinnnaa
