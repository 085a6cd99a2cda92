/- The walk of VfsApart: its rounds. Conditions: none. -/
import Derived.Test.YtddhhgbbeeeieaaApartE
set_option maxRecDepth 100000
namespace Go.Proofs.Ytddhhgbbeeeieaa
open Go.RowKit Go.Maps Go.Sort

set_option maxHeartbeats 8000000 in
theorem apart_main (w : World) (s : ByteArray) (hs : s.size ≤ maxLen) (ar da : Option Addr) (an ac dc : Nat) {dat : List UInt8} (hg : goodL s.data.toList = true) (han : an ≤ 1000) (hdn : dat.length ≤ 1000)
    (hA : ActsAt w ar an) (hd : Holds8 w (.slice da dat.length dc) dat) (hold : ∀ (ad : Addr) (n c : Nat), Value.slice da dat.length dc = .slice (some ad) n c → n ≠ 0 → ad.block < w.heap.size) :
    Calls Try.prog 8 #[.slice ar an ac, .string s, .slice da dat.length dc] w fun e w' => e = .returned (.bool true) ∧ Below w.heap.size w w' := by
  have hnm : readyE true [s.data.toList] = 0 := ready_mk1 hg
  have HW := Lib.hid (fun W p D (g : OneAt s.data.toList w W p D [] 0 true 1 0 []) => onat_write hs hnm g (hd.below (by obtain ⟨T, h1, h2, h3, h4⟩ := g; exact h2)) hold (by simp; omega) (by omega) (by omega))
  have HG := Lib.hid (fun W => (Good_any s W hs).mono (fun e w' (g : e = .returned (.bool (goodL s.data.toList)) ∧ W = w') => (show e = .returned (.bool true) ∧ W = w' by rw [← hg]; exact g)))
  have HC := Lib.hid (fun W p (g : ∃ T D, DiskAt W p T D ∧ D = emptyDV D.mb ∧ Below w.heap.size w W ∧ (∀ k, T k ≠ none → w.heap.size ≤ k)) => onat_create (s0 := s) hs hnm g)
  have HR := Lib.hid (fun W p lo hi X (g : StA w p s.data.toList dat lo hi X W) => stA_read s hs rfl hg g)
  have HP := Lib.hid (fun W p lo hi X (g : StA w p s.data.toList dat lo hi X W) => stA_pending s hs rfl hg g)
  have HD := Lib.hid (fun W p lo hi X (g : StA w p s.data.toList dat lo hi X W) => hd.below g.base)
  have HA := Lib.hid hA
  have HACT := Lib.hid (fun W p q o kd n m (t' s' : ByteArray) kv a c l (ho1 : 0 ≤ o) (ho2 : o ≤ 100000) (hkd : kd < 5) (h1 : s'.size ≤ maxLen) (h2 : t'.size ≤ maxLen) (h3 : s'.data.toList ≠ s.data.toList) (h4 : t'.data.toList ≠ s.data.toList) (h5 : Holds8 w (.slice a (List.length l) c) l) (h6 : l.length ≤ 100000) (g : StA w p s.data.toList dat o o [(q, refO)] W) => act_any (n := n) (m := m) (kv := kv) s' ho1 ho2 hkd h1 h2 h3 h4 h5 h6 g)
  have hgt1 : decide ((1000 : Int) < (dat.length : Int)) = false := decide_eq_false (by omega)
  have hgt2 : decide ((1000 : Int) < (an : Int)) = false := decide_eq_false (by omega)
  have HAN := Lib.hid han
  generalize hdn' : dat.length = dn at *
  generalize hnn : s.data.toList = nm at *
  have HNN := Lib.hid hnn
  clear hs hg han hdn hA hd hold hnm hnn
  go_enter Try.func8, Try.ntmps8
  go_wp2_with fail
  refine (at_new w).mono ?_
  rintro e w1 ⟨p, rfl, X1⟩
  go_wp2_with fail
  refine (HG.out _).mono ?_
  rintro e w1' ⟨rfl, rfl⟩
  go_wp2_with fail
  refine (HC.out _ _ X1.out).mono ?_
  rintro e w2 ⟨rfl, X2⟩
  clear X1
  go_wp2_with fail
  obtain ⟨D2, X2⟩ := X2.out
  refine (HW.out _ _ _ X2).mono ?_
  rintro e w3 ⟨rfl, X3⟩
  have S3 : Hid (StA w p nm dat 2 2 [] w3) := by obtain ⟨D3, X3⟩ := X3.out; exact stA_of_one X3
  clear X2 X3 HG HC HW
  go_wp2_with fail
  go_loopw [9, 10, 51] (fun _ _ i wr => ∃ k : Nat, k ≤ an ∧ i = .int .i64 k ∧ Hid (∃ o : Int, 2 ≤ o ∧ o ≤ 2 + k ∧ StA w p nm dat o o [] wr)) (fun _ _ i _ => an - (intOf i).toNat)
  case atStart => exact ⟨0, Nat.zero_le _, rfl, 2, by omega, by omega, S3.out⟩
  case round =>
    clear S3
    obtain ⟨k, hk, rfl, HI⟩ := hrel
    have han := HAN.out
    by_cases hlt : k < an
    · obtain ⟨ad, rfl, kd, n, m, s', t', a, c, l, kv, A⟩ := HA.out k hlt
      obtain ⟨o, hol, hou, hst⟩ := HI.out
      obtain ⟨c0, c1, c2, c3, c4, c5, c6⟩ := A.read hst.base
      obtain ⟨ka, kn, kc, rfl⟩ := A.hk
      have HK := Lib.hid hst
      have HAA := Lib.hid A
      have HLO := Lib.hid hol
      have HHI := Lib.hid hou
      clear hst A hol hou HI
      have hnx : ∀ W : World, StA w p nm dat o o [] W → Hid (∃ o : Int, 2 ≤ o ∧ o ≤ 2 + ((k + 1 : Nat) : Int) ∧ StA w p nm dat o o [] W) := fun W g => ⟨o, HLO.out, by have := HHI.out; omega, g⟩
      have HNX := Lib.hid hnx
      clear hnx
      cases hb1 : decide (kd < 5) with
      | false =>
        go_wp2_with fail
        go_roundw
        case rel => exact ⟨k + 1, by omega, by go_num, HNX.out _ ((HK.out.alloc _).sub (by simp))⟩
        case measure => simp [intOf]; omega
      | true =>
      cases hb2 : (s'.toList == s.toList) with
      | true =>
        go_wp2_with fail
        go_roundw
        case rel => exact ⟨k + 1, by omega, by go_num, HNX.out _ ((HK.out.alloc _).sub (by simp))⟩
        case measure => simp [intOf]; omega
      | false =>
      cases hb3 : (t'.toList == s.toList) with
      | true =>
        go_wp2_with fail
        go_roundw
        case rel => exact ⟨k + 1, by omega, by go_num, HNX.out _ ((HK.out.alloc _).sub (by simp))⟩
        case measure => simp [intOf]; omega
      | false =>
      cases hb4 : decide ((l.length : Int) < 1000) with
      | false =>
        go_wp2_with fail
        go_roundw
        case rel => exact ⟨k + 1, by omega, by go_num, HNX.out _ ((HK.out.alloc _).sub (by simp))⟩
        case measure => simp [intOf]; omega
      | true =>
      have hkd : kd < 5 := of_decide_eq_true hb1
      have hll : l.length ≤ 100000 := by have := of_decide_eq_true hb4; omega
      have hsn : s'.data.toList ≠ nm := by rw [← HNN.out, ← str_list, ← str_list]; simpa using hb2
      have htn : t'.data.toList ≠ nm := by rw [← HNN.out, ← str_list, ← str_list]; simpa using hb3
      have KA := Lib.hid (fun W q (g : StA w p nm dat o o [(q, refO)] W) => HACT.out W p q o kd n m t' s' (.slice ka kn kc) a c l (by have := HLO.out; omega) (by have := HHI.out; have := HAN.out; omega) hkd HAA.out.hs HAA.out.ht hsn htn HAA.out.hd hll g)
      clear hkd hll hsn htn
      have S1 := Lib.hid (HK.out.alloc (.cells #[.int .i64 kd, .string s', .string t', .int .i64 n, .int .i64 m, .slice a l.length c, .slice ka kn kc] 32))
      go_wp2_with fail
      refine (stA_ops S1.out).mono ?_
      rintro e w4 ⟨rfl, rfl⟩
      have S2 := (S1.out.alloc refO).sub (Y := [(_, refO)]) (fun x hx => by simp at hx; rw [hx]; exact List.mem_cons_self ..)
      rw [show (wr.alloc (.cells #[.int .i64 kd, .string s', .string t', .int .i64 n, .int .i64 m, .slice a l.length c, .slice ka kn kc] 32)).heap.size = wr.heap.size + 1 by simp] at S2
      have S2 := Lib.hid S2
      go_wp2_with fail
      refine (KA.out _ _ S2.out).mono ?_
      rintro e w5 ⟨⟨b, rfl⟩, S5⟩
      obtain ⟨o', ho1, ho2, S5⟩ := stA_exact S5.out
      have S5 := Lib.hid S5
      have t1 : decide (o' < o) = false := decide_eq_false (by omega)
      have t2 : decide (o + 1 < o') = false := decide_eq_false (by omega)
      have hl1 := HLO.out
      have hl2 := HHI.out
      have HO1 := Lib.hid ho1
      have HO2 := Lib.hid ho2
      clear ho1 ho2 S1 S2 KA c0 c1 c2 c3 c4 c5 c6
      go_wp2_with fail
      refine (stA_ops S5.out).mono ?_
      rintro e w5' ⟨rfl, rfl⟩
      go_wp2_with fail
      refine (stA_ops S5.out).mono ?_
      rintro e w5' ⟨rfl, rfl⟩
      go_wp2_with fail
      go_roundw
      case rel => exact ⟨k + 1, by omega, by go_num, o', by have := HO1.out; omega, by have := HO2.out; omega, S5.out⟩
      case measure => simp [intOf]; omega
    · obtain rfl : k = an := by omega
      obtain ⟨o, _, _, hst⟩ := HI.out
      have S4 := Lib.hid hst
      clear hst HI HA HACT
      go_wp2_with fail
      refine (HR.out _ _ _ _ _ S4.out).mono ?_
      rintro e w5 ⟨v, rfl, V5, S5⟩
      go_wp2_with fail
      refine (HP.out _ _ _ _ _ S5.out).mono ?_
      rintro e w6 ⟨rfl, B6, S6⟩
      have V6 := Lib.hid (V5.out.below B6.out)
      have D6 := Lib.hid (HD.out _ _ _ _ _ S6.out)
      clear S4 V5 S5 HR HP HD
      go_wp2_with fail
      refine (Same_any V6.out D6.out).mono ?_
      rintro e w7 ⟨rfl, rfl⟩
      simp only [decide_true]
      go_wp2_with fail
      refine (lives_any _).mono ?_
      rintro e w8 ⟨rfl, hl⟩
      have HL := Lib.hid hl
      clear hl
      go_wp2_with fail
      go_ret
      exact ⟨rfl, S6.out.base.trans (HL.out.mono S6.out.base.size)⟩
end Go.Proofs.Ytddhhgbbeeeieaa
