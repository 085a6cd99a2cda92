/- Contracts of heavy's read and Load at any bytes. Conditions: at most 100000 bytes. -/
import Derived.Test.YtkmonecolkamjaaGetInv
import Derived.Test.YtkmonecolkamjaaHeavyLoad
import Derived.Test.YtkmonecolkamjaaSched2
set_option maxRecDepth 100000
namespace Go.Proofs.Ytkmonecolkamjaa
open Go.RowKit Go.Maps Go.Sort Go.Shelf

theorem holds_if {w : World} {ad : Addr} {n c U : Nat} {xs : List Value} (h : Holds w (.slice (some (ad.add U)) (n - U) (c - U)) xs) (hc : n ≤ c) : Holds w (.slice (if c = U then some ad else some (ad.add U)) (n - U) (c - U)) xs := by
  by_cases e : c = U
  · rw [if_pos e]
    have hl := h.len
    have : xs = [] := List.eq_nil_of_length_eq_zero (by omega)
    subst this
    exact ⟨some ad, c - U, by rw [show n - U = 0 by omega]; rfl, by simp, .inr ⟨ad, rfl, fun j u hj => by simp at hj⟩⟩
  · rw [if_neg e]; exact h
/-- Get behind U bytes, whatever lies there -/
theorem get_sub {W0 wr : World} {ad : Addr} {bn bc U : Nat} {xs : List UInt8} (hH : Holds W0 (.slice (some ad) bn bc) (u8s xs)) (hB : Below W0.heap.size W0 wr) (hbn : bn ≤ 100000) (hU : U ≤ bn) :
    ∃ x a, getN (xs.drop U) = (x, a) ∧ x < 18446744073709551616 ∧ U + a ≤ bn ∧ Hid (Calls Try.prog 52 #[.slice (some (ad.add U)) (bn - U) (bc - U)] wr fun e w' => e = .returned (.tuple #[.int .u64 (x : Int), .int .i64 (a : Int)]) ∧ wr = w') := by
  have hl := hH.len
  rw [u8s_len] at hl
  obtain ⟨g1, g2⟩ := getN_le (xs.drop U)
  rw [List.length_drop] at g1
  have HH := (hH.below hB).drop U (by omega)
  rw [u8s_drop] at HH
  have K := Get_any HH (by rw [List.length_drop]; omega)
  generalize getN (xs.drop U) = g at *
  exact ⟨g.1, g.2, rfl, g2, by omega, K⟩
theorem get_empty (ad : Addr) (wr : World) : Hid (Calls Try.prog 52 #[.slice (some ad) 0 0] wr fun e w' => e = .returned (.tuple #[.int .u64 0, .int .i64 0]) ∧ wr = w') := by
  have K := Get_any (w := wr) (v := .slice (some ad) 0 0) (l := []) ⟨some ad, 0, rfl, Nat.le_refl _, .inr ⟨ad, rfl, fun j u hj => by simp [u8s] at hj⟩⟩ (by simp)
  exact K
theorem zag_inI {u : Nat} (h : u < 18446744073709551616) : InI (zagN u) := by
  unfold InI
  by_cases g : u % 2 = 1
  · rw [zag_odd g]; omega
  · rw [zag_even g]; omega

/-- what read leaves -/
def ReadP (T : Tags) (i : Nat) (W0 : World) (p m b : Nat) (w' : World) : Prop := ∃ V : HV, V.Good ∧ V.m = m ∧ V.n ≤ 1099511627776 ∧ HkAt T i w' p m V.n b V.L ∧ Below W0.heap.size W0 w'
theorem total_put_le {L : CL} (hA : Asc L) (hp : ∀ q ∈ L, 1 ≤ q.2) (id c : Int) : total (putL id c L) ≤ total L + c := by
  rw [total_putL hA]
  have := cnt_nonneg hp id
  omega

set_option maxHeartbeats 1000000 in
theorem read_gen {T : Tags} {i : Nat} {W0 w : World} {p m b : Nat} (h : HkAt T i w p m 0 b []) (h1 : 1 ≤ m) (h64 : m ≤ 64) (hp : W0.heap.size ≤ p) (hb : W0.heap.size ≤ b) (hB : Below W0.heap.size W0 w)
    {ad : Addr} {bn bc : Nat} {xs : List UInt8} (hH : Holds W0 (.slice (some ad) bn bc) (u8s xs)) (hbn : bn ≤ 100000) :
    Calls Try.prog 36 #[.pointer (some ⟨p, 0, none⟩), .slice (some ad) bn bc] w fun e w' => e = .returned (.tuple #[]) ∧ Hid (ReadP T i W0 p m b w') := by
  obtain ⟨c0, c1, c2, f0⟩ := h.cells
  have f1 := f0 1
  have hbc := hH.len.2
  have K1 := Get_any (hH.below hB) (by have := (hH.len).1; rw [u8s_len] at this; omega)
  obtain ⟨g1, g2⟩ := getN_le xs
  have hlx := hH.len.1
  rw [u8s_len] at hlx
  generalize (getN xs).1 = t at *
  generalize (getN xs).2 = D at *
  by_cases htot : t ≤ 1099511627776
  · have tn : decide ((1099511627776 : Int) < (t : Int)) = false := decide_eq_false (by omega)
    have wn : IntKind.i64.wrap (t : Int) = (t : Int) := by rw [IntKind.wrap_i64]; omega
    have hst := h.set_total t
    have hbl := hB.setCell (p := ⟨p, 1, none⟩) hp (.int .i64 (t : Int))
    by_cases hend : bc = D
    · obtain rfl : D = bc := hend.symm
      obtain rfl : D = bn := by omega
      have KE := get_empty ad (w.setCell ⟨p, 1, none⟩ (.int .i64 (t : Int)))
      have wm : IntKind.u64.wrap (m : Int) = (m : Int) := by rw [IntKind.wrap_u64]; omega
      have d1 : (w.setCell ⟨p, 1, none⟩ (.int .i64 (t : Int))).cell? ⟨p, 0, none⟩ = some (.int .i64 m) := hst.cells.1
      have hmin : min (0 : Int) (m : Int) = 0 := by omega
      have FIN : Hid (ReadP T i W0 p m b (w.setCell ⟨p, 1, none⟩ (.int .i64 (t : Int)))) := Lib.hid ⟨⟨m, t, []⟩, ⟨h1, h64, by show t ≤ _; omega, by show 0 ≤ m; omega, (fun q hq => by cases hq), by show (0 : Int) ≤ (t : Int); omega⟩, rfl, htot, hst, hbl⟩
      clear hst hbl h hp hb hB hH f0 h1 h64 hlx g1 g2
      go_enter Try.func36, Try.ntmps36
      go_wp2_with fail
      refine K1.mono ?_
      rintro e w1 ⟨rfl, rfl⟩
      clear K1
      go_wp2_with fail
      refine KE.out.mono ?_
      rintro e w1 ⟨rfl, rfl⟩
      clear KE c0 c1 c2 f1
      go_wp2_with fail
      refine wp_loop_rounds 1 ?_
      rw [rounds_succ]
      go_wp2_with fail
      go_end0
      exact ⟨rfl, FIN⟩
    obtain ⟨x2, E2, _, hx2, hE2, KG⟩ := get_sub hH hbl hbn (show D ≤ bn by omega)
    have X0 : Hid (HkAt T i (w.setCell ⟨p, 1, none⟩ (.int .i64 (t : Int))) p m t b [] ∧ Below W0.heap.size W0 (w.setCell ⟨p, 1, none⟩ (.int .i64 (t : Int)))) := ⟨hst, hbl⟩
    have t1 : (D : Int) ≤ (bn : Int) := by omega
    have t2 : D ≤ bn := by omega
    have tb : (bn : Int) ≤ (bc : Int) := by omega
    have wm : IntKind.u64.wrap (m : Int) = (m : Int) := by rw [IntKind.wrap_u64]; omega
    have d1 : (w.setCell ⟨p, 1, none⟩ (.int .i64 (t : Int))).cell? ⟨p, 0, none⟩ = some (.int .i64 m) := hst.cells.1
    obtain ⟨M, hM⟩ : ∃ M : Nat, min (x2 : Int) (m : Int) = (M : Int) := ⟨min x2 m, by omega⟩
    have HH := Lib.hid hH
    have HP := Lib.hid (And.intro hp hb)
    have HML := Lib.hid (And.intro h1 (And.intro h64 (show M ≤ m by omega)))
    have hM64 : M ≤ 64 := by omega
    clear hst hbl h hp hb hB hH f0 h1 h64 hlx g1 g2 hx2
    go_enter Try.func36, Try.ntmps36
    go_wp2_with fail
    refine K1.mono ?_
    rintro e w1 ⟨rfl, rfl⟩
    clear K1
    go_wp2_with fail
    refine KG.out.mono ?_
    rintro e w1 ⟨rfl, rfl⟩
    clear KG c0 c1 c2 f1
    go_wp2_with fail
    clear hM d1 t1 tn wn wm
    go_loopw [5, 7, 8, 40] (fun s5 s7 s8 s40 wr => ∃ (k U E F : Nat), s5 = .int .i64 U ∧ s7 = .int .i64 E ∧ s8 = .int .u64 F ∧ s40 = .int .u64 k ∧ k ≤ M ∧ U + E ≤ bn ∧ F ≤ t ∧ Hid (∃ L, L.length ≤ k ∧ (∀ q ∈ L, 1 ≤ q.2) ∧ total L + F ≤ t ∧ HkAt T i wr p m t b L ∧ Below W0.heap.size W0 wr)) (fun _ _ _ s _ => M - (intOf s).toNat)
    case atStart => exact ⟨0, D, E2, t, rfl, rfl, rfl, rfl, Nat.zero_le _, hE2, Nat.le_refl _, [], Nat.le_refl _, (fun q hq => by cases hq), by simp [total], X0.out⟩
    case round =>
      clear X0
      obtain ⟨k, U, E, F, rfl, rfl, rfl, rfl, hk, hUE, hF, HX⟩ := hrel
      obtain ⟨L, hLl, hLp, hLt, hA, hB⟩ := HX.out
      have FIN : Hid (ReadP T i W0 p m b wr) := Lib.hid ⟨⟨m, t, L⟩, ⟨HML.out.1, HML.out.2.1, by show t ≤ _; omega, by show L.length ≤ m; have := HML.out; omega, hLp, by show total L ≤ (t : Int); omega⟩, rfl, htot, hA, hB⟩
      by_cases hlt : k < M
      · have hz : (k : Int) < (M : Int) := by omega
        obtain ⟨O, hO⟩ : ∃ O, U + E = O := ⟨_, rfl⟩
        have wO : IntKind.i64.wrap ((U : Int) + (E : Int)) = (O : Int) := by rw [IntKind.wrap_i64]; omega
        have eO : (U : Int) + (E : Int) = (O : Int) := by omega
        rw [hO] at hUE
        obtain ⟨x1, A1, _, hx1, hA1, KA⟩ := get_sub HH.out hB hbn hUE
        obtain ⟨O1, hO1⟩ : ∃ O1, O + A1 = O1 := ⟨_, rfl⟩
        rw [hO1] at hA1
        obtain ⟨C, A2, _, hC, hA2, KB⟩ := get_sub HH.out hB hbn hA1
        have wO1 : IntKind.i64.wrap ((O : Int) + (A1 : Int)) = (O1 : Int) := by rw [IntKind.wrap_i64]; omega
        have eO1 : (O : Int) + (A1 : Int) = (O1 : Int) := by omega
        have p1 : (O : Int) ≤ (bn : Int) := by omega
        have p2 : (O1 : Int) ≤ (bn : Int) := by omega
        by_cases hgood : (1 ≤ C ∧ C ≤ F) ∧ ¬ bc = O ∧ ¬ bc = O1
        · obtain ⟨⟨hC1, hCF⟩, n1, n2⟩ := hgood
          have v1 : decide ((C : Int) < 1) = false := decide_eq_false (by omega)
          have v2 : decide ((F : Int) < (C : Int)) = false := decide_eq_false (by omega)
          have v4 : ¬ F < C := Nat.not_lt.2 hCF
          have v5 : ¬ C < 1 := Nat.not_lt.2 hC1
          obtain ⟨F', hF'⟩ : ∃ F', F - C = F' := ⟨_, rfl⟩
          have s4 : IntKind.u64.wrap ((F : Int) - (C : Int)) = (F' : Int) := by rw [IntKind.wrap_u64]; omega
          have v3 : IntKind.i64.wrap (C : Int) = (C : Int) := by rw [IntKind.wrap_i64]; omega
          have KZ := fun W => Lib.hid (Zag_any x1 W hx1)
          have i1 := zag_inI hx1
          obtain ⟨ID, hID⟩ : ∃ ID, zagN x1 = ID := ⟨_, rfl⟩
          rw [hID] at KZ i1
          have c2 : wr.cell? ⟨p, 2, none⟩ = some (.map (some b)) := hA.cells.2.2.1
          obtain ⟨w', hup, hM', hgr⟩ := (hA.map.of_block (w' := wr.drew) rfl).update (id := ID) (c := (C : Int)) i1 (by unfold InI; omega) (by unfold maxLen; omega)
          obtain ⟨E', hE'⟩ : ∃ E', A1 + A2 = E' := ⟨_, rfl⟩
          have wE : IntKind.i64.wrap ((A1 : Int) + (A2 : Int)) = (E' : Int) := by rw [IntKind.wrap_i64]; omega
          have HX2 : Hid (∃ L, L.length ≤ k + 1 ∧ (∀ q ∈ L, 1 ≤ q.2) ∧ total L + F' ≤ t ∧ HkAt T i w' p m t b L ∧ Below W0.heap.size W0 w') := Lib.hid ⟨putL ID C L, by have := putL_len L ID (C : Int); omega, fun q hq => by
            rcases putL_sub hq with rfl | hq
            · show (1 : Int) ≤ (C : Int); omega
            · exact hLp q hq, by have := total_put_le hA.map.asc hLp ID (C : Int); omega, (hA.drewN 1).put hM' hgr, (hB.trans ((below_drew wr).mono hB.size)).trans (below_grown hgr (by exact hB.size) (fun x hx => by cases hx; exact HP.out.2))⟩
          have S2 : Hid (w'.cell? ⟨p, 2, none⟩ = some (.map (some b))) := Lib.hid (by obtain ⟨L', _, _, _, h, _⟩ := HX2.out; exact h.cells.2.2.1)
          have q1 : O + E' ≤ bn := by omega
          have q2 : F' ≤ t := by omega
          clear hLl hLp hLt hA hB HX FIN hM' hgr hID i1 hx1 hC hO hO1 hUE hA1 hA2 hF' hE' hCF hC1
          go_wp2_with fail
          refine KA.out.mono ?_
          rintro e w1 ⟨rfl, rfl⟩
          clear KA
          go_wp2_with fail
          refine KB.out.mono ?_
          rintro e w1 ⟨rfl, rfl⟩
          clear KB wO eO wO1 eO1 p1 p2
          go_wp2_with fail
          have hup1 : Sem.run Try.prog (Instr.mapUpdate 55 (.map (some b)) (.int .i64 ID) (.int .i64 (C : Int))) wr.drew = .ok () w' := hup
          clear hup
          go_region_held3 (fun w' => w'.cell? ⟨p, 2, none⟩ = some (.map (some b)))
            (first | assumption | exact S2.out | exact c2)
            (first | (go_at_call 53; refine (KZ _).out.mono ?_; rintro e w6 ⟨rfl, rfl⟩))
          rename_i hheld
          clear hheld hup1 S2 c2 KZ v1 v2 v3 v4 v5 s4
          go_wp2_with fail
          go_roundw
          case rel => exact ⟨k + 1, O, E', F', rfl, rfl, rfl, by go_num, by omega, q1, q2, HX2.out⟩
          case measure => simp [intOf]; omega
        · clear hLl hLp hLt hA HX
          by_cases hb0 : bc = O
          · obtain rfl : O = bc := hb0.symm
            obtain rfl : O = bn := by omega
            have KE := get_empty ad wr
            have wOO : IntKind.i64.wrap (O : Int) = (O : Int) := by rw [IntKind.wrap_i64]; omega
            clear KA KB wO1 eO1 p1 p2 hO hgood hx1 hC hA1 hA2 hO1 hB hUE
            go_wp2_with fail
            refine KE.out.mono ?_
            rintro e w1 ⟨rfl, rfl⟩
            go_wp2_with fail
            refine KE.out.mono ?_
            rintro e w1 ⟨rfl, rfl⟩
            go_wp2_with fail
            refine bodyPost_ret (results_none rfl _ _ _) rfl ?_
            exact ⟨rfl, FIN⟩
          · by_cases hb1 : bc = O1
            · obtain rfl : O1 = bc := hb1.symm
              obtain rfl : O1 = bn := by omega
              have KE := get_empty ad wr
              clear KB hO hgood hx1 hC hA1 hA2 hO1 hB
              go_wp2_with fail
              refine KA.out.mono ?_
              rintro e w1 ⟨rfl, rfl⟩
              clear KA
              go_wp2_with fail
              refine KE.out.mono ?_
              rintro e w1 ⟨rfl, rfl⟩
              clear KE
              go_wp2_with fail
              refine bodyPost_ret (results_none rfl _ _ _) rfl ?_
              exact ⟨rfl, FIN⟩
            · have hbad : C < 1 ∨ F < C := by omega
              clear hO hgood hx1 hC hO1 hB
              rcases hbad with hbad | hbad
              · obtain rfl : C = 0 := by omega
                go_wp2_with fail
                refine KA.out.mono ?_
                rintro e w1 ⟨rfl, rfl⟩
                clear KA
                go_wp2_with fail
                refine KB.out.mono ?_
                rintro e w1 ⟨rfl, rfl⟩
                clear KB
                go_wp2_with fail
                refine bodyPost_ret (results_none rfl _ _ _) rfl ?_
                exact ⟨rfl, FIN⟩
              · have v1 : decide ((C : Int) < 1) = false := decide_eq_false (by omega)
                have v2 : decide ((F : Int) < (C : Int)) = true := decide_eq_true (by omega)
                have v5 : ¬ C < 1 := by omega
                have v6 : F < C := hbad
                go_wp2_with fail
                refine KA.out.mono ?_
                rintro e w1 ⟨rfl, rfl⟩
                clear KA
                go_wp2_with fail
                refine KB.out.mono ?_
                rintro e w1 ⟨rfl, rfl⟩
                clear KB
                go_wp2_with fail
                refine bodyPost_ret (results_none rfl _ _ _) rfl ?_
                exact ⟨rfl, FIN⟩
      · obtain rfl : k = M := by omega
        clear HX
        go_wp2_with fail
        go_end0
        exact ⟨rfl, FIN⟩
  · have tn : decide ((1099511627776 : Int) < (t : Int)) = true := decide_eq_true (by omega)
    have FIN : Hid (ReadP T i W0 p m b w) := Lib.hid ⟨⟨m, 0, []⟩, ⟨h1, h64, Nat.zero_le _, Nat.zero_le _, (fun q hq => by cases hq), Int.le_refl _⟩, rfl, Nat.zero_le _, h, hB⟩
    clear h hp hb hB hH f0 h1 h64 hlx g1 g2 htot
    go_enter Try.func36, Try.ntmps36
    go_wp2_with fail
    refine K1.mono ?_
    rintro e w1 ⟨rfl, rfl⟩
    clear K1
    go_wp2_with fail
    refine bodyPost_ret (results_none rfl _ _ _) rfl ?_
    exact ⟨rfl, FIN⟩
end Go.Proofs.Ytkmonecolkamjaa
