/- Contract of digest's Insert, compressing or not. Conditions: a digest that was made, not full. -/
import Derived.Test.YtahaoodklfmddaaDigFit
set_option maxRecDepth 100000
namespace Go.Proofs.Ytahaoodklfmddaa
open Go.RowKit Go.Maps Go.Sort Go.Shelf

/-- one number more keeps what nodes are -/
theorem LInv.ins {n : Nat} {L : DL} (h : LInv n L) {x : Nat} (hx : x < 18446744073709551616) (hl : L.length < 100000) : LInv (n + 1) (putD x (dcnt L x + 1) L) where
  inv :=
    { asc := dasc_putD h.inv.asc _ _
      pos := fun q hq => by
        rcases putD_sub hq with rfl | hq
        · have := dcnt_nonneg h.inv.pos x
          show 1 ≤ dcnt L x + 1
          omega
        · exact h.inv.pos q hq
      sum := by
        have h1 := h.inv.sum
        unfold total at *
        rw [csum_putD (fun _ => true) h.inv.asc, h1, if_pos rfl]
        omega }
  low q hq := by
    rcases putD_sub hq with rfl | hq
    · show LowC x
      unfold LowC
      have e1 : x / 18446744073709551616 = 0 := by omega
      have e2 : x % 18446744073709551616 = x := by omega
      rw [e1, e2]
      exact ⟨by omega, hx⟩
    · exact h.low q hq
  short := by
    have := putD_len L x (dcnt L x + 1)
    omega

set_option maxHeartbeats 1600000 in
theorem ins_at {T : Tags} {i : Nat} {w : World} {p k n b : Nat} {L : DL} (h : DkAt T i w p k n b L) (hk1 : 1 ≤ k) (hk : k ≤ 64) (hI : LInv n L) (hn : n < 1125899906842624) (hl : L.length < 100000) (x : Nat) (hx : x < 18446744073709551616) :
    Calls Try.prog 9 #[.pointer (some ⟨p, 0, none⟩), .int .u64 (x : Int)] w (FitP T i w p k (n + 1) (putD x (dcnt L x + 1) L)) := by
  obtain ⟨c0, c1, _, _⟩ := h.cells
  have KM := made_at hk1 c0
  have hid : KIn x := by unfold KIn; omega
  have hI2 := hI.ins hx hl
  have hcn : 0 ≤ dcnt L x ∧ dcnt L x ≤ 1125899906842624 := by
    refine ⟨dcnt_nonneg hI.inv.pos x, ?_⟩
    have h1 := all_le hI.inv x
    have h2 := dcnt_nonneg hI.inv.pos (sibC x)
    have h3 := dcnt_nonneg hI.inv.pos (upC x)
    unfold allC at h1
    omega
  have hc : InI (dcnt L x + 1) := by unfold InI; omega
  have hni : InI ((n : Int) + 1) := by unfold InI; omega
  have e : kV x = .agg #[.int .i64 0, .int .u64 (x : Int)] := by
    have d1 : x / 18446744073709551616 = 0 := by omega
    have d2 : x % 18446744073709551616 = x := by omega
    unfold kV plV pk
    rw [d1, d2]
    rfl
  have K := add_at h (c := 1) hid hc hni (by unfold maxLen; omega)
  rw [e] at K
  have KF := Lib.hid fun (T' : Tags) (W : World) (hW : Dl p k ((n : Int) + 1) (putD x (dcnt L x + 1) L) T' i W) => hW.elim fun b' (hb' : DkAt T' i W p k ((n + 1 : Nat) : Int) b' (putD x (dcnt L x + 1) L)) => fit_at hb' hk1 hk hI2 hn
  have t0 : ¬ (n : Int) = 1125899906842624 := by omega
  have t1 : ((n : Int) == 1125899906842624) = false := by simpa using t0
  clear h hid hk hk1 hcn hc hni e c0 hn hl hI hI2
  go_enter Try.func9, Try.ntmps9
  go_wp2_with fail
  refine KM.mono ?_
  rintro e w' ⟨rfl, rfl⟩
  clear KM
  go_wp2_with fail
  refine K.mono ?_
  rintro e w1 ⟨rfl, HG⟩
  clear K
  obtain ⟨T1, n1, e1, hd⟩ := HG.out
  have K2 := KF.out T1 w1 hd
  have HE := Lib.hid (And.intro n1 e1)
  clear HG hd n1 e1
  go_wp2_with fail
  refine K2.mono ?_
  rintro e w2 ⟨rfl, L', h1, h2, h3, h4⟩
  have HF : Hid (FitP T i w p k (n + 1) (putD x (dcnt L x + 1) L) (.returned (.tuple #[])) w2) := Lib.hid ⟨rfl, L', h1, h2, h3, Goes.after HE.out.1 HE.out.2 h4⟩
  clear K2 h1 h2 h3 h4
  go_wp2_with fail
  refine bodyPost_ret (results_none rfl _ _ _) rfl ?_
  exact HF.out
end Go.Proofs.Ytahaoodklfmddaa
