/- Contract of digest's fit: the levels gone through till nothing changes, where there are too many nodes. Conditions: a digest that was made, of at most 100000 nodes. -/
import Derived.Test.YtahaoodklfmddaaDigFitA
import Derived.Test.YtahaoodklfmddaaDigLiftAll
import Derived.Test.YtahaoodklfmddaaDigFew
set_option maxRecDepth 100000
namespace Go.Proofs.Ytahaoodklfmddaa
open Go.RowKit Go.Maps Go.Sort Go.Shelf

/-- what fit leaves -/
def FitP (T : Tags) (i : Nat) (w : World) (p k n : Nat) (L : DL) (e : Ending) (w' : World) : Prop :=
  e = .returned (.tuple #[]) ∧ ∃ L' : DL, (L.length ≤ 3 * k + 64 → L' = L) ∧ (3 * k + 64 < L.length → FitL ((n / k : Nat) : Int) L L') ∧ LInv n L' ∧ Goes T i w (Dl p k n L') w'

set_option maxHeartbeats 1000000 in
theorem fit_at {T : Tags} {i : Nat} {w : World} {p k n b : Nat} {L : DL} (h : DkAt T i w p k n b L) (hk1 : 1 ≤ k) (hk : k ≤ 64) (hI : LInv n L) (hn : n ≤ 1125899906842624) :
    Calls Try.prog 25 #[.pointer (some ⟨p, 0, none⟩)] w (FitP T i w p k n L) := by
  by_cases hl : L.length ≤ 3 * k + 64
  · refine (fit_few h hk hl).mono ?_
    rintro e w' ⟨rfl, rfl⟩
    exact ⟨rfl, L, fun _ => rfl, fun h2 => absurd hl (by omega), hI, Goes.start ⟨b, h⟩⟩
  · obtain ⟨c0, c1, c2, _⟩ := h.cells
    have K := room_at hk c0
    have hlen := h.map.len
    have t0 : decide ((L.length : Int) ≤ ((3 * k + 64 : Nat) : Int)) = false := decide_eq_false (by omega)
    obtain ⟨R, hR⟩ : ∃ R : Int, ((3 * k + 64 : Nat) : Int) = R := ⟨_, rfl⟩
    rw [hR] at t0 K
    obtain ⟨M, hM⟩ : ∃ M, n / k = M := ⟨_, rfl⟩
    have hMn : M ≤ n := by rw [← hM]; exact Nat.div_le_self n k
    have tM : (n : Int) / (k : Int) = (M : Int) := by rw [← hM]; simp
    have tM2 : (n : Int).tdiv (k : Int) = (M : Int) := by rw [Int.tdiv_eq_ediv_of_nonneg (by omega)]; exact tM
    have wM : IntKind.i64.wrap (M : Int) = (M : Int) := by rw [IntKind.wrap_i64]; omega
    have k0 : ¬ k = 0 := by omega
    have mixed : Try.prog.follows .mixedOrders = true := by kernel_rfl
    have S0 : Hid (Goes T i w (Dl p k n L) w ∧ LInv n L) := Lib.hid ⟨Goes.start ⟨b, h⟩, hI⟩
    have HL := Lib.hid (And.intro hl hM)
    clear h hI hR hl hk hk1 hM hMn c0 c1
    go_enter Try.func25, Try.ntmps25
    go_wp2_with fail
    refine K.mono ?_
    rintro e w' ⟨rfl, rfl⟩
    clear K
    go_wp2_with fail
    clear hlen t0 c2
    go_loopg [] (meas L).toNat (fun kx wr => ∃ L1 : DL, (meas L1).toNat ≤ kx ∧ Hid (Goes T i w (Dl p k n L1) wr ∧ LInv n L1) ∧ Hid (∀ L2, FitL (M : Int) L1 L2 → FitL (M : Int) L L2))
    case atStart => exact ⟨L, Nat.le_refl _, S0, fun _ h => h⟩
    case round =>
      clear S0
      obtain ⟨L1, hkx, HS, HF⟩ := hrel
      obtain ⟨⟨T1, n1, e1, b1, hd⟩, hI1⟩ := HS.out
      have d0 := hd.cells.1
      have d1 := hd.cells.2.1
      have K := liftAll_at (most := (M : Int)) (Framed.below (Dl.framed p k n L1) ⟨b1, hd⟩ (⟨rfl, rfl, rfl, Nat.le_refl _, fun _ _ => rfl⟩ : Below wr.heap.size wr wr.drew)) hI1 hn
      have HG := Lib.hid (And.intro n1 e1)
      have HI1 := Lib.hid hI1
      clear hd n1 e1 hI1 HS
      go_wp2_with fail
      refine wp_region_mix (fun V => V.cell? ⟨p, 0, none⟩ = some (.int .i64 k) ∧ V.cell? ⟨p, 1, none⟩ = some (.int .i64 n)) 10 [(true, 0), (true, 1), (true, 2), (true, 3), (true, 4), (true, 5), (true, 6), (true, 7), (true, 8), (true, 9), (false, 10)] (by kernel_rfl) (by decide +kernel) rfl (by decide +kernel) ⟨d0, d1⟩ ?_
      iterate 10
        refine wpMix_take (v := ?_) rfl rfl ?_ ?_
        rotate_left
        · (intro W hW; (try dsimp only at hW); go_simp) <;> with_reducible rfl
        simp only [Act.put, List.setIfInBounds_toArray, List.set_cons_zero, List.set_cons_succ]
      refine wpMix_run rfl ?_
      intro K2 hK
      go_wp2_with fail
      refine K.mono ?_
      rintro e w5 ⟨L2, ch, rfl, hO, hI2, hG2⟩
      clear K
      have hon := outer_onto hO HI1.out
      have HG2 : Hid (Goes T i w (Dl p k n L2) w5 ∧ LInv n L2) := Lib.hid ⟨Goes.after HG.out.1 (HG.out.2.drew) hG2, hI2⟩
      cases ch with
      | true =>
        have hlt : meas L2 < meas L1 := by
          rcases hon.less rfl with h | h
          · cases h
          · exact h
        have h0 := meas_low hI2.low
        have HF2 : Hid (∀ L3, FitL (M : Int) L2 L3 → FitL (M : Int) L L3) := Lib.hid fun L3 h3 => HF.out L3 (.again hO h3)
        clear hon hO hI2 hG2 HF
        go_wp2_with fail
        refine hK.out _ _ (fun h => absurd rfl h) ?_
        clear hK K2
        refine wpMix_nil ?_
        go_wp2_with fail
        go_roundg (meas L2).toNat
        case measure => omega
        case rel => exact ⟨L2, Nat.le_refl _, HG2, HF2⟩
      | false =>
        have HF2 : Hid (FitL (M : Int) L L2) := Lib.hid (HF.out L2 (.last hO))
        clear hon hO hI2 hG2 HF
        go_wp2_with fail
        refine hK.out _ _ (fun h => absurd rfl h) ?_
        clear hK K2
        refine wpMix_nil ?_
        go_wp2_with fail
        go_end0
        exact ⟨rfl, L2, fun h2 => absurd h2 HL.out.1, fun _ => by rw [HL.out.2]; exact HF2.out, HG2.out.2, HG2.out.1⟩
end Go.Proofs.Ytahaoodklfmddaa
