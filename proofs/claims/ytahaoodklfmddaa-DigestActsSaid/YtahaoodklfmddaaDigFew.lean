/- Contracts of digest's New, room, fit and Insert while there are few nodes. Conditions: few nodes. -/
import Derived.Test.YtahaoodklfmddaaDigAdd
set_option maxRecDepth 100000
namespace Go.Proofs.Ytahaoodklfmddaa
open Go.RowKit Go.Maps Go.Sort

theorem new_at {w : World} {k : Nat} (h1 : 1 ≤ k) (h2 : k ≤ 64) :
    Calls Try.prog 6 #[.int .i64 k] w fun e w' => e = .returned (.pointer (some ⟨w.heap.size + 1, 0, none⟩)) ∧ w' = (w.alloc (.map #[] 0)).alloc (.cells #[.int .i64 k, .int .i64 0, .map (some w.heap.size)] 62) := by
  have z1 : ¬ (k : Int) < 1 := by omega
  have z2 : ¬ (64 : Int) < (k : Int) := by omega
  have hmm := @run_makeMap Try.prog
  clear h1 h2
  go_enter Try.func6, Try.ntmps6
  go_wp2_with fail
  go_ret
  exact ⟨rfl, rfl⟩
theorem room_at {w : World} {p k : Nat} (hk : k ≤ 64) (c0 : w.cell? ⟨p, 0, none⟩ = some (.int .i64 k)) :
    Calls Try.prog 43 #[.pointer (some ⟨p, 0, none⟩)] w fun e w' => e = .returned (.int .i64 ((3 * k + 64 : Nat) : Int)) ∧ w = w' := by
  have e1 : IntKind.i64.wrap (3 * (k : Int)) = 3 * (k : Int) := by rw [IntKind.wrap_i64]; omega
  have e2 : IntKind.i64.wrap (3 * (k : Int) + 64) = ((3 * k + 64 : Nat) : Int) := by rw [IntKind.wrap_i64]; omega
  obtain ⟨R, hR⟩ : ∃ R : Int, ((3 * k + 64 : Nat) : Int) = R := ⟨_, rfl⟩
  rw [hR] at e2 ⊢
  clear hk hR
  go_enter Try.func43, Try.ntmps43
  go_wp2_with fail
  go_ret
  exact ⟨rfl, rfl⟩
theorem fit_few {T : Tags} {i : Nat} {w : World} {p k b : Nat} {n : Int} {L : DL} (h : DkAt T i w p k n b L) (hk : k ≤ 64) (hl : L.length ≤ 3 * k + 64) :
    Calls Try.prog 25 #[.pointer (some ⟨p, 0, none⟩)] w fun e w' => e = .returned (.tuple #[]) ∧ w = w' := by
  obtain ⟨c0, _, c2, _⟩ := h.cells
  have K := room_at hk c0
  have hlen := h.map.len
  have t0 : decide ((L.length : Int) ≤ ((3 * k + 64 : Nat) : Int)) = true := decide_eq_true (by omega)
  obtain ⟨R, hR⟩ : ∃ R : Int, ((3 * k + 64 : Nat) : Int) = R := ⟨_, rfl⟩
  rw [hR] at K t0
  have t1 : (L.length : Int) ≤ R := of_decide_eq_true t0
  clear h hk hl hR c0
  go_enter Try.func25, Try.ntmps25
  go_wp2_with fail
  refine K.mono ?_
  rintro e w' ⟨rfl, rfl⟩
  clear K
  go_wp2_with fail
  refine bodyPost_ret (results_none rfl _ _ _) rfl ?_
  exact ⟨rfl, rfl⟩

/-- a digest at rest: what every call leaves -/
structure DV.Good (V : DV) : Prop where
  k1 : 1 ≤ V.k
  k64 : V.k ≤ 64
  n50 : V.n ≤ 1125899906842624
  pos : ∀ q ∈ V.L, 1 ≤ q.2
  le : ∀ q ∈ V.L, q.2 ≤ V.n
  len : V.L.length ≤ 3 * V.k + 64
/-- a digest in memory -/
def Dk (p : Nat) (V : DV) : Thing := fun T i w => ∃ b, DkAt T i w p V.k V.n b V.L ∧ V.Good
theorem Dk.framed (p : Nat) (V : DV) : Framed (Dk p V) := by
  rintro T T' i w w' ⟨b, h, hG⟩ hT hw
  exact ⟨b, ⟨(hw p (lt_of_heap h.head) (.inr h.tp)).trans h.head, (hT p (lt_of_heap h.head)).trans h.tp, h.map.of_block (hw b h.map.lt (.inr h.tb)), (hT b h.map.lt).trans h.tb⟩, hG⟩
def DV.none_k (k : Nat) : DV := ⟨k, 0, []⟩
theorem dgood_none {k : Nat} (h1 : 1 ≤ k) (h2 : k ≤ 64) : (DV.none_k k).Good := ⟨h1, h2, Nat.zero_le _, (fun q hq => by cases hq), (fun q hq => by cases hq), Nat.zero_le _⟩
theorem new_yes {w : World} {k : Nat} (h1 : 1 ≤ k) (h2 : k ≤ 64) (T : Tags) (i : Nat) :
    Calls Try.prog 6 #[.int .i64 k] w fun e w' => ∃ p, e = .returned (.pointer (some ⟨p, 0, none⟩)) ∧ Below w.heap.size w w' ∧ ∃ T', Next T w T' ∧ Dk p (DV.none_k k) T' i w' := by
  refine (new_at h1 h2).mono ?_
  rintro e w' ⟨rfl, rfl⟩
  refine ⟨_, rfl, ((Below.refl _ w).alloc (Nat.le_refl _) _).alloc (by simp) _, T.one w.heap.size (some i), T.one_next w _, w.heap.size, ?_, dgood_none h1 h2⟩
  refine ⟨?_, by unfold Tags.one; rw [if_neg (by omega)], ?_, by unfold Tags.one; rw [if_neg (by omega)]⟩
  · have := heap_alloc_new (w.alloc (.map #[] 0)) (.cells #[.int .i64 k, .int .i64 0, .map (some w.heap.size)] 62)
    rw [World.size_alloc] at this
    exact this
  · exact (PAt.made w).of_block (heap_alloc_old _ _ (by simp))

/-- one more at level 0, with no need to compress -/
def DV.ins0 (V : DV) (x : Nat) : DV := ⟨V.k, V.n + 1, putD x (dcnt V.L x + 1) V.L⟩
set_option maxHeartbeats 1600000 in
theorem ins_few {T : Tags} {i : Nat} {w : World} {p : Nat} {V : DV} (h : Dk p V T i w) (x : Nat) (hx : x < 18446744073709551616) (hn : V.n < 1125899906842624) (hl : V.L.length < 3 * V.k + 64) :
    Calls Try.prog 9 #[.pointer (some ⟨p, 0, none⟩), .int .u64 (x : Int)] w fun e w' => e = .returned (.tuple #[]) ∧ Hid (Goes T i w (Dk p (V.ins0 x)) w') := by
  obtain ⟨b, h, hG⟩ := h
  obtain ⟨c0, c1, _, _⟩ := h.cells
  have KM := made_at hG.k1 c0
  have hid : KIn x := by unfold KIn; omega
  have hk64 := hG.k64
  have hcn : 0 ≤ dcnt V.L x ∧ dcnt V.L x ≤ 1125899906842624 := by
    by_cases e : dcnt V.L x = 0
    · omega
    · have h1 := hG.pos _ (mem_of_dcnt e)
      have h2 := hG.le _ (mem_of_dcnt e)
      have h3 := hG.n50
      simp only at h1 h2
      omega
  have hc : InI (dcnt V.L x + 1) := by unfold InI; omega
  have hni : InI ((V.n : Int) + 1) := by unfold InI; omega
  have KA := fun W (hb : DkAt T i W p V.k V.n b V.L) => add_at hb (c := 1) hid hc hni (by unfold maxLen; omega)
  have e : kV x = .agg #[.int .i64 0, .int .u64 (x : Int)] := by
    have d1 : x / 18446744073709551616 = 0 := by omega
    have d2 : x % 18446744073709551616 = x := by omega
    unfold kV plV pk
    rw [d1, d2]
    rfl
  have hG' : (V.ins0 x).Good := by
    refine ⟨hG.k1, hG.k64, hn, fun q hq => ?_, fun q hq => ?_, ?_⟩
    · rcases putD_sub hq with rfl | hq
      · show 1 ≤ dcnt V.L x + 1; omega
      · exact hG.pos q hq
    · show q.2 ≤ ((V.n + 1 : Nat) : Int)
      rcases putD_sub hq with rfl | hq
      · show dcnt V.L x + 1 ≤ _
        by_cases e : dcnt V.L x = 0
        · omega
        · have h2 := hG.le _ (mem_of_dcnt e)
          simp only at h2
          omega
      · have := hG.le q hq; omega
    · have := putD_len V.L x (dcnt V.L x + 1)
      show (putD x (dcnt V.L x + 1) V.L).length ≤ 3 * V.k + 64
      omega
  have K := KA w h
  rw [e] at K
  have KF := Lib.hid fun (T' : Tags) (W : World) (hW : Dl p V.k (V.n + 1) (putD x (dcnt V.L x + 1) V.L) T' i W) => hW.elim fun b' hb' => fit_few hb' hG.k64 hG'.len
  have HG' := Lib.hid hG'
  have t0 : ¬ (V.n : Int) = 1125899906842624 := by omega
  have t1 : ((V.n : Int) == 1125899906842624) = false := by simpa using t0
  clear h hG hid hk64 hcn hc hni KA e hG' c0 hn hl
  go_enter Try.func9, Try.ntmps9
  go_wp2_with fail
  refine KM.mono ?_
  rintro e w' ⟨rfl, rfl⟩
  clear KM
  go_wp2_with fail
  refine K.mono ?_
  rintro e w1 ⟨rfl, HX⟩
  obtain ⟨T1, n1, e1, h1⟩ := HX.out
  have K1 := KF.out T1 w1 h1
  have FIN : Hid (Goes T i w (Dk p (V.ins0 x)) w1) := by
    obtain ⟨b1, h1⟩ := h1
    exact ⟨T1, n1, e1, b1, by have := h1; exact ⟨by rw [show (((V.ins0 x).n : Nat) : Int) = (V.n : Int) + 1 by show ((V.n + 1 : Nat) : Int) = _; omega]; exact this.head, this.tp, this.map, this.tb⟩, HG'.out⟩
  clear K HX n1 e1 h1 KF
  go_wp2_with fail
  refine K1.mono ?_
  rintro e w' ⟨rfl, rfl⟩
  clear K1
  go_wp2_with fail
  go_end0
  exact ⟨rfl, FIN⟩
end Go.Proofs.Ytahaoodklfmddaa
