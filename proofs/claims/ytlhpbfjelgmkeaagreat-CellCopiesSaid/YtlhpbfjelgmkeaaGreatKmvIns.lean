/- Contract of kmv's Insert: a number into each copy. Conditions: a sketch that was made. -/
import Derived.Test.YtlhpbfjelgmkeaaGreatKmvKeep
import Derived.Test.YtlhpbfjelgmkeaaGreatFieldHash
set_option maxRecDepth 100000
namespace Go.Proofs.YtlhpbfjelgmkeaaGreat
open Go.RowKit Go.Maps Go.Sort

def SkV.hash (V : SkV) (j x : Nat) : Nat := hashP (V.seeds.getD j (0, 0)).1 (V.seeds.getD j (0, 0)).2 x
theorem hashP_lt (a b x : Nat) : hashP a b x < 2305843009213693951 := Nat.mod_lt _ (by decide)
/-- a number is in the first k copies -/
def SkV.part (V : SkV) (x k : Nat) : SkV := { V with L := V.L.mapIdx fun j l => if j < k then addL V.t (V.hash j x) l else l }
/-- a number is in all copies -/
def SkV.ins (V : SkV) (x : Nat) : SkV := { V with L := V.L.mapIdx fun j l => addL V.t (V.hash j x) l }
theorem SkV.part_zero (V : SkV) (x : Nat) : V.part x 0 = V := by
  cases V with
  | mk t S L =>
    unfold SkV.part
    congr 1
    apply List.ext_getElem <;> simp
theorem SkV.part_all (V : SkV) (x : Nat) : V.part x V.L.length = V.ins x := by
  unfold SkV.part SkV.ins
  congr 1
  apply List.ext_getElem
  · simp
  · intro j h1 h2
    simp at h1
    simp [h1]
theorem SkV.part_next (V : SkV) (x k : Nat) (h : k < (V.part x k).L.length) : (⟨(V.part x k).t, (V.part x k).seeds, (V.part x k).L.set k (addL (V.part x k).t (V.hash k x) (V.part x k).L[k])⟩ : SkV) = V.part x (k + 1) := by
  unfold SkV.part
  congr 1
  apply List.ext_getElem
  · simp
  · intro j h1 h2
    simp at h1 h2
    simp only [List.getElem_set, List.getElem_mapIdx]
    by_cases e : k = j
    · subst e
      rw [if_pos rfl, if_pos (by omega)]
      congr 1
      exact (List.getElem_mapIdx ..).trans (if_neg (by omega))
    · rw [if_neg e]
      by_cases g : j < k
      · rw [if_pos g, if_pos (by omega)]
      · rw [if_neg g, if_neg (by omega)]
theorem SkV.part_len (V : SkV) (x k : Nat) : (V.part x k).L.length = V.L.length := by simp [SkV.part]

/-- the cells of seed k, as the walk reads them -/
theorem add_off2 (a : Addr) (k : Nat) : a.add (k * 2 + 1) = ⟨(a.add (k * 2)).block, (a.add (k * 2)).off + 1, none⟩ := by
  unfold Addr.add
  rw [if_neg (by omega)]
  split
  · rename_i h; simp_all
  · simp [Nat.add_assoc]
theorem SeedsIn.read {w : World} {sa : Addr} {S : List (Nat × Nat)} (h : SeedsIn w sa S) {k : Nat} (hk : k < S.length) :
    w.cell? (sa.add (k * 2)) = some (.int .u64 (S[k].1 : Int)) ∧ w.cell? ⟨(sa.add (k * 2)).block, (sa.add (k * 2)).off + 1, none⟩ = some (.int .u64 (S[k].2 : Int)) := by
  obtain ⟨h1, h2⟩ := flat_at S k hk
  exact ⟨h _ _ h1, by rw [← add_off2]; exact h _ _ h2⟩

theorem made_yes {w : World} {p t : Nat} (hc : w.cell? ⟨p, 0, none⟩ = some (.int .i64 t)) (ht : 2 ≤ t) :
    Calls Tryz.prog 111 #[.pointer (some ⟨p, 0, none⟩)] w fun e w' => e = .returned (.bool true) ∧ w = w' := by
  have h0 : decide (0 < t) = true := decide_eq_true (by omega)
  go_enter Tryz.func111, Tryz.ntmps111
  go_wp2_with fail
  go_ret
  exact ⟨rfl, rfl⟩

set_option maxHeartbeats 3200000 in
theorem ins_any {T : Tags} {i : Nat} {w : World} {p : Nat} {V : SkV} (h : Sk p V T i w) {x : Nat} (hx : x < 18446744073709551616) :
    Calls Tryz.prog 208 #[.pointer (some ⟨p, 0, none⟩), .int .u64 (x : Int)] w fun e w' => e = .returned (.tuple #[]) ∧ Hid (Goes T i w (Sk p (V.ins x)) w') := by
  obtain ⟨sa, sc, cb, rows, g⟩ := h
  obtain ⟨c0, c1, c2⟩ := g.cells
  have hgood := g.good
  have ht2 := hgood.set.t2
  have hn7 := hgood.set.n7
  have hlen := hgood.len
  have HS := Lib.hid (SkV.part_zero V x ▸ (Goes.start (A := Sk p V) (show Sk p V T i w from ⟨sa, sc, cb, rows, g⟩)))
  have KM := made_yes c0 ht2
  have HG := Lib.hid hgood
  have HX := Lib.hid hx
  have HL := Lib.hid hlen
  clear hgood hx hlen
  go_enter Tryz.func208, Tryz.ntmps208
  go_wp2_with fail
  refine KM.mono ?_
  rintro e w' ⟨rfl, rfl⟩
  clear KM
  go_wp2_with fail
  generalize hN : V.seeds.length = N at *
  have HN := Lib.hid hN
  clear hN
  go_loopw [4, 13] (fun _ k wr => ∃ m : Nat, k = .int .i64 m ∧ m ≤ N ∧ Hid (Goes T i w (Sk p (V.part x m)) wr)) (fun _ k _ => N - (intOf k).toNat)
  case atStart => exact ⟨0, rfl, Nat.zero_le _, HS.out⟩
  case round =>
    obtain ⟨m, rfl, hm, HR⟩ := hrel
    clear c0 c1 c2
    by_cases hlt : m < N
    · obtain ⟨T1, n1, e1, sa1, sc1, cb1, rows1, g1⟩ := HR.out
      have hms : m < V.seeds.length := by rw [HN.out]; exact hlt
      obtain ⟨c0, c1, c2⟩ := g1.cells
      obtain ⟨d0, d1⟩ := g1.seeds.read (k := m) hms
      rw [show (V.part x m).seeds.length = N from HN.out] at c1
      have hsd := HG.out.set.seed _ (List.getElem_mem hms)
      have e0 : (V.part x m).seeds[m] = V.seeds[m] := rfl
      have HH : Hid (hashP V.seeds[m].1 V.seeds[m].2 x = V.hash m x) := Lib.hid (by
        unfold SkV.hash
        rw [List.getD_eq_getElem?_getD, List.getElem?_eq_getElem hms]; rfl)
      rw [e0] at d0 d1
      generalize V.seeds[m] = sd at *
      obtain ⟨sA, sB⟩ := sd
      have KH := fun W => hash_any sA sB x W (by have := hsd.2.1; simp at this; omega) (by have := hsd.2.2; simp at this; omega) HX.out
      have b0 : (0 : Int) ≤ (m : Int) := by omega
      have b1 : (m : Int) < (N : Int) := by omega
      have G1 := Lib.hid g1
      have E1 := Lib.hid (And.intro n1 e1)
      clear g1 n1 e1 e0 hsd HR
      go_wp2_with fail
      refine (KH _).mono ?_
      rintro e w1 ⟨rfl, hb1⟩
      obtain ⟨sa2, sc2, cb2, rows2, g2⟩ := G1.out.below hb1
      have HB := Lib.hid hb1
      have hmL : m < (V.part x m).L.length := by rw [SkV.part_len, HL.out]; exact hlt
      have KK := keep_any g2 hmL (hashP_lt sA sB x)
      rw [HH.out, SkV.part_next _ _ _ hmL] at KK
      rw [HH.out]
      clear hb1 g2
      go_wp2_with fail
      refine KK.mono ?_
      rintro e w2 ⟨rfl, hgo⟩
      have HGO : Hid (Goes T i w (Sk p (V.part x (m + 1))) w2) := Lib.hid (Goes.after E1.out.1 (E1.out.2.low HB.out) hgo)
      clear hgo KK
      go_wp2_with fail
      go_roundw
      case rel => exact ⟨m + 1, by go_num, by omega, HGO.out⟩
      case measure => simp [intOf]; omega
    · have he : m = N := by omega
      have HE : Hid (Goes T i w (Sk p (V.ins x)) wr) := Lib.hid (by
        have := HR.out
        rw [he, ← HL.out, SkV.part_all] at this
        exact this)
      clear HR he
      go_wp2_with fail
      go_end0
      exact ⟨rfl, HE⟩
end Go.Proofs.YtlhpbfjelgmkeaaGreat
