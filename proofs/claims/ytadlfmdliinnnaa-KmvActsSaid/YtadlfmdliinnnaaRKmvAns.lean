/- Contract of the reference's Answers. Conditions: a sketch that was made. -/
import Derived.Test.YtadlfmdliinnnaaRKmvMerge
import Derived.Test.YtadlfmdliinnnaaKmvAns
set_option maxRecDepth 100000
namespace Go.Proofs.Ytadlfmdliinnnaa
open Go.RowKit Go.Maps Go.Sort

/-- ints of the call's own -/
def OwnI (w : World) (xs : List Nat) (v : Value) (W : World) : Prop := W.ownsRow w.heap.size 3 1 v xs.length (ints xs) ∧ Below w.heap.size w W
theorem ints_one (l : List Nat) : ∀ u ∈ ints l, u.oneCell' = true := fun u hu => by
  obtain ⟨n, _, rfl⟩ := List.mem_map.1 hu
  rfl
theorem ints_len (l : List Nat) : (ints l).length = l.length := by simp [ints]
theorem ints_append (a b : List Nat) : ints (a ++ b) = ints a ++ ints b := by simp [ints]
theorem OwnI.push {w W : World} {xs : List Nat} {v : Value} (h : OwnI w xs v W) (x : Nat) (hx : xs.length ≤ 100000) :
    ∃ v' w', (∀ ty, (Builtin.append_ #[52, 52] ty #[v, .slice (some ⟨W.heap.size, 0, none⟩) 1 1]).run Try.prog (W.alloc (.cells #[.int .i64 (x : Int)] 3)) = .ok v' w') ∧ OwnI w (xs ++ [x]) v' w' := by
  have hb := (Below.refl W.heap.size W).alloc (Nat.le_refl _) (.cells #[.int .i64 (x : Int)] 3)
  have ho := ownsRow_below h.1 hb
  have hB : w.heap.size ≤ (W.alloc (.cells #[.int .i64 (x : Int)] 3)).heap.size := Nat.le_trans h.2.size hb.size
  obtain ⟨v', w', hr, h2, h3, h4⟩ := app_any (P := Try.prog) Try.underlying52 infoInt (by omega) rfl (by rw [ints_len]; exact ho) hB
    (Holds.of_heap (alloc1 W (.cells #[.int .i64 (x : Int)] 3)) (l := ints [x]) rfl 1 1 rfl (Nat.le_refl _)) (ints_one _) (by simp [ints]; omega)
  refine ⟨v', w', hr, by rw [← ints_append, ints_len] at h2; exact h2, ?_⟩
  exact (h.2.trans (hb.mono h.2.size)).grown h3 hB (fun k hk => (ho.lt k hk).1)
theorem mdB_ok {s x : Nat} (h : s ≤ x) (h0 : 0 < x) : mdB s 2305843009213693951 x = true := by
  unfold mdB
  rw [decide_eq_true_eq]
  omega

/-- the answers of the first m copies -/
def ansTo (V : SkV) (m : Nat) : List Nat := (V.L.take m).map (ansOf V.t)
theorem ansTo_next (V : SkV) (m : Nat) (h : m < V.L.length) : ansTo V (m + 1) = ansTo V m ++ [ansOf V.t V.L[m]] := by
  unfold ansTo
  rw [List.take_succ_eq_append_getElem h, List.map_append]
  rfl
theorem ansTo_all (V : SkV) : ansTo V V.L.length = V.answers := by unfold ansTo SkV.answers; rw [List.take_length]
theorem ansTo_len (V : SkV) (m : Nat) : (ansTo V m).length ≤ m := by simp [ansTo]; omega

def RAnsAt (w : World) (A : List Nat) (e : Ending) (w' : World) : Prop := ∃ v, e = .returned v ∧ OwnI w A v w'

set_option maxHeartbeats 6400000 in
theorem ranswers_any {T : Tags} {i : Nat} {w : World} {p : Nat} {V : SkV} (h : RSk p V T i w) :
    Calls Try.prog 40 #[.pointer (some ⟨p, 0, none⟩)] w (RAnsAt w V.answers) := by
  obtain ⟨sa, sc, cb, c, cur, g⟩ := h
  obtain ⟨c0, c1, c2⟩ := g.cells
  have HOT := Lib.hid (fun W (hb : Below w.heap.size w W) => g.oth (i := i + 1) (by omega) (Else.of_below (O := fun k => T k = some (i + 1)) hb))
  have HT := Lib.hid (fun W (hb : Below w.heap.size w W) => show W.cell? ⟨p, 0, none⟩ = some (.int .i64 V.t) by rw [hb.cell (p := ⟨p, 0, none⟩) (lt_of_heap g.head)]; exact c0)
  have hN7 : V.L.length ≤ 7 := by rw [g.good.len]; exact g.good.set.n7
  have HG := Lib.hid g.good
  have ht2 := g.good.set.t2
  have ht64 := g.good.set.t64
  have HAL := Lib.hid (ansTo_all V)
  clear g c0 c1
  generalize hN : V.L.length = N at *
  have HN := Lib.hid hN
  clear hN
  go_enter Try.func40, Try.ntmps40
  go_wp2_with fail
  go_loopw [3, 13] (fun o k wr => ∃ m : Nat, k = .int .i64 m ∧ m ≤ N ∧ Hid (OwnI w (ansTo V m) o wr)) (fun _ k _ => N - (intOf k).toNat)
  case atStart => exact ⟨0, rfl, Nat.zero_le _, Lib.hid ⟨by simpa [ansTo, ints] using World.ownsRow_nil _ _ _ _, Below.refl _ _⟩⟩
  case round =>
    obtain ⟨m, rfl, hm, HR⟩ := hrel
    clear c2
    by_cases hlt : m < N
    · have hmL : m < V.L.length := by rw [HN.out]; exact hlt
      obtain ⟨vl, hvl, o3, hH⟩ := (HOT.out wr HR.out.2).row m hmL
      have c0 := HT.out wr HR.out.2
      rw [getD_at hmL] at hH
      have hgl : GoodL V.t V.L[m] := HG.out.row _ (List.getElem_mem hmL)
      have HNX := Lib.hid (ansTo_next V m hmL)
      have hsm := ansTo_len V m
      obtain ⟨al, kl, rfl, _⟩ := hH.form
      rw [nats_len] at hH
      have b0 : (0 : Int) ≤ (m : Int) := by omega
      have b1 : (m : Int) < (N : Int) := by omega
      generalize V.L[m] = l at *
      rw [nats_len] at o3
      have hgn := hgl.len
      by_cases hlt2 : l.length < V.t
      · have e : ansOf V.t l = l.length := by unfold ansOf; rw [if_pos hlt2]
        rw [e] at HNX
        obtain ⟨v1, w1, hr1, ho1⟩ := HR.out.push l.length (by omega)
        rw [← HNX.out] at ho1
        have t1 : decide (l.length < V.t) = true := decide_eq_true hlt2
        have HR1 := Lib.hid hr1
        have HO := Lib.hid ho1
        clear hr1 ho1 hgl hH HR e HNX hvl hgn hlt2
        generalize l.length = n at *
        go_wp2_with (at_builtin; refine wpList_append_run rfl _ _ 52 rfl rfl rfl (HR1.out _) ?_)
        go_roundw
        case rel => exact ⟨m + 1, by go_num, by omega, HO⟩
        case measure => simp [intOf]; omega
      · have hk : V.t - 1 < l.length := by omega
        have hle := ansOf_le ht2 ht64 hgl
        have e : ansOf V.t l = mdQ (V.t - 1) 2305843009213693951 l[V.t - 1] := by unfold ansOf; rw [if_neg (by omega), List.getD_eq_getElem?_getD, List.getElem?_eq_getElem hk]; rfl
        have hge := up_ge l hgl.up 0 (fun _ _ => Nat.zero_le _) (V.t - 1) hk
        obtain ⟨ad, rfl⟩ := hH.ptr (by omega)
        have hc := hH.cell (nats_at hk)
        have hx := hgl.lt _ (List.getElem_mem hk)
        have t1 : decide (l.length < V.t) = false := decide_eq_false hlt2
        rw [e] at hle HNX
        generalize l[V.t - 1] = x at *
        obtain ⟨s, hs⟩ : ∃ s, s = V.t - 1 := ⟨_, rfl⟩
        rw [← hs] at hc hle HNX hge
        have hok := mdB_ok (s := s) (x := x) (by omega) (by omega)
        have KM := fun W => refMulDiv_any s 2305843009213693951 x W (by omega) (by decide) (by omega)
        rw [hok] at KM
        have hlt' : l.length = V.t := by omega
        have KP := Lib.hid (fun n => (show OwnI w (ansTo V m) u3 (wr.drewN n) from ⟨HR.out.1, below_dN HR.out.2 n⟩).push (mdQ s 2305843009213693951 x) (by omega))
        rw [← HNX.out] at KP
        have es : (V.t : Int) - 1 = (s : Int) := by omega
        have s0 : (0 : Int) ≤ (s : Int) := by omega
        have s1 : (s : Int) < (V.t : Int) := by omega
        generalize mdQ s 2305843009213693951 x = q at *
        have hq : IntKind.i64.wrap (q : Int) = (q : Int) := by rw [IntKind.wrap_i64]; omega
        have t2 : decide ((4611686018427387904 : Int) < (q : Int)) = false := decide_eq_false (by omega)
        have KM := Lib.hid KM
        rw [hlt'] at o3 hH t1
        clear e hgl hH hk hx hs hle HR HNX hge hok hlt2 hgn hvl hlt'
        generalize V.t = t at *
        go_wp2_with fail
        go_quiet ((exact Calls.quiet_of_same ((KM.out _).mono fun _ _ ⟨h, hw⟩ => ⟨h, hw.symm⟩)))
        obtain ⟨v1, w1, hr1, ho1⟩ := KP.out nq
        have HR1 := Lib.hid hr1
        have HO := Lib.hid ho1
        clear hr1 ho1 KP
        go_wp2_with (at_builtin; refine wpList_append_run rfl _ _ 52 rfl rfl rfl (HR1.out _) ?_)
        go_roundw
        case rel => exact ⟨m + 1, by go_num, by omega, HO⟩
        case measure => simp [intOf]; omega
    · have hme : m = N := by omega
      have HF : Hid (OwnI w V.answers u3 wr) := Lib.hid (by
        have := HR.out
        rw [hme] at this
        rw [← HAL.out]
        exact this)
      clear HR hme
      go_wp2_with fail
      go_ret
      exact ⟨_, rfl, HF.out⟩
end Go.Proofs.Ytadlfmdliinnnaa
