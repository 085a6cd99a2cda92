/- Contract of digest's prefixes: the prefixes of a level's nodes, in some order, in memory of the call's own. Conditions: a digest that was made. -/
import Derived.Test.YtahaoodklfmddaaDigGath
import Derived.Test.YtahaoodklfmddaaSrtR
set_option maxRecDepth 100000
namespace Go.Proofs.Ytahaoodklfmddaa
open Go.RowKit Go.Maps Go.Sort Go.Shelf

/-- the prefixes of level lv's nodes -/
def preL (lv : Int) (xs : DL) : List UInt64 := (xs.filter fun p => decide (((p.1 / 18446744073709551616 : Nat) : Int) = lv)).map fun p => UInt64.ofNat (p.1 % 18446744073709551616)
theorem preL_snoc (lv : Int) (xs : DL) (id : Nat) (y : Int) : preL lv (xs ++ [(id, y)]) = preL lv xs ++ (if ((id / 18446744073709551616 : Nat) : Int) = lv then [UInt64.ofNat (id % 18446744073709551616)] else []) := by
  unfold preL
  rw [List.filter_append, List.map_append]
  congr 1
  by_cases h : ((id / 18446744073709551616 : Nat) : Int) = lv
  · rw [if_pos h, List.filter_cons_of_pos (by simpa using h)]
    rfl
  · rw [if_neg h, List.filter_cons_of_neg (by simpa using h)]
    rfl
theorem preL_len (lv : Int) (xs : DL) : (preL lv xs).length ≤ xs.length := by
  unfold preL
  rw [List.length_map]
  exact List.length_filter_le _ _
theorem word_of (id : Nat) : ((UInt64.ofNat (id % 18446744073709551616)).toNat : Int) = ((id % 18446744073709551616 : Nat) : Int) := by
  simp
theorem rowU_of_owns {w : World} {B g c : Nat} {l : List UInt64} (h : w.ownsRow B 29 1 (.slice (some ⟨g, 0, none⟩) l.length c) l.length (u64s l)) : RowU w g l := by
  have hc := h.cells (g := g) rfl
  have hf : ∀ o, w.frozen? ⟨g, o, none⟩ = false := fun o => by
    rcases h.2 with ⟨e, _⟩ | ⟨g', cap, cur, e, _, hg, _⟩
    · simp at e
    · simp at e
      obtain ⟨rfl, _⟩ := e
      exact free_of_row hg o
  intro j hj
  refine ⟨?_, hf j⟩
  have := hc j (.int .u64 ((l[j]!).toNat : Int)) (by unfold u64s; rw [List.getElem?_map, List.getElem?_eq_getElem hj]; simp [hj])
  rw [Addr.add_at, Nat.zero_add] at this
  exact this

set_option maxHeartbeats 4000000 in
/-- sorting nothing -/
theorem sort_nilW (w : World) : Calls Try.prog 72 #[.slice none 0 0] w fun e w' => e = .returned (.tuple #[]) ∧ w' = w := by
  have K1 := len_w 0 (by omega) w
  have KI : ∀ W : World, Calls Try.prog 84 #[.slice none 0 0, .int .i64 0, .int .i64 0] W fun e w' => e = .returned (.tuple #[]) ∧ w' = W := fun W => by
    go_enter Try.func84, Try.ntmps84
    go_wp2
    go_loopg [6] 0 (fun kx si wr => si = .int .i64 1 ∧ wr = W)
    case atStart => exact ⟨rfl, rfl⟩
    case round =>
      obtain ⟨rfl, rfl⟩ := hrel
      go_wp2
      go_end0
      exact ⟨rfl, rfl⟩
  have KP : ∀ (l : Int) (W : World), Calls Try.prog 81 #[.slice none 0 0, .int .i64 0, .int .i64 0, .int .i64 l] W fun e w' => e = .returned (.tuple #[]) ∧ w' = W := fun l W => by
    have K := KI W
    go_enter Try.func81, Try.ntmps81
    go_wp2_with fail
    go_loopg [1, 2, 3, 8, 9] 0 (fun kx sa sb sl s8 s9 wr => sa = .int .i64 0 ∧ sb = .int .i64 0 ∧ wr = W)
    case atStart => exact ⟨rfl, rfl, rfl⟩
    case round =>
      obtain ⟨rfl, rfl, rfl⟩ := hrel
      go_wp2_with fail
      refine K.mono ?_
      rintro e w' ⟨rfl, rfl⟩
      clear K
      go_wp2_with fail
      refine bodyPost_ret (results_none rfl _ _ _) rfl ?_
      exact ⟨rfl, rfl⟩
  go_enter Try.func72, Try.ntmps72
  go_wp2_with fail
  refine K1.mono ?_
  rintro e w' ⟨⟨l, rfl⟩, rfl⟩
  have K2 := KP l w'
  clear K1 KP KI
  go_wp2_with fail
  refine K2.mono ?_
  rintro e w1 ⟨rfl, rfl⟩
  clear K2
  go_wp2_with fail
  go_end0
  exact ⟨rfl, rfl⟩

theorem infoW64 : (Try.prog.info? 29).map (fun i => (i.zero, i.size, i.bytes)) = some (some (.int .u64 0), 1, 8) := by kernel_rfl

/-- the prefixes of level lv's nodes, in memory of the call's own -/
def PrefAt (w : World) (L : DL) (lv : Int) (e : Ending) (w' : World) : Prop :=
  ∃ (xs : DL) (us : List UInt64), (∀ p, p ∈ xs ↔ p ∈ L) ∧ xs.Nodup ∧ us.Perm (preL lv xs) ∧ Below w.heap.size w w' ∧
    ((us = [] ∧ e = .returned (.slice none 0 0)) ∨ ∃ g c, e = .returned (.slice (some ⟨g, 0, none⟩) us.length c) ∧ us.length ≤ c ∧ w.heap.size ≤ g ∧ g < w'.heap.size ∧ RowU w' g us)

set_option maxHeartbeats 4000000 in
theorem prefixes_at {w : World} {p b : Nat} {L : DL} (lv : Int) (c2 : w.cell? ⟨p, 2, none⟩ = some (.map (some b))) (hM : PAt w b L) (hl : L.length ≤ 100000) :
    Calls Try.prog 59 #[.pointer (some ⟨p, 0, none⟩), .int .i64 lv] w (PrefAt w L lv) := by
  have hb := hM.lt
  have HM := Lib.hid hM
  have HL := Lib.hid hl
  have hown : w.ownsMap Try.prog 67 (plainElem Try.prog 3) b L.length (mapP L) := hM.own
  clear hM hl
  go_enter Try.func59, Try.ntmps59
  go_wp2_with (first
    | (at_range; refine wpList_range_own _ rfl _ 60 rfl 67 3 KP Try.underlying60 (plainElem Try.prog 3) b L.length _ rfl hown ?_; intro w1 hrg1 hg1 hs1)
    | fail)
  go_frame
  obtain ⟨r, hr⟩ : ∃ r, w.heap.size = r := ⟨_, rfl⟩
  rw [hr] at hrg1 ⊢
  have B1 : Hid (Below w.heap.size w w1) := (Below.refl _ w).grown hg1 (Nat.le_refl _) (fun j hj => by cases hj)
  have O1 : w1.ownsRow w.heap.size 29 1 (.slice none 0 0) (preL lv []).length (u64s (preL lv [])) := World.ownsRow_nil _ _ _ _
  have HG0 := Lib.hid (GathP.start HM.out.allIn)
  have HR := Lib.hid hr
  have HX := Lib.hid (And.intro hrg1 O1)
  clear hr hg1 hs1 hrg1 O1 hown c2
  go_loopw [5] (fun v wr => ∃ (left : Lit → Bool) (cn : Nat) (xs : DL) (vv : Value), v = vv ∧ Hid (wr.ranges Try.prog 67 (plainElem Try.prog 3) b r L.length (mapP L) left cn) ∧ Hid (wr.ownsRow w.heap.size 29 1 vv (preL lv xs).length (u64s (preL lv xs))) ∧ Hid (Below w.heap.size w wr) ∧ Hid (GathP L xs left))
    (fun _ wr => wr.rangeLeft b r)
  case atStart => exact ⟨_, _, [], _, rfl, HX.out.1, HX.out.2, B1, HG0⟩
  case round =>
    clear HX B1 HG0
    obtain ⟨left, cn, xs, vv, rfl, Hrg, Hown, HB, HG⟩ := hrel
    have hrg := Hrg.out
    go_wp2_with (first
      | (at_next; refine wpList_next_places HM.out.allIn rfl _ rfl b r L.length _ _ rfl hrg ?_ ?_)
      | fail)
    · intro _ hl0
      have HE0 := Lib.hid (HG.out.end hl0)
      rcases Hown.out.2 with ⟨e, hx⟩ | ⟨g, cap, cur, e, _, _, hcl, _⟩
      · have K := sort_nilW wr
        have hu : preL lv xs = [] := by simpa [u64s] using hx
        have HU := Lib.hid hu
        clear hl0 hrg hx hu
        subst e
        go_wp2_with fail
        refine K.mono ?_
        rintro e w3 ⟨rfl, rfl⟩
        clear K
        go_wp2_with fail
        go_ret
        exact ⟨xs, [], HE0.out, HG.out.nodup, by rw [HU.out], HB.out, .inl ⟨rfl, rfl⟩⟩
      · subst e
        have hlt := Hown.out.lt g rfl
        have K := sort_words (c := cap) (rowU_of_owns Hown.out) hlt.2 (by have := HG.out.len; have := HL.out; have := preL_len lv xs; omega)
        have HC := Lib.hid (And.intro hcl hlt.1)
        clear hl0 hrg hcl hlt
        go_wp2_with fail
        refine K.mono ?_
        rintro e w3 ⟨rfl, us, hp, hR, hg3, hgr⟩
        have HE : Hid (PrefAt w L lv (.returned (.slice (some ⟨g, 0, none⟩) (preL lv xs).length cap)) w3) := by
          refine ⟨xs, us, HE0.out, HG.out.nodup, hp, HB.out.grown hgr HB.out.size (fun j hj => by cases hj; exact HC.out.2), .inr ⟨g, cap, by rw [hp.length_eq], by rw [hp.length_eq]; exact HC.out.1, HC.out.2, hg3, hR⟩⟩
        clear K hR hgr hp hg3
        go_wp2_with fail
        go_ret
        exact HE.out
    · intro id y w2 cn2 hm hlx hrg2 hlt hg2 hs2 hen
      have G2 := Lib.hid (HG.out.step HM.out.asc HM.out.allIn hm hlx)
      obtain ⟨a, ha⟩ : ∃ a : Int, a = ((id / 18446744073709551616 : Nat) : Int) := ⟨_, rfl⟩
      obtain ⟨u, hu⟩ : ∃ u : Int, u = ((id % 18446744073709551616 : Nat) : Int) := ⟨_, rfl⟩
      have ek : kV id = .agg #[.int .i64 a, .int .u64 u] := by rw [ha, hu]; rfl
      rw [ek] at hen ⊢
      have hne : some r ≠ u5.ownBlock := row_ne_iter Hown.out hrg
      have hown2 : w2.ownsRow w.heap.size 29 1 u5 (preL lv xs).length (u64s (preL lv xs)) := Hown.out.kept hg2 (.inr (fun e => hne e.symm))
      have B2 : Hid (Below w.heap.size w w2) := HB.out.grown hg2 HB.out.size (fun j hj => by cases hj; rw [HR.out]; exact Nat.le_refl _)
      have hownA := hown2.alloc (.cells #[.int .i64 a, .int .u64 u] 67)
      have BA : Hid (Below w.heap.size w (w2.alloc (.cells #[.int .i64 a, .int .u64 u] 67))) := B2.out.alloc B2.out.size _
      have hrgA := hrg2.alloc (.cells #[.int .i64 a, .int .u64 u] 67)
      have hsn := preL_snoc lv xs id y
      rw [← ha] at hsn
      have HLT := Lib.hid (And.intro hlt (And.intro hrgA.left_eq Hrg.out.left_eq))
      by_cases hal : a = lv
      · rw [if_pos hal] at hsn
        have alb : (a == lv) = true := by simpa using hal
        have hownC := hownA.alloc (.cells #[.int .u64 u] 29)
        have BC : Hid (Below w.heap.size w ((w2.alloc (.cells #[.int .i64 a, .int .u64 u] 67)).alloc (.cells #[.int .u64 u] 29))) := BA.out.alloc BA.out.size _
        have hrgC := hrgA.alloc (.cells #[.int .u64 u] 29)
        obtain ⟨W1, hW1⟩ : ∃ W1, w2.alloc (.cells #[.int .i64 a, .int .u64 u] 67) = W1 := ⟨_, rfl⟩
        have hszA : W1.heap.size = wr.heap.size + 1 := by rw [← hW1, World.size_alloc, hs2]
        rw [hW1] at hownC BC hrgC
        have hHold : Holds (W1.alloc (.cells #[.int .u64 u] 29)) (.slice (some ⟨W1.heap.size, 0, none⟩) 1 1) [.int .u64 u] := ⟨_, _, rfl, Nat.le_refl _, .inr ⟨_, rfl, fun j u' hj => by
          rw [Addr.add_at, Nat.zero_add, cell_of_row _ _ _ _ _ _ (heap_alloc_new W1 _)]
          simpa using hj⟩⟩
        obtain ⟨v', w3, hrun, hown3, hgr3, hv3⟩ := app_any (P := Try.prog) (t := 43) Try.underlying43 infoW64 (Nat.le_refl _) rfl (by rw [u64s_len]; exact hownC) BC.out.size hHold (fun u' hu' => by simp at hu'; subst hu'; rfl) (by rw [u64s_len]; have := HG.out.len; have := HL.out; have := preL_len lv xs; simp; omega)
        rw [hszA] at hrun
        have hE : u64s (preL lv xs) ++ [Value.int .u64 u] = u64s (preL lv (xs ++ [(id, y)])) := by
          rw [hsn, u64s_append]
          congr 1
          show _ = [Value.int .u64 _]
          rw [word_of, hu]
        rw [hE, u64s_len] at hown3
        have hlow : some b ≠ u5.ownBlock := row_ne_low hownC hb
        have RG3 := Lib.hid (hrgC.kept hgr3 hlow (row_ne_iter hownC hrgC))
        have B3 : Hid (Below w.heap.size w w3) := BC.out.grown hgr3 BC.out.size (fun j hj => (hownC.lt j hj).1)
        have O3 := Lib.hid hown3
        have HLT := Lib.hid (And.intro hlt (And.intro RG3.out.left_eq Hrg.out.left_eq))
        have HRUN := Lib.hid hrun
        have HW1 := Lib.hid hW1
        have c0 : W1.cell? ⟨wr.heap.size, 0, none⟩ = some (.int .i64 a) := by rw [← hW1, ← hs2, cell_of_row _ _ _ _ _ _ (heap_alloc_new w2 _)]; rfl
        have c1 : W1.cell? ⟨wr.heap.size, 1, none⟩ = some (.int .u64 u) := by rw [← hW1, ← hs2, cell_of_row _ _ _ _ _ _ (heap_alloc_new w2 _)]; rfl
        subst hal
        clear hm hlx hrg2 hlt hg2 hne hown2 hownA hownC hrgA hrgC hown3 hgr3 hv3 hlow hrg hrun ha hu ek hsn hE hHold
        go_wp2_with (first
          | (at_builtin; refine wpList_append_run rfl _ _ 43 rfl rfl rfl (HRUN.out _) ?_)
          | fail)
        go_roundw
        case rel => exact ⟨_, cn2, xs ++ [(id, y)], _, rfl, RG3, O3, B3, G2⟩
        case measure => rw [HLT.out.2.1, HLT.out.2.2]; exact HLT.out.1
      · rw [if_neg hal, List.append_nil] at hsn
        have alb : (a == lv) = false := by simpa using hal
        have O3 := Lib.hid (hsn ▸ hownA)
        have RG3 := Lib.hid hrgA
        clear hm hlx hrg2 hlt hg2 hne hown2 hownA hrgA hrg ha hu ek hsn
        go_wp2_with fail
        go_roundw
        case rel => exact ⟨_, cn2, xs ++ [(id, y)], _, rfl, RG3, O3, BA, G2⟩
        case measure => rw [HLT.out.2.1, HLT.out.2.2]; exact HLT.out.1
end Go.Proofs.Ytahaoodklfmddaa
