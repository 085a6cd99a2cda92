/- The texts DigPrefX DigLiftP DigLift, one behind the other; each one's own comment says what it holds. -/
import Derived.Test.YtahaoodklfmddaaDigestActsRowGA
import Derived.Test.YtahaoodklfmddaaSrtR
import Derived.Test.YtahaoodklfmddaaDigestActsRowGB
import Derived.Test.YtahaoodklfmddaaDigBits
import Derived.Test.YtahaoodklfmddaaDigPlaces
import Derived.Test.YtahaoodklfmddaaDigAdd
/- Contract of digest's prefixes: the prefixes of a level's nodes, in some order, in memory of the call's own. Conditions: a digest that was made. -/
set_option maxRecDepth 100000
namespace Go.Proofs.Ytahaoodklfmddaa
open Go.RowKit Go.Maps Go.Sort Go.Shelf

/-- the prefixes of level lv's nodes -/
def preL (lv : Int) (xs : DL) : List UInt64 := (xs.filter fun p => decide (((p.1 / 18446744073709551616 : Nat) : Int) = lv)).map fun p => UInt64.ofNat (p.1 % 18446744073709551616)
theorem preL_snoc (lv : Int) (xs : DL) (id : Nat) (y : Int) : preL lv (xs ++ [(id, y)]) = preL lv xs ++ (if ((id / 18446744073709551616 : Nat) : Int) = lv then [UInt64.ofNat (id % 18446744073709551616)] else []) := by
  unfold preL
  rw [List.filter_append, List.map_append]
  congr 1
  by_cases h : ((id / 18446744073709551616 : Nat) : Int) = lv
  · rw [if_pos h, List.filter_cons_of_pos (by simpa using h)]
    rfl
  · rw [if_neg h, List.filter_cons_of_neg (by simpa using h)]
    rfl
theorem preL_len (lv : Int) (xs : DL) : (preL lv xs).length ≤ xs.length := by
  unfold preL
  rw [List.length_map]
  exact List.length_filter_le _ _
theorem word_of (id : Nat) : ((UInt64.ofNat (id % 18446744073709551616)).toNat : Int) = ((id % 18446744073709551616 : Nat) : Int) := by
  simp
theorem rowU_of_owns {w : World} {B g c : Nat} {l : List UInt64} (h : w.ownsRow B 29 1 (.slice (some ⟨g, 0, none⟩) l.length c) l.length (u64s l)) : RowU w g l := by
  have hc := h.cells (g := g) rfl
  have hf : ∀ o, w.frozen? ⟨g, o, none⟩ = false := fun o => by
    rcases h.2 with ⟨e, _⟩ | ⟨g', cap, cur, e, _, hg, _⟩
    · simp at e
    · simp at e
      obtain ⟨rfl, _⟩ := e
      exact free_of_row hg o
  intro j hj
  refine ⟨?_, hf j⟩
  have := hc j (.int .u64 ((l[j]!).toNat : Int)) (by unfold u64s; rw [List.getElem?_map, List.getElem?_eq_getElem hj]; simp [hj])
  rw [Addr.add_at, Nat.zero_add] at this
  exact this

set_option maxHeartbeats 4000000 in
/-- sorting nothing -/
theorem sort_nilW (w : World) : Calls Try.prog 72 #[.slice none 0 0] w fun e w' => e = .returned (.tuple #[]) ∧ w' = w := by
  have K1 := len_w 0 (by omega) w
  have KI : ∀ W : World, Calls Try.prog 84 #[.slice none 0 0, .int .i64 0, .int .i64 0] W fun e w' => e = .returned (.tuple #[]) ∧ w' = W := fun W => by
    go_enter Try.func84, Try.ntmps84
    go_wp2
    go_loopg [6] 0 (fun kx si wr => si = .int .i64 1 ∧ wr = W)
    case atStart => exact ⟨rfl, rfl⟩
    case round =>
      obtain ⟨rfl, rfl⟩ := hrel
      go_wp2
      go_end0
      exact ⟨rfl, rfl⟩
  have KP : ∀ (l : Int) (W : World), Calls Try.prog 81 #[.slice none 0 0, .int .i64 0, .int .i64 0, .int .i64 l] W fun e w' => e = .returned (.tuple #[]) ∧ w' = W := fun l W => by
    have K := KI W
    go_enter Try.func81, Try.ntmps81
    go_wp2_with fail
    go_loopg [1, 2, 3, 8, 9] 0 (fun kx sa sb sl s8 s9 wr => sa = .int .i64 0 ∧ sb = .int .i64 0 ∧ wr = W)
    case atStart => exact ⟨rfl, rfl, rfl⟩
    case round =>
      obtain ⟨rfl, rfl, rfl⟩ := hrel
      go_wp2_with fail
      refine K.mono ?_
      rintro e w' ⟨rfl, rfl⟩
      clear K
      go_wp2_with fail
      refine bodyPost_ret (results_none rfl _ _ _) rfl ?_
      exact ⟨rfl, rfl⟩
  go_enter Try.func72, Try.ntmps72
  go_wp2_with fail
  refine K1.mono ?_
  rintro e w' ⟨⟨l, rfl⟩, rfl⟩
  have K2 := KP l w'
  clear K1 KP KI
  go_wp2_with fail
  refine K2.mono ?_
  rintro e w1 ⟨rfl, rfl⟩
  clear K2
  go_wp2_with fail
  go_end0
  exact ⟨rfl, rfl⟩

theorem infoW64 : (Try.prog.info? 29).map (fun i => (i.zero, i.size, i.bytes)) = some (some (.int .u64 0), 1, 8) := by kernel_rfl

/-- the prefixes of level lv's nodes, in memory of the call's own -/
def PrefAt (w : World) (L : DL) (lv : Int) (e : Ending) (w' : World) : Prop :=
  ∃ (xs : DL) (us : List UInt64), (∀ p, p ∈ xs ↔ p ∈ L) ∧ xs.Nodup ∧ us.Perm (preL lv xs) ∧ Below w.heap.size w w' ∧
    ((us = [] ∧ e = .returned (.slice none 0 0)) ∨ ∃ g c, e = .returned (.slice (some ⟨g, 0, none⟩) us.length c) ∧ us.length ≤ c ∧ w.heap.size ≤ g ∧ g < w'.heap.size ∧ RowU w' g us)

set_option maxHeartbeats 4000000 in
theorem prefixes_at {w : World} {p b : Nat} {L : DL} (lv : Int) (c2 : w.cell? ⟨p, 2, none⟩ = some (.map (some b))) (hM : PAt w b L) (hl : L.length ≤ 100000) :
    Calls Try.prog 59 #[.pointer (some ⟨p, 0, none⟩), .int .i64 lv] w (PrefAt w L lv) := by
  have hb := hM.lt
  have HM := Lib.hid hM
  have HL := Lib.hid hl
  have hown : w.ownsMap Try.prog 67 (plainElem Try.prog 3) b L.length (mapP L) := hM.own
  clear hM hl
  go_enter Try.func59, Try.ntmps59
  go_wp2_with (first
    | (at_range; refine wpList_range_own _ rfl _ 60 rfl 67 3 KP Try.underlying60 (plainElem Try.prog 3) b L.length _ rfl hown ?_; intro w1 hrg1 hg1 hs1)
    | fail)
  go_frame
  obtain ⟨r, hr⟩ : ∃ r, w.heap.size = r := ⟨_, rfl⟩
  rw [hr] at hrg1 ⊢
  have B1 : Hid (Below w.heap.size w w1) := (Below.refl _ w).grown hg1 (Nat.le_refl _) (fun j hj => by cases hj)
  have O1 : w1.ownsRow w.heap.size 29 1 (.slice none 0 0) (preL lv []).length (u64s (preL lv [])) := World.ownsRow_nil _ _ _ _
  have HG0 := Lib.hid (GathP.start HM.out.allIn)
  have HR := Lib.hid hr
  have HX := Lib.hid (And.intro hrg1 O1)
  clear hr hg1 hs1 hrg1 O1 hown c2
  go_loopw [5] (fun v wr => ∃ (left : Lit → Bool) (cn : Nat) (xs : DL) (vv : Value), v = vv ∧ Hid (wr.ranges Try.prog 67 (plainElem Try.prog 3) b r L.length (mapP L) left cn) ∧ Hid (wr.ownsRow w.heap.size 29 1 vv (preL lv xs).length (u64s (preL lv xs))) ∧ Hid (Below w.heap.size w wr) ∧ Hid (GathP L xs left))
    (fun _ wr => wr.rangeLeft b r)
  case atStart => exact ⟨_, _, [], _, rfl, HX.out.1, HX.out.2, B1, HG0⟩
  case round =>
    clear HX B1 HG0
    obtain ⟨left, cn, xs, vv, rfl, Hrg, Hown, HB, HG⟩ := hrel
    have hrg := Hrg.out
    go_wp2_with (first
      | (at_next; refine wpList_next_places HM.out.allIn rfl _ rfl b r L.length _ _ rfl hrg ?_ ?_)
      | fail)
    · intro _ hl0
      have HE0 := Lib.hid (HG.out.end hl0)
      rcases Hown.out.2 with ⟨e, hx⟩ | ⟨g, cap, cur, e, _, _, hcl, _⟩
      · have K := sort_nilW wr
        have hu : preL lv xs = [] := by simpa [u64s] using hx
        have HU := Lib.hid hu
        clear hl0 hrg hx hu
        subst e
        go_wp2_with fail
        refine K.mono ?_
        rintro e w3 ⟨rfl, rfl⟩
        clear K
        go_wp2_with fail
        go_ret
        exact ⟨xs, [], HE0.out, HG.out.nodup, by rw [HU.out], HB.out, .inl ⟨rfl, rfl⟩⟩
      · subst e
        have hlt := Hown.out.lt g rfl
        have K := sort_words (c := cap) (rowU_of_owns Hown.out) hlt.2 (by have := HG.out.len; have := HL.out; have := preL_len lv xs; omega)
        have HC := Lib.hid (And.intro hcl hlt.1)
        clear hl0 hrg hcl hlt
        go_wp2_with fail
        refine K.mono ?_
        rintro e w3 ⟨rfl, us, hp, hR, hg3, hgr⟩
        have HE : Hid (PrefAt w L lv (.returned (.slice (some ⟨g, 0, none⟩) (preL lv xs).length cap)) w3) := by
          refine ⟨xs, us, HE0.out, HG.out.nodup, hp, HB.out.grown hgr HB.out.size (fun j hj => by cases hj; exact HC.out.2), .inr ⟨g, cap, by rw [hp.length_eq], by rw [hp.length_eq]; exact HC.out.1, HC.out.2, hg3, hR⟩⟩
        clear K hR hgr hp hg3
        go_wp2_with fail
        go_ret
        exact HE.out
    · intro id y w2 cn2 hm hlx hrg2 hlt hg2 hs2 hen
      have G2 := Lib.hid (HG.out.step HM.out.asc HM.out.allIn hm hlx)
      obtain ⟨a, ha⟩ : ∃ a : Int, a = ((id / 18446744073709551616 : Nat) : Int) := ⟨_, rfl⟩
      obtain ⟨u, hu⟩ : ∃ u : Int, u = ((id % 18446744073709551616 : Nat) : Int) := ⟨_, rfl⟩
      have ek : kV id = .agg #[.int .i64 a, .int .u64 u] := by rw [ha, hu]; rfl
      rw [ek] at hen ⊢
      have hne : some r ≠ u5.ownBlock := row_ne_iter Hown.out hrg
      have hown2 : w2.ownsRow w.heap.size 29 1 u5 (preL lv xs).length (u64s (preL lv xs)) := Hown.out.kept hg2 (.inr (fun e => hne e.symm))
      have B2 : Hid (Below w.heap.size w w2) := HB.out.grown hg2 HB.out.size (fun j hj => by cases hj; rw [HR.out]; exact Nat.le_refl _)
      have hownA := hown2.alloc (.cells #[.int .i64 a, .int .u64 u] 67)
      have BA : Hid (Below w.heap.size w (w2.alloc (.cells #[.int .i64 a, .int .u64 u] 67))) := B2.out.alloc B2.out.size _
      have hrgA := hrg2.alloc (.cells #[.int .i64 a, .int .u64 u] 67)
      have hsn := preL_snoc lv xs id y
      rw [← ha] at hsn
      have HLT := Lib.hid (And.intro hlt (And.intro hrgA.left_eq Hrg.out.left_eq))
      by_cases hal : a = lv
      · rw [if_pos hal] at hsn
        have alb : (a == lv) = true := by simpa using hal
        have hownC := hownA.alloc (.cells #[.int .u64 u] 29)
        have BC : Hid (Below w.heap.size w ((w2.alloc (.cells #[.int .i64 a, .int .u64 u] 67)).alloc (.cells #[.int .u64 u] 29))) := BA.out.alloc BA.out.size _
        have hrgC := hrgA.alloc (.cells #[.int .u64 u] 29)
        obtain ⟨W1, hW1⟩ : ∃ W1, w2.alloc (.cells #[.int .i64 a, .int .u64 u] 67) = W1 := ⟨_, rfl⟩
        have hszA : W1.heap.size = wr.heap.size + 1 := by rw [← hW1, World.size_alloc, hs2]
        rw [hW1] at hownC BC hrgC
        have hHold : Holds (W1.alloc (.cells #[.int .u64 u] 29)) (.slice (some ⟨W1.heap.size, 0, none⟩) 1 1) [.int .u64 u] := ⟨_, _, rfl, Nat.le_refl _, .inr ⟨_, rfl, fun j u' hj => by
          rw [Addr.add_at, Nat.zero_add, cell_of_row _ _ _ _ _ _ (heap_alloc_new W1 _)]
          simpa using hj⟩⟩
        obtain ⟨v', w3, hrun, hown3, hgr3, hv3⟩ := app_any (P := Try.prog) (t := 43) Try.underlying43 infoW64 (Nat.le_refl _) rfl (by rw [u64s_len]; exact hownC) BC.out.size hHold (fun u' hu' => by simp at hu'; subst hu'; rfl) (by rw [u64s_len]; have := HG.out.len; have := HL.out; have := preL_len lv xs; simp; omega)
        rw [hszA] at hrun
        have hE : u64s (preL lv xs) ++ [Value.int .u64 u] = u64s (preL lv (xs ++ [(id, y)])) := by
          rw [hsn, u64s_append]
          congr 1
          show _ = [Value.int .u64 _]
          rw [word_of, hu]
        rw [hE, u64s_len] at hown3
        have hlow : some b ≠ u5.ownBlock := row_ne_low hownC hb
        have RG3 := Lib.hid (hrgC.kept hgr3 hlow (row_ne_iter hownC hrgC))
        have B3 : Hid (Below w.heap.size w w3) := BC.out.grown hgr3 BC.out.size (fun j hj => (hownC.lt j hj).1)
        have O3 := Lib.hid hown3
        have HLT := Lib.hid (And.intro hlt (And.intro RG3.out.left_eq Hrg.out.left_eq))
        have HRUN := Lib.hid hrun
        have HW1 := Lib.hid hW1
        have c0 : W1.cell? ⟨wr.heap.size, 0, none⟩ = some (.int .i64 a) := by rw [← hW1, ← hs2, cell_of_row _ _ _ _ _ _ (heap_alloc_new w2 _)]; rfl
        have c1 : W1.cell? ⟨wr.heap.size, 1, none⟩ = some (.int .u64 u) := by rw [← hW1, ← hs2, cell_of_row _ _ _ _ _ _ (heap_alloc_new w2 _)]; rfl
        subst hal
        clear hm hlx hrg2 hlt hg2 hne hown2 hownA hownC hrgA hrgC hown3 hgr3 hv3 hlow hrg hrun ha hu ek hsn hE hHold
        go_wp2_with (first
          | (at_builtin; refine wpList_append_run rfl _ _ 43 rfl rfl rfl (HRUN.out _) ?_)
          | fail)
        go_roundw
        case rel => exact ⟨_, cn2, xs ++ [(id, y)], _, rfl, RG3, O3, B3, G2⟩
        case measure => rw [HLT.out.2.1, HLT.out.2.2]; exact HLT.out.1
      · rw [if_neg hal, List.append_nil] at hsn
        have alb : (a == lv) = false := by simpa using hal
        have O3 := Lib.hid (hsn ▸ hownA)
        have RG3 := Lib.hid hrgA
        clear hm hlx hrg2 hlt hg2 hne hown2 hownA hrgA hrg ha hu ek hsn
        go_wp2_with fail
        go_roundw
        case rel => exact ⟨_, cn2, xs ++ [(id, y)], _, rfl, RG3, O3, BA, G2⟩
        case measure => rw [HLT.out.2.1, HLT.out.2.2]; exact HLT.out.1
end Go.Proofs.Ytahaoodklfmddaa
/- Plain mathematics of lifting a digest's nodes: what stays, what grows less. Conditions: as stated. -/
set_option maxRecDepth 100000
namespace Go.Proofs.Ytahaoodklfmddaa
open Go.RowKit Go.Maps Go.Sort

/-- the code of a level and a prefix -/
def cd (l u : Nat) : Nat := l * 18446744073709551616 + u
def upC (c : Nat) : Nat := cd (c / 18446744073709551616 + 1) (c % 18446744073709551616 / 2)
def sibC (c : Nat) : Nat := cd (c / 18446744073709551616) (c % 18446744073709551616 ^^^ 1)
theorem xor_one_lt {u : Nat} (h : u < 18446744073709551616) : u ^^^ 1 < 18446744073709551616 := Nat.xor_lt_two_pow (n := 64) h (by decide)
theorem xor_one_half (u : Nat) : (u ^^^ 1) / 2 = u / 2 := by
  have := Nat.xor_div_two (a := u) (b := 1)
  simpa using this
theorem cd_lev {l u : Nat} (h : u < 18446744073709551616) : cd l u / 18446744073709551616 = l ∧ cd l u % 18446744073709551616 = u := by
  unfold cd
  omega
theorem cd_self (c : Nat) : cd (c / 18446744073709551616) (c % 18446744073709551616) = c := by
  unfold cd
  omega
theorem sib_lev (c : Nat) : sibC c / 18446744073709551616 = c / 18446744073709551616 ∧ sibC c % 18446744073709551616 = c % 18446744073709551616 ^^^ 1 := cd_lev (xor_one_lt (by omega))
theorem up_lev (c : Nat) : upC c / 18446744073709551616 = c / 18446744073709551616 + 1 ∧ upC c % 18446744073709551616 = c % 18446744073709551616 / 2 := cd_lev (by omega)
theorem up_ne (c : Nat) : upC c ≠ c := fun e => by
  have := (up_lev c).1
  rw [e] at this
  omega
theorem up_ne_sib (c : Nat) : upC c ≠ sibC c := fun e => by
  have h1 := (up_lev c).1
  have h2 := (sib_lev c).1
  rw [e] at h1
  omega
theorem sib_ne (c : Nat) : sibC c ≠ c := fun e => by
  have h := (sib_lev c).2
  rw [e] at h
  have h2 : (c % 18446744073709551616) ^^^ (c % 18446744073709551616 ^^^ 1) = 1 := by rw [← Nat.xor_assoc, Nat.xor_self, Nat.zero_xor]
  rw [← h, Nat.xor_self] at h2
  cases h2
theorem up_sib (c : Nat) : upC (sibC c) = upC c := by
  unfold upC
  rw [(sib_lev c).1, (sib_lev c).2, xor_one_half]

/-- what a node and its sibling and parent count -/
def allC (L : DL) (c : Nat) : Int := dcnt L c + dcnt L (sibC c) + dcnt L (upC c)
/-- lifted -/
def liftL (L : DL) (c : Nat) : DL := delD (sibC c) (delD c (putD (upC c) (allC L c) L))

theorem csum_delD (f : Nat → Bool) {L : DL} (hA : DAsc L) (x : Nat) : csum f (delD x L) = csum f L - (if f x then dcnt L x else 0) := by
  induction L with
  | nil => simp [delD, csum, dcnt]
  | cons p r ih =>
    have ih := ih (dasc_tail hA)
    have h1 := dasc_head hA
    unfold delD at ih ⊢
    by_cases e : p.1 = x
    · have e0 : dcnt r x = 0 := dcnt_none fun q hq => by have := h1 q hq; omega
      rw [List.filter_cons_of_neg (by simp [e]), ih, e0]
      have e1 : dcnt (p :: r) x = p.2 := by show (if p.1 = x then p.2 else _) = _; rw [if_pos e]
      rw [e1]
      show _ = (if f p.1 then p.2 else 0) + csum f r - _
      rw [e]
      split <;> omega
    · rw [List.filter_cons_of_pos (by simp [e])]
      show (if f p.1 then p.2 else 0) + csum f _ = (if f p.1 then p.2 else 0) + csum f r - _
      rw [ih]
      have e1 : dcnt (p :: r) x = dcnt r x := by show (if p.1 = x then p.2 else _) = _; rw [if_neg e]
      rw [e1]
      omega
/-- how far there is to the top -/
def wgt (c : Nat) : Int := 65 - ((c / 18446744073709551616 : Nat) : Int)
def meas : DL → Int
  | [] => 0
  | p :: r => wgt p.1 + meas r
theorem meas_delD {L : DL} (hA : DAsc L) (x : Nat) : meas (delD x L) = meas L - (if ∃ q ∈ L, q.1 = x then wgt x else 0) := by
  induction L with
  | nil => simp [delD, meas]
  | cons p r ih =>
    have ih := ih (dasc_tail hA)
    have h1 := dasc_head hA
    unfold delD at ih ⊢
    by_cases e : p.1 = x
    · have e0 : ¬ ∃ q ∈ r, q.1 = x := fun ⟨q, hq, e'⟩ => by have := h1 q hq; omega
      rw [List.filter_cons_of_neg (by simp [e]), ih, if_neg e0, if_pos ⟨p, List.mem_cons_self .., e⟩]
      show _ = wgt p.1 + meas r - wgt x
      rw [e]; omega
    · rw [List.filter_cons_of_pos (by simp [e])]
      show wgt p.1 + meas _ = wgt p.1 + meas r - _
      rw [ih]
      by_cases g : ∃ q ∈ r, q.1 = x
      · rw [if_pos g, if_pos (by obtain ⟨q, hq, e'⟩ := g; exact ⟨q, List.mem_cons_of_mem _ hq, e'⟩)]; omega
      · rw [if_neg g, if_neg (by
          rintro ⟨q, hq, e'⟩
          rcases List.mem_cons.1 hq with rfl | hq
          · exact e e'
          · exact g ⟨q, hq, e'⟩)]
        omega
theorem meas_putD {L : DL} (hA : DAsc L) (x : Nat) (c : Int) : meas (putD x c L) = meas L + (if ∃ q ∈ L, q.1 = x then 0 else wgt x) := by
  induction L with
  | nil => simp [putD, meas]
  | cons p r ih =>
    have ih := ih (dasc_tail hA)
    have h1 := dasc_head hA
    unfold putD
    by_cases e1 : x < p.1
    · rw [if_pos e1, if_neg (by
        rintro ⟨q, hq, e'⟩
        rcases List.mem_cons.1 hq with rfl | hq
        · omega
        · have := h1 q hq; omega)]
      show wgt x + (wgt p.1 + meas r) = wgt p.1 + meas r + wgt x
      omega
    · rw [if_neg e1]
      by_cases e2 : p.1 = x
      · rw [if_pos e2, if_pos ⟨p, List.mem_cons_self .., e2⟩]
        show wgt x + meas r = wgt p.1 + meas r + 0
        rw [e2]; omega
      · rw [if_neg e2]
        show wgt p.1 + meas (putD x c r) = wgt p.1 + meas r + _
        rw [ih]
        by_cases g : ∃ q ∈ r, q.1 = x
        · rw [if_pos g, if_pos (by obtain ⟨q, hq, e'⟩ := g; exact ⟨q, List.mem_cons_of_mem _ hq, e'⟩)]; omega
        · rw [if_neg g, if_neg (by
            rintro ⟨q, hq, e'⟩
            rcases List.mem_cons.1 hq with rfl | hq
            · exact e2 e'
            · exact g ⟨q, hq, e'⟩)]
          omega
theorem mem_delD {L : DL} {x : Nat} {q : Nat × Int} : q ∈ delD x L ↔ q ∈ L ∧ q.1 ≠ x := by
  unfold delD
  rw [List.mem_filter]
  simp
theorem has_putD {L : DL} (x y : Nat) (c : Int) : (∃ q ∈ putD x c L, q.1 = y) ↔ (y = x ∨ ∃ q ∈ L, q.1 = y) := by
  induction L with
  | nil => simp [putD, eq_comm]
  | cons p r ih =>
    unfold putD
    split
    · simp [eq_comm]
    · split
      · rename_i g1 g2
        constructor
        · rintro ⟨q, hq, e⟩
          rcases List.mem_cons.1 hq with rfl | hq
          · exact .inl e.symm
          · exact .inr ⟨q, List.mem_cons_of_mem _ hq, e⟩
        · rintro (e | ⟨q, hq, e⟩)
          · exact ⟨(x, c), List.mem_cons_self .., e.symm⟩
          · rcases List.mem_cons.1 hq with rfl | hq
            · exact ⟨(x, c), List.mem_cons_self .., by show x = y; omega⟩
            · exact ⟨q, List.mem_cons_of_mem _ hq, e⟩
      · constructor
        · rintro ⟨q, hq, e⟩
          rcases List.mem_cons.1 hq with rfl | hq
          · exact .inr ⟨q, List.mem_cons_self .., e⟩
          · rcases ih.1 ⟨q, hq, e⟩ with e' | ⟨q', hq', e'⟩
            · exact .inl e'
            · exact .inr ⟨q', List.mem_cons_of_mem _ hq', e'⟩
        · rintro (e | ⟨q, hq, e⟩)
          · obtain ⟨q', hq', e'⟩ := ih.2 (.inl e)
            exact ⟨q', List.mem_cons_of_mem _ hq', e'⟩
          · rcases List.mem_cons.1 hq with rfl | hq
            · exact ⟨q, List.mem_cons_self .., e⟩
            · obtain ⟨q', hq', e'⟩ := ih.2 (.inr ⟨q, hq, e⟩)
              exact ⟨q', List.mem_cons_of_mem _ hq', e'⟩

/-- what holds of the nodes of a digest of n numbers -/
structure DInv (n : Nat) (L : DL) : Prop where
  asc : DAsc L
  pos : ∀ q ∈ L, 1 ≤ q.2
  sum : total L = n
/-- a code of a node: its level, its prefix -/
def LowC (c : Nat) : Prop := c / 18446744073709551616 ≤ 64 ∧ c % 18446744073709551616 < 2 ^ (64 - c / 18446744073709551616)
theorem dcnt_nonneg {L : DL} (hp : ∀ q ∈ L, 1 ≤ q.2) (x : Nat) : 0 ≤ dcnt L x := by
  by_cases e : dcnt L x = 0
  · omega
  · have := hp _ (mem_of_dcnt e); simp only at this; omega
theorem dcnt_has {L : DL} (hA : DAsc L) (hp : ∀ q ∈ L, 1 ≤ q.2) {x : Nat} (h : ∃ q ∈ L, q.1 = x) : 1 ≤ dcnt L x := by
  obtain ⟨⟨a, b⟩, hq, e⟩ := h
  simp only at e
  subst e
  rw [dcnt_mem hA hq]
  exact hp _ hq
theorem csum_le_total (f : Nat → Bool) : ∀ {L : DL}, (∀ q ∈ L, 1 ≤ q.2) → csum f L ≤ total L
  | [], _ => Int.le_refl _
  | p :: r, h => by
    have ih := csum_le_total f (L := r) fun q hq => h q (List.mem_cons_of_mem _ hq)
    have := h p (List.mem_cons_self ..)
    show (if f p.1 then p.2 else 0) + csum f r ≤ p.2 + total r
    split <;> omega
theorem all_le {n : Nat} {L : DL} (h : DInv n L) (c : Nat) : 0 ≤ allC L c ∧ allC L c ≤ n := by
  have d := fun x => dcnt_nonneg h.pos x
  have h1 : DAsc (delD c L) := dasc_delD h.asc _
  have s1 := csum_delD (fun _ => true) h.asc c
  have s2 := csum_delD (fun _ => true) h1 (sibC c)
  have s3 := csum_delD (fun _ => true) (dasc_delD h1 (sibC c)) (upC c)
  rw [dcnt_delD h.asc, if_neg (sib_ne c)] at s2
  rw [dcnt_delD h1, if_neg (up_ne_sib c), dcnt_delD h.asc, if_neg (up_ne c)] at s3
  have p3 : 0 ≤ csum (fun _ => true) (delD (upC c) (delD (sibC c) (delD c L))) := csum_nonneg _ fun q hq => by
    have := (mem_delD.1 (mem_delD.1 (mem_delD.1 hq).1).1).1
    exact h.pos q this
  have hs := h.sum
  unfold total at hs
  simp only [if_true] at s1 s2 s3
  unfold allC
  have := d c; have := d (sibC c); have := d (upC c)
  omega
theorem lift_has {L : DL} (c y : Nat) : (∃ q ∈ liftL L c, q.1 = y) ↔ ((y = upC c ∨ ∃ q ∈ L, q.1 = y) ∧ y ≠ c ∧ y ≠ sibC c) := by
  unfold liftL
  constructor
  · rintro ⟨q, hq, e⟩
    obtain ⟨h1, h2⟩ := mem_delD.1 hq
    obtain ⟨h3, h4⟩ := mem_delD.1 h1
    subst e
    exact ⟨(has_putD _ _ _).1 ⟨q, h3, rfl⟩, h4, h2⟩
  · rintro ⟨h, h1, h2⟩
    obtain ⟨q, hq, e⟩ := (has_putD (upC c) y (allC L c)).2 h
    exact ⟨q, mem_delD.2 ⟨mem_delD.2 ⟨hq, by rw [e]; exact h1⟩, by rw [e]; exact h2⟩, e⟩
theorem lift_sum (f : Nat → Bool) {L : DL} (hA : DAsc L) (c : Nat) : csum f (liftL L c) = csum f L + (if f (upC c) then allC L c - dcnt L (upC c) else 0) - (if f c then dcnt L c else 0) - (if f (sibC c) then dcnt L (sibC c) else 0) := by
  unfold liftL
  have h1 := dasc_putD hA (upC c) (allC L c)
  have e1 : dcnt (delD c (putD (upC c) (allC L c) L)) (sibC c) = dcnt L (sibC c) := by
    rw [dcnt_delD h1, if_neg (sib_ne c), dcnt_putD hA, if_neg (fun e => up_ne_sib c e.symm)]
  have e2 : dcnt (putD (upC c) (allC L c) L) c = dcnt L c := by rw [dcnt_putD hA, if_neg (fun e => up_ne c e.symm)]
  rw [csum_delD f (dasc_delD h1 c), csum_delD f h1, csum_putD f hA, e1, e2]
theorem lift_inv {n : Nat} {L : DL} (h : DInv n L) {c : Nat} (hc : (∃ q ∈ L, q.1 = c) ∨ ∃ q ∈ L, q.1 = upC c) : DInv n (liftL L c) where
  asc := dasc_delD (dasc_delD (dasc_putD h.asc _ _) _) _
  pos := fun q hq => by
    have h1 := (mem_delD.1 (mem_delD.1 hq).1).1
    rcases putD_sub h1 with rfl | h1
    · show 1 ≤ allC L c
      unfold allC
      have a1 := dcnt_nonneg h.pos c
      have a2 := dcnt_nonneg h.pos (sibC c)
      have a3 := dcnt_nonneg h.pos (upC c)
      rcases hc with hc | hc
      · have := dcnt_has h.asc h.pos hc; omega
      · have := dcnt_has h.asc h.pos hc; omega
    · exact h.pos q h1
  sum := by
    have := lift_sum (fun _ => true) h.asc c
    unfold total
    rw [this]
    have hs := h.sum
    unfold total at hs
    simp only [if_true]
    unfold allC
    omega
theorem lift_codes {L : DL} (h : ∀ q ∈ L, LowC q.1) {c : Nat} (hc : c / 18446744073709551616 ≤ 63) (hl : LowC c) : ∀ q ∈ liftL L c, LowC q.1 := fun q hq => by
  have h1 := (mem_delD.1 (mem_delD.1 hq).1).1
  rcases putD_sub h1 with rfl | h1
  · show LowC (upC c)
    unfold LowC
    rw [(up_lev c).1, (up_lev c).2]
    refine ⟨by omega, ?_⟩
    have e : 64 - c / 18446744073709551616 = (64 - (c / 18446744073709551616 + 1)) + 1 := by omega
    have := hl.2
    rw [e, Nat.pow_succ] at this
    omega
  · exact h q h1
theorem wgt_pos {c : Nat} (h : c / 18446744073709551616 ≤ 64) : 1 ≤ wgt c := by unfold wgt; omega
theorem meas_nonneg : ∀ {L : DL}, (∀ q ∈ L, LowC q.1) → 0 ≤ meas L
  | [], _ => by simp [meas]
  | p :: r, h => by
    have ih := meas_nonneg (L := r) fun q hq => h q (List.mem_cons_of_mem _ hq)
    have := wgt_pos (h p (List.mem_cons_self ..)).1
    show 0 ≤ wgt p.1 + meas r
    omega
theorem meas_del_le {L : DL} (hA : DAsc L) (x : Nat) (hx : x / 18446744073709551616 ≤ 64) : meas (delD x L) ≤ meas L := by
  rw [meas_delD hA]
  have := wgt_pos hx
  split <;> omega
/-- a lift does not raise the measure; a real one lessens it -/
theorem lift_meas {L : DL} (hA : DAsc L) {c : Nat} (hc : c / 18446744073709551616 ≤ 63) :
    ((∃ q ∈ L, q.1 = upC c) → meas (liftL L c) ≤ meas L) ∧ ((∃ q ∈ L, q.1 = c) → meas (liftL L c) < meas L) := by
  have h1 := dasc_putD hA (upC c) (allC L c)
  have m1 := meas_putD hA (upC c) (allC L c)
  have m2 := meas_delD h1 c
  have m3 := meas_del_le (dasc_delD h1 c) (sibC c) (by rw [(sib_lev c).1]; omega)
  have m4 := meas_del_le h1 c (by omega)
  have w1 : wgt (upC c) = wgt c - 1 := by unfold wgt; rw [(up_lev c).1]; omega
  constructor
  · intro h
    rw [if_pos h] at m1
    show meas (delD (sibC c) (delD c _)) ≤ _
    omega
  · intro h
    rw [if_pos ((has_putD _ _ _).2 (.inr h))] at m2
    have : meas (putD (upC c) (allC L c) L) ≤ meas L + wgt c - 1 := by
      rw [m1]
      have := wgt_pos (c := upC c) (by rw [(up_lev c).1]; omega)
      split <;> omega
    show meas (delD (sibC c) (delD c _)) < _
    omega
end Go.Proofs.Ytahaoodklfmddaa
/- Contract of digest's lift: counts given to the parent, where they are few. Conditions: a digest that was made. -/
set_option maxRecDepth 100000
namespace Go.Proofs.Ytahaoodklfmddaa
open Go.RowKit Go.Maps Go.Sort Go.Shelf

theorem kV_at (c : Nat) : kV c = .agg #[.int .i64 ((c / 18446744073709551616 : Nat) : Int), .int .u64 ((c % 18446744073709551616 : Nat) : Int)] := rfl

/-- a deletion from a map as one step of a region that draws, its run being known -/
theorem step_deleteD {P : Program} {ops : Array Oper} {o : Oper} {a : Act} {w w' : World} {K : Act → World → Prop} {Q : Exit → Act → World → Prop} {E : Prop} {mv kv v' : Value}
    (hg : o.guard = none) (m x : Operand) (t k : TypeId) (hop : o.op = Op.call { callee := Callee.builtin Builtin.delete, args := #[m, x], argTypes := #[t, k] }) (hm : a.eval m = mv) (hx : a.eval x = kv)
    (hrun : (Builtin.delete_ #[t, k] o.type #[mv, kv]).run P w = .ok v' w') (hK : K (a.put o.dst v') w') :
    if Region.wanted o (yielded ops a.tmps) = true then Oper.wp P o a w K Q else E := by
  have hw : Region.wanted o (yielded ops a.tmps) = true := by simp [Region.wanted, hg]
  rw [if_pos hw]
  unfold Oper.wp
  simp [execOp, hop, resolve, invoke, builtin, hm, hx, hrun, Result.andThen]
  exact hK

set_option maxHeartbeats 4000000 in
theorem lift_at {T : Tags} {i : Nat} {w : World} {p k b : Nat} {n most : Int} {L : DL} (h : DkAt T i w p k n b L) {c : Nat} (hc : KIn c) (hcl : c / 18446744073709551616 ≤ 63) (h1 : InI (dcnt L c + dcnt L (sibC c))) (h2 : InI (allC L c)) (hl : L.length < maxLen) :
    Calls Try.prog 60 #[.pointer (some ⟨p, 0, none⟩), kV c, .int .i64 most] w fun e w' =>
      (most < allC L c ∧ e = .returned (.bool false) ∧ Hid (Goes T i w (Dl p k n L) w')) ∨ (allC L c ≤ most ∧ e = .returned (.bool true) ∧ Hid (Goes T i w (Dl p k n (liftL L c)) w')) := by
  obtain ⟨a, ha⟩ : ∃ a : Int, a = ((c / 18446744073709551616 : Nat) : Int) := ⟨_, rfl⟩
  obtain ⟨u, hu⟩ : ∃ u : Nat, u = c % 18446744073709551616 := ⟨_, rfl⟩
  have hul : u < 18446744073709551616 := by omega
  have ec : kV c = .agg #[.int .i64 a, .int .u64 (u : Int)] := by rw [ha, hu]; rfl
  have es : kV (sibC c) = .agg #[.int .i64 a, .int .u64 ((u ^^^ 1 : Nat) : Int)] := by rw [kV_at, (sib_lev c).1, (sib_lev c).2, ha, hu]
  have eu : kV (upC c) = .agg #[.int .i64 (a + 1), .int .u64 ((u : Int) / 2)] := by
    rw [kV_at, (up_lev c).1, (up_lev c).2, ha, hu]
    simp
  have hcs : KIn (sibC c) := by
    have := (sib_lev c).1
    have h3 := cd_self (sibC c)
    unfold KIn cd at *
    omega
  have hcu : KIn (upC c) := by
    have := (up_lev c).1
    have h3 := cd_self (upC c)
    unfold KIn cd at *
    omega
  obtain ⟨G, hG⟩ : ∃ G, w.heap.size = G := ⟨_, rfl⟩
  obtain ⟨W0, hW0⟩ : ∃ W0, w.alloc (.cells #[.int .i64 a, .int .u64 (u : Int)] 67) = W0 := ⟨_, rfl⟩
  have KPar := parent_any (a := a) (u := (u : Int)) (by omega) (by omega) W0
  have KSib := Lib.hid (fun W => sibling_any (a := a) hul W)
  have hb0 : Below w.heap.size w W0 := by rw [← hW0]; exact (Below.refl _ w).alloc (Nat.le_refl _) _
  have d0 : W0.cell? ⟨G, 0, none⟩ = some (.int .i64 a) := by rw [← hW0, ← hG, cell_of_row _ _ _ _ _ _ (heap_alloc_new w _)]; rfl
  have d1 : W0.cell? ⟨G, 1, none⟩ = some (.int .u64 (u : Int)) := by rw [← hW0, ← hG, cell_of_row _ _ _ _ _ _ (heap_alloc_new w _)]; rfl
  rw [ec]
  have HD := Lib.hid h
  have HE := Lib.hid (And.intro ec (And.intro es eu))
  have HK := Lib.hid (And.intro hc (And.intro hcs hcu))
  have HN := Lib.hid (And.intro h1 (And.intro h2 hl))
  have HB0 := Lib.hid hb0
  clear h h1 h2 hl ha hu hul ec es eu hc hcs hcu hcl hb0
  go_enter Try.func60, Try.ntmps60
  go_wp2_with fail
  refine KPar.mono ?_
  rintro e w1 ⟨rfl, os1, rfl⟩
  have HGb := Lib.hid (show b < G by have := HD.out.map.lt; omega)
  clear KPar hG hW0
  obtain ⟨G1, hG1⟩ : ∃ G1, (grow W0 os1).heap.size = G1 := ⟨_, rfl⟩
  obtain ⟨W1, hW1⟩ : ∃ W1, (grow W0 os1).alloc (.cells #[.int .i64 (a + 1), .int .u64 ((u : Int) / 2)] 67) = W1 := ⟨_, rfl⟩
  have hb1 : Below W0.heap.size W0 W1 := by rw [← hW1]; exact (Grew.below ⟨0, os1, rfl⟩).alloc (by rw [size_grow]; exact Nat.le_add_right _ _) _
  have e0 : W1.cell? ⟨G, 0, none⟩ = some (.int .i64 a) := by rw [hb1.cell (lt_of_cell d0)]; exact d0
  have e1 : W1.cell? ⟨G, 1, none⟩ = some (.int .u64 (u : Int)) := by rw [hb1.cell (lt_of_cell d1)]; exact d1
  have e2 : W1.cell? ⟨G1, 0, none⟩ = some (.int .i64 (a + 1)) := by rw [← hW1, ← hG1, cell_of_row _ _ _ _ _ _ (heap_alloc_new _ _)]; rfl
  have e3 : W1.cell? ⟨G1, 1, none⟩ = some (.int .u64 ((u : Int) / 2)) := by rw [← hW1, ← hG1, cell_of_row _ _ _ _ _ _ (heap_alloc_new _ _)]; rfl
  have hbw : Below w.heap.size w W1 := HB0.out.trans (hb1.mono HB0.out.size)
  obtain ⟨_, _, c2, _⟩ := HD.out.cells
  have e4 : W1.cell? ⟨p, 2, none⟩ = some (.map (some b)) := by rw [hbw.cell (lt_of_cell c2)]; exact c2
  have HBW := Lib.hid hbw
  have HG1b := Lib.hid (show b < G1 by have := HD.out.map.lt; have := HB0.out.size; rw [← hG1, size_grow]; omega)
  have E0 := Lib.hid e0
  have E1 := Lib.hid e1
  have E4 := Lib.hid e4
  clear d0 d1 c2 hb1 hbw e0 e1 e4 HB0
  have mixed : Try.prog.follows .mixedOrders = true := by kernel_rfl
  have hbig : p < W1.heap.size ∧ G < W1.heap.size ∧ G1 < W1.heap.size ∧ b < W1.heap.size := ⟨lt_of_cell E4.out, lt_of_cell E0.out, lt_of_cell e2, by have := HD.out.map.lt; have := HBW.out.size; omega⟩
  have M1 := Lib.hid (HD.out.map.of_block (HBW.out.block b HD.out.map.lt))
  have MG := Lib.hid (fun (n : Nat) (os : Array Obj) => M1.out.of_block (w' := grow (W1.drewN n) os) (heap_grow_old _ _ hbig.2.2.2))
  have f4 : ∀ n os, (grow (W1.drewN n) os).cell? ⟨p, 2, none⟩ = some (.map (some b)) := fun n os => by rw [cell?_grow _ _ _ (by exact hbig.1)]; exact E4.out
  have f0 : ∀ n os, (grow (W1.drewN n) os).cell? ⟨G, 0, none⟩ = some (.int .i64 a) := fun n os => by rw [cell?_grow _ _ _ (by exact hbig.2.1)]; exact E0.out
  have f1 : ∀ n os, (grow (W1.drewN n) os).cell? ⟨G, 1, none⟩ = some (.int .u64 (u : Int)) := fun n os => by rw [cell?_grow _ _ _ (by exact hbig.2.1)]; exact E1.out
  have f2 : ∀ n os, (grow (W1.drewN n) os).cell? ⟨G1, 0, none⟩ = some (.int .i64 (a + 1)) := fun n os => by rw [cell?_grow _ _ _ (by exact hbig.2.2.1)]; exact e2
  have f3 : ∀ n os, (grow (W1.drewN n) os).cell? ⟨G1, 1, none⟩ = some (.int .u64 ((u : Int) / 2)) := fun n os => by rw [cell?_grow _ _ _ (by exact hbig.2.2.1)]; exact e3
  obtain ⟨A, hA⟩ : ∃ A, dcnt L c = A := ⟨_, rfl⟩
  obtain ⟨B, hB⟩ : ∃ B, dcnt L (sibC c) = B := ⟨_, rfl⟩
  obtain ⟨C, hC⟩ : ∃ C, dcnt L (upC c) = C := ⟨_, rfl⟩
  have l0 : ∀ n os, Sem.run Try.prog (Instr.lookup 60 (.map (some b)) (.agg #[.int .i64 a, .int .u64 (u : Int)]) false) (grow (W1.drewN n) os) = .ok (.int .i64 A) (grow (W1.drewN n) os) := fun n os => by
    rw [← hA, ← HE.out.1]; exact (MG.out n os).lookup HK.out.1
  have l1 : ∀ n os, Sem.run Try.prog (Instr.lookup 60 (.map (some b)) (.agg #[.int .i64 a, .int .u64 ((u ^^^ 1 : Nat) : Int)]) false) (grow (W1.drewN n) os) = .ok (.int .i64 B) (grow (W1.drewN n) os) := fun n os => by
    rw [← hB, ← HE.out.2.1]; exact (MG.out n os).lookup HK.out.2.1
  have l2 : ∀ n os, Sem.run Try.prog (Instr.lookup 60 (.map (some b)) (.agg #[.int .i64 (a + 1), .int .u64 ((u : Int) / 2)]) false) (grow (W1.drewN n) os) = .ok (.int .i64 C) (grow (W1.drewN n) os) := fun n os => by
    rw [← hC, ← HE.out.2.2]; exact (MG.out n os).lookup HK.out.2.2
  have hAll : A + B + C = allC L c := by unfold allC; rw [hA, hB, hC]
  have wAB : IntKind.i64.wrap (A + B) = A + B := by have := HN.out.1; rw [hA, hB] at this; rw [IntKind.wrap_i64]; unfold InI at this; omega
  have wABC : IntKind.i64.wrap (A + B + C) = A + B + C := by have := HN.out.2.1; rw [← hAll] at this; rw [IntKind.wrap_i64]; unfold InI at this; omega
  have HAll := Lib.hid hAll
  obtain ⟨X, hX⟩ : ∃ X : Int, ((u ^^^ 1 : Nat) : Int) = X := ⟨_, rfl⟩
  have hcg : ∀ n os, Calls Try.prog 74 #[.agg #[.int .i64 a, .int .u64 (u : Int)]] (grow (W1.drewN n) os) fun e w' => e = .returned (.agg #[.int .i64 a, .int .u64 X]) ∧ ∃ q os', w' = grow ((grow (W1.drewN n) os).drewN q) os' := fun n os =>
    (KSib.out _).mono fun e w' ⟨q1, os', q2⟩ => ⟨by rw [q1, hX], 0, os', q2⟩
  rw [hX] at l1
  have HX := Lib.hid hX
  have HBIG := Lib.hid hbig
  clear hA hB hC hAll e2 e3 hX hbig
  go_wp2_with fail
  clear hW1 hG1
  go_quiet_grown (first | (go_at_call 74; refine Calls.grown_of (hcg _ _)))
  dsimp only
  have g0 := f0 nq osq
  have g1 := f1 nq osq
  have g2 := f2 nq osq
  have g3 := f3 nq osq
  have g4 := f4 nq osq
  have M2 := Lib.hid (MG.out nq osq)
  have B2 := Lib.hid (HBW.out.trans ((Grew.below ⟨nq, osq, rfl⟩ : Below W1.heap.size W1 (grow (W1.drewN nq) osq)).mono HBW.out.size))
  clear f0 f1 f2 f3 f4 l0 l1 l2 hcg MG E0 E1 E4
  generalize grow (W1.drewN nq) osq = wv at g0 g1 g2 g3 g4 M2 B2 ⊢
  clear nq osq HBW M1 HBIG
  obtain ⟨S, hS⟩ : ∃ S, A + B + C = S := ⟨_, rfl⟩
  rw [hS] at HAll ⊢
  clear wAB wABC hS
  by_cases hm : most < S
  · have HM := Lib.hid hm
    go_wp2_with fail
    refine bodyPost_ret (results_tmp rfl _ _ _) rfl ?_
    refine .inl ⟨by rw [← HAll.out]; exact HM.out, rfl, T, fun _ _ => rfl, Else.of_below B2.out, b, ?_, HD.out.tp, M2.out, HD.out.tb⟩
    rw [B2.out.block p (lt_of_heap HD.out.head)]
    exact HD.out.head
  · have HM := Lib.hid hm
    have hmz : ¬ most < S := hm
    obtain ⟨w3, r1, M3, t3⟩ := (M2.out.of_block (w' := wv.drew) rfl).update HK.out.2.2 HN.out.2.1 HN.out.2.2
    rw [HE.out.2.2] at r1
    rw [← HAll.out] at r1
    have RU : Sem.run Try.prog (Instr.mapUpdate 60 (.map (some b)) (.agg #[.int .i64 (a + 1), .int .u64 ((u : Int) / 2)]) (.int .i64 S)) wv.drew = .ok () w3 := r1
    have HM3 := Lib.hid M3
    have HT3 := Lib.hid t3
    have HP := Lib.hid (lt_of_cell g4)
    have k3 : ∀ r j, r ≠ b → r < wv.heap.size → w3.cell? ⟨r, j, none⟩ = wv.cell? ⟨r, j, none⟩ := fun r j hr hlt => World.cell?_of_block (w := wv.drew) (t3.grown.block r hlt (by simp [hr]))
    have hpb : p ≠ b := HD.out.ne
    have m4 : w3.cell? ⟨p, 2, none⟩ = some (.map (some b)) := by rw [k3 p 2 hpb (lt_of_cell g4)]; exact g4
    have m0 : w3.cell? ⟨G, 0, none⟩ = some (.int .i64 a) := by rw [k3 G 0 (by have := HGb.out; omega) (lt_of_cell g0)]; exact g0
    have m1 : w3.cell? ⟨G, 1, none⟩ = some (.int .u64 (u : Int)) := by rw [k3 G 1 (by have := HGb.out; omega) (lt_of_cell g1)]; exact g1
    obtain ⟨w4, r4, M4, t4⟩ := (M3.of_block (w' := w3.drew) rfl).drop HK.out.1 0
    rw [HE.out.1] at r4
    have k4 : ∀ r j, r ≠ b → r < w3.heap.size → w4.cell? ⟨r, j, none⟩ = w3.cell? ⟨r, j, none⟩ := fun r j hr hlt => World.cell?_of_block (w := w3.drew) (t4.grown.block r hlt (by simp [hr]))
    have n4 : w4.cell? ⟨p, 2, none⟩ = some (.map (some b)) := by rw [k4 p 2 hpb (lt_of_cell m4)]; exact m4
    have n0 : w4.cell? ⟨G, 0, none⟩ = some (.int .i64 a) := by rw [k4 G 0 (by have := HGb.out; omega) (lt_of_cell m0)]; exact m0
    have n1 : w4.cell? ⟨G, 1, none⟩ = some (.int .u64 (u : Int)) := by rw [k4 G 1 (by have := HGb.out; omega) (lt_of_cell m1)]; exact m1
    have el3 : Else (fun x => T x = some i) w w3 := ((Else.of_below (O := fun x => T x = some i) B2.out).drew).trans (Else.of_grown t3.grown) (fun x hx => .inl (by cases hx; exact HD.out.tb))
    have el4 : Else (fun x => T x = some i) w w4 := (el3.drew).trans (Else.of_grown t4.grown) (fun x hx => .inl (by cases hx; exact HD.out.tb))
    have hd4 : w4.heap[p]? = some (.cells #[.int .i64 k, .int .i64 n, .map (some b)] 62 (0, 0)) := by
      rw [t4.grown.block p (lt_of_cell m4) (by simp [hpb])]
      show w3.heap[p]? = _
      rw [t3.grown.block p (lt_of_cell g4) (by simp [hpb])]
      show wv.heap[p]? = _
      rw [B2.out.block p (lt_of_heap HD.out.head)]
      exact HD.out.head
    have FIN := Lib.hid (fun (W5 : World) (hb5 : Below w4.heap.size w4 W5) => show ∃ w6, (Builtin.delete_ #[60, 67] 0 #[.map (some b), .agg #[.int .i64 a, .int .u64 X]]).run Try.prog W5 = .ok (.tuple #[]) w6 ∧ Goes T i w (Dl p k n (liftL L c)) w6 from by
      obtain ⟨w6, r6, M6, t6⟩ := (M4.of_block (hb5.block b M4.lt)).drop HK.out.2.1 0
      rw [HE.out.2.1, HX.out] at r6
      refine ⟨w6, r6, T, fun _ _ => rfl, (el4.trans (Else.of_below (O := fun x => T x = some i) hb5) (fun x hx => .inl hx)).trans (Else.of_grown t6.grown) (fun x hx => .inl (by cases hx; exact HD.out.tb)), b, ?_, HD.out.tp, M6, HD.out.tb⟩
      rw [t6.grown.block p (Nat.lt_of_lt_of_le (lt_of_heap hd4) hb5.size) (by simp [hpb]), hb5.block p (lt_of_heap hd4)]
      exact hd4)
    have R4 := Lib.hid r4
    have HM4 := Lib.hid M4
    have HT4 := Lib.hid t4
    clear hm r1 M3 t3 k3 k4 r4 M4 t4 hpb el3 el4 hd4
    go_wp2_with fail
    go_region
    clear RU g0 g1 g2 g3 g4
    go_wp2_with fail
    go_region_law (refine step_deleteD rfl (.tmp 44) (.tmp 45) 60 67 rfl rfl rfl R4.out ?_)
    all_goals
      clear m0 m1 m4
      go_wp2_with fail
      refine wp_region_mix (fun V => V.cell? ⟨p, 2, none⟩ = some (.map (some b)) ∧ V.cell? ⟨G, 0, none⟩ = some (.int .i64 a) ∧ V.cell? ⟨G, 1, none⟩ = some (.int .u64 (u : Int))) 6 [(true, 0), (true, 1), (true, 2), (true, 3), (true, 4), (false, 5), (false, 6)] (by kernel_rfl) (by decide +kernel) rfl (by decide +kernel) ⟨n4, n0, n1⟩ ?_
      iterate 5
        refine wpMix_take (v := ?_) rfl rfl ?_ ?_
        rotate_left
        · (intro W hW; (try dsimp only at hW); go_simp) <;> with_reducible rfl
        simp only [Act.put, List.setIfInBounds_toArray, List.set_cons_zero, List.set_cons_succ]
      refine wpMix_run rfl ?_
      intro K hK
      go_wp2_with fail
      refine (KSib.out _).mono ?_
      rintro e w5 ⟨rfl, os5, rfl⟩
      rw [HX.out]
      have hS5 : (grow w4.drew os5).cell? ⟨p, 2, none⟩ = some (.map (some b)) ∧ (grow w4.drew os5).cell? ⟨G, 0, none⟩ = some (.int .i64 a) ∧ (grow w4.drew os5).cell? ⟨G, 1, none⟩ = some (.int .u64 (u : Int)) :=
        ⟨by rw [cell?_grow _ _ _ (by exact lt_of_cell n4)]; exact n4, by rw [cell?_grow _ _ _ (by exact lt_of_cell n0)]; exact n0, by rw [cell?_grow _ _ _ (by exact lt_of_cell n1)]; exact n1⟩
      obtain ⟨w6, r6, hGo⟩ := FIN.out (grow w4.drew os5) (Grew.below ⟨1, os5, rfl⟩)
      have R6 := Lib.hid hGo
      go_wp2_with fail
      refine hK.out _ _ (fun _ => hS5) ?_
      clear hK K hS5 hGo n4 n0 n1
      refine wpMix_run rfl ?_
      intro K hK
      go_wp2_with fail
      refine hK.out _ _ (fun h => absurd rfl h) ?_
      clear hK K
      refine wpMix_nil ?_
      clear r6
      go_wp2_with fail
      refine bodyPost_ret (results_tmp rfl _ _ _) rfl ?_
      exact .inr ⟨by rw [← HAll.out]; have := HM.out; omega, rfl, R6⟩
end Go.Proofs.Ytahaoodklfmddaa
