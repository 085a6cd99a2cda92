/- Contract of the reference's Copy: another sketch with the same. Conditions: a sketch that was made. -/
import Derived.Test.YtadlfmdliinnnaaRKmvNew
import Derived.Test.YtadlfmdliinnnaaRKmvMerge
set_option maxRecDepth 100000
namespace Go.Proofs.Ytadlfmdliinnnaa
open Go.RowKit Go.Maps Go.Sort

/-- a copy while its table grows -/
structure CpR (w W : World) (x : Nat) (sa : Addr) (sc : Nat) (V : SkV) (j : Nat) (v : Value) (rows : List Value) : Prop where
  head : W.heap[x]? = some (.cells #[.int .i64 V.t, .slice (some sa) V.seeds.length sc, v] 67 (0, 0))
  row : W.ownsRow w.heap.size 43 1 v j rows
  rws : ∀ (i : Nat) u l, rows[i]? = some u → V.L[i]? = some l → W.ownsRow w.heap.size 32 1 u l.length (nats l)
  hx : w.heap.size ≤ x
  nx : v.ownBlock ≠ some x
  base : Below w.heap.size w W

theorem CpR.drew {w W : World} {x : Nat} {sa : Addr} {sc : Nat} {V : SkV} {j : Nat} {v : Value} {rows : List Value} (h : CpR w W x sa sc V j v rows) : CpR w W.drew x sa sc V j v rows := ⟨h.head, h.row, h.rws, h.hx, h.nx, h.base.drew⟩
theorem row_ne {w : World} {B : Nat} {v u : Value} {n m : Nat} {xs ys : List Value} {g : Nat} (h : w.ownsRow B 32 1 v n xs) (h' : w.ownsRow B 43 1 u m ys) (e : v.ownBlock = some g) (e' : u.ownBlock = some g) : False := by
  rcases h.2 with ⟨rfl, _⟩ | ⟨g1, _, _, rfl, _, hg, _⟩
  · simp [Value.ownBlock] at e
  · rcases h'.2 with ⟨rfl, _⟩ | ⟨g2, _, _, rfl, _, hg', _⟩
    · simp [Value.ownBlock] at e'
    · simp only [Value.ownBlock, Option.some.injEq] at e e'
      rw [e] at hg
      rw [e', hg] at hg'
      simp at hg'
theorem row_ne_head {w : World} {B : Nat} {v : Value} {n x : Nat} {xs : List Value} {cs : Array Value} (h : w.ownsRow B 32 1 v n xs) (hh : w.heap[x]? = some (.cells cs 67 (0, 0))) : v.ownBlock ≠ some x := fun e => by
  rcases h.2 with ⟨rfl, _⟩ | ⟨g1, _, _, rfl, _, hg, _⟩
  · simp [Value.ownBlock] at e
  · simp only [Value.ownBlock, Option.some.injEq] at e
    rw [e, hh] at hg
    simp at hg

def emptyO : Obj := .cells #[] 32
theorem CpR.push {w W : World} {x : Nat} {sa : Addr} {sc : Nat} {V : SkV} {j : Nat} {v : Value} {rows : List Value} (h : CpR w W x sa sc V j v rows) (hj : j < V.L.length) (hj7 : j ≤ 7) {vl : Value} (hl : Holds W vl (nats V.L[j])) (hl7 : V.L[j].length ≤ 1000) :
    ∃ a2 n2 c2 W2 a c W4, (∀ ty, (Builtin.append_ #[43, 43] ty #[.slice (some ⟨W.heap.size, 0, none⟩) 0 0, vl]).run Try.prog (W.alloc emptyO) = .ok (.slice a2 n2 c2) W2) ∧
      (∀ ty, (Builtin.append_ #[50, 50] ty #[v, .slice (some ⟨W2.heap.size, 0, none⟩) 1 1]).run Try.prog (W2.alloc (.cells #[.slice a2 n2 c2] 43)) = .ok (.slice a (j + 1) c) W4) ∧
      W.cell? ⟨x, 2, none⟩ = some v ∧ (W.alloc emptyO).cell? ⟨x, 2, none⟩ = some v ∧ W2.cell? ⟨x, 2, none⟩ = some v ∧ (W2.alloc (.cells #[.slice a2 n2 c2] 43)).cell? ⟨x, 2, none⟩ = some v ∧ W4.cell? ⟨x, 2, none⟩ = some v ∧ W4.frozen? ⟨x, 2, none⟩ = false ∧
      ∃ rows', CpR w (W4.setCell ⟨x, 2, none⟩ (.slice a (j + 1) c)) x sa sc V (j + 1) (.slice a (j + 1) c) rows' := by
  have hb1 := (Below.refl W.heap.size W).alloc (Nat.le_refl _) emptyO
  have hr1 := World.ownsRow_made W (base := W.heap.size) (e := 32) (size := 1) #[] 0 (Nat.le_refl _) (by unfold maxLen; omega) (by simp)
  obtain ⟨u2, W2, hrun1, ho2, hg2, _⟩ := app_any (P := Try.prog) (w := W.alloc emptyO) (B := W.heap.size) (xs := []) Try.underlying43 infoU64 (by omega) rfl hr1 hb1.size (hl.below hb1) (nats_one _) (by rw [nats_len]; simp; omega)
  rw [List.nil_append, nats_len] at ho2
  have hb2 : Below W.heap.size W W2 := hb1.grown hg2 hb1.size (fun k e => by simp [Value.ownBlock] at e; omega)
  obtain ⟨a2, c2, rfl, _, _⟩ := ownsRow_form ho2
  have hrow2 := ownsRow_below h.row hb2
  have hlen : rows.length = j := by have := h.row.1; omega
  rw [← hlen] at hrow2
  have hsz : w.heap.size ≤ W2.heap.size := Nat.le_trans h.base.size hb2.size
  obtain ⟨v', W4, hrun2, ho4, hg4, hat⟩ := rows_push hrow2 hsz (u := .slice a2 V.L[j].length c2) rfl (by omega)
  have hb3 := (Below.refl W2.heap.size W2).alloc (Nat.le_refl _) (.cells #[.slice a2 V.L[j].length c2] 43)
  have hz3 : (W2.alloc (.cells #[.slice a2 V.L[j].length c2] 43)).heap.size = W2.heap.size + 1 := by simp
  rw [List.length_append, hlen] at ho4
  obtain ⟨a, c, rfl, _, _⟩ := ownsRow_form ho4
  have hxl := lt_of_heap h.head
  have hh2 := (hb2.block x hxl).trans h.head
  have hh3 := (hb3.block x (lt_of_heap hh2)).trans hh2
  have hh4 := (hg4.block x (lt_of_heap hh3) (fun e => h.nx e.symm)).trans hh3
  have cx : ∀ (A : World), A.heap[x]? = some (.cells #[.int .i64 V.t, .slice (some sa) V.seeds.length sc, v] 67 (0, 0)) → A.cell? ⟨x, 2, none⟩ = some v := fun A hA => by rw [cell_of_row _ _ _ _ _ _ hA]; rfl
  have hh1 := (hb1.block x hxl).trans h.head
  have hset : ∀ k, k ≠ x → (W4.setCell ⟨x, 2, none⟩ (.slice a (j + 1) c)).heap[k]? = W4.heap[k]? := fun k hk => Below.heap_setCell _ _ _ _ hk
  have hnx : (Value.slice a (j + 1) c).ownBlock ≠ some x := fun e => by
    rcases hat with e' | e'
    · exact h.nx (e' ▸ e)
    · have := e'.symm.trans e
      have h6 := lt_of_heap hh2
      simp at this
      omega
  have hold : ∀ k, k < W2.heap.size → v.ownBlock ≠ some k → W4.heap[k]? = W2.heap[k]? := fun k hk hne => (hg4.block k (by omega) (fun e => hne e.symm)).trans (hb3.block k hk)
  have hbase4 : Below w.heap.size w W4 := ((h.base.trans (hb2.mono h.base.size)).trans (hb3.mono hsz)).grown hg4 (by omega) (fun k hk => (h.row.lt k hk).1)
  have hnewo : W2.ownsRow w.heap.size 32 1 (.slice a2 V.L[j].length c2) V.L[j].length (nats V.L[j]) := ownsRow_rebase ho2 (fun g hg => Nat.le_trans h.base.size (ho2.lt g hg).1)
  have hkeep : ∀ (u : Value) (l : List Nat), W2.ownsRow w.heap.size 32 1 u l.length (nats l) → (W4.setCell ⟨x, 2, none⟩ (.slice a (j + 1) c)).ownsRow w.heap.size 32 1 u l.length (nats l) := fun u l hu => ownsRow_of_block hu fun g hg => by
    rw [hset g (fun e => row_ne_head hu hh2 (e ▸ hg))]
    exact hold g (hu.lt g hg).2 (fun e => row_ne hu hrow2 hg e)
  refine ⟨a2, _, c2, W2, a, c, W4, hrun1, hrun2, cx _ h.head, cx _ hh1, cx _ hh2, cx _ hh3, cx _ hh4, free_of_row hh4 2, rows ++ [.slice a2 V.L[j].length c2], {
    head := by rw [heap_set hh4]; rfl
    row := ownsRow_of_block ho4 fun g hg => hset g (fun e => hnx (e ▸ hg))
    rws := fun i u l hu hl' => ?_
    hx := h.hx
    nx := hnx
    base := hbase4.setCell h.hx _ }⟩
  rcases Nat.lt_or_ge i j with hij | hij
  · rw [List.getElem?_append_left (by omega)] at hu
    exact hkeep u l (ownsRow_below (h.rws i u l hu hl') hb2)
  · rw [List.getElem?_append_right (by omega), hlen] at hu
    have hi : i = j := by
      by_cases g : i - j = 0
      · omega
      · rw [List.getElem?_eq_none (by simp; omega)] at hu; cases hu
    subst hi
    simp at hu
    subst hu
    rw [List.getElem?_eq_getElem hj] at hl'
    rw [← Option.some.inj hl']
    exact hkeep _ _ hnewo

theorem CpR.sk {T : Tags} {i j : Nat} {w W : World} {p x : Nat} {sa : Addr} {sc cb c : Nat} {cur : Array Value} {V : SkV} {v : Value} {rows : List Value} (g : RAt T i w p V sa sc cb c cur) (h : CpR w W x sa sc V V.L.length v rows) : ∃ T', Next T w T' ∧ RSk x V T' j W := by
  have hn1 : 1 ≤ V.L.length := by rw [g.good.len]; exact g.good.set.n1
  have hsl := seeds_lt g.seeds g.good.set.n1
  rcases h.row.2 with ⟨_, e⟩ | ⟨tb, cap, cu, rfl, htb, hcu, hnc, hcm, hcs, htk⟩
  · omega
  · have htx : tb ≠ x := fun e => h.nx (by rw [← e]; rfl)
    have hlen : rows.length = V.L.length := by have := h.row.1; omega
    have hat : ∀ (k : Nat) v, k < V.L.length → cu[k]? = some v → rows[k]? = some v := fun k v hk hv => by
      have h2 := congrArg (fun l => l[k]?) htk
      simp only [Nat.mul_one, List.getElem?_take, hk, if_true, Array.getElem?_toList] at h2
      rw [← h2, hv]
    have hown : ∀ (k : Nat) v, k < V.L.length → cu[k]? = some v → W.ownsRow w.heap.size 32 1 v (V.L.getD k []).length (nats (V.L.getD k [])) := fun k v hk hv => h.rws k v _ (hat k v hk hv) (by rw [List.getD_eq_getElem?_getD, List.getElem?_eq_getElem hk]; rfl)
    refine ⟨fun k => if k < w.heap.size then T k else if k = tb then some j else none, fun k hk => if_pos hk, sa, sc, tb, cap, cu, {
      head := h.head
      tp := by simp [Nat.not_lt.2 h.hx, htx.symm]
      seeds := g.seeds.keep (h.base.block _ hsl)
      ts := by simp [hsl, g.ts]
      slen := g.slen
      smax := g.smax
      tab := hcu
      tc := by simp [Nat.not_lt.2 htb]
      lc := hnc
      cmax := hcm
      rlen := by rw [hcs]; omega
      row := fun k v l hv hl => ?_
      tr := fun k v y hk hv hy => ?_
      good := g.good }⟩
    · have hk : k < V.L.length := (List.getElem?_eq_some_iff.1 hl).1
      exact ownsRow_rebase (h.rws k v l (hat k v hk hv) hl) (fun _ _ => Nat.zero_le _)
    · have h3 := hown k v hk hv
      have h4 := (h3.lt y hy).1
      have h5 : y ≠ tb := fun e => row_ne h3 h.row hy (by rw [e]; rfl)
      simp [Nat.not_lt.2 h4, h5]

set_option maxHeartbeats 6400000 in
theorem rcopy_blocks {T : Tags} {i : Nat} {w : World} {p : Nat} {sa : Addr} {sc cb c : Nat} {cur : Array Value} {V : SkV} (g : RAt T i w p V sa sc cb c cur) :
    Calls Try.prog 18 #[.pointer (some ⟨p, 0, none⟩)] w fun e w' => ∃ x v rows, e = .returned (.pointer (some ⟨x, 0, none⟩)) ∧ CpR w w' x sa sc V V.L.length v rows := by
  obtain ⟨c0, c1, c2⟩ := g.cells
  have HOT := Lib.hid (fun W (hb : Below w.heap.size w W) => g.oth (i := i + 1) (by omega) (Else.of_below (O := fun k => T k = some (i + 1)) hb))
  have hN7 : V.L.length ≤ 7 := by rw [g.good.len]; exact g.good.set.n7
  have HSM := Lib.hid (fun m (hm : m < V.L.length) => show (V.L.getD m []).length ≤ 1000 by
    rw [getD_at hm]
    have := (g.good.row _ (List.getElem_mem hm)).len
    have := g.good.set.t64
    omega)
  have HS : Hid (w.drew.cell? ⟨p, 0, none⟩ = some (.int .i64 V.t) ∧ w.drew.cell? ⟨p, 1, none⟩ = some (.slice (some sa) V.seeds.length sc)) := Lib.hid ⟨c0, c1⟩
  have c2' : w.drew.cell? ⟨p, 2, none⟩ = some (.slice (some ⟨cb, 0, none⟩) V.L.length c) := c2
  have hb1 := (Below.refl w.heap.size w).drew.alloc (Nat.le_refl _) (.cells #[.int .i64 V.t, .slice (some sa) V.seeds.length sc, .slice none 0 0] 67)
  have c2n : (w.drew.alloc (.cells #[.int .i64 V.t, .slice (some sa) V.seeds.length sc, .slice none 0 0] 67)).cell? ⟨p, 2, none⟩ = some (.slice (some ⟨cb, 0, none⟩) V.L.length c) := by rw [hb1.cell (p := ⟨p, 2, none⟩) (lt_of_heap g.head)]; exact c2
  have HS2 : Hid ((w.drew.alloc (.cells #[.int .i64 V.t, .slice (some sa) V.seeds.length sc, .slice none 0 0] 67)).cell? ⟨p, 0, none⟩ = some (.int .i64 V.t) ∧ (w.drew.alloc (.cells #[.int .i64 V.t, .slice (some sa) V.seeds.length sc, .slice none 0 0] 67)).cell? ⟨p, 1, none⟩ = some (.slice (some sa) V.seeds.length sc)) := Lib.hid
    ⟨by rw [hb1.cell (p := ⟨p, 0, none⟩) (lt_of_heap g.head)]; exact c0, by rw [hb1.cell (p := ⟨p, 1, none⟩) (lt_of_heap g.head)]; exact c1⟩
  have HC : Hid (CpR w (w.drew.alloc (.cells #[.int .i64 V.t, .slice (some sa) V.seeds.length sc, .slice none 0 0] 67)) w.heap.size sa sc V 0 (.slice none 0 0) []) := Lib.hid {
    head := heap_alloc_new w.drew _
    row := World.ownsRow_nil _ _ _ _
    rws := fun i u l hu => by simp at hu
    hx := Nat.le_refl _
    nx := by simp [Value.ownBlock]
    base := hb1 }
  clear g hb1 c0 c1 c2
  obtain ⟨WN, hWN⟩ : ∃ WN, WN = (w.drew.alloc (.cells #[.int .i64 V.t, .slice (some sa) V.seeds.length sc, .slice none 0 0] 67)) := ⟨_, rfl⟩
  generalize hN : V.L.length = N at *
  have HN := Lib.hid hN
  clear hN
  go_enter Try.func18, Try.ntmps18
  go_wp2_with fail
  refine wp_region_sched (fun W => W.cell? ⟨p, 0, none⟩ = some (.int .i64 V.t) ∧ W.cell? ⟨p, 1, none⟩ = some (.slice (some sa) V.seeds.length sc)) 10 [0, 1, 2, 3, 4, 5, 6, 7, 8] [9, 10] (by kernel_rfl) (by decide +kernel) HS.out ?_
  iterate 9
    refine wpFirst_cons (v := ?_) rfl rfl ?_ ?_
    rotate_left
    · (intro W hW; (try dsimp only at hW); go_simp) <;> with_reducible rfl
    simp only [Act.put, List.setIfInBounds_toArray]
  refine wpFirst_nil ?_
  refine wpRest_cons rfl ?_
  intro K hK
  go_wp2_with fail
  refine hK.out _ _ (fun _ => HS2.out) ?_
  clear hK K HS HS2
  refine wpRest_cons rfl ?_
  intro K hK
  go_wp2_with fail
  refine hK.out _ _ (fun h => absurd rfl h) ?_
  clear hK K
  refine wpRest_nil ?_
  rw [show (w.alloc (.cells #[.int .i64 V.t, .slice (some sa) V.seeds.length sc, .slice none 0 0] 67)).drew = WN from hWN.symm]
  rw [← hWN] at c2n HC
  clear hWN c2'
  have HX0 := Lib.hid HC.out.base.size
  generalize w.heap.size = x at HC ⊢
  go_wp2_with fail
  clear c2n
  go_loopw [5, 21] (fun _ k wr => ∃ m : Nat, k = .int .i64 m ∧ m ≤ N ∧ Hid (∃ v rows, CpR w wr x sa sc V m v rows)) (fun _ k _ => N - (intOf k).toNat)
  case atStart => exact ⟨0, rfl, Nat.zero_le _, _, _, HC.out⟩
  case round =>
    obtain ⟨m, rfl, hm, HR⟩ := hrel
    by_cases hlt : m < N
    · obtain ⟨v, rows, hv⟩ := HR.out
      have hmL : m < V.L.length := by rw [HN.out]; exact hlt
      obtain ⟨vl, hvl, o3, hH⟩ := (HOT.out wr hv.base).row m hmL
      have hsm := HSM.out m hlt
      rw [getD_at hmL] at hsm hH
      obtain ⟨a2, n2, c2, W2, a, c', W4, hr1, hr2, x0, x1, x2, x3, x4, xf, rows', hnx⟩ := hv.drew.push (vl := vl) hmL (by omega) hH hsm
      have HR1 : Hid (∀ ty, (Builtin.append_ #[43, 43] ty #[.slice (some ⟨wr.heap.size, 0, none⟩) 0 0, vl]).run Try.prog (wr.alloc (.cells #[] 32)).drew = .ok (.slice a2 n2 c2) W2) := Lib.hid hr1
      have HR2 := Lib.hid hr2
      have HX : Hid (wr.drew.cell? ⟨x, 2, none⟩ = some v ∧ (wr.alloc (.cells #[] 32)).drew.cell? ⟨x, 2, none⟩ = some v ∧ W2.cell? ⟨x, 2, none⟩ = some v ∧ (W2.alloc (.cells #[.slice a2 n2 c2] 43)).cell? ⟨x, 2, none⟩ = some v ∧ W4.cell? ⟨x, 2, none⟩ = some v) := Lib.hid ⟨x0, x1, x2, x3, x4⟩
      have HP : Hid (∃ v rows, CpR w (W4.setCell ⟨x, 2, none⟩ (.slice a (m + 1) c')) x sa sc V (m + 1) v rows) := Lib.hid ⟨_, _, hnx⟩
      have hfm : ∃ al kl, vl = .slice al V.L[m].length kl := by
        obtain ⟨al, kl, e, _⟩ := hH.form
        rw [nats_len] at e
        exact ⟨al, kl, e⟩
      obtain ⟨al, kl, rfl⟩ := hfm
      have b0 : (0 : Int) ≤ (m : Int) := by omega
      have b1 : (m : Int) < (N : Int) := by omega
      generalize V.L[m].length = ln at *
      clear hr1 hr2 hnx hv hH HR hvl x0 x1 x2 x3
      go_wp2_with fail
      refine wp_region_sched (fun W => W.cell? ⟨x, 2, none⟩ = some v) 12 [0, 1, 2, 3, 4, 6] [5, 7, 8, 9, 10, 11, 12] (by kernel_rfl) (by decide +kernel) HX.out.1 ?_
      iterate 6
        refine wpFirst_cons (v := ?_) rfl rfl ?_ ?_
        rotate_left
        · (intro W hW; (try dsimp only at hW); go_simp) <;> with_reducible rfl
        simp only [Act.put, List.setIfInBounds_toArray]
      refine wpFirst_nil ?_
      refine wpRest_cons rfl ?_
      intro K hK
      go_wp2_with fail
      refine hK.out _ _ (fun _ => HX.out.2.1) ?_
      clear hK K
      refine wpRest_cons rfl ?_
      intro K hK
      refine wpList_append_run rfl _ _ 43 rfl rfl rfl (HR1.out _) ?_
      go_wp2_with fail
      refine hK.out _ _ (fun _ => HX.out.2.2.1) ?_
      clear hK K HR1
      refine wpRest_cons rfl ?_
      intro K hK
      go_wp2_with fail
      refine hK.out _ _ (fun _ => HX.out.2.2.2.1) ?_
      clear hK K
      refine wpRest_cons rfl ?_
      intro K hK
      refine wpList_append_run rfl _ _ 50 rfl rfl rfl (HR2.out _) ?_
      go_wp2_with fail
      refine hK.out _ _ (fun _ => HX.out.2.2.2.2) ?_
      clear hK K HR2
      refine wpRest_cons rfl ?_
      intro K hK
      go_wp2_with fail
      refine hK.out _ _ (fun _ => HX.out.2.2.2.2) ?_
      clear hK K
      refine wpRest_cons rfl ?_
      intro K hK
      go_wp2_with fail
      refine hK.out _ _ (fun _ => HX.out.2.2.2.2) ?_
      clear hK K
      refine wpRest_cons rfl ?_
      intro K hK
      go_wp2_with fail
      refine hK.out _ _ (fun h => absurd rfl h) ?_
      clear hK K HX x4
      refine wpRest_nil ?_
      go_wp2_with fail
      go_roundw
      case rel => exact ⟨m + 1, by go_num, by omega, HP⟩
      case measure => simp [intOf]; omega
    · have hme : m = N := by omega
      have HP : Hid (∃ v rows, CpR w wr x sa sc V N v rows) := by rw [← hme]; exact HR
      clear HR hme
      go_wp2_with fail
      go_ret
      obtain ⟨v, rows, hv⟩ := HP.out
      exact ⟨x, v, rows, rfl, hv⟩

/-- Copy of the reference: a thing of its own -/
theorem rcopy_any {T : Tags} {i : Nat} {w : World} {p : Nat} {V : SkV} (h : RSk p V T i w) (j : Nat) :
    Calls Try.prog 18 #[.pointer (some ⟨p, 0, none⟩)] w fun e w' => ∃ q, e = .returned (.pointer (some ⟨q, 0, none⟩)) ∧ Below w.heap.size w w' ∧ ∃ T', Next T w T' ∧ RSk q V T' j w' := by
  obtain ⟨sa, sc, cb, c, cur, g⟩ := h
  refine (rcopy_blocks g).mono ?_
  rintro e w' ⟨x, v, rows, rfl, hC⟩
  exact ⟨x, rfl, hC.base, hC.sk g⟩
end Go.Proofs.Ytadlfmdliinnnaa
