/- Contract of kmv's New: an empty sketch, or nil. Conditions: none. -/
import Derived.Test.YtlhpbfjelgmkeaaGreatKmvGood
import Derived.Deep.RegionHeld3
set_option maxRecDepth 100000
namespace Go.Proofs.YtlhpbfjelgmkeaaGreat
open Go.RowKit Go.Maps Go.Sort

def setV (t : Int) (sa : Option Addr) (n sc : Nat) (k m : Int) : Value := .agg #[.int .i64 t, .slice sa n sc, .int .i64 k, .int .i64 m]
def setO (t : Int) (sa : Option Addr) (n sc : Nat) (k m : Int) : Obj := .cells #[.int .i64 t, .slice sa n sc, .int .i64 k, .int .i64 m] 32

theorem infoRow : (Tryz.prog.info? 208).map (fun i => (i.zero, i.size, i.bytes)) = some (some (.slice none 0 0), 1, 24) := by kernel_rfl
def nilRows (n : Nat) : List Value := List.replicate n (.slice none 0 0)
theorem mk_rows (w : World) (n : Nat) (hn : n ≤ 1000) :
    (Instr.makeSlice 195 (.int .i64 (n : Int)) (.int .i64 (n : Int))).run Tryz.prog w = .ok (.slice (some ⟨w.heap.size, 0, none⟩) n n) (w.alloc (.cells (nilRows n).toArray 208)) := by
  obtain ⟨i, hi, hz0, hz1, hz2⟩ := info_parts infoRow
  have := run_make (P := Tryz.prog) w 195 208 i (.slice none 0 0) Tryz.underlying195 hi hz0 .i64 .i64 (n : Int) n (by omega) (by omega) (by rw [hz2]; omega) (by omega)
  rw [this, hz1]
  simp only [Int.toNat_natCast, Nat.mul_one, Value.cells]
  have e : madeCells #[Value.slice none 0 0] n = (nilRows n).toArray := by
    apply Array.toList_inj.1
    rw [toList_madeCells_one]
    simp [nilRows]
  rw [e]

set_option maxHeartbeats 800000 in
theorem new_no {w : World} {sa : Option Addr} {n sc : Nat} {S : List (Nat × Nat)} (h : SetAt w sa n sc S) (t k m : Int) (hg : goodB t S k m = false) :
    Calls Tryz.prog 62 #[setV t sa n sc k m] w fun e w' => e = .returned (.pointer none) ∧ Below w.heap.size w w' := by
  have hb0 := (Below.refl w.heap.size w).alloc (Nat.le_refl _) (.cells #[.int .i64 t, .slice sa n sc, .int .i64 k, .int .i64 m] 32)
  have K := kgood_any (h.below hb0) t k m
  rw [hg] at K
  have HB := Lib.hid hb0
  clear hb0 hg h
  unfold setV
  go_enter Tryz.func62, Tryz.ntmps62
  go_wp2_with fail
  refine K.mono ?_
  rintro e w' ⟨rfl, hb⟩
  have HB2 := Lib.hid (HB.out.trans (hb.mono HB.out.size))
  clear hb HB K
  go_wp2_with fail
  go_ret
  exact ⟨rfl, HB2.out⟩

/-- the blocks of a new sketch -/
structure NewSk (w w' : World) (p t n : Nat) (S : List (Nat × Nat)) (sb sc cb : Nat) : Prop where
  head : w'.heap[p]? = some (.cells #[.int .i64 t, .slice (some ⟨sb, 0, none⟩) n sc, .slice (some ⟨cb, 0, none⟩) n n] 197 (0, 0))
  seeds : SeedsIn w' ⟨sb, 0, none⟩ S
  slen : n ≤ sc
  smax : sc ≤ maxLen
  tab : w'.heap[cb]? = some (.cells (nilRows n).toArray 208 (0, 0))
  hp : w.heap.size ≤ p
  hs : w.heap.size ≤ sb
  hc : w.heap.size ≤ cb
  hsc : sb ≠ cb
  hb : Below w.heap.size w w'

section
variable {w w1 w5 : World} {u v : Value}
theorem held_start (q0 : w1.cell? ⟨w.heap.size, 0, none⟩ = some u) (q1 : w1.cell? ⟨w.heap.size, 1, none⟩ = some v) (hb : Below w.heap.size w w1) (hl : w.heap.size < w1.heap.size) :
    (w1.cell? ⟨w.heap.size, 0, none⟩ = some u ∧ w1.cell? ⟨w.heap.size, 1, none⟩ = some v ∧ Later w w1) ∧ (w1.drew.cell? ⟨w.heap.size, 0, none⟩ = some u ∧ w1.drew.cell? ⟨w.heap.size, 1, none⟩ = some v ∧ Later w w1.drew) :=
  ⟨⟨q0, q1, hl, hb⟩, q0, q1, hl, hb.drew⟩
theorem held_below (h : w1.cell? ⟨w.heap.size, 0, none⟩ = some u ∧ w1.cell? ⟨w.heap.size, 1, none⟩ = some v ∧ Later w w1) (hb : Below w1.heap.size w1 w5) : w5.cell? ⟨w.heap.size, 0, none⟩ = some u ∧ w5.cell? ⟨w.heap.size, 1, none⟩ = some v ∧ Later w w5 :=
  ⟨by rw [hb.cell (p := ⟨w.heap.size, 0, none⟩) h.2.2.1]; exact h.1, by rw [hb.cell (p := ⟨w.heap.size, 1, none⟩) h.2.2.1]; exact h.2.1, Nat.lt_of_lt_of_le h.2.2.1 hb.size, h.2.2.2.trans (hb.mono h.2.2.2.size)⟩
theorem held_alloc (o : Obj) (h : w1.cell? ⟨w.heap.size, 0, none⟩ = some u ∧ w1.cell? ⟨w.heap.size, 1, none⟩ = some v ∧ Later w w1) : (w1.alloc o).cell? ⟨w.heap.size, 0, none⟩ = some u ∧ (w1.alloc o).cell? ⟨w.heap.size, 1, none⟩ = some v ∧ Later w (w1.alloc o) :=
  held_below h ((Below.refl _ _).alloc (Nat.le_refl _) o)
theorem held_base (h : w1.cell? ⟨w.heap.size, 0, none⟩ = some u ∧ w1.cell? ⟨w.heap.size, 1, none⟩ = some v ∧ Later w w1) : Below w.heap.size w w1 := h.2.2.2
end

theorem new_a {w w1 w5 : World} {t n g c : Nat} {S : List (Nat × Nat)} (hb : Below w.heap.size w w1) (r1 : w1.heap.size ≤ g) (r2 : g < w5.heap.size) (r3 : n ≤ c) (r4 : c ≤ maxLen) (r5 : SeedsIn w5 ⟨g, 0, none⟩ S) (r6 : Below w1.heap.size w1 w5) :
    NewSk w ((w5.alloc (.cells (nilRows n).toArray 208)).alloc (.cells #[.int .i64 t, .slice (some ⟨g, 0, none⟩) n c, .slice (some ⟨w5.heap.size, 0, none⟩) n n] 197)) (w5.heap.size + 1) t n S g c w5.heap.size := by
  have h1 := heap_alloc_new w5 (.cells (nilRows n).toArray 208)
  have b1 := (Below.refl w5.heap.size w5).alloc (Nat.le_refl _) (.cells (nilRows n).toArray 208)
  have hs : (w5.alloc (.cells (nilRows n).toArray 208)).heap.size = w5.heap.size + 1 := by simp
  generalize w5.alloc (.cells (nilRows n).toArray 208) = w6 at *
  have b2 := (Below.refl w6.heap.size w6).alloc (Nat.le_refl _) (.cells #[.int .i64 t, .slice (some ⟨g, 0, none⟩) n c, .slice (some ⟨w5.heap.size, 0, none⟩) n n] 197)
  have h2 := heap_alloc_new w6 (.cells #[.int .i64 t, .slice (some ⟨g, 0, none⟩) n c, .slice (some ⟨w5.heap.size, 0, none⟩) n n] 197)
  have z1 := hb.size
  have z6 := r6.size
  exact {
    head := by rw [← hs]; exact h2
    seeds := (r5.keep (b1.block g r2)).keep (b2.block g (by rw [hs]; omega))
    slen := r3
    smax := r4
    tab := (b2.block _ (by rw [hs]; omega)).trans h1
    hp := by omega
    hs := by omega
    hc := by omega
    hsc := by omega
    hb := ((hb.trans (r6.mono z1)).trans (b1.mono (by omega))).trans (b2.mono (by omega)) }
theorem new_b {w w1 w5 : World} {t n g c : Nat} {S : List (Nat × Nat)} (hb : Below w.heap.size w w1) (r1 : (w1.alloc (.cells (nilRows n).toArray 208)).drew.heap.size ≤ g) (r2 : g < w5.heap.size) (r3 : n ≤ c) (r4 : c ≤ maxLen) (r5 : SeedsIn w5 ⟨g, 0, none⟩ S) (r6 : Below (w1.alloc (.cells (nilRows n).toArray 208)).drew.heap.size (w1.alloc (.cells (nilRows n).toArray 208)).drew w5) :
    NewSk w (w5.alloc (.cells #[.int .i64 t, .slice (some ⟨g, 0, none⟩) n c, .slice (some ⟨w1.heap.size, 0, none⟩) n n] 197)) w5.heap.size t n S g c w1.heap.size := by
  have h1 : (w1.alloc (.cells (nilRows n).toArray 208)).drew.heap[w1.heap.size]? = _ := heap_alloc_new w1 (.cells (nilRows n).toArray 208)
  have b1 : Below w1.heap.size w1 (w1.alloc (.cells (nilRows n).toArray 208)).drew := ((Below.refl w1.heap.size w1).alloc (Nat.le_refl _) (.cells (nilRows n).toArray 208)).drew
  have hs : (w1.alloc (.cells (nilRows n).toArray 208)).drew.heap.size = w1.heap.size + 1 := by show (w1.alloc _).heap.size = _; simp
  generalize (w1.alloc (.cells (nilRows n).toArray 208)).drew = w6 at *
  have b2 := (Below.refl w5.heap.size w5).alloc (Nat.le_refl _) (.cells #[.int .i64 t, .slice (some ⟨g, 0, none⟩) n c, .slice (some ⟨w1.heap.size, 0, none⟩) n n] 197)
  have h2 := heap_alloc_new w5 (.cells #[.int .i64 t, .slice (some ⟨g, 0, none⟩) n c, .slice (some ⟨w1.heap.size, 0, none⟩) n n] 197)
  have z1 := hb.size
  have z6 := r6.size
  exact {
    head := h2
    seeds := r5.keep (b2.block g r2)
    slen := r3
    smax := r4
    tab := (b2.block _ (by omega)).trans ((r6.block _ (by omega)).trans h1)
    hp := by omega
    hs := by omega
    hc := by omega
    hsc := by omega
    hb := ((hb.trans (b1.mono z1)).trans (r6.mono (by omega))).trans (b2.mono (by omega)) }

set_option maxHeartbeats 3200000 in
theorem new_yes {w : World} {sa : Option Addr} {n sc : Nat} {S : List (Nat × Nat)} (h : SetAt w sa n sc S) (t : Nat) (k m : Int) (hg : goodB t S k m = true) :
    Calls Tryz.prog 62 #[setV t sa n sc k m] w fun e w' => ∃ p sb sc cb, e = .returned (.pointer (some ⟨p, 0, none⟩)) ∧ NewSk w w' p t n S sb sc cb := by
  obtain ⟨tn, htn, hset⟩ := goodB_set hg
  obtain rfl : t = tn := by omega
  clear htn
  have hn := h.len
  have HN := Lib.hid hn
  have hn1 := hset.n1
  have hn7 := hset.n7
  rw [hn] at hn1 hn7
  have hb0 := (Below.refl w.heap.size w).alloc (Nat.le_refl _) (.cells #[.int .i64 t, .slice sa n sc, .int .i64 k, .int .i64 m] 32)
  have hw1 := alloc1 w (.cells #[.int .i64 t, .slice sa n sc, .int .i64 k, .int .i64 m] 32)
  have K := kgood_any (h.below hb0) t k m
  rw [hg] at K
  obtain ⟨ad, rfl, hsd⟩ := h.at_ (by omega)
  have HB := Lib.hid hb0
  have HW := Lib.hid hw1
  have hmk := fun W => mk_rows W n (by omega)
  have KC := Lib.hid (fun W (hb : Below w.heap.size w W) => clone_seeds (w := W) (c := sc) (hsd.keep (hb.block _ (seeds_lt hsd (by omega)))) (by omega) (by omega))
  rw [hn] at KC
  clear hb0 hg h hsd hset hw1 hn
  unfold setV
  go_enter Tryz.func62, Tryz.ntmps62
  go_wp2_with fail
  refine K.mono ?_
  rintro e w1 ⟨rfl, hb⟩
  have HB2 := Lib.hid (HB.out.trans (hb.mono HB.out.size))
  have hbx : w1.heap[w.heap.size]? = some (.cells #[.int .i64 t, .slice (some ad) n sc, .int .i64 k, .int .i64 m] 32) := (hb.block _ (by simp)).trans HW.out
  have q0 : w1.cell? ⟨w.heap.size, 0, none⟩ = some (.int .i64 t) := by rw [cell_of_row _ _ _ _ _ _ hbx]; rfl
  have q1 : w1.cell? ⟨w.heap.size, 1, none⟩ = some (.slice (some ad) n sc) := by rw [cell_of_row _ _ _ _ _ _ hbx]; rfl
  have hlt := lt_of_heap hbx
  clear hb HB K hbx HW
  go_wp2_with fail
  have HS := Lib.hid (held_start q0 q1 HB2.out hlt)
  go_region_held3 (fun w' => w'.cell? ⟨w.heap.size, 0, none⟩ = some (.int .i64 t) ∧ w'.cell? ⟨w.heap.size, 1, none⟩ = some (.slice (some ad) n sc) ∧ Later w w')
    (first | exact HS.out.1 | exact HS.out.2 | exact held_below (by assumption) (by assumption) | exact held_alloc _ (by assumption))
    ((go_at_call 32; refine (KC.out _ (held_base (by assumption))).mono ?_; rintro e w5 ⟨g5, c5, rfl, r1, r2, r3, r4, r5, r6⟩))
  all_goals
    rw [HN.out]
    go_wp2_with fail
    go_ret
    first
      | exact ⟨_, _, _, _, rfl, new_a HB2.out.drew r1 r2 (HN.out ▸ r3) r4 r5 r6⟩
      | exact ⟨_, _, _, _, rfl, new_b HB2.out r1 r2 (HN.out ▸ r3) r4 r5 r6⟩

/-- an empty sketch -/
def SkV.empty (t : Nat) (S : List (Nat × Nat)) : SkV := ⟨t, S, List.replicate S.length []⟩
theorem SkV.empty_good {t : Nat} {S : List (Nat × Nat)} (h : GoodS t S) : (SkV.empty t S).Good where
  set := h
  len := by simp [SkV.empty]
  row := fun l hl => by
    rw [SkV.empty] at hl
    obtain ⟨_, rfl⟩ := List.mem_replicate.1 hl
    exact ⟨List.Pairwise.nil, Nat.zero_le _, fun x hx => by simp at hx⟩
theorem NewSk.sk {w w' : World} {p t n : Nat} {S : List (Nat × Nat)} {sb sc cb : Nat} (h : NewSk w w' p t n S sb sc cb) (hg : GoodS t S) (hn : S.length = n) (T : Tags) (i : Nat) :
    ∃ T', Next T w T' ∧ Sk p (SkV.empty t S) T' i w' := by
  subst hn
  have hcp : p ≠ cb := fun e => by
    have h1 := h.head
    rw [e, h.tab] at h1
    simp at h1
  refine ⟨fun k => if k < w.heap.size then T k else if k = cb then some i else none, fun k hk => if_pos hk, ⟨sb, 0, none⟩, sc, cb, nilRows S.length, {
    head := by
      have := h.head
      simpa [SkV.empty] using this
    tp := by simp [Nat.not_lt.2 h.hp, hcp]
    seeds := h.seeds
    ts := by simp [Nat.not_lt.2 h.hs, h.hsc]
    slen := h.slen
    smax := h.smax
    tab := h.tab
    tc := by simp [Nat.not_lt.2 h.hc]
    rlen := by simp [nilRows, SkV.empty]
    row := fun j v l hv hl => ?_
    tr := fun j v g hv hg => ?_
    apart := fun j j' v v' g hv _ hg _ => ?_
    good := SkV.empty_good hg }⟩
  all_goals
    have e : v = .slice none 0 0 := by
      rw [nilRows, List.getElem?_replicate] at hv
      split at hv
      · exact (Option.some.inj hv).symm
      · cases hv
    subst e
  · have e : l = [] := by
      rw [SkV.empty, List.getElem?_replicate] at hl
      split at hl
      · exact (Option.some.inj hl).symm
      · cases hl
    subst e
    exact World.ownsRow_nil _ _ _ _
  · simp [Value.ownBlock] at hg
  · simp [Value.ownBlock] at hg
/-- New: a thing of its own -/
theorem new_any {w : World} {sa : Option Addr} {n sc : Nat} {S : List (Nat × Nat)} (h : SetAt w sa n sc S) (t : Nat) (k m : Int) (hg : goodB t S k m = true) (T : Tags) (i : Nat) :
    Calls Tryz.prog 62 #[setV t sa n sc k m] w fun e w' => ∃ p, e = .returned (.pointer (some ⟨p, 0, none⟩)) ∧ Below w.heap.size w w' ∧ ∃ T', Next T w T' ∧ Sk p (SkV.empty t S) T' i w' := by
  obtain ⟨tn, htn, hset⟩ := goodB_set hg
  obtain rfl : t = tn := by omega
  refine (new_yes h t k m hg).mono ?_
  rintro e w' ⟨p, sb, sc', cb, rfl, hN⟩
  exact ⟨p, rfl, hN.hb, hN.sk hset h.len T i⟩
end Go.Proofs.YtlhpbfjelgmkeaaGreat
