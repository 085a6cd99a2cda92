/- The texts KmvNew FieldE FieldF KmvAns KmvCopies KmvCopy KmvEst Sched, one behind the other; each one's own comment says what it holds. -/
import Derived.Test.YtlhpbfjelgmkeaaGreatKmvGood
import Derived.Deep.RegionHeld3
import Derived.Test.YtlhpbfjelgmkeaaGreatDiv64
import Derived.Sort.OwnSortedInts
import Derived.Test.YtlhpbfjelgmkeaaGreatGen
import Derived.OrdersHeld
import Derived.StillTail
/- Contract of kmv's New: an empty sketch, or nil. Conditions: none. -/
set_option maxRecDepth 100000
namespace Go.Proofs.YtlhpbfjelgmkeaaGreat
open Go.RowKit Go.Maps Go.Sort

def setV (t : Int) (sa : Option Addr) (n sc : Nat) (k m : Int) : Value := .agg #[.int .i64 t, .slice sa n sc, .int .i64 k, .int .i64 m]
def setO (t : Int) (sa : Option Addr) (n sc : Nat) (k m : Int) : Obj := .cells #[.int .i64 t, .slice sa n sc, .int .i64 k, .int .i64 m] 32

theorem infoRow : (Tryz.prog.info? 208).map (fun i => (i.zero, i.size, i.bytes)) = some (some (.slice none 0 0), 1, 24) := by kernel_rfl
def nilRows (n : Nat) : List Value := List.replicate n (.slice none 0 0)
theorem mk_rows (w : World) (n : Nat) (hn : n ≤ 1000) :
    (Instr.makeSlice 195 (.int .i64 (n : Int)) (.int .i64 (n : Int))).run Tryz.prog w = .ok (.slice (some ⟨w.heap.size, 0, none⟩) n n) (w.alloc (.cells (nilRows n).toArray 208)) := by
  obtain ⟨i, hi, hz0, hz1, hz2⟩ := info_parts infoRow
  have := run_make (P := Tryz.prog) w 195 208 i (.slice none 0 0) Tryz.underlying195 hi hz0 .i64 .i64 (n : Int) n (by omega) (by omega) (by rw [hz2]; omega) (by omega)
  rw [this, hz1]
  simp only [Int.toNat_natCast, Nat.mul_one, Value.cells]
  have e : madeCells #[Value.slice none 0 0] n = (nilRows n).toArray := by
    apply Array.toList_inj.1
    rw [toList_madeCells_one]
    simp [nilRows]
  rw [e]

set_option maxHeartbeats 800000 in
theorem new_no {w : World} {sa : Option Addr} {n sc : Nat} {S : List (Nat × Nat)} (h : SetAt w sa n sc S) (t k m : Int) (hg : goodB t S k m = false) :
    Calls Tryz.prog 62 #[setV t sa n sc k m] w fun e w' => e = .returned (.pointer none) ∧ Below w.heap.size w w' := by
  have hb0 := (Below.refl w.heap.size w).alloc (Nat.le_refl _) (.cells #[.int .i64 t, .slice sa n sc, .int .i64 k, .int .i64 m] 32)
  have K := kgood_any (h.below hb0) t k m
  rw [hg] at K
  have HB := Lib.hid hb0
  clear hb0 hg h
  unfold setV
  go_enter Tryz.func62, Tryz.ntmps62
  go_wp2_with fail
  refine K.mono ?_
  rintro e w' ⟨rfl, hb⟩
  have HB2 := Lib.hid (HB.out.trans (hb.mono HB.out.size))
  clear hb HB K
  go_wp2_with fail
  go_ret
  exact ⟨rfl, HB2.out⟩

/-- the blocks of a new sketch -/
structure NewSk (w w' : World) (p t n : Nat) (S : List (Nat × Nat)) (sb sc cb : Nat) : Prop where
  head : w'.heap[p]? = some (.cells #[.int .i64 t, .slice (some ⟨sb, 0, none⟩) n sc, .slice (some ⟨cb, 0, none⟩) n n] 197 (0, 0))
  seeds : SeedsIn w' ⟨sb, 0, none⟩ S
  slen : n ≤ sc
  smax : sc ≤ maxLen
  tab : w'.heap[cb]? = some (.cells (nilRows n).toArray 208 (0, 0))
  hp : w.heap.size ≤ p
  hs : w.heap.size ≤ sb
  hc : w.heap.size ≤ cb
  hsc : sb ≠ cb
  hb : Below w.heap.size w w'

section
variable {w w1 w5 : World} {u v : Value}
theorem held_start (q0 : w1.cell? ⟨w.heap.size, 0, none⟩ = some u) (q1 : w1.cell? ⟨w.heap.size, 1, none⟩ = some v) (hb : Below w.heap.size w w1) (hl : w.heap.size < w1.heap.size) :
    (w1.cell? ⟨w.heap.size, 0, none⟩ = some u ∧ w1.cell? ⟨w.heap.size, 1, none⟩ = some v ∧ Later w w1) ∧ (w1.drew.cell? ⟨w.heap.size, 0, none⟩ = some u ∧ w1.drew.cell? ⟨w.heap.size, 1, none⟩ = some v ∧ Later w w1.drew) :=
  ⟨⟨q0, q1, hl, hb⟩, q0, q1, hl, hb.drew⟩
theorem held_below (h : w1.cell? ⟨w.heap.size, 0, none⟩ = some u ∧ w1.cell? ⟨w.heap.size, 1, none⟩ = some v ∧ Later w w1) (hb : Below w1.heap.size w1 w5) : w5.cell? ⟨w.heap.size, 0, none⟩ = some u ∧ w5.cell? ⟨w.heap.size, 1, none⟩ = some v ∧ Later w w5 :=
  ⟨by rw [hb.cell (p := ⟨w.heap.size, 0, none⟩) h.2.2.1]; exact h.1, by rw [hb.cell (p := ⟨w.heap.size, 1, none⟩) h.2.2.1]; exact h.2.1, Nat.lt_of_lt_of_le h.2.2.1 hb.size, h.2.2.2.trans (hb.mono h.2.2.2.size)⟩
theorem held_alloc (o : Obj) (h : w1.cell? ⟨w.heap.size, 0, none⟩ = some u ∧ w1.cell? ⟨w.heap.size, 1, none⟩ = some v ∧ Later w w1) : (w1.alloc o).cell? ⟨w.heap.size, 0, none⟩ = some u ∧ (w1.alloc o).cell? ⟨w.heap.size, 1, none⟩ = some v ∧ Later w (w1.alloc o) :=
  held_below h ((Below.refl _ _).alloc (Nat.le_refl _) o)
theorem held_base (h : w1.cell? ⟨w.heap.size, 0, none⟩ = some u ∧ w1.cell? ⟨w.heap.size, 1, none⟩ = some v ∧ Later w w1) : Below w.heap.size w w1 := h.2.2.2
end

theorem new_a {w w1 w5 : World} {t n g c : Nat} {S : List (Nat × Nat)} (hb : Below w.heap.size w w1) (r1 : w1.heap.size ≤ g) (r2 : g < w5.heap.size) (r3 : n ≤ c) (r4 : c ≤ maxLen) (r5 : SeedsIn w5 ⟨g, 0, none⟩ S) (r6 : Below w1.heap.size w1 w5) :
    NewSk w ((w5.alloc (.cells (nilRows n).toArray 208)).alloc (.cells #[.int .i64 t, .slice (some ⟨g, 0, none⟩) n c, .slice (some ⟨w5.heap.size, 0, none⟩) n n] 197)) (w5.heap.size + 1) t n S g c w5.heap.size := by
  have h1 := heap_alloc_new w5 (.cells (nilRows n).toArray 208)
  have b1 := (Below.refl w5.heap.size w5).alloc (Nat.le_refl _) (.cells (nilRows n).toArray 208)
  have hs : (w5.alloc (.cells (nilRows n).toArray 208)).heap.size = w5.heap.size + 1 := by simp
  generalize w5.alloc (.cells (nilRows n).toArray 208) = w6 at *
  have b2 := (Below.refl w6.heap.size w6).alloc (Nat.le_refl _) (.cells #[.int .i64 t, .slice (some ⟨g, 0, none⟩) n c, .slice (some ⟨w5.heap.size, 0, none⟩) n n] 197)
  have h2 := heap_alloc_new w6 (.cells #[.int .i64 t, .slice (some ⟨g, 0, none⟩) n c, .slice (some ⟨w5.heap.size, 0, none⟩) n n] 197)
  have z1 := hb.size
  have z6 := r6.size
  exact {
    head := by rw [← hs]; exact h2
    seeds := (r5.keep (b1.block g r2)).keep (b2.block g (by rw [hs]; omega))
    slen := r3
    smax := r4
    tab := (b2.block _ (by rw [hs]; omega)).trans h1
    hp := by omega
    hs := by omega
    hc := by omega
    hsc := by omega
    hb := ((hb.trans (r6.mono z1)).trans (b1.mono (by omega))).trans (b2.mono (by omega)) }
theorem new_b {w w1 w5 : World} {t n g c : Nat} {S : List (Nat × Nat)} (hb : Below w.heap.size w w1) (r1 : (w1.alloc (.cells (nilRows n).toArray 208)).drew.heap.size ≤ g) (r2 : g < w5.heap.size) (r3 : n ≤ c) (r4 : c ≤ maxLen) (r5 : SeedsIn w5 ⟨g, 0, none⟩ S) (r6 : Below (w1.alloc (.cells (nilRows n).toArray 208)).drew.heap.size (w1.alloc (.cells (nilRows n).toArray 208)).drew w5) :
    NewSk w (w5.alloc (.cells #[.int .i64 t, .slice (some ⟨g, 0, none⟩) n c, .slice (some ⟨w1.heap.size, 0, none⟩) n n] 197)) w5.heap.size t n S g c w1.heap.size := by
  have h1 : (w1.alloc (.cells (nilRows n).toArray 208)).drew.heap[w1.heap.size]? = _ := heap_alloc_new w1 (.cells (nilRows n).toArray 208)
  have b1 : Below w1.heap.size w1 (w1.alloc (.cells (nilRows n).toArray 208)).drew := ((Below.refl w1.heap.size w1).alloc (Nat.le_refl _) (.cells (nilRows n).toArray 208)).drew
  have hs : (w1.alloc (.cells (nilRows n).toArray 208)).drew.heap.size = w1.heap.size + 1 := by show (w1.alloc _).heap.size = _; simp
  generalize (w1.alloc (.cells (nilRows n).toArray 208)).drew = w6 at *
  have b2 := (Below.refl w5.heap.size w5).alloc (Nat.le_refl _) (.cells #[.int .i64 t, .slice (some ⟨g, 0, none⟩) n c, .slice (some ⟨w1.heap.size, 0, none⟩) n n] 197)
  have h2 := heap_alloc_new w5 (.cells #[.int .i64 t, .slice (some ⟨g, 0, none⟩) n c, .slice (some ⟨w1.heap.size, 0, none⟩) n n] 197)
  have z1 := hb.size
  have z6 := r6.size
  exact {
    head := h2
    seeds := r5.keep (b2.block g r2)
    slen := r3
    smax := r4
    tab := (b2.block _ (by omega)).trans ((r6.block _ (by omega)).trans h1)
    hp := by omega
    hs := by omega
    hc := by omega
    hsc := by omega
    hb := ((hb.trans (b1.mono z1)).trans (r6.mono (by omega))).trans (b2.mono (by omega)) }

set_option maxHeartbeats 3200000 in
theorem new_yes {w : World} {sa : Option Addr} {n sc : Nat} {S : List (Nat × Nat)} (h : SetAt w sa n sc S) (t : Nat) (k m : Int) (hg : goodB t S k m = true) :
    Calls Tryz.prog 62 #[setV t sa n sc k m] w fun e w' => ∃ p sb sc cb, e = .returned (.pointer (some ⟨p, 0, none⟩)) ∧ NewSk w w' p t n S sb sc cb := by
  obtain ⟨tn, htn, hset⟩ := goodB_set hg
  obtain rfl : t = tn := by omega
  clear htn
  have hn := h.len
  have HN := Lib.hid hn
  have hn1 := hset.n1
  have hn7 := hset.n7
  rw [hn] at hn1 hn7
  have hb0 := (Below.refl w.heap.size w).alloc (Nat.le_refl _) (.cells #[.int .i64 t, .slice sa n sc, .int .i64 k, .int .i64 m] 32)
  have hw1 := alloc1 w (.cells #[.int .i64 t, .slice sa n sc, .int .i64 k, .int .i64 m] 32)
  have K := kgood_any (h.below hb0) t k m
  rw [hg] at K
  obtain ⟨ad, rfl, hsd⟩ := h.at_ (by omega)
  have HB := Lib.hid hb0
  have HW := Lib.hid hw1
  have hmk := fun W => mk_rows W n (by omega)
  have KC := Lib.hid (fun W (hb : Below w.heap.size w W) => clone_seeds (w := W) (c := sc) (hsd.keep (hb.block _ (seeds_lt hsd (by omega)))) (by omega) (by omega))
  rw [hn] at KC
  clear hb0 hg h hsd hset hw1 hn
  unfold setV
  go_enter Tryz.func62, Tryz.ntmps62
  go_wp2_with fail
  refine K.mono ?_
  rintro e w1 ⟨rfl, hb⟩
  have HB2 := Lib.hid (HB.out.trans (hb.mono HB.out.size))
  have hbx : w1.heap[w.heap.size]? = some (.cells #[.int .i64 t, .slice (some ad) n sc, .int .i64 k, .int .i64 m] 32) := (hb.block _ (by simp)).trans HW.out
  have q0 : w1.cell? ⟨w.heap.size, 0, none⟩ = some (.int .i64 t) := by rw [cell_of_row _ _ _ _ _ _ hbx]; rfl
  have q1 : w1.cell? ⟨w.heap.size, 1, none⟩ = some (.slice (some ad) n sc) := by rw [cell_of_row _ _ _ _ _ _ hbx]; rfl
  have hlt := lt_of_heap hbx
  clear hb HB K hbx HW
  go_wp2_with fail
  have HS := Lib.hid (held_start q0 q1 HB2.out hlt)
  go_region_held3 (fun w' => w'.cell? ⟨w.heap.size, 0, none⟩ = some (.int .i64 t) ∧ w'.cell? ⟨w.heap.size, 1, none⟩ = some (.slice (some ad) n sc) ∧ Later w w')
    (first | exact HS.out.1 | exact HS.out.2 | exact held_below (by assumption) (by assumption) | exact held_alloc _ (by assumption))
    ((go_at_call 32; refine (KC.out _ (held_base (by assumption))).mono ?_; rintro e w5 ⟨g5, c5, rfl, r1, r2, r3, r4, r5, r6⟩))
  all_goals
    rw [HN.out]
    go_wp2_with fail
    go_ret
    first
      | exact ⟨_, _, _, _, rfl, new_a HB2.out.drew r1 r2 (HN.out ▸ r3) r4 r5 r6⟩
      | exact ⟨_, _, _, _, rfl, new_b HB2.out r1 r2 (HN.out ▸ r3) r4 r5 r6⟩

/-- an empty sketch -/
def SkV.empty (t : Nat) (S : List (Nat × Nat)) : SkV := ⟨t, S, List.replicate S.length []⟩
theorem SkV.empty_good {t : Nat} {S : List (Nat × Nat)} (h : GoodS t S) : (SkV.empty t S).Good where
  set := h
  len := by simp [SkV.empty]
  row := fun l hl => by
    rw [SkV.empty] at hl
    obtain ⟨_, rfl⟩ := List.mem_replicate.1 hl
    exact ⟨List.Pairwise.nil, Nat.zero_le _, fun x hx => by simp at hx⟩
theorem NewSk.sk {w w' : World} {p t n : Nat} {S : List (Nat × Nat)} {sb sc cb : Nat} (h : NewSk w w' p t n S sb sc cb) (hg : GoodS t S) (hn : S.length = n) (T : Tags) (i : Nat) :
    ∃ T', Next T w T' ∧ Sk p (SkV.empty t S) T' i w' := by
  subst hn
  have hcp : p ≠ cb := fun e => by
    have h1 := h.head
    rw [e, h.tab] at h1
    simp at h1
  refine ⟨fun k => if k < w.heap.size then T k else if k = cb then some i else none, fun k hk => if_pos hk, ⟨sb, 0, none⟩, sc, cb, nilRows S.length, {
    head := by
      have := h.head
      simpa [SkV.empty] using this
    tp := by simp [Nat.not_lt.2 h.hp, hcp]
    seeds := h.seeds
    ts := by simp [Nat.not_lt.2 h.hs, h.hsc]
    slen := h.slen
    smax := h.smax
    tab := h.tab
    tc := by simp [Nat.not_lt.2 h.hc]
    rlen := by simp [nilRows, SkV.empty]
    row := fun j v l hv hl => ?_
    tr := fun j v g hv hg => ?_
    apart := fun j j' v v' g hv _ hg _ => ?_
    good := SkV.empty_good hg }⟩
  all_goals
    have e : v = .slice none 0 0 := by
      rw [nilRows, List.getElem?_replicate] at hv
      split at hv
      · exact (Option.some.inj hv).symm
      · cases hv
    subst e
  · have e : l = [] := by
      rw [SkV.empty, List.getElem?_replicate] at hl
      split at hl
      · exact (Option.some.inj hl).symm
      · cases hl
    subst e
    exact World.ownsRow_nil _ _ _ _
  · simp [Value.ownBlock] at hg
  · simp [Value.ownBlock] at hg
/-- New: a thing of its own -/
theorem new_any {w : World} {sa : Option Addr} {n sc : Nat} {S : List (Nat × Nat)} (h : SetAt w sa n sc S) (t : Nat) (k m : Int) (hg : goodB t S k m = true) (T : Tags) (i : Nat) :
    Calls Tryz.prog 62 #[setV t sa n sc k m] w fun e w' => ∃ p, e = .returned (.pointer (some ⟨p, 0, none⟩)) ∧ Below w.heap.size w w' ∧ ∃ T', Next T w T' ∧ Sk p (SkV.empty t S) T' i w' := by
  obtain ⟨tn, htn, hset⟩ := goodB_set hg
  obtain rfl : t = tn := by omega
  refine (new_yes h t k m hg).mono ?_
  rintro e w' ⟨p, sb, sc', cb, rfl, hN⟩
  exact ⟨p, rfl, hN.hb, hN.sk hset h.len T i⟩
end Go.Proofs.YtlhpbfjelgmkeaaGreat
/- Contracts of the reference's Times and Divide. Conditions: none (each a uint64). -/
set_option maxRecDepth 100000
namespace Go.Proofs.YtlhpbfjelgmkeaaGreat
open Go.RowKit

theorem times_split (x y : Nat) : x * y = (x / 4294967296) * (y / 4294967296) * 18446744073709551616 + ((x / 4294967296) * (y % 4294967296) + (x % 4294967296) * (y / 4294967296)) * 4294967296 + (x % 4294967296) * (y % 4294967296) := by
  conv => lhs; rw [kn_split x, kn_split y]
  rw [Nat.add_mul, Nat.mul_add, Nat.mul_add, Nat.mul_right_comm (x / 4294967296) 4294967296 (y / 4294967296 * 4294967296), ← Nat.mul_assoc (x / 4294967296) (y / 4294967296), Nat.mul_right_comm (x / 4294967296) 4294967296 (y % 4294967296), ← Nat.mul_assoc (x % 4294967296)]
  generalize x / 4294967296 * (y / 4294967296) = A
  generalize x / 4294967296 * (y % 4294967296) = B
  generalize x % 4294967296 * (y / 4294967296) = C
  generalize x % 4294967296 * (y % 4294967296) = D
  omega
theorem half_mul {a b : Nat} (ha : a < 4294967296) (hb : b < 4294967296) : a * b ≤ 18446744065119617025 := by
  have : a * b ≤ 4294967295 * 4294967295 := Nat.mul_le_mul (by omega) (by omega)
  omega

/-- one bit more -/
theorem bit_next (N hi lo m : Nat) (hN : N = hi * 18446744073709551616 + lo) (hm : m < 64) : N / 2 ^ m = 2 * (N / 2 ^ (m + 1)) + lo / 2 ^ m % 2 := by
  have e1 : N / 2 ^ (m + 1) = N / 2 ^ m / 2 := by rw [Nat.pow_succ, Nat.div_div_eq_div_mul]
  have e2 : N / 2 ^ m = lo / 2 ^ m + hi * 2 ^ (63 - m) * 2 := by
    have e3 : N = lo + hi * 2 ^ (63 - m) * 2 * 2 ^ m := by
      have : 2 ^ (63 - m) * (2 * 2 ^ m) = 18446744073709551616 := by
        rw [← Nat.pow_succ', ← Nat.pow_add, show 63 - m + (m + 1) = 64 by omega]
      rw [hN, Nat.mul_assoc (hi * _), Nat.mul_assoc hi, this, Nat.add_comm]
    rw [e3, Nat.add_mul_div_right _ _ (Nat.two_pow_pos m)]
  rw [e1, e2]
  generalize lo / 2 ^ m = A
  generalize hi * 2 ^ (63 - m) = B
  omega
theorem div_step (q r c b : Nat) (hr : r < c) (hb : b < 2) (M : Nat) (h1 : M / c = q) (h2 : M % c = r) :
    (c ≤ 2 * r + b → (2 * M + b) / c = 2 * q + 1 ∧ (2 * M + b) % c = 2 * r + b - c) ∧ (2 * r + b < c → (2 * M + b) / c = 2 * q ∧ (2 * M + b) % c = 2 * r + b) := by
  have h := Nat.div_add_mod M c
  rw [h1, h2] at h
  constructor
  · intro hc
    have e : 2 * M + b = (2 * r + b - c) + c * (2 * q + 1) := by
      rw [Nat.mul_add, Nat.mul_left_comm]
      generalize c * q = Z at h ⊢
      omega
    rw [e]
    exact ⟨by rw [Nat.add_mul_div_left _ _ (by omega), Nat.div_eq_of_lt (by omega), Nat.zero_add], by rw [Nat.add_mul_mod_self_left, Nat.mod_eq_of_lt (by omega)]⟩
  · intro hc
    have e : 2 * M + b = (2 * r + b) + c * (2 * q) := by
      rw [Nat.mul_left_comm]
      generalize c * q = Z at h ⊢
      omega
    rw [e]
    exact ⟨by rw [Nat.add_mul_div_left _ _ (by omega), Nat.div_eq_of_lt (by omega), Nat.zero_add], by rw [Nat.add_mul_mod_self_left, Nat.mod_eq_of_lt (by omega)]⟩
theorem div_small (N c m : Nat) (hN : N < c * 18446744073709551616) : N / 2 ^ (m + 1) / c < 9223372036854775808 := by
  have hc : 0 < c := by omega
  refine (Nat.div_lt_iff_lt_mul hc).2 ?_
  have : N / 2 ^ (m + 1) ≤ N / 2 := Nat.div_le_div_left (by rw [Nat.pow_succ]; have := Nat.two_pow_pos m; omega) (by omega)
  omega
end Go.Proofs.YtlhpbfjelgmkeaaGreat
/- Contracts of the reference's Divide and MulDiv, of field.MulDiv, and of both Hashes. Conditions: none (each a uint64). -/
set_option maxRecDepth 100000
namespace Go.Proofs.YtlhpbfjelgmkeaaGreat
open Go.RowKit

theorem ret_three {k : IntKind} {a b c d : Int} {e : Bool} (h : a = b) (h2 : c = d) : Ending.returned (.tuple #[.int k a, .int k c, .bool e]) = .returned (.tuple #[.int k b, .int k d, .bool e]) := by rw [h, h2]

def mdQ (a b c : Nat) : Nat := if c ≤ a * b / 18446744073709551616 then 0 else a * b / c
def mdB (a b c : Nat) : Bool := decide (a * b / 18446744073709551616 < c)
theorem md_words (a b : Nat) : a * b / 18446744073709551616 * 18446744073709551616 + a * b % 18446744073709551616 = a * b := by omega

set_option maxHeartbeats 1600000 in
theorem mulDiv_any (a b c : Nat) (w : World) (h1 : a < 18446744073709551616) (h2 : b < 18446744073709551616) (h3 : c < 18446744073709551616) : Calls Tryz.prog 136 #[.int .u64 (a : Int), .int .u64 (b : Int), .int .u64 (c : Int)] w fun e w' => e = .returned (.tuple #[.int .u64 (mdQ a b c : Int), .bool (mdB a b c)]) ∧ ∃ n, w' = w.drewN n := by
  have hW := md_words a b
  have hQ : mdQ a b c = if c ≤ a * b / 18446744073709551616 then 0 else a * b / c := rfl
  have hB : mdB a b c = decide (a * b / 18446744073709551616 < c) := rfl
  have hl : a * b % 18446744073709551616 < 18446744073709551616 := Nat.mod_lt _ (by decide)
  have HM := Tryz.bits_Mul64 a b h1 h2
  obtain ⟨H, hH⟩ : ∃ n : Nat, n = a * b / 18446744073709551616 := ⟨_, rfl⟩
  obtain ⟨L, hL⟩ : ∃ n : Nat, n = a * b % 18446744073709551616 := ⟨_, rfl⟩
  rw [← hH, ← hL] at HM hW
  rw [← hH] at hQ hB
  rw [← hL] at hl
  rw [← hW] at hQ
  by_cases hc : c ≤ H
  · have t0 : decide ((c : Int) ≤ (H : Int)) = true := decide_eq_true (by omega)
    rw [hQ, hB, if_pos hc, decide_eq_false (by omega)]
    clear hQ hB hW hH hL
    go_enter Tryz.func136, Tryz.ntmps136
    go_wp2_with fail
    refine (HM _).mono ?_
    rintro e w' ⟨rfl, rfl⟩
    clear HM
    go_wp2_with fail
    go_ret2
    exact ⟨rfl, 0, (World.drewN_zero _).symm⟩
  · have t0 : decide ((c : Int) ≤ (H : Int)) = false := decide_eq_false (by omega)
    rw [hQ, hB, if_neg hc, decide_eq_true (by omega)]
    have HD := div_any H L c
    obtain ⟨A, hA⟩ : ∃ n : Nat, n = (H * 18446744073709551616 + L) / c := ⟨_, rfl⟩
    obtain ⟨B, hB'⟩ : ∃ n : Nat, n = (H * 18446744073709551616 + L) % c := ⟨_, rfl⟩
    rw [← hA]
    rw [← hA, ← hB'] at HD
    clear hA hB'
    clear hQ hB hW hH hL
    go_enter Tryz.func136, Tryz.ntmps136
    go_wp2_with fail
    refine (HM _).mono ?_
    rintro e w' ⟨rfl, rfl⟩
    clear HM
    go_wp2_with fail
    refine (HD _ hl h3 (by omega)).mono ?_
    rintro e w1 ⟨rfl, n, rfl⟩
    clear HD
    go_wp2_with fail
    go_ret2
    exact ⟨rfl, n, rfl⟩
end Go.Proofs.YtlhpbfjelgmkeaaGreat
/- Contracts of kmv's answer and Answers. Conditions: a sketch that was made. -/
set_option maxRecDepth 100000
namespace Go.Proofs.YtlhpbfjelgmkeaaGreat
open Go.RowKit Go.Maps Go.Sort

/-- the answer of a copy -/
def ansOf (t : Nat) (l : List Nat) : Nat := if l.length < t then l.length else mdQ (t - 1) 2305843009213693951 (l.getD (t - 1) 0)
/-- a list that rises: its member k is at least k -/
theorem up_ge : ∀ (l : List Nat), Up l → ∀ (b : Nat), (∀ x ∈ l, b ≤ x) → ∀ k (hk : k < l.length), b + k ≤ l[k]
  | [], _, _, _, k, hk => by simp at hk
  | y :: r, hu, b, hb, 0, _ => by simpa using hb y (List.mem_cons_self ..)
  | y :: r, hu, b, hb, k + 1, hk => by
    have h := List.pairwise_cons.1 hu
    have hy := hb y (List.mem_cons_self ..)
    have := up_ge r h.2 (b + 1) (fun x hx => by have := h.1 x hx; omega) k (by simpa using hk)
    rw [List.getElem_cons_succ]; omega
theorem mdQ_le {a c : Nat} (h : a ≤ c) (h0 : 0 < c) : mdQ a 2305843009213693951 c ≤ 2305843009213693951 := by
  unfold mdQ
  split
  · omega
  · calc a * 2305843009213693951 / c ≤ c * 2305843009213693951 / c := Nat.div_le_div_right (Nat.mul_le_mul_right _ h)
      _ = 2305843009213693951 := Nat.mul_div_cancel_left _ h0
theorem ansOf_le {t : Nat} {l : List Nat} (ht2 : 2 ≤ t) (ht : t ≤ 64) (h : GoodL t l) : ansOf t l ≤ 2305843009213693951 := by
  unfold ansOf
  split
  · omega
  · have hk : t - 1 < l.length := by omega
    have h1 := up_ge l h.up 0 (fun _ _ => Nat.zero_le _) (t - 1) hk
    rw [List.getD_eq_getElem?_getD, List.getElem?_eq_getElem hk]
    exact mdQ_le (by simpa using h1) (by simp; omega)

set_option maxHeartbeats 1600000 in
theorem answer_any {w : World} {p t n c : Nat} {a : Option Addr} {l : List Nat} (c0 : w.cell? ⟨p, 0, none⟩ = some (.int .i64 t)) (h : Holds w (.slice a n c) (nats l)) (hn : l.length = n) (hg : GoodL t l) (ht2 : 2 ≤ t) (ht : t ≤ 64) :
    Calls Tryz.prog 112 #[.pointer (some ⟨p, 0, none⟩), .slice a n c] w (Draws (.int .i64 (ansOf t l : Int)) w) := by
  have hle := ansOf_le ht2 ht hg
  by_cases hlt : n < t
  · have e : ansOf t l = n := by unfold ansOf; rw [if_pos (by omega), hn]
    have t1 : decide (n < t) = true := decide_eq_true hlt
    rw [e]
    clear e hle h hg
    go_enter Tryz.func112, Tryz.ntmps112
    go_wp2_with fail
    go_ret
    exact ⟨rfl, 0, (World.drewN_zero _).symm⟩
  · have hk : t - 1 < l.length := by omega
    have e : ansOf t l = mdQ (t - 1) 2305843009213693951 l[t - 1] := by unfold ansOf; rw [if_neg (by omega), List.getD_eq_getElem?_getD, List.getElem?_eq_getElem hk]; rfl
    obtain ⟨ad, rfl⟩ := h.ptr (by omega)
    have hc := h.cell (nats_at hk)
    have hx := hg.lt _ (List.getElem_mem hk)
    have t1 : decide (n < t) = false := decide_eq_false hlt
    rw [e] at hle ⊢
    generalize l[t - 1] = x at *
    obtain ⟨s, hs⟩ : ∃ s, s = t - 1 := ⟨_, rfl⟩
    rw [← hs] at hc hle ⊢
    have KM := fun W => mulDiv_any s 2305843009213693951 x W (by omega) (by decide) (by omega)
    have es : (t : Int) - 1 = (s : Int) := by omega
    have b0 : (0 : Int) ≤ (s : Int) := by omega
    have b1 : (s : Int) < (n : Int) := by omega
    generalize mdQ s 2305843009213693951 x = q at *
    generalize mdB s 2305843009213693951 x = qb at *
    have hq : IntKind.i64.wrap (q : Int) = (q : Int) := by rw [IntKind.wrap_i64]; omega
    have KM := Lib.hid KM
    clear e h hg hk hx hs hle hn
    go_enter Tryz.func112, Tryz.ntmps112
    go_wp2_with fail
    go_quiet ((exact Calls.quiet_of (KM.out _)))
    go_wp2_with fail
    go_ret
    exact ⟨rfl, _, rfl⟩

theorem infoInt : (Tryz.prog.info? 3).map (fun i => (i.zero, i.size, i.bytes)) = some (some (.int .i64 0), 1, 8) := by kernel_rfl
def ints (l : List Nat) : List Value := l.map fun n : Nat => .int .i64 (n : Int)
theorem mk_ints (w : World) (n : Nat) (hn : n ≤ 1000) :
    (Instr.makeSlice 27 (.int .i64 (n : Int)) (.int .i64 (n : Int))).run Tryz.prog w = .ok (.slice (some ⟨w.heap.size, 0, none⟩) n n) (w.alloc (.cells (ints (List.replicate n 0)).toArray 3)) := by
  obtain ⟨i, hi, hz0, hz1, hz2⟩ := info_parts infoInt
  have := run_make (P := Tryz.prog) w 27 3 i (.int .i64 0) Tryz.underlying27 hi hz0 .i64 .i64 (n : Int) n (by omega) (by omega) (by rw [hz2]; omega) (by omega)
  rw [this, hz1]
  simp only [Int.toNat_natCast, Nat.mul_one, Value.cells]
  have e : madeCells #[Value.int .i64 0] n = (ints (List.replicate n 0)).toArray := by
    apply Array.toList_inj.1
    rw [toList_madeCells_one]
    simp [ints]
  rw [e]
/-- the answers behind m rounds -/
def SkV.answers (V : SkV) : List Nat := V.L.map (ansOf V.t)
def ansPart (A : List Nat) (m : Nat) : List Nat := A.take m ++ List.replicate (A.length - m) 0
theorem ansPart_next (A : List Nat) (m : Nat) (h : m < A.length) : (ansPart A m).set m A[m] = ansPart A (m + 1) := by
  unfold ansPart
  rw [List.set_append_right _ _ (by simp; omega), List.length_take, Nat.min_eq_left (by omega), Nat.sub_self, show A.length - m = (A.length - (m + 1)) + 1 by omega, List.replicate_succ, List.set_cons_zero, List.take_succ_eq_append_getElem h, List.append_assoc]
  rfl
theorem set_ints {w : World} {g j : Nat} {xs : List Nat} (h : w.heap[g]? = some (.cells (ints xs).toArray 3 (0, 0))) (c : Nat) : (w.setCell ⟨g, j, none⟩ (.int .i64 (c : Int))).heap[g]? = some (.cells (ints (xs.set j c)).toArray 3 (0, 0)) := by
  rw [heap_set h]
  congr 2
  apply Array.toList_inj.1
  simp [ints, List.map_set]

theorem cell_ints {w : World} {g j : Nat} {xs : List Nat} (h : w.heap[g]? = some (.cells (ints xs).toArray 3 (0, 0))) (hj : j < xs.length) : w.cell? ⟨g, j, none⟩ = some (.int .i64 (xs[j] : Int)) := by
  rw [cell_of_row _ _ _ _ _ _ h]
  simp [ints, hj]
theorem ansPart_len (A : List Nat) (m : Nat) (h : m ≤ A.length) : (ansPart A m).length = A.length := by simp [ansPart]; omega
/-- a new row of the answers -/
def AnsAt (w : World) (A : List Nat) (e : Ending) (w' : World) : Prop :=
  ∃ g, e = .returned (.slice (some ⟨g, 0, none⟩) A.length A.length) ∧ w.heap.size ≤ g ∧ w'.heap[g]? = some (.cells (ints A).toArray 3 (0, 0)) ∧ Below w.heap.size w w'

set_option maxHeartbeats 1600000 in
theorem answers_any {T : Tags} {i : Nat} {w : World} {p : Nat} {V : SkV} (h : Sk p V T i w) :
    Calls Tryz.prog 70 #[.pointer (some ⟨p, 0, none⟩)] w (AnsAt w V.answers) := by
  obtain ⟨sa, sc, cb, rows, g⟩ := h
  obtain ⟨c0, c1, c2⟩ := g.cells
  have hset := g.good.set
  have hlen := g.good.len
  have hn7 : V.L.length ≤ 7 := by rw [hlen]; exact hset.n7
  have KM := made_yes c0 hset.t2
  have hmk := fun W => mk_ints W V.L.length (by omega)
  have hb0 := (Below.refl w.heap.size w).alloc (Nat.le_refl _) (.cells (ints (List.replicate V.L.length 0)).toArray 3)
  have ha0 := alloc1 w (.cells (ints (List.replicate V.L.length 0)).toArray 3)
  have e0 : List.replicate V.L.length 0 = ansPart V.answers 0 := by simp [ansPart, SkV.answers]
  have hA : V.answers.length = V.L.length := by simp [SkV.answers]
  rw [e0] at hmk hb0 ha0
  have HI := Lib.hid (And.intro ha0 hb0)
  have HG := Lib.hid g
  clear hb0 ha0 e0 g
  unfold AnsAt
  rw [hA]
  have HL := Lib.hid hA
  generalize hN : V.L.length = N at *
  have HN := Lib.hid hN
  clear hN hA hlen
  go_enter Tryz.func70, Tryz.ntmps70
  go_wp2_with fail
  refine KM.mono ?_
  rintro e w' ⟨rfl, rfl⟩
  clear KM
  go_wp2_with fail
  go_loopw [4, 16] (fun _ k wr => ∃ m : Nat, k = .int .i64 m ∧ m ≤ N ∧ Hid (wr.heap[w.heap.size]? = some (.cells (ints (ansPart V.answers m)).toArray 3 (0, 0)) ∧ Below w.heap.size w wr)) (fun _ k _ => N - (intOf k).toNat)
  case atStart => exact ⟨0, rfl, Nat.zero_le _, HI.out⟩
  case round =>
    obtain ⟨m, rfl, hm, HR⟩ := hrel
    clear c0 c1 c2
    by_cases hlt : m < N
    · obtain ⟨sa1, sc1, cb1, rows1, g1⟩ := HG.out.below HR.out.2
      have hmL : m < V.L.length := by rw [HN.out]; exact hlt
      obtain ⟨c0, c1, c2⟩ := g1.cells
      rw [HN.out] at c2
      obtain ⟨v, hv, c3, f3, hown, hgl⟩ := g1.at_ hmL
      obtain ⟨a, c, rfl, hc, hcm⟩ := ownsRow_form hown
      have KA := answer_any c0 (Holds.of_row (by rw [nats_len]; exact hown)) rfl hgl hset.t2 hset.t64
      have hAm : m < V.answers.length := by rw [HL.out]; exact hlt
      have eA : V.answers[m] = ansOf V.t V.L[m] := by simp [SkV.answers]
      rw [← eA] at KA
      have hA2 := set_ints (j := m) HR.out.1 V.answers[m]
      rw [ansPart_next _ _ hAm] at hA2
      have c4 := cell_ints HR.out.1 (j := m) (by rw [ansPart_len _ _ (by omega)]; omega)
      generalize (ansPart V.answers m)[m]'(by rw [ansPart_len _ _ (by omega)]; omega) = old at c4
      have f4 := free_of_row HR.out.1 m
      have b0 : (0 : Int) ≤ (m : Int) := by omega
      have b1 : (m : Int) < (N : Int) := by omega
      have HA2 := Lib.hid hA2
      have HK := Lib.hid KA
      have hbl := HR.out.2.size
      clear hA2 KA g1 hown hgl hv hc hcm eA
      go_wp2_with fail
      refine HK.out.mono ?_
      rintro e w1 ⟨rfl, q, rfl⟩
      clear HK
      go_wp2_with fail
      go_roundw
      case rel => exact ⟨m + 1, by go_num, by omega, Lib.hid ⟨HA2.out, (below_dN HR.out.2 q).setCell (Nat.le_refl _) _⟩⟩
      case measure => simp [intOf]; omega
    · have hme : m = N := by omega
      have HP : Hid (wr.heap[w.heap.size]? = some (.cells (ints V.answers).toArray 3 (0, 0)) ∧ Below w.heap.size w wr) := Lib.hid (by
        have := HR.out
        rw [hme, ← HL.out] at this
        simpa [ansPart] using this)
      clear HR hme
      go_wp2_with fail
      go_ret
      exact ⟨_, rfl, Nat.le_refl _, HP.out.1, HP.out.2⟩
end Go.Proofs.YtlhpbfjelgmkeaaGreat
/- Contracts of kmv's Copies and Copy. Conditions: a sketch that was made. -/
set_option maxRecDepth 100000
namespace Go.Proofs.YtlhpbfjelgmkeaaGreat
open Go.RowKit Go.Maps Go.Sort

/-- a row of rows of numbers, all of the call's own -/
structure RowsAt (w : World) (B g : Nat) (rows : List Value) (L : List (List Nat)) : Prop where
  tab : w.heap[g]? = some (.cells rows.toArray 208 (0, 0))
  hg : B ≤ g
  len : rows.length = L.length
  row : ∀ (j : Nat) v l, rows[j]? = some v → L[j]? = some l → w.ownsRow B 43 1 v l.length (nats l)
  apart : ∀ (j j' : Nat) v v' g, rows[j]? = some v → rows[j']? = some v' → v.ownBlock = some g → v'.ownBlock = some g → j = j'

theorem set_cases {α : Type} {l : List α} {j k : Nat} {x y : α} (h : (l.set j x)[k]? = some y) : (k = j ∧ y = x) ∨ (k ≠ j ∧ l[k]? = some y) := by
  rw [List.getElem?_set] at h
  split at h
  · rename_i e
    split at h
    · exact .inl ⟨e.symm, (Option.some.inj h).symm⟩
    · cases h
  · rename_i e
    exact .inr ⟨fun e' => e e'.symm, h⟩
theorem row_ne_tab {w : World} {B g : Nat} {v : Value} {n : Nat} {xs : List Value} {rows : List Value} (h : w.ownsRow B 43 1 v n xs) (ht : w.heap[g]? = some (.cells rows.toArray 208 (0, 0))) : v.ownBlock ≠ some g := by
  intro e
  rcases h.2 with ⟨rfl, _⟩ | ⟨g', cap, cur, rfl, _, hgg, _⟩
  · simp [Value.ownBlock] at e
  · simp [Value.ownBlock] at e
    rw [e, ht] at hgg
    simp at hgg
theorem RowsAt.below {w w' : World} {B g : Nat} {rows : List Value} {L : List (List Nat)} (h : RowsAt w B g rows L) (hb : Below w.heap.size w w') : RowsAt w' B g rows L where
  tab := (hb.block g (lt_of_heap h.tab)).trans h.tab
  hg := h.hg
  len := h.len
  row := fun j v l hv hl => ownsRow_below (h.row j v l hv hl) hb
  apart := h.apart
theorem RowsAt.put {w w1 : World} {B g j : Nat} {rows : List Value} {L : List (List Nat)} {v : Value} {l : List Nat} (h : RowsAt w B g rows L) (hb : Below w.heap.size w w1) (hB : B ≤ w.heap.size)
    (hv : w1.ownsRow w.heap.size 43 1 v l.length (nats l)) : RowsAt (w1.setCell ⟨g, j, none⟩ v) B g (rows.set j v) (L.set j l) := by
  have h1 := h.below hb
  have hlt := lt_of_heap h.tab
  have hh : ∀ k, k ≠ g → (w1.setCell ⟨g, j, none⟩ v).heap[k]? = w1.heap[k]? := fun k hk => Below.heap_setCell _ _ _ _ (by simpa using hk)
  have hlo : ∀ (k : Nat) u x, rows[k]? = some u → u.ownBlock = some x → x < w.heap.size := fun k u x hu hx => by
    have hk : k < L.length := by rw [← h.len]; exact (List.getElem?_eq_some_iff.1 hu).1
    exact ((h.row k u _ hu (List.getElem?_eq_getElem hk)).lt x hx).2
  refine ⟨?_, h.hg, by rw [List.length_set, List.length_set]; exact h.len, fun k u m hu hm => ?_, fun k k' u u' x hu hu' hx hx' => ?_⟩
  · rw [heap_set h1.tab]; simp
  · rcases set_cases hu with ⟨rfl, rfl⟩ | ⟨hne, hu⟩
    · rcases set_cases hm with ⟨_, rfl⟩ | ⟨hne, _⟩
      · exact ownsRow_rebase (ownsRow_of_block hv fun x hx => hh x (fun e => row_ne_tab hv h1.tab (e ▸ hx))) (fun x hx => Nat.le_trans hB (hv.lt x hx).1)
      · exact absurd rfl hne
    · rcases set_cases hm with ⟨e, _⟩ | ⟨_, hm⟩
      · exact absurd e hne
      · have h2 := h1.row k u m hu hm
        exact ownsRow_of_block h2 fun x hx => hh x (fun e => row_ne_tab h2 h1.tab (e ▸ hx))
  · rcases set_cases hu with ⟨rfl, rfl⟩ | ⟨_, hu1⟩
    · rcases set_cases hu' with ⟨rfl, rfl⟩ | ⟨_, hu2⟩
      · rfl
      · have a := (hv.lt x hx).1
        have b := hlo k' u' x hu2 hx'
        omega
    · rcases set_cases hu' with ⟨rfl, rfl⟩ | ⟨_, hu2⟩
      · have a := (hv.lt x hx').1
        have b := hlo k u x hu1 hx
        omega
      · exact h.apart k k' u u' x hu1 hu2 hx hx'
theorem RowsAt.made (w : World) (n : Nat) : RowsAt (w.alloc (.cells (nilRows n).toArray 208)) w.heap.size w.heap.size (nilRows n) (List.replicate n []) := by
  have hnil : ∀ (j : Nat) v, (nilRows n)[j]? = some v → v = .slice none 0 0 := fun j v hv => by
    rw [nilRows, List.getElem?_replicate] at hv
    split at hv
    · exact (Option.some.inj hv).symm
    · cases hv
  refine ⟨heap_alloc_new w _, Nat.le_refl _, by simp [nilRows], fun j v l hv hl => ?_, fun j j' v v' g hv _ hg _ => ?_⟩
  · rw [hnil j v hv]
    rw [List.getElem?_replicate] at hl
    split at hl
    · rw [← Option.some.inj hl]; exact World.ownsRow_nil _ _ _ _
    · cases hl
  · rw [hnil j v hv] at hg
    simp [Value.ownBlock] at hg

/-- the copies behind m rounds -/
def copPart (L : List (List Nat)) (m : Nat) : List (List Nat) := L.take m ++ List.replicate (L.length - m) []
theorem copPart_next (A : List (List Nat)) (m : Nat) (h : m < A.length) : (copPart A m).set m A[m] = copPart A (m + 1) := by
  unfold copPart
  rw [List.set_append_right _ _ (by simp; omega), List.length_take, Nat.min_eq_left (by omega), Nat.sub_self, show A.length - m = (A.length - (m + 1)) + 1 by omega, List.replicate_succ, List.set_cons_zero, List.take_succ_eq_append_getElem h, List.append_assoc]
  rfl
theorem copPart_len (A : List (List Nat)) (m : Nat) (h : m ≤ A.length) : (copPart A m).length = A.length := by simp [copPart]; omega

/-- a new row of copies of the copies -/
def CopAt (w : World) (L : List (List Nat)) (e : Ending) (w' : World) : Prop :=
  ∃ g rows, e = .returned (.slice (some ⟨g, 0, none⟩) L.length L.length) ∧ RowsAt w' w.heap.size g rows L ∧ Below w.heap.size w w'

end Go.Proofs.YtlhpbfjelgmkeaaGreat
/- Contract of kmv's Copy: another sketch with the same. Conditions: a sketch that was made. -/
set_option maxRecDepth 100000
namespace Go.Proofs.YtlhpbfjelgmkeaaGreat
open Go.RowKit Go.Maps Go.Sort

/-- the blocks of a copy -/
structure CopySk (w w' : World) (p : Nat) (V : SkV) (sb sc cb : Nat) (rows : List Value) : Prop where
  head : w'.heap[p]? = some (.cells #[.int .i64 V.t, .slice (some ⟨sb, 0, none⟩) V.seeds.length sc, .slice (some ⟨cb, 0, none⟩) V.L.length V.L.length] 197 (0, 0))
  seeds : SeedsIn w' ⟨sb, 0, none⟩ V.seeds
  slen : V.seeds.length ≤ sc
  smax : sc ≤ maxLen
  rws : RowsAt w' w.heap.size cb rows V.L
  hp : w.heap.size ≤ p
  hs : w.heap.size ≤ sb
  hsc : sb ≠ cb
  hsr : ∀ (j : Nat) v, rows[j]? = some v → v.ownBlock ≠ some sb
  hpr : ∀ (j : Nat) v, rows[j]? = some v → v.ownBlock ≠ some p
  hb : Below w.heap.size w w'
theorem CopySk.sk {w w' : World} {p : Nat} {V : SkV} {sb sc cb : Nat} {rows : List Value} (h : CopySk w w' p V sb sc cb rows) (hg : V.Good) (T : Tags) (i : Nat) :
    ∃ T', Next T w T' ∧ Sk p V T' i w' := by
  have hcp : cb ≠ p := fun e => by
    have h1 := h.head
    rw [← e, h.rws.tab] at h1
    simp at h1
  refine ⟨fun k => if k < w.heap.size then T k else if k = p ∨ k = sb then none else some i, fun k hk => if_pos hk, ⟨sb, 0, none⟩, sc, cb, rows, {
    head := h.head
    tp := by simp [Nat.not_lt.2 h.hp]
    seeds := h.seeds
    ts := by simp [Nat.not_lt.2 h.hs]
    slen := h.slen
    smax := h.smax
    tab := h.rws.tab
    tc := by simp [Nat.not_lt.2 h.rws.hg, hcp, h.hsc.symm]
    rlen := h.rws.len
    row := fun j v l hv hl => ownsRow_rebase (h.rws.row j v l hv hl) (fun _ _ => Nat.zero_le _)
    tr := fun j v g hv hx => ?_
    apart := h.rws.apart
    good := hg }⟩
  have hjl : j < V.L.length := by rw [← h.rws.len]; exact (List.getElem?_eq_some_iff.1 hv).1
  have h1 := ((h.rws.row j v _ hv (List.getElem?_eq_getElem hjl)).lt g hx).1
  have h2 : g ≠ p := fun e => h.hpr j v hv (e ▸ hx)
  have h3 : g ≠ sb := fun e => h.hsr j v hv (e ▸ hx)
  simp [Nat.not_lt.2 h1, h2, h3]

theorem copySk_of {w W w' : World} {V : SkV} {sb sc cb : Nat} {rows : List Value} (hb : Below w.heap.size w W) (hs : SeedsIn W ⟨sb, 0, none⟩ V.seeds) (hsl : sb < W.heap.size) (h1 : V.seeds.length ≤ sc) (h2 : sc ≤ maxLen) (hr : RowsAt W w.heap.size cb rows V.L) (h3 : w.heap.size ≤ sb) (h4 : sb ≠ cb)
    (h5 : ∀ (j : Nat) v, rows[j]? = some v → v.ownBlock ≠ some sb) (hw : w' = W.alloc (.cells #[.int .i64 V.t, .slice (some ⟨sb, 0, none⟩) V.seeds.length sc, .slice (some ⟨cb, 0, none⟩) V.L.length V.L.length] 197)) :
    CopySk w w' W.heap.size V sb sc cb rows := by
  subst hw
  have b2 := (Below.refl W.heap.size W).alloc (Nat.le_refl _) (.cells #[.int .i64 V.t, .slice (some ⟨sb, 0, none⟩) V.seeds.length sc, .slice (some ⟨cb, 0, none⟩) V.L.length V.L.length] 197)
  exact {
    head := heap_alloc_new W _
    seeds := hs.keep (b2.block _ hsl)
    slen := h1
    smax := h2
    rws := hr.below b2
    hp := hb.size
    hs := h3
    hsc := h4
    hsr := h5
    hpr := fun j v hv e => by
      have hjl : j < V.L.length := by rw [← hr.len]; exact (List.getElem?_eq_some_iff.1 hv).1
      have := ((hr.row j v _ hv (List.getElem?_eq_getElem hjl)).lt _ e).2
      omega
    hb := hb.trans (b2.mono hb.size) }
theorem RowsAt.rebase {w : World} {A B g : Nat} {rows : List Value} {L : List (List Nat)} (h : RowsAt w A g rows L) (hB : B ≤ A) : RowsAt w B g rows L :=
  ⟨h.tab, Nat.le_trans hB h.hg, h.len, fun j v l hv hl => ownsRow_rebase (h.row j v l hv hl) fun x hx => Nat.le_trans hB ((h.row j v l hv hl).lt x hx).1, h.apart⟩
theorem RowsAt.block_lt {w : World} {B g : Nat} {rows : List Value} {L : List (List Nat)} (h : RowsAt w B g rows L) {j : Nat} {v : Value} (hv : rows[j]? = some v) {x : Nat} (hx : v.ownBlock = some x) : B ≤ x ∧ x < w.heap.size := by
  have hjl : j < L.length := by rw [← h.len]; exact (List.getElem?_eq_some_iff.1 hv).1
  exact (h.row j v _ hv (List.getElem?_eq_getElem hjl)).lt x hx

section
variable {w w1 w5 : World} {p : Nat} {u v : Value}
theorem heldp_start (q0 : w.cell? ⟨p, 0, none⟩ = some u) (q1 : w.cell? ⟨p, 1, none⟩ = some v) :
    (w.cell? ⟨p, 0, none⟩ = some u ∧ w.cell? ⟨p, 1, none⟩ = some v ∧ Below w.heap.size w w) ∧ (w.drew.cell? ⟨p, 0, none⟩ = some u ∧ w.drew.cell? ⟨p, 1, none⟩ = some v ∧ Below w.heap.size w w.drew) :=
  ⟨⟨q0, q1, Below.refl _ _⟩, q0, q1, (Below.refl _ _).drew⟩
theorem heldp_below (hp : p < w.heap.size) (h : w1.cell? ⟨p, 0, none⟩ = some u ∧ w1.cell? ⟨p, 1, none⟩ = some v ∧ Below w.heap.size w w1) (hb : Below w1.heap.size w1 w5) : w5.cell? ⟨p, 0, none⟩ = some u ∧ w5.cell? ⟨p, 1, none⟩ = some v ∧ Below w.heap.size w w5 :=
  ⟨by rw [hb.cell (p := ⟨p, 0, none⟩) (Nat.lt_of_lt_of_le hp h.2.2.size)]; exact h.1, by rw [hb.cell (p := ⟨p, 1, none⟩) (Nat.lt_of_lt_of_le hp h.2.2.size)]; exact h.2.1, h.2.2.trans (hb.mono h.2.2.size)⟩
theorem heldp_base (h : w1.cell? ⟨p, 0, none⟩ = some u ∧ w1.cell? ⟨p, 1, none⟩ = some v ∧ Below w.heap.size w w1) : Below w.heap.size w w1 := h.2.2
theorem heldp_alloc (hp : p < w.heap.size) (o : Obj) (h : w1.cell? ⟨p, 0, none⟩ = some u ∧ w1.cell? ⟨p, 1, none⟩ = some v ∧ Below w.heap.size w w1) : (w1.alloc o).cell? ⟨p, 0, none⟩ = some u ∧ (w1.alloc o).cell? ⟨p, 1, none⟩ = some v ∧ Below w.heap.size w (w1.alloc o) :=
  heldp_below hp h ((Below.refl _ _).alloc (Nat.le_refl _) o)
end

theorem copy_a {w W0 w5 w6 : World} {V : SkV} {g c g6 : Nat} {rows : List Value} (b0 : Below w.heap.size w W0) (r1 : W0.heap.size ≤ g) (r2 : g < w5.heap.size) (r3 : V.seeds.length ≤ c) (r4 : c ≤ maxLen) (r5 : SeedsIn w5 ⟨g, 0, none⟩ V.seeds) (r6 : Below W0.heap.size W0 w5)
    (s1 : RowsAt w6 w5.heap.size g6 rows V.L) (s2 : Below w5.heap.size w5 w6) :
    CopySk w (w6.alloc (.cells #[.int .i64 V.t, .slice (some ⟨g, 0, none⟩) V.seeds.length c, .slice (some ⟨g6, 0, none⟩) V.L.length V.L.length] 197)) w6.heap.size V g c g6 rows := by
  have z0 := b0.size
  have z5 := r6.size
  have z6 := s2.size
  have zg := s1.hg
  exact copySk_of ((b0.trans (r6.mono z0)).trans (s2.mono (by omega))) (r5.keep (s2.block _ r2)) (by omega) r3 r4 (s1.rebase (by omega)) (by omega) (by omega) (fun j v hv e => by have := (s1.block_lt hv e).1; omega) rfl
theorem copy_b {w W0 w5 w6 : World} {V : SkV} {g c g6 : Nat} {rows : List Value} (b0 : Below w.heap.size w W0) (s1 : RowsAt w6 W0.heap.size g6 rows V.L) (s2 : Below W0.heap.size W0 w6)
    (r1 : w6.heap.size ≤ g) (r2 : g < w5.heap.size) (r3 : V.seeds.length ≤ c) (r4 : c ≤ maxLen) (r5 : SeedsIn w5 ⟨g, 0, none⟩ V.seeds) (r6 : Below w6.heap.size w6 w5) :
    CopySk w (w5.alloc (.cells #[.int .i64 V.t, .slice (some ⟨g, 0, none⟩) V.seeds.length c, .slice (some ⟨g6, 0, none⟩) V.L.length V.L.length] 197)) w5.heap.size V g c g6 rows := by
  have z0 := b0.size
  have z5 := r6.size
  have z6 := s2.size
  have zg := lt_of_heap s1.tab
  exact copySk_of ((b0.trans (s2.mono z0)).trans (r6.mono (by omega))) r5 r2 r3 r4 ((s1.below r6).rebase (by omega)) (by omega) (by omega) (fun j v hv e => by have := (s1.block_lt hv e).2; omega) rfl

end Go.Proofs.YtlhpbfjelgmkeaaGreat
/- Contract of kmv's Estimate: the middle answer. Conditions: a sketch that was made. -/
set_option maxRecDepth 100000
namespace Go.Proofs.YtlhpbfjelgmkeaaGreat
open Go.RowKit Go.Maps Go.Sort

/-- the middle one of numbers -/
def sortI (A : List Nat) : List Int := (A.map fun n : Nat => (n : Int)).mergeSort fun x y => decide (x ≤ y)
def midOf (A : List Nat) : Int := (sortI A).getD (A.length / 2) 0
theorem sortI_len (A : List Nat) : (sortI A).length = A.length := by simp [sortI]

/-- sorting a row of numbers of the call's own -/
theorem sort_ints {w : World} {g : Nat} {A : List Nat} (h : w.heap[g]? = some (.cells (ints A).toArray 3 (0, 0))) (hn : A.length ≤ 1000) :
    Calls Tryz.prog 71 #[.slice (some ⟨g, 0, none⟩) A.length A.length] w fun e w' => e = .returned (.tuple #[]) ∧ w.grownBy w' (some g) ∧ ∀ k (hk : k < A.length), w'.cell? ⟨g, k, none⟩ = some (.int .i64 ((sortI A)[k]'(by rw [sortI_len]; exact hk))) := by
  have hH : Go.Sort.Holds (Value.int .i64) w g 0 (A.map fun n : Nat => (n : Int)).toArray := fun j hj => by
    have hjA : j < A.length := by simpa using hj
    refine ⟨?_, free_of_row h _⟩
    rw [Nat.zero_add, cell_ints h hjA]
    simp [hjA]
  have hlt := lt_of_heap h
  have K := Tryz.slices_Sort_int g 0 A.length (A.map fun n : Nat => (n : Int)) w hH hlt (by simp; omega)
  rw [List.length_map] at K
  refine K.mono ?_
  rintro e w' ⟨rfl, n, os, rfl⟩
  refine ⟨rfl, grownBy_sortedI _, fun k hk => ?_⟩
  have hks : k < (sortI A).length := by rw [sortI_len]; exact hk
  rw [cell?_grow _ _ _ (by simpa using hlt)]
  have := cell?_putRow (Value.int .i64) (Sort.ahead w n) g 0 _ (sortI A).toArray (holds_ahead _ _ _ _ _ _ hH) (by simp [sortI]) k (by simpa using hks)
  rw [Nat.zero_add] at this
  rw [show ((A.map fun n : Nat => (n : Int)).mergeSort fun x y => decide (x ≤ y)) = sortI A from rfl, this]
  simp [hks]

theorem SkV.answers_len (V : SkV) : V.answers.length = V.L.length := by simp [SkV.answers]

set_option maxHeartbeats 1600000 in
theorem estimate_any {T : Tags} {i : Nat} {w : World} {p : Nat} {V : SkV} (h : Sk p V T i w) :
    Calls Tryz.prog 42 #[.pointer (some ⟨p, 0, none⟩)] w fun e w' => e = .returned (.int .i64 (midOf V.answers)) ∧ Below w.heap.size w w' := by
  have K := answers_any h
  obtain ⟨_, _, _, _, g⟩ := h
  have h1 := g.good.set.n1
  have h7 := g.good.set.n7
  have hl := g.good.len
  clear g
  have hA := V.answers_len
  unfold midOf
  generalize V.answers = A at *
  have hn1 : 1 ≤ A.length := by omega
  have hn7 : A.length ≤ 7 := by omega
  clear h1 h7 hl hA
  have hk : A.length / 2 < A.length := by omega
  have hks : A.length / 2 < (sortI A).length := by rw [sortI_len]; exact hk
  have eg : (sortI A).getD (A.length / 2) 0 = (sortI A)[A.length / 2] := by rw [List.getD_eq_getElem?_getD, List.getElem?_eq_getElem hks]; rfl
  rw [eg]
  have KS := fun (W : World) g (hg : W.heap[g]? = some (.cells (ints A).toArray 3 (0, 0))) => (sort_ints hg (by omega)).mono (fun e w' (q : e = .returned (.tuple #[]) ∧ W.grownBy w' (some g) ∧ ∀ k (hk : k < A.length), w'.cell? ⟨g, k, none⟩ = some (.int .i64 ((sortI A)[k]'(by rw [sortI_len]; exact hk)))) => (show e = .returned (.tuple #[]) ∧ W.grownBy w' (some g) ∧ w'.cell? ⟨g, A.length / 2, none⟩ = some (.int .i64 (sortI A)[A.length / 2]) from ⟨q.1, q.2.1, q.2.2 _ hk⟩))
  clear eg
  generalize (sortI A)[A.length / 2] = r at *
  have KS := Lib.hid KS
  go_enter Tryz.func42, Tryz.ntmps42
  go_wp2_with fail
  refine K.mono ?_
  rintro e w1 ⟨b, rfl, hg, hb, hbel⟩
  have KS2 := KS.out _ _ hb
  have t0 : ((A.length : Int) == 0) = false := by rw [beq_eq_false_iff_ne]; omega
  have HB := Lib.hid hbel
  clear K hb hbel KS hks
  generalize A.length = N at *
  have b0 : (0 : Int) ≤ (N : Int) / 2 := by omega
  have b1 : (N : Int) / 2 < (N : Int) := by omega
  have b2 : ((N : Int) / 2).toNat = N / 2 := by omega
  go_wp2_with fail
  refine KS2.mono ?_
  rintro e w2 ⟨rfl, hgr, hc⟩
  have HB2 := Lib.hid (HB.out.trans (below_grown hgr HB.out.size (fun k e => by cases e; omega)))
  clear hgr KS2
  go_wp2_with fail
  go_ret
  exact ⟨rfl, HB2.out⟩
end Go.Proofs.YtlhpbfjelgmkeaaGreat
/- A drawn region by one order: what yields the same in every world that meets S comes first, then the rest one after another; behind the last one S need not hold. Conditions: as stated. -/
set_option maxRecDepth 100000
namespace Go.Proofs.YtlhpbfjelgmkeaaGreat
open Go.RowKit

section
variable {P : Program} {ops : Array Oper} {Q : Exit → Act → World → Prop} {md : Region.Mode} {S : World → Prop} {st : Nat}

/-- whatever order is picked; S holds behind each operation but number st -/
def wpAnyT (P : Program) (md : Region.Mode) (ops : Array Oper) (Q : Exit → Act → World → Prop) (S : World → Prop) (st : Nat) : Nat → Array Bool → Act → World → Prop
  | 0, listed, a, w => Region.ready md ops listed = [] ∧ Q .normal a w
  | f + 1, listed, a, w => (Region.ready md ops listed = [] → Q .normal a w) ∧ ∀ i ∈ Region.ready md ops listed, wpOp P ops Q i (fun a' w' => (i ≠ st → S w') ∧ wpAnyT P md ops Q S st f (listed.setIfInBounds i true) a' w') a w
theorem wpAny_of_T : ∀ (f : Nat) (listed : Array Bool) (a : Act) (w : World), wpAnyT P md ops Q S st f listed a w → wpAny P md ops Q f listed a w
  | 0, _, _, _, h => h
  | f + 1, _, _, _, h => ⟨h.1, fun i hi => wpOp_mono (fun a' w' h' => wpAny_of_T f _ a' w' h'.2) (h.2 i hi)⟩

/-- who waits for i does not come up ahead of it -/
theorem not_ready {listed : Array Bool} {i j : Nat} (hi : i ∈ Region.ready md ops listed) (hw : Region.waitsFor md ops j i = true) : j ∉ Region.ready md ops listed := by
  intro hj
  obtain ⟨oj, hoj, e, he, hb, hon⟩ := Region.waitsFor_spec hw
  obtain ⟨_, o, ho, hall⟩ := mem_ready.1 hj
  have e1 : o = oj := Option.some.inj (ho.symm.trans hoj)
  subst e1
  have h1 := hall e he hb
  rw [hon, getD_both (mem_ready.1 hi).1] at h1
  cases h1

theorem wpAnyT_first {i : Nat} {oi : Oper} {v : Value} (hi : ops[i]? = some oi) (hsel : ∀ (j : Nat) (o : Oper) cs b, ops[j]? = some o → o.op ≠ .select cs b)
    (hQ : ∀ c a d v w, Q (.panic c) (Act.put a d v) w → Q (.panic c) a w) (hw : Region.waitsFor md ops st i = true) :
    ∀ (f : Nat) (listed : Array Bool) (a : Act) (w : World),
      (∀ j oj, ops[j]? = some oj → j ≠ i → listed.getD j true = false → (∀ e ∈ oj.after, Region.binds md e = true → e.on ≠ i) → oi.apart ops oj = true) →
      i ∈ Region.ready md ops listed → YieldsIf P ops S oi v a → S w →
      wpAnyT P md ops Q S st f (listed.setIfInBounds i true) (a.put oi.dst v) w → wpAnyT P md ops Q S st (f + 1) listed a w := by
  intro f
  induction f with
  | zero =>
    intro listed a w _ hr hy hS H
    refine ⟨fun h => (by rw [h] at hr; cases hr), fun j hj => ?_⟩
    by_cases hji : j = i
    · subst hji
      exact hy.wpOp hi hS ⟨fun _ => hS, H⟩
    · have := ready_mono hj hji
      rw [H.1] at this
      cases this
  | succ f ih =>
    intro listed a w hfree hr hy hS H
    refine ⟨fun h => (by rw [h] at hr; cases hr), fun j hj => ?_⟩
    by_cases hji : j = i
    · subst hji
      exact hy.wpOp hi hS ⟨fun _ => hS, H⟩
    · have hjst : j ≠ st := fun e => not_ready hr hw (e ▸ hj)
      have h1 := H.2 j (ready_mono hj hji)
      obtain ⟨hjun, oj, hoj, hall⟩ := mem_ready.1 hj
      have hnot : ∀ e ∈ oj.after, Region.binds md e = true → e.on ≠ i := fun e he hb heq => by
        have h1 := hall e he hb
        rw [heq, getD_both (mem_ready.1 hr).1] at h1
        cases h1
      have h2 := wpOp_putIf hoj (hfree j oj hoj hji hjun hnot) (fun cs b => hsel i oi cs b hi) (fun cs b => hsel j oj cs b hoj) (fun c a w => hQ c a _ _ w) hy h1
      have hfree' : ∀ k ok, ops[k]? = some ok → k ≠ i → (listed.setIfInBounds j true).getD k true = false →
          (∀ e ∈ ok.after, Region.binds md e = true → e.on ≠ i) → oi.apart ops ok = true := fun k ok hk hki hun hno => by
        refine hfree k ok hk hki ?_ hno
        by_cases hjk : j = k
        · subst hjk; exact hjun
        · rw [getD_set_ne true hjk] at hun; exact hun
      refine wpOp_mono (fun a' w' h3 => ⟨fun _ => h3.2.1 hjst, ih (listed.setIfInBounds j true) a' w' hfree' (ready_mono hr (Ne.symm hji)) h3.1 (h3.2.1 hjst) ?_⟩) h2
      rw [Array.setIfInBounds_comm _ _ hji]
      exact h3.2.2

/-- the first ones, one after another -/
def wpFirst (P : Program) (ops : Array Oper) (S : World → Prop) (K : Act → Prop) : List Nat → Act → Prop
  | [], a => K a
  | i :: is, a => ∃ o v, ops[i]? = some o ∧ YieldsIf P ops S o v a ∧ wpFirst P ops S K is (a.put o.dst v)
def schFirstB (md : Region.Mode) (ops : Array Oper) (st : Nat) : List Nat → Array Bool → Bool
  | [], _ => true
  | i :: is, listed => (Region.ready md ops listed).contains i && Region.free md ops listed i && Region.waitsFor md ops st i && schFirstB md ops st is (listed.setIfInBounds i true)
def schSetAll : List Nat → Array Bool → Array Bool
  | [], listed => listed
  | i :: is, listed => schSetAll is (listed.setIfInBounds i true)
theorem wpAnyT_firsts (hs : Region.noSelect ops = true) (hQ : ∀ c a d v w, Q (.panic c) (Act.put a d v) w → Q (.panic c) a w) {w : World} (hS : S w) {f : Nat} :
    ∀ (is : List Nat) (listed : Array Bool) (a : Act), schFirstB md ops st is listed = true → wpFirst P ops S (fun a' => wpAnyT P md ops Q S st f (schSetAll is listed) a' w) is a → wpAnyT P md ops Q S st (is.length + f) listed a w
  | [], listed, a, _, h => by rw [List.length_nil, Nat.zero_add]; exact h
  | i :: is, listed, a, hB, h => by
    simp only [schFirstB, Bool.and_eq_true] at hB
    obtain ⟨⟨⟨hr, hf⟩, hw⟩, hB⟩ := hB
    obtain ⟨o, v, ho, hy, h⟩ := h
    rw [List.length_cons, show is.length + 1 + f = (is.length + f) + 1 by omega]
    exact wpAnyT_first ho (Region.noSelect_spec hs) hQ hw _ listed a w (Region.free_spec ho hf) (by simpa using hr) hy hS (wpAnyT_firsts hs hQ hS is _ _ hB h)

/-- the others, one after another -/
def wpRest (P : Program) (ops : Array Oper) (Q : Exit → Act → World → Prop) (S : World → Prop) (st : Nat) : List Nat → Act → World → Prop
  | [], a, w => Q .normal a w
  | i :: is, a, w => wpOp P ops Q i (fun a' w' => (i ≠ st → S w') ∧ wpRest P ops Q S st is a' w') a w
def schRestB (md : Region.Mode) (ops : Array Oper) : List Nat → Array Bool → Bool
  | [], listed => (Region.ready md ops listed).isEmpty
  | i :: is, listed => decide (Region.ready md ops listed = [i]) && schRestB md ops is (listed.setIfInBounds i true)
theorem wpAnyT_rest : ∀ (is : List Nat) (listed : Array Bool) (a : Act) (w : World), schRestB md ops is listed = true → wpRest P ops Q S st is a w → wpAnyT P md ops Q S st is.length listed a w
  | [], listed, a, w, hB, h => ⟨by simpa [schRestB] using hB, h⟩
  | i :: is, listed, a, w, hB, h => by
    simp only [schRestB, Bool.and_eq_true, decide_eq_true_eq] at hB
    refine ⟨fun h0 => (by rw [hB.1] at h0; cases h0), fun j hj => ?_⟩
    rw [hB.1, List.mem_singleton] at hj
    subst hj
    exact wpOp_mono (fun a' w' h' => ⟨h'.1, wpAnyT_rest is _ a' w' hB.2 h'.2⟩) h

/-- the post of one operation -/
def Qn (Q : Exit → Act → World → Prop) (K : Act → World → Prop) : Exit → Act → World → Prop
  | .normal, a, w => K a w
  | e, a, w => Q e a w
theorem qn_lets {K : Act → World → Prop} (h : LetsOut (Qn Q K)) : LetsOut Q := h
theorem wpRest_cons {i : Nat} {is : List Nat} {o : Oper} {a : Act} {w : World} (ho : ops[i]? = some o)
    (h : ∀ K : Act → World → Prop, Shut (∀ a' w', (i ≠ st → S w') → wpRest P ops Q S st is a' w' → K a' w') → wpList P ops (Qn Q K) [o] a w) : wpRest P ops Q S st (i :: is) a w := by
  have h1 := h (fun a' w' => (i ≠ st → S w') ∧ wpRest P ops Q S st is a' w') (fun _ _ x y => ⟨x, y⟩)
  unfold wpRest wpOp
  rw [ho]
  unfold wpList at h1
  show if Region.wanted o (yielded ops a.tmps) = true then _ else _
  split at h1
  · rename_i hw
    rw [if_pos hw]
    rcases h1 with h1 | ⟨h1, h2⟩
    · refine .inl ?_
      unfold Oper.wp at h1 ⊢
      generalize (execOp a.eval o).run P w = r at *
      cases r with
      | ok n w' =>
        cases n <;> simp only [Oper.upon] at h1 ⊢
        case value u => exact h1
        case skip => exact h1
        case defer d => exact h1
        case enter f args =>
          refine Calls.mono h1 fun e w'' he => ?_
          cases e with
          | returned u => exact he
          | panicked c => exact he
          | outgrown => exact qn_lets he
        case row row args => exact Rows.mono h1 fun u w'' he => he
      | halt x w' =>
        cases x <;> simp only [Oper.upon] at h1 ⊢
        case panic u => exact h1
    · exact .inr ⟨h1, qn_lets h2⟩
  · rename_i hw
    rw [if_neg hw]
    exact h1
theorem wpRest_nil {a : Act} {w : World} (h : Q .normal a w) : wpRest P ops (NoPanic Q) S st [] a w := h
theorem wpFirst_nil {K : Act → Prop} {a : Act} (h : K a) : wpFirst P ops S K [] a := h
theorem wpFirst_cons {K : Act → Prop} {i : Nat} {is : List Nat} {o : Oper} {v : Value} {a : Act} (ho : ops[i]? = some o) (hw : Region.wanted o (yielded ops a.tmps) = true) (hy : ∀ w, S w → (execOp a.eval o).run P w = .ok (.value v) w) (h : wpFirst P ops S K is (a.put o.dst v)) : wpFirst P ops S K (i :: is) a :=
  ⟨o, v, ho, .inl ⟨hw, hy⟩, h⟩

def schedB (md : Region.Mode) (ops : Array Oper) (st : Nat) (first rest : List Nat) : Bool :=
  Region.noSelect ops && schFirstB md ops st first (Array.replicate ops.size false) && schRestB md ops rest (schSetAll first (Array.replicate ops.size false)) && decide (first.length + rest.length = ops.size)

/-- a drawn region by one order (that does not panic) -/
theorem wp_region_sched {id : Nat} {a : Act} {w : World} (S : World → Prop) (st : Nat) (first rest : List Nat) (hm : P.follows .mixedOrders = true) (hB : schedB .any ops st first rest = true)
    (hS : S w.drew) (h : wpFirst P ops S (fun a' => wpRest P ops (NoPanic Q) S st rest a' w.drew) first a) : (Code.region id ops true).wp P Q a w := by
  refine wp_region_noPanic ?_
  have hQ : ∀ c a d v w, NoPanic Q (.panic c) (Act.put a d v) w → NoPanic Q (.panic c) a w := fun _ _ _ _ _ h => h
  simp only [schedB, Bool.and_eq_true, decide_eq_true_eq] at hB
  obtain ⟨⟨⟨hs, h1⟩, h2⟩, h3⟩ := hB
  refine wp_region_any hm (wpAny_of_T (S := S) (st := st) _ _ _ _ ?_)
  have mono : ∀ (is : List Nat) (a : Act) (K K' : Act → Prop), (∀ a, K a → K' a) → wpFirst P ops S K is a → wpFirst P ops S K' is a := by
    intro is
    induction is with
    | nil => exact fun a K K' hK h => hK a h
    | cons i is ih =>
      rintro a K K' hK ⟨o, v, ho, hy, h⟩
      exact ⟨o, v, ho, hy, ih _ K K' hK h⟩
  have h4 := wpAnyT_firsts (md := .any) (Q := NoPanic Q) (st := st) (f := rest.length) hs hQ hS first (Array.replicate ops.size false) a h1 (mono first a _ _ (fun a' h' => wpAnyT_rest rest _ a' _ h2 h') h)
  rw [h3] at h4
  exact h4
end
end Go.Proofs.YtlhpbfjelgmkeaaGreat
