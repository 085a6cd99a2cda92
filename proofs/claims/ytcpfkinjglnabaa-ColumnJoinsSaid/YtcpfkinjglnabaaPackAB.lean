/- The texts Push Tells ColA ColB, one behind the other; each one's own comment says what it holds. -/
import Derived.Test.YtcpfkinjglnabaaPackAA
import Derived.Maps.AppendAt
/- One struct more behind a row of the call's own. Conditions: none. -/
set_option maxRecDepth 100000
namespace Go.Proofs.Ytcpfkinjglnabaa
open Go.RowKit Go.Maps Go.Sort

/-- an append of one element whose cells were laid just ahead -/
theorem push_row {P : Program} {t e : TypeId} {z : Value} {size by' : Nat} (ht : P.underlying t = some (.slice e)) (hinfo : (P.info? e).map (fun i => (i.zero, i.size, i.bytes)) = some (some z, size, by')) (hzs : z.cells.size = size) (hsz : 0 < size)
    {w : World} {B : Nat} {v : Value} {n : Nat} {xs : List Value} (hown : w.ownsRow B e size v n xs) (hB : B ≤ w.heap.size) (news : List Value) (hl : news.length = size) (h1 : ∀ u ∈ news, u.oneCell' = true) (hbytes : (n + 1) * by' ≤ 140737488355328) (hn : n + 1 ≤ 9223372036854775807) :
    ∃ v' w', (∀ ty, (Builtin.append_ #[t, t] ty #[v, .slice (some ⟨w.heap.size, 0, none⟩) 1 1]).run P (w.alloc (.cells news.toArray e)) = .ok v' w') ∧
      w'.ownsRow B e size v' (n + 1) (xs ++ news) ∧ w.grownBy w' v.ownBlock ∧ (v'.ownBlock = v.ownBlock ∨ v'.ownBlock = some (w.heap.size + 1)) := by
  obtain ⟨i, hi, hz0, hz1, hz2⟩ := info_parts hinfo
  have hown' : (w.alloc (.cells news.toArray e)).ownsRow B e size v n xs := hown.alloc _
  have hnew : ∀ j u, news[j]? = some u → (w.alloc (.cells news.toArray e)).cell? ((⟨w.heap.size, 0, none⟩ : Addr).add j) = some u := fun j u hj => by
    rw [Addr.add_at, Nat.zero_add, cell_of_row _ _ _ _ _ _ (heap_alloc_new w _)]
    simpa using hj
  obtain ⟨v', w', hr, h2, h3, _, h5⟩ := run_append_own_at (P := P) (w := w.alloc (.cells news.toArray e)) B t 0 e i z size by' ht hi hz0 hz1 hz2 hzs hsz v n xs hown' ⟨w.heap.size, 0, none⟩ 1 1 news (by omega) hnew h1 (by unfold maxLen; omega) hbytes (by simp; omega)
  refine ⟨v', w', fun ty => hr, h2, (World.grownBy_alloc w _ v.ownBlock).andThen h3 (fun j hj => .inr hj), ?_⟩
  rcases h5 with h5 | h5
  · exact .inl h5
  · exact .inr (by simpa using h5)
end Go.Proofs.Ytcpfkinjglnabaa
/- Contracts of talusref01.Same, Words, Ints, Lend, Kept. Conditions: at most 2^43 numbers (Words, Ints), at most 400000 bytes (Lend, Kept). -/
set_option maxRecDepth 100000
namespace Go.Proofs.Ytcpfkinjglnabaa
open Go.RowKit Go.Maps Go.Sort

theorem info8 : (Try.prog.info? 5).map (fun i => (i.zero, i.size, i.bytes)) = some (some (.int .u8 0), 1, 1) := by kernel_rfl
theorem info64 : (Try.prog.info? 3).map (fun i => (i.zero, i.size, i.bytes)) = some (some (.int .i64 0), 1, 8) := by kernel_rfl
theorem infoU : (Try.prog.info? 116).map (fun i => (i.zero, i.size, i.bytes)) = some (some (.int .u64 0), 1, 8) := by kernel_rfl

theorem app8 {w : World} {B : Nat} {v : Value} {xs : List UInt8} (hown : w.ownsRow B 5 1 v xs.length (u8s xs)) (hB : B ≤ w.heap.size) {sv : Value} {l : List UInt8} (hs : Holds w sv (u8s l)) (hlen : xs.length + l.length ≤ 17592186044416) :
    ∃ v' w', (∀ ty, (Builtin.append_ #[68, 68] ty #[v, sv]).run Try.prog w = .ok v' w') ∧ w'.ownsRow B 5 1 v' (xs ++ l).length (u8s (xs ++ l)) ∧ w.grownBy w' v.ownBlock ∧ (v'.ownBlock = v.ownBlock ∨ v'.ownBlock = some w.heap.size) := by
  have := app_any (P := Try.prog) Try.underlying68 info8 (by omega) rfl (by rw [u8s_len]; exact hown) hB hs (u8s_one l) (by rw [u8s_len, u8s_len]; exact hlen)
  rw [← u8s_append, u8s_len] at this
  exact this
/-- a new block of one byte -/
theorem holds_one8 (w : World) (c : UInt8) (n : Int) (hn : n = (c.toNat : Int)) : Holds (w.alloc (.cells #[.int .u8 n] 5)) (.slice (some ⟨w.heap.size, 0, none⟩) 1 1) (u8s [c]) :=
  Holds.of_heap (alloc1 _ _) (by rw [hn]; rfl) 1 1 rfl (Nat.le_refl _)

theorem toStr {w : World} {v : Value} {l : List UInt8} (h : Holds w v (u8s l)) : (convert 68 9 v).run Try.prog w = .ok (.string ⟨l.toArray⟩) w :=
  str_of_holds Try.underlying68 Try.underlying5 Try.underlying9 h

set_option maxHeartbeats 400000 in
theorem Same_any {w : World} {v1 v2 : Value} {l1 l2 : List UInt8} (h1 : Holds w v1 (u8s l1)) (h2 : Holds w v2 (u8s l2)) :
    Calls Try.prog 22 #[v1, v2] w fun r w' => r = .returned (.bool (decide (l1 = l2))) ∧ w = w' := by
  have s1 := toStr h1
  have s2 := toStr h2
  obtain ⟨a1, c1, rfl, _, _⟩ := h1
  obtain ⟨a2, c2, rfl, _, _⟩ := h2
  go_enter Try.func22, Try.ntmps22
  go_wp2
  go_ret
  refine ⟨ret_bool ?_, rfl⟩
  rw [Bool.eq_iff_iff]
  simp
end Go.Proofs.Ytcpfkinjglnabaa
/- Vectors: what one is in memory, and whether it is good (the program's Good). Conditions: none. -/
set_option maxRecDepth 100000
namespace Go.Proofs.Ytcpfkinjglnabaa
open Go.RowKit Go.Maps Go.Sort

def bls (l : List Bool) : List Value := l.map Value.bool
theorem bls_len (l : List Bool) : (bls l).length = l.length := by simp [bls]
theorem bls_append (a b : List Bool) : bls (a ++ b) = bls a ++ bls b := by simp [bls]
theorem bls_one (l : List Bool) : ∀ u ∈ bls l, u.oneCell' = true := fun u hu => by
  obtain ⟨c, _, rfl⟩ := List.mem_map.1 hu
  rfl
/-- a vector -/
structure CV where
  nl : List Bool
  il : List Int
/-- a row that may be -/
def rowOk (b : Bool) (x : Int) : Bool := decide (0 ≤ x) && decide (x < 512) && !(b && x != 0)
/-- a vector that may be -/
def goodC (c : CV) : Bool := decide (c.nl.length = c.il.length) && decide (c.il.length ≤ 1000) && (List.range c.il.length).all fun k => rowOk (c.nl.getD k false) (c.il.getD k 0)
theorem good_iff {c : CV} : goodC c = true ↔ c.nl.length = c.il.length ∧ c.il.length ≤ 1000 ∧ ∀ k, k < c.il.length → rowOk (c.nl.getD k false) (c.il.getD k 0) = true := by
  simp [goodC, and_assoc]
theorem good_len {c : CV} (h : ¬ c.nl.length = c.il.length) : goodC c = false := by simp [goodC, h]
theorem good_long {c : CV} (h : ¬ c.il.length ≤ 1000) : goodC c = false := by simp [goodC, h]
theorem good_row {c : CV} {k : Nat} (hk : k < c.il.length) (h : rowOk (c.nl.getD k false) (c.il.getD k 0) = false) : goodC c = false := by
  rw [Bool.eq_false_iff]
  intro g
  have := (good_iff.1 g).2.2 k hk
  rw [h] at this; cases this
theorem rowOk_neg {b : Bool} {x : Int} (h : x < 0) : rowOk b x = false := by
  have : decide (0 ≤ x) = false := decide_eq_false (by omega)
  simp [rowOk, this]
theorem rowOk_big {b : Bool} {x : Int} (h : 512 ≤ x) : rowOk b x = false := by
  have : decide (x < 512) = false := decide_eq_false (by omega)
  simp [rowOk, this]
theorem rowOk_in {x : Int} (h0 : ¬ x < 0) (h1 : ¬ 512 ≤ x) : rowOk false x = true := by
  have a : decide (0 ≤ x) = true := decide_eq_true (by omega)
  have b : decide (x < 512) = true := decide_eq_true (by omega)
  simp [rowOk, a, b]
theorem bls_get {l : List Bool} {k : Nat} (h : k < l.length) : (bls l)[k]? = some (.bool (l.getD k false)) := by
  simp [bls, List.getElem?_eq_getElem h, List.getD_eq_getElem?_getD]
theorem i64s_get {l : List Int} {k : Nat} (h : k < l.length) : (i64s l)[k]? = some (.int .i64 (l.getD k 0)) := by
  simp [i64s, List.getElem?_eq_getElem h, List.getD_eq_getElem?_getD]
theorem col_next {k n : Nat} (h : k < n) (hn : n ≤ 1000) : IntKind.i64.wrap ((k : Int) + 1) = (k : Int) + 1 := by rw [IntKind.wrap_i64]; omega
theorem below_box (w : World) (o : Obj) : Below w.heap.size w (w.alloc o) := (Below.refl _ _).alloc (Nat.le_refl _) o

set_option maxHeartbeats 800000 in
theorem cgood_any {w : World} {a1 a2 : Option Addr} {n1 n2 k1 k2 : Nat} {c : CV} (h1 : Holds w (.slice a1 n1 k1) (bls c.nl)) (h2 : Holds w (.slice a2 n2 k2) (i64s c.il)) :
    Calls Try.prog 23 #[.agg #[.slice a1 n1 k1, .slice a2 n2 k2]] w fun e w' => e = .returned (.bool (goodC c)) ∧ Below w.heap.size w w' := by
  have e1 := h1.len.1
  have e2 := h2.len.1
  rw [bls_len] at e1
  rw [i64s_len] at e2
  have HB := Lib.hid (below_box w (.cells #[.slice a1 n1 k1, .slice a2 n2 k2] 27))
  by_cases hne : n1 = n2
  case neg =>
    have hg : goodC c = false := good_len (by omega)
    have t0 : (n1 != n2) = true := by rw [bne_iff_ne]; exact hne
    have t1 : ((n1 : Int) != (n2 : Int)) = true := by rw [bne_iff_ne]; omega
    rw [hg]
    clear h1 h2 e1 e2 hne hg
    go_enter Try.func23, Try.ntmps23
    go_wp2_with fail
    go_ret
    exact ⟨rfl, HB.out⟩
  subst hne
  have t0 : (n1 != n1) = false := by simp
  have t1 : ((n1 : Int) != (n1 : Int)) = false := by simp
  by_cases hl : 1000 < n1
  · have hg : goodC c = false := good_long (by omega)
    have t2 : decide ((1000 : Int) < (n1 : Int)) = true := decide_eq_true (by omega)
    rw [hg]
    clear h1 h2 e1 e2 hg hl
    go_enter Try.func23, Try.ntmps23
    go_wp2_with fail
    go_ret
    exact ⟨rfl, HB.out⟩
  have t2 : decide ((1000 : Int) < (n1 : Int)) = false := decide_eq_false (by omega)
  have H1 := Lib.hid (h1.below HB.out)
  have H2 := Lib.hid (h2.below HB.out)
  have E1 := Lib.hid e1
  have E2 := Lib.hid e2
  have HL := Lib.hid hl
  clear h1 h2 e1 e2 hl
  go_enter Try.func23, Try.ntmps23
  go_wp2_with fail
  go_loopw [21] (fun s wr => ∃ m : Nat, s = .int .i64 m ∧ m ≤ n1 ∧ wr = w.alloc (.cells #[.slice a1 n1 k1, .slice a2 n1 k2] 27) ∧ Hid (∀ j, j < m → rowOk (c.nl.getD j false) (c.il.getD j 0) = true)) (fun s _ => n1 - (RowKit.intOf s).toNat)
  case atStart => exact ⟨0, rfl, Nat.zero_le _, rfl, Lib.hid (fun j hj => by omega)⟩
  case round =>
    obtain ⟨m, rfl, hm, rfl, HS⟩ := hrel
    by_cases hlt : m < n1
    · have hk1 : m < c.nl.length := by have := E1.out; omega
      have hk2 : m < c.il.length := by have := E2.out; omega
      obtain ⟨d1, rfl⟩ := H1.out.ptr (by omega)
      obtain ⟨d2, rfl⟩ := H2.out.ptr (by omega)
      have c1 := H1.out.cell (bls_get hk1)
      have c2 := H2.out.cell (i64s_get hk2)
      have b0 : (0 : Int) ≤ (m : Int) := Int.natCast_nonneg m
      have b1 : (m : Int) < (n1 : Int) := Int.ofNat_lt.2 hlt
      have hw64 := col_next hlt (by have := HL.out; omega)
      have HR := Lib.hid (@good_row c m hk2)
      obtain ⟨b, hb⟩ : ∃ b, c.nl.getD m false = b := ⟨_, rfl⟩
      obtain ⟨x, hx⟩ : ∃ x, c.il.getD m 0 = x := ⟨_, rfl⟩
      rw [hb, hx] at HR
      rw [hb] at c1
      rw [hx] at c2
      have HN : Hid (rowOk b x = true → ∀ j, j < m + 1 → rowOk (c.nl.getD j false) (c.il.getD j 0) = true) := Lib.hid fun h j hj => by
        rcases Nat.lt_or_ge j m with g | g
        · exact HS.out j g
        · have : j = m := by omega
          subst this
          rw [hb, hx]; exact h
      clear hk1 hk2 hb hx HS
      by_cases hx0 : x < 0
      · have hg := Lib.hid (HR.out (rowOk_neg hx0))
        have u0 : decide (x < 0) = true := decide_eq_true hx0
        clear HR HN hx0
        go_wp2_with fail
        go_ret
        rw [hg.out]; exact ⟨rfl, HB.out⟩
      have u0 : decide (x < 0) = false := decide_eq_false hx0
      by_cases hx1 : 512 ≤ x
      · have hg := Lib.hid (HR.out (rowOk_big hx1))
        have u1 : decide (512 ≤ x) = true := decide_eq_true hx1
        clear HR HN hx0 hx1
        go_wp2_with fail
        go_ret
        rw [hg.out]; exact ⟨rfl, HB.out⟩
      have u1 : decide (512 ≤ x) = false := decide_eq_false hx1
      cases b
      · have hh := Lib.hid (HN.out (rowOk_in hx0 hx1))
        clear HR HN hx0 hx1
        go_wp2_with fail
        go_roundw
        case rel => exact ⟨m + 1, by go_num, hlt, trivial, hh⟩
        case measure => simp [RowKit.intOf]; omega
      · by_cases hx2 : x = 0
        · subst hx2
          have hh := Lib.hid (HN.out rfl)
          clear HR HN hx0 hx1
          go_wp2_with fail
          go_roundw
          case rel => exact ⟨m + 1, by go_num, hlt, trivial, hh⟩
          case measure => simp [RowKit.intOf]; omega
        · have u2 : (x != 0) = true := by rw [bne_iff_ne]; exact hx2
          have hg := Lib.hid (HR.out (by simp [rowOk, hx2]))
          clear HR HN hx0 hx1 hx2
          go_wp2_with fail
          go_ret
          rw [hg.out]; exact ⟨rfl, HB.out⟩
    · have hg := Lib.hid (good_iff.2 ⟨by rw [E1.out, E2.out], by rw [E2.out]; have := HL.out; omega, fun k hk => HS.out k (by rw [E2.out] at hk; omega)⟩)
      clear HS
      go_wp2_with fail
      go_ret
      rw [hg.out]; exact ⟨rfl, HB.out⟩
end Go.Proofs.Ytcpfkinjglnabaa
/- Where and present: the rows that have an id, the ids that are not null. Conditions: none. -/
set_option maxRecDepth 100000
namespace Go.Proofs.Ytcpfkinjglnabaa
open Go.RowKit Go.Maps Go.Sort

/-- a row of ints of one's own -/
def RowI (B : Nat) (v : Value) (L : List Int) (w : World) : Prop := w.ownsRow B 3 1 v L.length (i64s L)
/-- a row of bools of one's own -/
def RowB (B : Nat) (v : Value) (L : List Bool) (w : World) : Prop := w.ownsRow B 4 1 v L.length (bls L)
theorem RowI.holds {B : Nat} {v : Value} {L : List Int} {w : World} (h : RowI B v L w) : Holds w v (i64s L) := Holds.of_row (by rw [i64s_len]; exact h)
theorem RowB.holds {B : Nat} {v : Value} {L : List Bool} {w : World} (h : RowB B v L w) : Holds w v (bls L) := Holds.of_row (by rw [bls_len]; exact h)
theorem RowI.base {A B : Nat} {v : Value} {L : List Int} {w : World} (h : RowI A v L w) (hB : B ≤ A) : RowI B v L w := ownsRow_rebase h (fun g hg => Nat.le_trans hB (h.lt g hg).1)
theorem RowB.base {A B : Nat} {v : Value} {L : List Bool} {w : World} (h : RowB A v L w) (hB : B ≤ A) : RowB B v L w := ownsRow_rebase h (fun g hg => Nat.le_trans hB (h.lt g hg).1)
theorem RowI.below {B : Nat} {v : Value} {L : List Int} {w w' : World} (h : RowI B v L w) (hb : Below w.heap.size w w') : RowI B v L w' := ownsRow_below h hb
theorem RowB.below {B : Nat} {v : Value} {L : List Bool} {w w' : World} (h : RowB B v L w) (hb : Below w.heap.size w w') : RowB B v L w' := ownsRow_below h hb
theorem RowI.nil (B : Nat) (w : World) : RowI B (.slice none 0 0) [] w := World.ownsRow_nil _ _ _ _
theorem RowB.nil (B : Nat) (w : World) : RowB B (.slice none 0 0) [] w := World.ownsRow_nil _ _ _ _
theorem app64' {w : World} {B : Nat} {v : Value} {xs : List Int} (hown : RowI B v xs w) (hB : B ≤ w.heap.size) {sv : Value} {l : List Int} (hs : Holds w sv (i64s l)) (hlen : xs.length + l.length ≤ 17592186044416) :
    ∃ v' w', (∀ ty, (Builtin.append_ #[25, 25] ty #[v, sv]).run Try.prog w = .ok v' w') ∧ RowI B v' (xs ++ l) w' ∧ w.grownBy w' v.ownBlock := by
  obtain ⟨v', w', r, o, g, _⟩ := app_any (P := Try.prog) Try.underlying25 info64 (by omega) rfl (by rw [i64s_len]; exact hown) hB hs (i64s_one l) (by rw [i64s_len, i64s_len]; exact hlen)
  rw [← i64s_append, i64s_len] at o
  exact ⟨v', w', r, o, g⟩
theorem infoB : (Try.prog.info? 4).map (fun i => (i.zero, i.size, i.bytes)) = some (some (.bool false), 1, 1) := by kernel_rfl
theorem appB {w : World} {B : Nat} {v : Value} {xs : List Bool} (hown : RowB B v xs w) (hB : B ≤ w.heap.size) {sv : Value} {l : List Bool} (hs : Holds w sv (bls l)) (hlen : xs.length + l.length ≤ 17592186044416) :
    ∃ v' w', (∀ ty, (Builtin.append_ #[24, 24] ty #[v, sv]).run Try.prog w = .ok v' w') ∧ RowB B v' (xs ++ l) w' ∧ w.grownBy w' v.ownBlock := by
  obtain ⟨v', w', r, o, g, _⟩ := app_any (P := Try.prog) Try.underlying24 infoB (by omega) rfl (by rw [bls_len]; exact hown) hB hs (bls_one l) (by rw [bls_len, bls_len]; exact hlen)
  rw [← bls_append, bls_len] at o
  exact ⟨v', w', r, o, g⟩
/-- one more -/
theorem pushI {B : Nat} {v : Value} {L : List Int} {W : World} (h : RowI B v L W) (hB : B ≤ W.heap.size) (hl : L.length ≤ 1000000) (x : Int) :
    ∃ v' w2, Hid (∀ ty, (Builtin.append_ #[25, 25] ty #[v, .slice (some ⟨W.heap.size, 0, none⟩) 1 1]).run Try.prog (W.alloc (.cells #[.int .i64 x] 3)) = .ok v' w2) ∧ Hid (RowI B v' (L ++ [x]) w2 ∧ Below B W w2) := by
  have hb1 := (Below.refl B W).alloc hB (.cells #[.int .i64 x] 3)
  obtain ⟨v', w', r, o, g⟩ := app64' (h.below (below_box W (.cells #[.int .i64 x] 3))) (Nat.le_trans hB hb1.size) (l := [x]) (Holds.of_heap (alloc1 W _) rfl 1 1 rfl (Nat.le_refl _)) (by simp; omega)
  exact ⟨v', w', Lib.hid r, Lib.hid ⟨o, hb1.grown g (Nat.le_trans hB hb1.size) (fun k e => (h.lt k e).1)⟩⟩
theorem pushB {B : Nat} {v : Value} {L : List Bool} {W : World} (h : RowB B v L W) (hB : B ≤ W.heap.size) (hl : L.length ≤ 1000000) (x : Bool) :
    ∃ v' w2, Hid (∀ ty, (Builtin.append_ #[24, 24] ty #[v, .slice (some ⟨W.heap.size, 0, none⟩) 1 1]).run Try.prog (W.alloc (.cells #[.bool x] 4)) = .ok v' w2) ∧ Hid (RowB B v' (L ++ [x]) w2 ∧ Below B W w2) := by
  have hb1 := (Below.refl B W).alloc hB (.cells #[.bool x] 4)
  obtain ⟨v', w', r, o, g⟩ := appB (h.below (below_box W (.cells #[.bool x] 4))) (Nat.le_trans hB hb1.size) (l := [x]) (Holds.of_heap (alloc1 W _) rfl 1 1 rfl (Nat.le_refl _)) (by simp; omega)
  exact ⟨v', w', Lib.hid r, Lib.hid ⟨o, hb1.grown g (Nat.le_trans hB hb1.size) (fun k e => (h.lt k e).1)⟩⟩
/-- the two cells of a box -/
theorem box2 {w wr : World} {x y : Value} {t : TypeId} (hb : Below (w.heap.size + 1) (w.alloc (.cells #[x, y] t)) wr) : wr.cell? ⟨w.heap.size, 0, none⟩ = some x ∧ wr.cell? ⟨w.heap.size, 1, none⟩ = some y := by
  have h : wr.heap[w.heap.size]? = some (.cells #[x, y] t (0, 0)) := (hb.block _ (by omega)).trans (heap_alloc_new w _)
  exact ⟨by rw [cell_of_row wr _ _ _ _ _ h]; rfl, by rw [cell_of_row wr _ _ _ _ _ h]; rfl⟩
/-- ids of the first rows that are not null -/
def presL (c : CV) : Nat → List Int
  | 0 => []
  | k + 1 => if c.nl.getD k false then presL c k else presL c k ++ [c.il.getD k 0]
theorem presL_len (c : CV) : ∀ k, (presL c k).length ≤ k
  | 0 => Nat.le_refl _
  | k + 1 => by
    have := presL_len c k
    unfold presL
    split <;> simp <;> omega
/-- of the first rows those that are not null and have an id -/
def whL (c : CV) (id : Int) : Nat → List Int
  | 0 => []
  | k + 1 => if !c.nl.getD k false && c.il.getD k 0 == id then whL c id k ++ [(k : Int)] else whL c id k
theorem whL_len (c : CV) (id : Int) : ∀ k, (whL c id k).length ≤ k
  | 0 => Nat.le_refl _
  | k + 1 => by
    have := whL_len c id k
    unfold whL
    split <;> simp <;> omega
def present (c : CV) : List Int := if goodC c then presL c c.il.length else []
def whereC (c : CV) (id : Int) : List Int := if goodC c then whL c id c.il.length else []
/-- a list of ints comes out -/
def OutI (w : World) (L : List Int) (e : Ending) (w' : World) : Prop := ∃ v, e = .returned v ∧ RowI w.heap.size v L w' ∧ Below w.heap.size w w'

end Go.Proofs.Ytcpfkinjglnabaa
