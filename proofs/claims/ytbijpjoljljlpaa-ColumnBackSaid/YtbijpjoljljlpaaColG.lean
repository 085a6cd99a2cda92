/- Lists turned into others: marks, unsigned, signed, unmarked; leastWidth, packed, unpacked. Conditions: at most 100000 numbers. -/
import Derived.Test.YtbijpjoljljlpaaColF
import Derived.Test.YtbijpjoljljlpaaPacksAll
set_option maxRecDepth 100000
namespace Go.Proofs.Ytbijpjoljljlpaa
open Go.RowKit Go.Maps Go.Sort

/-- a block of one's own behind the call's start, and what it holds -/
def Filled (w wr : World) (S : Nat) (t : TypeId) (xs : List Value) : Prop := ∃ cs : Array Value, wr.heap[S]? = some (.cells cs t (0, 0)) ∧ cs.toList = xs ∧ Below S w wr
theorem Filled.new (w : World) (t : TypeId) (xs : List Value) : Filled w (w.alloc (.cells xs.toArray t)) w.heap.size t xs := ⟨_, heap_alloc_new w _, by simp, below_box w _⟩
theorem Filled.at_ {w wr : World} {S : Nat} {t : TypeId} {xs : List Value} {j : Nat} {u : Value} (h : Filled w wr S t xs) (hj : xs[j]? = some u) : wr.cell? ⟨S, j, none⟩ = some u ∧ wr.frozen? ⟨S, j, none⟩ = false := by
  obtain ⟨cs, h1, h2, h3⟩ := h
  refine ⟨?_, free_of_row h1 j⟩
  rw [cell_of_row _ _ _ _ _ _ h1, ← Array.getElem?_toList, h2]
  exact hj
theorem Filled.set {w wr : World} {S : Nat} {t : TypeId} {xs : List Value} (h : Filled w wr S t xs) (j : Nat) (v : Value) : Filled w (wr.setCell ⟨S, j, none⟩ v) S t (xs.set j v) := by
  obtain ⟨cs, h1, h2, h3⟩ := h
  exact ⟨_, heap_set h1 v, by rw [Array.toList_setIfInBounds, h2], h3.trans (vset_below (Nat.le_refl _) v)⟩
theorem Filled.holds {w wr : World} {S : Nat} {t : TypeId} {xs : List Value} (h : Filled w wr S t xs) {n : Nat} (hn : n = xs.length) : Holds wr (.slice (some ⟨S, 0, none⟩) n n) xs := by
  obtain ⟨cs, h1, h2, h3⟩ := h
  exact Holds.of_heap h1 h2 n n hn (Nat.le_refl _)
section
variable {α : Type} (f : α → Value) (z : Value)
def fillL (l : List α) (m : Nat) : List Value := (l.take m).map f ++ List.replicate (l.length - m) z
theorem fill_len (l : List α) (m : Nat) (h : m ≤ l.length) : (fillL f z l m).length = l.length := by simp [fillL]; omega
theorem fill_start (l : List α) : fillL f z l 0 = List.replicate l.length z := by simp [fillL]
theorem fill_end (l : List α) : fillL f z l l.length = l.map f := by simp [fillL]
theorem fill_get (l : List α) (m : Nat) (h : m < l.length) : (fillL f z l m)[m]? = some z := by
  unfold fillL
  have e : (List.map f (List.take m l)).length = m := by simp; omega
  rw [List.getElem?_append_right (by omega), e, Nat.sub_self, List.getElem?_replicate]
  rw [if_pos (by omega)]
theorem fill_same (l : List α) (m : Nat) (h : m < l.length) {x : α} (hx : l[m]? = some x) (hz : f x = z) : fillL f z l (m + 1) = fillL f z l m := by
  unfold fillL
  have e2 : l.length - m = (l.length - (m + 1)) + 1 := by omega
  rw [e2, List.replicate_succ, take_snoc hx, List.map_append]
  simp [hz]
theorem fill_set (l : List α) (m : Nat) (h : m < l.length) {x : α} (hx : l[m]? = some x) : (fillL f z l m).set m (f x) = fillL f z l (m + 1) := by
  unfold fillL
  have e : (List.map f (List.take m l)).length = m := by simp; omega
  rw [List.set_append_right _ _ (by omega), e, Nat.sub_self, take_snoc hx, List.map_append]
  have e2 : l.length - m = (l.length - (m + 1)) + 1 := by omega
  rw [e2, List.replicate_succ, List.set_cons_zero]
  simp
end
/-- a list comes out -/
def OutH (w : World) (xs : List Value) (e : Ending) (w' : World) : Prop := ∃ a c, e = .returned (.slice a xs.length c) ∧ Holds w' (.slice a xs.length c) xs ∧ Below w.heap.size w w'
/-- a list comes out, in the first block behind the call's start -/
def OutF (w : World) (xs : List Value) (e : Ending) (w' : World) : Prop := e = .returned (.slice (some ⟨w.heap.size, 0, none⟩) xs.length xs.length) ∧ Holds w' (.slice (some ⟨w.heap.size, 0, none⟩) xs.length xs.length) xs ∧ Below w.heap.size w w'
theorem OutF.h {w w' : World} {xs : List Value} {e : Ending} (h : OutF w xs e w') : OutH w xs e w' := ⟨_, _, h.1, h.2.1, h.2.2⟩
def markU (b : Bool) : UInt64 := if b then 1 else 0
def idU (x : Int) : UInt64 := UInt64.ofNat (IntKind.u64.wrap x).toNat
def sgnU (u : UInt64) : Int := IntKind.i64.wrap (u.toNat : Int)
def unmU (u : UInt64) : Bool := decide (u.toNat = 1)
def fMark (b : Bool) : Value := .int .u64 ((markU b).toNat : Int)
def fId (x : Int) : Value := .int .u64 ((idU x).toNat : Int)
def fSgn (u : UInt64) : Value := .int .i64 (sgnU u)
def fUnm (u : UInt64) : Value := .bool (unmU u)
theorem idU_eq (x : Int) : ((idU x).toNat : Int) = IntKind.u64.wrap x := by
  have h : 0 ≤ IntKind.u64.wrap x ∧ IntKind.u64.wrap x < 18446744073709551616 := by rw [IntKind.wrap_u64]; omega
  unfold idU
  rw [UInt64.toNat_ofNat']
  omega
theorem mk_bools (w : World) (k : Nat) (hk : k ≤ 100000) :
    (Instr.makeSlice 22 (.int .i64 (k : Int)) (.int .i64 (k : Int))).run Try.prog w = .ok (.slice (some ⟨w.heap.size, 0, none⟩) k k) (w.alloc (.cells (List.replicate k (.bool false)).toArray 4)) := by
  obtain ⟨i, hi, hz0, hz1, hz2⟩ := info_parts infoB
  have := run_make (P := Try.prog) w 22 4 i (.bool false) Try.underlying22 hi hz0 .i64 .i64 (k : Int) k (by omega) (by omega) (by rw [hz2]; omega) (by omega)
  rw [this, hz1]
  simp only [Int.toNat_natCast, Nat.mul_one, Value.cells]
  have e : madeCells #[Value.bool false] k = (List.replicate k (Value.bool false)).toArray := by
    apply Array.toList_inj.1
    rw [toList_madeCells_one]
  rw [e]
theorem mk_64s (w : World) (k : Nat) (hk : k ≤ 100000) :
    (Instr.makeSlice 23 (.int .i64 (k : Int)) (.int .i64 (k : Int))).run Try.prog w = .ok (.slice (some ⟨w.heap.size, 0, none⟩) k k) (w.alloc (.cells (List.replicate k (.int .i64 0)).toArray 3)) := by
  obtain ⟨i, hi, hz0, hz1, hz2⟩ := info_parts info64
  have := run_make (P := Try.prog) w 23 3 i (.int .i64 0) Try.underlying23 hi hz0 .i64 .i64 (k : Int) k (by omega) (by omega) (by rw [hz2]; omega) (by omega)
  rw [this, hz1]
  simp only [Int.toNat_natCast, Nat.mul_one, Value.cells]
  have e : madeCells #[Value.int .i64 0] k = (List.replicate k (Value.int .i64 0)).toArray := by
    apply Array.toList_inj.1
    rw [toList_madeCells_one]
  rw [e]
theorem mk_u64s (w : World) (k : Nat) (hk : k ≤ 100000) :
    (Instr.makeSlice 46 (.int .i64 (k : Int)) (.int .i64 (k : Int))).run Try.prog w = .ok (.slice (some ⟨w.heap.size, 0, none⟩) k k) (w.alloc (.cells (List.replicate k (.int .u64 0)).toArray 44)) := by
  have := mkU w k hk
  have e : u64s (List.replicate k 0) = List.replicate k (Value.int .u64 0) := by simp [u64s]
  rw [e] at this
  exact this
theorem u64s_get {l : List UInt64} {k : Nat} (h : k < l.length) : (u64s l)[k]? = some (.int .u64 ((l.getD k 0).toNat : Int)) := by
  simp [u64s, List.getElem?_eq_getElem h, List.getD_eq_getElem?_getD]
theorem col_next5 {k n : Nat} (h : k < n) (hn : n ≤ 100000) : IntKind.i64.wrap ((k : Int) + 1) = (k : Int) + 1 := by rw [IntKind.wrap_i64]; omega
set_option maxHeartbeats 800000 in
theorem marks_any {w : World} {a : Option Addr} {n k : Nat} {l : List Bool} (h : Holds w (.slice a n k) (bls l)) (hl : l.length ≤ 100000) :
    Calls Try.prog 15 #[.slice a n k] w (OutF w (l.map fMark)) := by
  have e1 := h.len.1
  rw [bls_len] at e1
  have H := Lib.hid h
  have E := Lib.hid e1
  have HL := Lib.hid hl
  have hmk := mk_u64s w n (by omega)
  have HF0 : Hid (Filled w (w.alloc (.cells (List.replicate n (.int .u64 0)).toArray 44)) w.heap.size 44 (fillL fMark (.int .u64 0) l 0)) := Lib.hid (by rw [fill_start, e1]; exact Filled.new _ _ _)
  clear h e1 hl
  go_enter Try.func15, Try.ntmps15
  go_wp2_with fail
  go_loopw [11] (fun s wr => ∃ m : Nat, s = .int .i64 m ∧ m ≤ n ∧ Hid (Filled w wr w.heap.size 44 (fillL fMark (.int .u64 0) l m))) (fun s _ => n - (RowKit.intOf s).toNat)
  case atStart => exact ⟨0, rfl, Nat.zero_le _, HF0⟩
  case round =>
    obtain ⟨m, rfl, hm, HF⟩ := hrel
    by_cases hlt : m < n
    · have hk : m < l.length := by have := E.out; omega
      obtain ⟨x, hx⟩ : ∃ x, l[m]? = some x := ⟨_, List.getElem?_eq_getElem hk⟩
      have hb : Below w.heap.size w wr := by obtain ⟨_, _, _, h3⟩ := HF.out; exact h3
      have G := H.out.below hb
      obtain ⟨d, rfl⟩ := G.ptr (by omega)
      have c1 := G.cell (j := m) (u := .bool x) (by simp [bls, hx])
      obtain ⟨c2, f2⟩ := HF.out.at_ (fill_get fMark (.int .u64 0) l m hk)
      have b0 : (0 : Int) ≤ (m : Int) := Int.natCast_nonneg m
      have b1 : (m : Int) < (n : Int) := Int.ofNat_lt.2 hlt
      have hw64 := col_next5 hlt (by have := E.out; have := HL.out; omega)
      have hset : Hid (Filled w (wr.setCell ⟨w.heap.size, m, none⟩ (fMark x)) w.heap.size 44 (fillL fMark (.int .u64 0) l (m + 1))) := Lib.hid (by rw [← fill_set fMark (.int .u64 0) l m hk hx]; exact HF.out.set m _)

      have HK := Lib.hid (And.intro hk hx)
      have HK3 := HF
      clear hk hx hb G HF HF0 hmk
      cases x
      · have hkeep : Hid (Filled w wr w.heap.size 44 (fillL fMark (.int .u64 0) l (m + 1))) := Lib.hid (by
          rw [fill_same fMark (.int .u64 0) l m HK.out.1 HK.out.2 rfl]; exact HK3.out)
        clear HK HK3 hset
        go_wp2_with fail
        go_roundw
        case rel => exact ⟨m + 1, by go_num, hlt, hkeep⟩
        case measure => simp [RowKit.intOf]; omega
      · have hset : Hid (Filled w (wr.setCell ⟨w.heap.size, m, none⟩ (.int .u64 1)) w.heap.size 44 (fillL fMark (.int .u64 0) l (m + 1))) := hset
        clear HK HK3
        go_wp2_with fail
        go_roundw
        case rel => exact ⟨m + 1, by go_num, hlt, hset⟩
        case measure => simp [RowKit.intOf]; omega
    · obtain rfl : m = n := by omega
      have HQ : Hid (Holds wr (.slice (some ⟨w.heap.size, 0, none⟩) m m) (l.map fMark) ∧ m = (l.map fMark).length ∧ Below w.heap.size w wr) := Lib.hid (by
        have := HF.out
        rw [← E.out, fill_end] at this
        have hm2 : m = (l.map fMark).length := by rw [List.length_map, E.out]
        exact ⟨this.holds hm2, hm2, by obtain ⟨_, _, _, h3⟩ := this; exact h3⟩)
      clear HF HF0 hmk
      go_wp2_with fail
      go_ret
      refine ⟨?_, ?_, HQ.out.2.2⟩
      · rw [← HQ.out.2.1]; rfl
      · rw [← HQ.out.2.1]; exact HQ.out.1
set_option maxHeartbeats 800000 in
theorem unsigned_any {w : World} {a : Option Addr} {n k : Nat} {l : List Int} (h : Holds w (.slice a n k) (i64s l)) (hl : l.length ≤ 100000) :
    Calls Try.prog 34 #[.slice a n k] w (OutF w (l.map fId)) := by
  have e1 := h.len.1
  rw [i64s_len] at e1
  have H := Lib.hid h
  have E := Lib.hid e1
  have HL := Lib.hid hl
  have hmk := mk_u64s w n (by omega)
  have HF0 : Hid (Filled w (w.alloc (.cells (List.replicate n (.int .u64 0)).toArray 44)) w.heap.size 44 (fillL fId (.int .u64 0) l 0)) := Lib.hid (by rw [fill_start, e1]; exact Filled.new _ _ _)
  clear h e1 hl
  go_enter Try.func34, Try.ntmps34
  go_wp2_with fail
  go_loopw [11] (fun s wr => ∃ m : Nat, s = .int .i64 m ∧ m ≤ n ∧ Hid (Filled w wr w.heap.size 44 (fillL fId (.int .u64 0) l m))) (fun s _ => n - (RowKit.intOf s).toNat)
  case atStart => exact ⟨0, rfl, Nat.zero_le _, HF0⟩
  case round =>
    obtain ⟨m, rfl, hm, HF⟩ := hrel
    by_cases hlt : m < n
    · have hk : m < l.length := by have := E.out; omega
      obtain ⟨x, hx⟩ : ∃ x, l[m]? = some x := ⟨_, List.getElem?_eq_getElem hk⟩
      have hb : Below w.heap.size w wr := by obtain ⟨_, _, _, h3⟩ := HF.out; exact h3
      have G := H.out.below hb
      obtain ⟨d, rfl⟩ := G.ptr (by omega)
      have c1 := G.cell (j := m) (u := .int .i64 x) (by simp [i64s, hx])
      obtain ⟨c2, f2⟩ := HF.out.at_ (fill_get fId (.int .u64 0) l m hk)
      have b0 : (0 : Int) ≤ (m : Int) := Int.natCast_nonneg m
      have b1 : (m : Int) < (n : Int) := Int.ofNat_lt.2 hlt
      have hw64 := col_next5 hlt (by have := E.out; have := HL.out; omega)
      have hset : Hid (Filled w (wr.setCell ⟨w.heap.size, m, none⟩ (fId x)) w.heap.size 44 (fillL fId (.int .u64 0) l (m + 1))) := Lib.hid (by rw [← fill_set fId (.int .u64 0) l m hk hx]; exact HF.out.set m _)
      rw [show fId x = .int .u64 (IntKind.u64.wrap x) by rw [fId, idU_eq]] at hset
      clear hk hx hb G HF HF0 hmk
      go_wp2_with fail
      go_roundw
      case rel => exact ⟨m + 1, by go_num, hlt, hset⟩
      case measure => simp [RowKit.intOf]; omega
    · obtain rfl : m = n := by omega
      have HQ : Hid (Holds wr (.slice (some ⟨w.heap.size, 0, none⟩) m m) (l.map fId) ∧ m = (l.map fId).length ∧ Below w.heap.size w wr) := Lib.hid (by
        have := HF.out
        rw [← E.out, fill_end] at this
        have hm2 : m = (l.map fId).length := by rw [List.length_map, E.out]
        exact ⟨this.holds hm2, hm2, by obtain ⟨_, _, _, h3⟩ := this; exact h3⟩)
      clear HF HF0 hmk
      go_wp2_with fail
      go_ret
      refine ⟨?_, ?_, HQ.out.2.2⟩
      · rw [← HQ.out.2.1]; rfl
      · rw [← HQ.out.2.1]; exact HQ.out.1
set_option maxHeartbeats 800000 in
theorem signed_any {w : World} {a : Option Addr} {n k : Nat} {l : List UInt64} (h : Holds w (.slice a n k) (u64s l)) (hl : l.length ≤ 100000) :
    Calls Try.prog 42 #[.slice a n k] w (OutF w (l.map fSgn)) := by
  have e1 := h.len.1
  rw [u64s_len] at e1
  have H := Lib.hid h
  have E := Lib.hid e1
  have HL := Lib.hid hl
  have hmk := mk_64s w n (by omega)
  have HF0 : Hid (Filled w (w.alloc (.cells (List.replicate n (.int .i64 0)).toArray 3)) w.heap.size 3 (fillL fSgn (.int .i64 0) l 0)) := Lib.hid (by rw [fill_start, e1]; exact Filled.new _ _ _)
  clear h e1 hl
  go_enter Try.func42, Try.ntmps42
  go_wp2_with fail
  go_loopw [11] (fun s wr => ∃ m : Nat, s = .int .i64 m ∧ m ≤ n ∧ Hid (Filled w wr w.heap.size 3 (fillL fSgn (.int .i64 0) l m))) (fun s _ => n - (RowKit.intOf s).toNat)
  case atStart => exact ⟨0, rfl, Nat.zero_le _, HF0⟩
  case round =>
    obtain ⟨m, rfl, hm, HF⟩ := hrel
    by_cases hlt : m < n
    · have hk : m < l.length := by have := E.out; omega
      obtain ⟨x, hx⟩ : ∃ x, l[m]? = some x := ⟨_, List.getElem?_eq_getElem hk⟩
      have hb : Below w.heap.size w wr := by obtain ⟨_, _, _, h3⟩ := HF.out; exact h3
      have G := H.out.below hb
      obtain ⟨d, rfl⟩ := G.ptr (by omega)
      have c1 := G.cell (j := m) (u := .int .u64 (x.toNat : Int)) (by simp [u64s, hx])
      obtain ⟨c2, f2⟩ := HF.out.at_ (fill_get fSgn (.int .i64 0) l m hk)
      have b0 : (0 : Int) ≤ (m : Int) := Int.natCast_nonneg m
      have b1 : (m : Int) < (n : Int) := Int.ofNat_lt.2 hlt
      have hw64 := col_next5 hlt (by have := E.out; have := HL.out; omega)
      have hset : Hid (Filled w (wr.setCell ⟨w.heap.size, m, none⟩ (fSgn x)) w.heap.size 3 (fillL fSgn (.int .i64 0) l (m + 1))) := Lib.hid (by rw [← fill_set fSgn (.int .i64 0) l m hk hx]; exact HF.out.set m _)
      have hset : Hid (Filled w (wr.setCell ⟨w.heap.size, m, none⟩ (.int .i64 (IntKind.i64.wrap (x.toNat : Int)))) w.heap.size 3 (fillL fSgn (.int .i64 0) l (m + 1))) := hset
      obtain ⟨xn, hxn⟩ : ∃ xn, x.toNat = xn := ⟨_, rfl⟩
      rw [hxn] at hset c1
      obtain ⟨sx, hsx⟩ : ∃ sx, IntKind.i64.wrap (xn : Int) = sx := ⟨_, rfl⟩
      rw [hsx] at hset
      clear hxn
      clear hk hx hb G HF HF0 hmk
      go_wp2_with fail
      go_roundw
      case rel => exact ⟨m + 1, by go_num, hlt, hset⟩
      case measure => simp [RowKit.intOf]; omega
    · obtain rfl : m = n := by omega
      have HQ : Hid (Holds wr (.slice (some ⟨w.heap.size, 0, none⟩) m m) (l.map fSgn) ∧ m = (l.map fSgn).length ∧ Below w.heap.size w wr) := Lib.hid (by
        have := HF.out
        rw [← E.out, fill_end] at this
        have hm2 : m = (l.map fSgn).length := by rw [List.length_map, E.out]
        exact ⟨this.holds hm2, hm2, by obtain ⟨_, _, _, h3⟩ := this; exact h3⟩)
      clear HF HF0 hmk
      go_wp2_with fail
      go_ret
      refine ⟨?_, ?_, HQ.out.2.2⟩
      · rw [← HQ.out.2.1]; rfl
      · rw [← HQ.out.2.1]; exact HQ.out.1
set_option maxHeartbeats 800000 in
theorem unmarked_any {w : World} {a : Option Addr} {n k : Nat} {l : List UInt64} (h : Holds w (.slice a n k) (u64s l)) (hl : l.length ≤ 100000) :
    Calls Try.prog 28 #[.slice a n k] w (OutF w (l.map fUnm)) := by
  have e1 := h.len.1
  rw [u64s_len] at e1
  have H := Lib.hid h
  have E := Lib.hid e1
  have HL := Lib.hid hl
  have hmk := mk_bools w n (by omega)
  have HF0 : Hid (Filled w (w.alloc (.cells (List.replicate n (.bool false)).toArray 4)) w.heap.size 4 (fillL fUnm (.bool false) l 0)) := Lib.hid (by rw [fill_start, e1]; exact Filled.new _ _ _)
  clear h e1 hl
  go_enter Try.func28, Try.ntmps28
  go_wp2_with fail
  go_loopw [11] (fun s wr => ∃ m : Nat, s = .int .i64 m ∧ m ≤ n ∧ Hid (Filled w wr w.heap.size 4 (fillL fUnm (.bool false) l m))) (fun s _ => n - (RowKit.intOf s).toNat)
  case atStart => exact ⟨0, rfl, Nat.zero_le _, HF0⟩
  case round =>
    obtain ⟨m, rfl, hm, HF⟩ := hrel
    by_cases hlt : m < n
    · have hk : m < l.length := by have := E.out; omega
      obtain ⟨x, hx⟩ : ∃ x, l[m]? = some x := ⟨_, List.getElem?_eq_getElem hk⟩
      have hb : Below w.heap.size w wr := by obtain ⟨_, _, _, h3⟩ := HF.out; exact h3
      have G := H.out.below hb
      obtain ⟨d, rfl⟩ := G.ptr (by omega)
      have c1 := G.cell (j := m) (u := .int .u64 (x.toNat : Int)) (by simp [u64s, hx])
      obtain ⟨c2, f2⟩ := HF.out.at_ (fill_get fUnm (.bool false) l m hk)
      have b0 : (0 : Int) ≤ (m : Int) := Int.natCast_nonneg m
      have b1 : (m : Int) < (n : Int) := Int.ofNat_lt.2 hlt
      have hw64 := col_next5 hlt (by have := E.out; have := HL.out; omega)
      have hset : Hid (Filled w (wr.setCell ⟨w.heap.size, m, none⟩ (fUnm x)) w.heap.size 4 (fillL fUnm (.bool false) l (m + 1))) := Lib.hid (by rw [← fill_set fUnm (.bool false) l m hk hx]; exact HF.out.set m _)
      have hset : Hid (Filled w (wr.setCell ⟨w.heap.size, m, none⟩ (.bool (decide (x.toNat = 1)))) w.heap.size 4 (fillL fUnm (.bool false) l (m + 1))) := hset
      obtain ⟨xn, hxn⟩ : ∃ xn, x.toNat = xn := ⟨_, rfl⟩
      rw [hxn] at hset c1
      clear hxn
      clear hk hx hb G HF HF0 hmk
      by_cases h1 : xn = 1
      · subst h1
        have hset : Hid (Filled w (wr.setCell ⟨w.heap.size, m, none⟩ (.bool true)) w.heap.size 4 (fillL fUnm (.bool false) l (m + 1))) := hset
        go_wp2_with fail
        go_roundw
        case rel => exact ⟨m + 1, by go_num, hlt, hset⟩
        case measure => simp [RowKit.intOf]; omega
      · rw [decide_eq_false h1] at hset
        have u0 : (xn == 1) = false := by rw [beq_eq_false_iff_ne]; exact h1
        have u1 : ((xn : Int) == 1) = false := by rw [beq_eq_false_iff_ne]; omega
        clear h1
        go_wp2_with fail
        go_roundw
        case rel => exact ⟨m + 1, by go_num, hlt, hset⟩
        case measure => simp [RowKit.intOf]; omega
    · obtain rfl : m = n := by omega
      have HQ : Hid (Holds wr (.slice (some ⟨w.heap.size, 0, none⟩) m m) (l.map fUnm) ∧ m = (l.map fUnm).length ∧ Below w.heap.size w wr) := Lib.hid (by
        have := HF.out
        rw [← E.out, fill_end] at this
        have hm2 : m = (l.map fUnm).length := by rw [List.length_map, E.out]
        exact ⟨this.holds hm2, hm2, by obtain ⟨_, _, _, h3⟩ := this; exact h3⟩)
      clear HF HF0 hmk
      go_wp2_with fail
      go_ret
      refine ⟨?_, ?_, HQ.out.2.2⟩
      · rw [← HQ.out.2.1]; rfl
      · rw [← HQ.out.2.1]; exact HQ.out.1
end Go.Proofs.Ytbijpjoljljlpaa
