/- The texts NumbersBack BackPlain ColH ColI, one behind the other; each one's own comment says what it holds. -/
import Derived.Test.YtbijpjoljljlpaaPacksAll
import Derived.Test.YtbijpjoljljlpaaColumnBackRowGB
import Derived.Test.YtbijpjoljljlpaaCodecDelta
import Derived.Test.YtbijpjoljljlpaaColG
import Derived.Test.YtbijpjoljljlpaaCodecRuns
import Derived.Laws.EntriesVeiled
/- Plain mathematics of what is packed and read again. Conditions: none. -/
set_option maxRecDepth 100000
namespace Go.Proofs.Ytbijpjoljljlpaa

theorem bigN_at (wd : Nat) (l : List Nat) (h : ∀ u ∈ l, u < 2 ^ wd) : ∀ (j : Nat) (hj : j < l.length), bigN wd l / 2 ^ (wd * j) % 2 ^ wd = l[j] := by
  induction l with
  | nil => intro j hj; cases hj
  | cons x r ih =>
    intro j hj
    have hx := h x List.mem_cons_self
    have hp := Nat.two_pow_pos wd
    cases j with
    | zero => rw [Nat.mul_zero, Nat.pow_zero, Nat.div_one, bigN, Nat.add_mul_mod_self_left, Nat.mod_eq_of_lt hx]; rfl
    | succ j =>
      rw [bigN, Nat.mul_succ, Nat.add_comm, Nat.pow_add, Nat.mul_comm (2 ^ (wd * j)), ← Nat.div_div_eq_div_mul]
      rw [show (2 ^ wd * bigN wd r + x) / 2 ^ wd = bigN wd r by rw [Nat.mul_add_div hp, Nat.div_eq_of_lt hx, Nat.add_zero]]
      have := ih (fun u hu => h u (List.mem_cons_of_mem _ hu)) j (by simpa using hj)
      simpa using this
/-- what was packed is read as it was -/
theorem unpack_pack (wd : Nat) (l : List UInt64) (h : ∀ u ∈ l, u.toNat < 2 ^ wd) :
    numB (bytesN ((wd * l.length + 7) / 8) (bigN wd (nats l))) < 2 ^ (wd * l.length) ∧ unpackL wd l.length (numB (bytesN ((wd * l.length + 7) / 8) (bigN wd (nats l)))) = l := by
  have hn : (nats l).length = l.length := by simp [nats]
  have hall : ∀ u ∈ nats l, u < 2 ^ wd := fun u hu => by obtain ⟨x, hx, rfl⟩ := List.mem_map.1 hu; exact h x hx
  have hbig := bigN_lt wd (nats l) hall
  rw [hn] at hbig
  have hpow : 2 ^ (wd * l.length) ≤ 256 ^ ((wd * l.length + 7) / 8) := by
    rw [pow256]
    exact Nat.pow_le_pow_right (by omega) (by omega)
  rw [numB_bytes _ _ (Nat.lt_of_lt_of_le hbig hpow)]
  refine ⟨hbig, ?_⟩
  apply List.ext_getElem
  · rw [unpackL_len]
  · intro j h1 h2
    have := bigN_at wd (nats l) hall j (by rw [hn]; exact h2)
    simp only [unpackL, List.getElem_map, List.getElem_range, this]
    simp [nats]
end Go.Proofs.Ytbijpjoljljlpaa
/- Plain mathematics of runs and differences that are read again. Conditions: none. -/
set_option maxRecDepth 100000
namespace Go.Proofs.Ytbijpjoljljlpaa

theorem nums_dig (r : List UInt8) {u : Nat} (hu : u < 18446744073709551616) : numsOf (dig u ++ r) = (u :: (numsOf r).1, (numsOf r).2) := by
  have hg := get_dig0 r hu
  have hp := dig_pos u
  have hne : dig u ++ r ≠ [] := by
    intro e
    have := congrArg List.length e
    rw [List.length_append, List.length_nil] at this
    omega
  rw [nums_more hne (by rw [hg]; show (dig u).length ≠ 0; omega), hg]
  show (u :: (numsOf ((dig u ++ r).drop (dig u).length)).1, (numsOf ((dig u ++ r).drop (dig u).length)).2) = _
  rw [List.drop_left]
/-- runs, as numbers -/
def runsN (l : List (UInt64 × Nat)) : List (Nat × Nat) := l.map fun p => (p.1.toNat, p.2)
def flat : List (Nat × Nat) → List Nat
  | [] => []
  | p :: r => p.1 :: p.2 :: flat r
theorem flat_len : ∀ l : List (Nat × Nat), (flat l).length = 2 * l.length
  | [] => rfl
  | p :: r => by rw [flat, List.length_cons, List.length_cons, flat_len r, List.length_cons]; omega
theorem pairs_flat : ∀ l : List (Nat × Nat), pairsOf (flat l) = l
  | [] => rfl
  | p :: r => by rw [flat, pairsOf, pairs_flat r]
theorem nums_runs : ∀ (l : List (UInt64 × Nat)), (∀ p ∈ l, p.2 < 18446744073709551616) → numsOf (runsB l) = (flat (runsN l), false)
  | [], _ => by rw [show runsB [] = [] from rfl, nums_nil]; rfl
  | p :: r, h => by
    have ih := nums_runs r (fun q hq => h q (List.mem_cons_of_mem _ hq))
    have e : runsB (p :: r) = dig p.1.toNat ++ (dig p.2 ++ runsB r) := by simp [runsB]
    rw [e, nums_dig _ p.1.toNat_lt, nums_dig _ (h p List.mem_cons_self), ih]
    rfl
theorem split_run (u : UInt64) : ∀ r : List UInt64, ∃ k rest, u :: r = List.replicate (k + 1) u ++ rest ∧ ∀ x t, rest = x :: t → x ≠ u
  | [] => ⟨0, [], rfl, fun x t h => by cases h⟩
  | v :: r => by
    by_cases h : v = u
    · subst h
      obtain ⟨k, rest, e, hr⟩ := split_run v r
      exact ⟨k + 1, rest, by rw [e]; rfl, hr⟩
    · exact ⟨0, v :: r, rfl, fun x t e => by injection e with e1 e2; rw [← e1]; exact h⟩
theorem unr_runs : ∀ (n : Nat) (l : List UInt64) (acc : List UInt64), l.length ≤ n → (∀ x t, l = x :: t → acc.getLast? ≠ some x) → acc.length + l.length ≤ 100000 →
    (runsN (runsOf l)).foldl unrStep (some acc) = some (acc ++ l) := by
  intro n
  induction n with
  | zero =>
    intro l acc hl _ _
    have : l = [] := List.eq_nil_of_length_eq_zero (by omega)
    subst this
    rw [List.append_nil]; rfl
  | succ n ih =>
    intro l acc hl hne hb
    cases l with
    | nil => rw [List.append_nil]; rfl
    | cons u r =>
      have hnu := hne u r rfl
      obtain ⟨k, rest, e, hr⟩ := split_run u r
      rw [e] at hb hl ⊢
      rw [List.length_append, List.length_replicate] at hb hl
      rw [runs_rep u rest hr k]
      have hU : UInt64.ofNat u.toNat = u := UInt64.ofNat_toNat
      have hs : unrStep (some acc) (u.toNat, k + 1) = some (acc ++ List.replicate (k + 1) u) := by
        rw [unrStep]
        show (if acc.getLast? = some (UInt64.ofNat u.toNat) ∨ k + 1 = 0 ∨ 100000 - acc.length < k + 1 then none else some (acc ++ List.replicate (k + 1) (UInt64.ofNat u.toNat))) = _
        rw [hU, if_neg]
        rintro (h | h | h)
        · exact hnu h
        · omega
        · omega
      show (runsN (runsOf rest)).foldl unrStep (unrStep (some acc) (u.toNat, k + 1)) = _
      rw [hs, ih rest _ (by omega) (fun x t ex => ?_) (by rw [List.length_append, List.length_replicate]; omega), List.append_assoc]
      have hx := hr x t ex
      rw [show (acc ++ List.replicate (k + 1) u).getLast? = some u by rw [List.getLast?_append, List.getLast?_replicate]; rfl]
      intro h
      exact hx (Option.some.inj h).symm
/-- what Runs wrote is read as it was -/
theorem unruns_runs (l : List UInt64) (hl : l.length ≤ 100000) : unrAns (runsB (runsOf l)) = (l, 0) := by
  have hp := (runs_le l).2
  have hn := nums_runs (runsOf l) (fun p hp2 => by have := (hp p hp2).2; omega)
  refine unrAns_ok ?_ ?_
  · rw [pairsBad, hn]
    show (false || decide ((flat (runsN (runsOf l))).length % 2 = 1)) = false
    rw [flat_len, Bool.false_or]
    exact decide_eq_false (by omega)
  · rw [hn]
    show unr (pairsOf (flat (runsN (runsOf l)))) = _
    rw [pairs_flat, unr, unr_runs l.length l [] (Nat.le_refl _) (fun x t _ h => by cases h) (by simpa using hl)]
    rfl

/-- differences, as numbers -/
def zs : Int → List Int → List Nat
  | _, [] => []
  | a, n :: r => zigU (dlt n a) :: zs n r
theorem nums_deltas : ∀ (m : List Int) (a : Int), numsOf (deltaL a m) = (zs a m, false)
  | [], _ => by rw [deltaL, nums_nil]; rfl
  | n :: r, a => by
    have hd := dlt_bd n a
    rw [deltaL, nums_dig _ (zigU_eq hd.1 hd.2).2, nums_deltas r n]
    rfl
theorem zag_zig {n : Int} (h1 : -9223372036854775808 ≤ n) (h2 : n ≤ 9223372036854775807) : zagN (zigU n) = n := by
  have := (zigU_eq h1 h2).1
  generalize zigU n = z at this
  by_cases h : n < 0
  · rw [zig_neg h] at this
    rw [zag_odd (by omega)]; omega
  · rw [zig_pos h] at this
    rw [zag_even (by omega)]; omega
theorem und_deltas : ∀ (m : List Int) (a : Int) (acc : List Int), (∀ n ∈ m, -9223372036854775808 ≤ n ∧ n ≤ 9223372036854775807) → ((zs a m).foldl undStep (acc, a)).1 = acc ++ m
  | [], _, _, _ => by rw [zs, List.append_nil]; rfl
  | n :: r, a, acc, h => by
    have hn := h n List.mem_cons_self
    have hd := dlt_bd n a
    have e : IntKind.i64.wrap (a + zagN (zigU (dlt n a))) = n := by
      rw [zag_zig hd.1 hd.2, dlt, IntKind.wrap_i64, IntKind.wrap_i64]; omega
    rw [zs, List.foldl_cons, undStep, e, und_deltas r n _ (fun x hx => h x (List.mem_cons_of_mem _ hx)), List.append_assoc]
    rfl
/-- what Deltas wrote is read as it was -/
theorem undeltas_deltas (m : List Int) (h : ∀ n ∈ m, -9223372036854775808 ≤ n ∧ n ≤ 9223372036854775807) : undAns (deltaL 0 m) = (m, 0) := by
  rw [undAns, nums_deltas]
  show ((und (zs 0 m)).1, (0 : Int)) = _
  rw [und, und_deltas m 0 [] h]
  rfl
theorem deltaL_len : ∀ (m : List Int) (a : Int), (deltaL a m).length ≤ 10 * m.length
  | [], _ => Nat.zero_le _
  | n :: r, a => by
    have := deltaL_len r n
    have hd := dlt_bd n a
    have := dig_len10 (zigU_eq hd.1 hd.2).2
    rw [deltaL, List.length_append, List.length_cons]; omega
end Go.Proofs.Ytbijpjoljljlpaa
/- leastWidth, packed, unpacked and the three encodings. Conditions: at most 100000 numbers. -/
set_option maxRecDepth 100000
namespace Go.Proofs.Ytbijpjoljljlpaa
open Go.RowKit Go.Maps Go.Sort

theorem map_mark (l : List Bool) : l.map fMark = u64s (l.map markU) := by simp [u64s, fMark]
theorem map_id (l : List Int) : l.map fId = u64s (l.map idU) := by simp [u64s, fId]
theorem map_sgn (l : List UInt64) : l.map fSgn = i64s (l.map sgnU) := by simp [i64s, fSgn]
theorem map_unm (l : List UInt64) : l.map fUnm = bls (l.map unmU) := by simp [bls, fUnm]
theorem u8s_get {l : List UInt8} {k : Nat} (h : k < l.length) : (u8s l)[k]? = some (.int .u8 ((l.getD k 0).toNat : Int)) := by
  simp [u8s, List.getElem?_eq_getElem h, List.getD_eq_getElem?_getD]
def orL (l : List UInt64) : Nat := l.foldl (fun a u => a ||| u.toNat) 0
def wdU (l : List UInt64) : Nat := Lib.bitLen (orL l)
theorem or_lt {a b : Nat} (ha : a < 18446744073709551616) (hb : b < 18446744073709551616) : a ||| b < 18446744073709551616 := Nat.or_lt_two_pow (n := 64) ha hb
theorem orL_snoc (l : List UInt64) (u : UInt64) : orL (l ++ [u]) = orL l ||| u.toNat := by simp [orL, List.foldl_append]
theorem orL_lt0 : ∀ (l : List UInt64) (a : Nat), a < 18446744073709551616 → l.foldl (fun a u => a ||| u.toNat) a < 18446744073709551616
  | [], _, h => h
  | u :: r, _, h => orL_lt0 r _ (or_lt h u.toNat_lt)
theorem orL_lt (l : List UInt64) : orL l < 18446744073709551616 := orL_lt0 l 0 (by decide)
theorem wdU_le (l : List UInt64) : wdU l ≤ 64 := Lib.bitLen_le _ 64 (Nat.le_refl _) (orL_lt l)
theorem leastWidth_any {w : World} {a : Option Addr} {n k : Nat} {l : List UInt64} (h : Holds w (.slice a n k) (u64s l)) (hl : l.length ≤ 100000) :
    Calls Try.prog 36 #[.slice a n k] w fun e w' => e = .returned (.int .i64 (wdU l : Int)) ∧ w' = w := by
  have e1 := h.len.1
  rw [u64s_len] at e1
  have H := Lib.hid h
  have E := Lib.hid e1
  have HL := Lib.hid hl
  clear h e1 hl
  go_enter Try.func36, Try.ntmps36
  go_wp2_with fail
  go_loopw [3, 8] (fun v s wr => ∃ m t : Nat, v = .int .u64 (t : Int) ∧ s = .int .i64 m ∧ m ≤ n ∧ Hid (t = orL (l.take m)) ∧ wr = w) (fun _ s _ => n - (RowKit.intOf s).toNat)
  case atStart => exact ⟨0, 0, rfl, rfl, Nat.zero_le _, Lib.hid rfl, rfl⟩
  case round =>
    obtain ⟨m, t, rfl, rfl, hm, HT, rfl⟩ := hrel
    by_cases hlt : m < n
    · have hk : m < l.length := by have := E.out; omega
      obtain ⟨x, hx⟩ : ∃ x, l[m]? = some x := ⟨_, List.getElem?_eq_getElem hk⟩
      obtain ⟨d, rfl⟩ := H.out.ptr (by omega)
      have c1 := H.out.cell (j := m) (u := .int .u64 (x.toNat : Int)) (by simp [u64s, hx])
      have b0 : (0 : Int) ≤ (m : Int) := Int.natCast_nonneg m
      have b1 : (m : Int) < (n : Int) := Int.ofNat_lt.2 hlt
      have hw64 := col_next5 hlt (by have := E.out; have := HL.out; omega)
      have ht2 : t < 18446744073709551616 := by rw [HT.out]; exact orL_lt _
      have hor := or_u64 t x.toNat ht2 x.toNat_lt
      have hh : Hid (t ||| x.toNat = orL (l.take (m + 1))) := Lib.hid (by rw [take_snoc hx, orL_snoc, ← HT.out])
      obtain ⟨q, hq⟩ : ∃ q, t ||| x.toNat = q := ⟨_, rfl⟩
      rw [hq] at hor hh
      generalize x.toNat = xn at *
      clear hk hx HT ht2 hq
      go_wp2_with fail
      go_roundw
      case rel => exact ⟨m + 1, q, by go_num, by go_num, hlt, hh, trivial⟩
      case measure => simp [RowKit.intOf]; omega
    · obtain rfl : m = n := by omega
      have ht3 : t = orL l := by have := HT.out; rw [← E.out, List.take_length] at this; exact this
      have KB := Try.bits_Len64 (t : Int) wr (by omega) (by rw [ht3]; have := orL_lt l; omega)
      rw [Int.toNat_natCast] at KB
      have HW : Hid ((Lib.bitLen t : Int) = (wdU l : Int)) := Lib.hid (by rw [wdU, ht3])
      generalize Lib.bitLen t = q at *
      clear ht3 HT
      go_wp2_with fail
      refine KB.mono ?_
      rintro e w' ⟨rfl, rfl⟩
      go_wp2_with fail
      go_ret
      exact ⟨ret_int HW.out, rfl⟩
theorem packed_any {w : World} {a : Option Addr} {n k : Nat} {l : List UInt64} (h : Holds w (.slice a n k) (u64s l)) (hl : l.length ≤ 100000) (wd : Int) :
    Calls Try.prog 14 #[.int .i64 wd, .slice a n k] w (OutH w (u8s (packAns wd l).1)) := by
  have e1 := h.len.1
  rw [u64s_len] at e1
  subst e1
  have KP := Pack_all h hl wd
  generalize l.length = n at *
  clear h hl
  go_enter Try.func14, Try.ntmps14
  go_wp2_with fail
  refine KP.mono ?_
  rintro e w' ⟨v', rfl, HP⟩
  obtain ⟨a', c', rfl, _⟩ := HP.out.1.form
  clear KP
  go_wp2_with fail
  go_ret
  exact ⟨_, _, rfl, HP.out.1, HP.out.2⟩
theorem unpacked_any {w : World} {a : Option Addr} {n k : Nat} {bs : List UInt8} (h : Holds w (.slice a n k) (u8s bs)) (wd N : Int) :
    Calls Try.prog 29 #[.int .i64 wd, .int .i64 N, .slice a n k] w (OutH w (u64s (unpackAns wd N bs).1)) := by
  have e1 := h.len.1
  rw [u8s_len] at e1
  subst e1
  have KP := Unpack_all h wd N
  have HL : Hid ((u64s (unpackAns wd N bs).1).length = (unpackAns wd N bs).1.length) := Lib.hid (u64s_len _)
  generalize bs.length = n at *
  clear h
  go_enter Try.func29, Try.ntmps29
  go_wp2_with fail
  refine KP.mono ?_
  rintro e w' ⟨a', c', rfl, HP⟩
  clear KP
  go_wp2_with fail
  go_ret
  refine ⟨a', c', ?_, ?_, HP.out.2⟩
  · rw [HL.out]; rfl
  · rw [HL.out]; exact HP.out.1
/-- a byte of one's own, and a list behind it -/
theorem app_lit {W W1 : World} {c : UInt8} {x : Int} (hx : x = (c.toNat : Int)) {l : List UInt8} {sv : Value} (hb : Below (W.heap.size + 1) (W.alloc (.cells #[.int .u8 x] 5)) W1) (hs : Holds W1 sv (u8s l)) (hl : l.length ≤ 1000000) :
    ∃ a k W2, Hid (∀ ty, (Builtin.append_ #[28, 28] ty #[.slice (some ⟨W.heap.size, 0, none⟩) 1 1, sv]).run Try.prog W1 = .ok (.slice a (c :: l).length k) W2) ∧ Hid (Holds W2 (.slice a (c :: l).length k) (u8s (c :: l)) ∧ Below W.heap.size W W2) := by
  have h0 : W1.heap[W.heap.size]? = some (.cells #[.int .u8 x] 5 (0, 0)) := (hb.block _ (by omega)).trans (heap_alloc_new W _)
  have hr : W1.ownsRow W.heap.size 5 1 (.slice (some ⟨W.heap.size, 0, none⟩) 1 1) [c].length (u8s [c]) := ⟨rfl, .inr ⟨_, 1, _, rfl, Nat.le_refl _, h0, Nat.le_refl _, by unfold maxLen; omega, rfl, by rw [hx]; rfl⟩⟩
  have hB : W.heap.size ≤ W1.heap.size := by have := lt_of_heap h0; omega
  obtain ⟨v', w', r, o, g, _⟩ := app8 hr hB hs (by simp; omega)
  obtain ⟨a, k, rfl, _⟩ := ownsRow_form o
  refine ⟨a, k, w', Lib.hid r, Lib.hid ⟨?_, ?_⟩⟩
  · exact Holds.of_row (by rw [u8s_len]; exact o)
  · exact ((below_box W _).trans (hb.mono (by omega))).trans (below_grown g hB (fun k e => by simp [Value.ownBlock] at e; omega))
def encA (l : List UInt64) : List UInt8 := UInt8.ofNat (wdU l) :: (packAns (wdU l : Int) l).1
def encB (l : List UInt64) : List UInt8 := runsB (runsOf l)
theorem packAns_len (wd : Nat) (l : List UInt64) : (packAns (wd : Int) l).1.length ≤ 8 * l.length + 1 := by
  unfold packAns
  split
  · simp
  · split
    · rename_i h _
      have : wd * l.length ≤ 64 * l.length := Nat.mul_le_mul_right _ (by omega)
      simp [bytesN]
      omega
    · simp
theorem enc1_any {W : World} {B : Nat} {a : Option Addr} {n k : Nat} {l : List UInt64} (hc : W.cell? ⟨B, 0, none⟩ = some (.slice a n k)) (h : Holds W (.slice a n k) (u64s l)) (hl : l.length ≤ 1000) :
    Calls Try.prog 35 #[.pointer (some ⟨B, 0, none⟩)] W (OutH W (u8s (encA l))) := by
  have KW := leastWidth_any h (by omega)
  have hw := wdU_le l
  have hbb := below_box W (.cells #[.int .u8 (wdU l : Int)] 5)
  have KP := packed_any (h.below hbb) (by omega) (wdU l : Int)
  have hcB : (W.alloc (.cells #[.int .u8 (wdU l : Int)] 5)).cell? ⟨B, 0, none⟩ = some (.slice a n k) := cell_more hc _
  have hpl := packAns_len (wdU l) l
  have HA := Lib.hid (fun (W1 : World) (sv : Value) (hb : Below (W.heap.size + 1) (W.alloc (.cells #[.int .u8 (wdU l : Int)] 5)) W1) (hs : Holds W1 sv (u8s (packAns (wdU l : Int) l).1)) =>
    @app_lit W W1 (UInt8.ofNat (wdU l)) (wdU l : Int) (by rw [UInt8.toNat_ofNat']; omega) _ sv hb hs (by omega))
  have he : UInt8.ofNat (wdU l) :: (packAns (wdU l : Int) l).1 = encA l := rfl
  rw [he] at HA
  have hl8 : (u8s (encA l)).length = (encA l).length := u8s_len _
  have HL8 := Lib.hid hl8
  have hw8 : IntKind.u8.wrap (wdU l : Int) = (wdU l : Int) := by rw [IntKind.wrap_u8]; omega
  generalize encA l = ea at *
  generalize (packAns (wdU l : Int) l).1 = pa at *
  generalize wdU l = q at *
  clear h hl hpl he hbb hl8 hw
  go_enter Try.func35, Try.ntmps35
  go_wp2_with fail
  refine KW.mono ?_
  rintro e w1 ⟨rfl, rfl⟩
  clear KW
  go_wp2_with fail
  refine KP.mono ?_
  rintro e w2 ⟨pa', pk, rfl, hs, hb⟩
  obtain ⟨ra, rk, W2, R, HR⟩ := HA.out w2 _ (hb.mono (by simp)) hs
  clear KP HA hs hb
  go_wp2_with (at_builtin; refine wpList_append_run rfl _ _ 28 rfl rfl rfl (R.out _) ?_)
  go_ret
  refine ⟨ra, rk, ?_, ?_, HR.out.2⟩
  · rw [HL8.out]; rfl
  · rw [HL8.out]; exact HR.out.1
theorem enc2_any {W : World} {B : Nat} {a : Option Addr} {n k : Nat} {l : List UInt64} (hc : W.cell? ⟨B, 0, none⟩ = some (.slice a n k)) (h : Holds W (.slice a n k) (u64s l)) (hl : l.length ≤ 1000) :
    Calls Try.prog 37 #[.pointer (some ⟨B, 0, none⟩)] W (OutH W (u8s (encB l))) := by
  have KR := Runs_any h (by omega)
  have HL8 : Hid ((u8s (encB l)).length = (encB l).length) := Lib.hid (u8s_len _)
  have he : runsB (runsOf l) = encB l := rfl
  rw [he] at KR
  generalize encB l = eb at *
  clear h hl he
  go_enter Try.func37, Try.ntmps37
  go_wp2_with fail
  refine KR.mono ?_
  rintro e w1 ⟨v, rfl, HR⟩
  obtain ⟨ra, rk, rfl, _⟩ := ownsRow_form HR.out.1
  clear KR
  go_wp2_with fail
  go_ret
  refine ⟨ra, rk, ?_, ?_, HR.out.2⟩
  · rw [HL8.out]; rfl
  · rw [HL8.out]; exact Holds.of_row (by rw [u8s_len]; exact HR.out.1)
theorem enc3_any {W : World} {B : Nat} {a : Option Addr} {n k : Nat} {l : List Int} (hc : W.cell? ⟨B, 0, none⟩ = some (.slice a n k)) (h : Holds W (.slice a n k) (i64s l)) (hl : l.length ≤ 1000) :
    Calls Try.prog 39 #[.pointer (some ⟨B, 0, none⟩)] W (OutH W (u8s (deltaL 0 l))) := by
  have KR := Deltas_any h (by omega)
  have HL8 : Hid ((u8s (deltaL 0 l)).length = (deltaL 0 l).length) := Lib.hid (u8s_len _)
  generalize deltaL 0 l = eb at *
  clear h hl
  go_enter Try.func39, Try.ntmps39
  go_wp2_with fail
  refine KR.mono ?_
  rintro e w1 ⟨v, rfl, hr, hb⟩
  obtain ⟨ra, rk, rfl, _⟩ := ownsRow_form hr
  have HR := Lib.hid (And.intro hr hb)
  clear KR hr hb
  go_wp2_with fail
  go_ret
  refine ⟨ra, rk, ?_, ?_, HR.out.2⟩
  · rw [HL8.out]; rfl
  · rw [HL8.out]; exact Holds.of_row (by rw [u8s_len]; exact HR.out.1)
end Go.Proofs.Ytbijpjoljljlpaa
/- The shortest encoding, and Bytes. Conditions: none. -/
set_option maxRecDepth 100000
namespace Go.Proofs.Ytbijpjoljljlpaa
open Go.RowKit Go.Maps Go.Sort

def idsU (l : List Int) : List UInt64 := l.map idU
/-- the encodings' bytes, their numbers ahead -/
def bA (l : List Int) : List UInt8 := 0 :: encA (idsU l)
def bB (l : List Int) : List UInt8 := 1 :: encB (idsU l)
def bC (l : List Int) : List UInt8 := 2 :: deltaL 0 l
def best2 (l : List Int) : List UInt8 := if (bB l).length < (bA l).length then bB l else bA l
def shortL (l : List Int) : List UInt8 := if (bC l).length < (best2 l).length then bC l else best2 l
def bestAt (l : List Int) : Nat → List UInt8
  | 0 => []
  | 1 => bA l
  | 2 => best2 l
  | _ => shortL l
def fnsV (G B : Nat) : Value := .agg #[.func (.func 35) #[] #[.pointer (some ⟨G, 0, none⟩)], .func (.func 37) #[] #[.pointer (some ⟨G, 0, none⟩)], .func (.func 39) #[] #[.pointer (some ⟨B, 0, none⟩)]]
theorem box1c {w wr : World} {x : Value} {t : TypeId} (hb : Below (w.heap.size + 1) (w.alloc (.cells #[x] t)) wr) : wr.cell? ⟨w.heap.size, 0, none⟩ = some x := by
  have h : wr.heap[w.heap.size]? = some (.cells #[x] t (0, 0)) := (hb.block _ (by omega)).trans (heap_alloc_new w _)
  rw [cell_of_row wr _ _ _ _ _ h]; rfl
theorem set3 {w : World} {S : Nat} {t : TypeId} {x0 x1 x2 y0 y1 y2 : Value} (h : w.heap[S]? = some (.cells #[x0, x1, x2] t (0, 0))) :
    (w.cell? ⟨S, 0, none⟩ = some x0 ∧ w.cell? ⟨S, 1, none⟩ = some x1 ∧ w.cell? ⟨S, 2, none⟩ = some x2 ∧ w.frozen? ⟨S, 0, none⟩ = false ∧ w.frozen? ⟨S, 1, none⟩ = false ∧ w.frozen? ⟨S, 2, none⟩ = false) ∧
    ((((w.setCell ⟨S, 0, none⟩ y0).setCell ⟨S, 1, none⟩ y1).setCell ⟨S, 2, none⟩ y2).cell? ⟨S, 0, none⟩ = some y0 ∧ (((w.setCell ⟨S, 0, none⟩ y0).setCell ⟨S, 1, none⟩ y1).setCell ⟨S, 2, none⟩ y2).cell? ⟨S, 1, none⟩ = some y1 ∧ (((w.setCell ⟨S, 0, none⟩ y0).setCell ⟨S, 1, none⟩ y1).setCell ⟨S, 2, none⟩ y2).cell? ⟨S, 2, none⟩ = some y2) ∧
    Below S w (((w.setCell ⟨S, 0, none⟩ y0).setCell ⟨S, 1, none⟩ y1).setCell ⟨S, 2, none⟩ y2) ∧ ∀ k, k ≠ S → (((w.setCell ⟨S, 0, none⟩ y0).setCell ⟨S, 1, none⟩ y1).setCell ⟨S, 2, none⟩ y2).heap[k]? = w.heap[k]? := by
  have q := heap_set (j := 2) (heap_set (j := 1) (heap_set (j := 0) h y0) y1) y2
  refine ⟨⟨?_, ?_, ?_, free_of_row h 0, free_of_row h 1, free_of_row h 2⟩, ⟨?_, ?_, ?_⟩, (vset_below (Nat.le_refl _) _).trans ((vset_below (Nat.le_refl _) _).trans (vset_below (Nat.le_refl _) _)), fun k hk => ?_⟩
  · rw [cell_of_row _ _ _ _ _ _ h]; rfl
  · rw [cell_of_row _ _ _ _ _ _ h]; rfl
  · rw [cell_of_row _ _ _ _ _ _ h]; rfl
  · rw [cell_of_row _ _ _ _ _ _ q]; rfl
  · rw [cell_of_row _ _ _ _ _ _ q]; rfl
  · rw [cell_of_row _ _ _ _ _ _ q]; rfl
  · rw [vset_other hk, vset_other hk, vset_other hk]
theorem Holds.of_blocks {w w' : World} {a : Option Addr} {n k S : Nat} {xs : List Value} (h : Holds w (.slice a n k) xs) (hne : ∀ ad, a = some ad → ∀ j, (ad.add j).block = ad.block) (h2 : ∀ ad, a = some ad → 0 < n → ad.block ≠ S) (hk : ∀ k, k ≠ S → w'.heap[k]? = w.heap[k]?) : Holds w' (.slice a n k) xs := by
  obtain ⟨a', c', e, hl, hc⟩ := h
  simp only [Value.slice.injEq] at e
  obtain ⟨rfl, rfl, rfl⟩ := e
  refine ⟨a, k, rfl, hl, ?_⟩
  rcases hc with hc | ⟨ad, rfl, hj⟩
  · exact .inl hc
  · refine .inr ⟨ad, rfl, fun j u hju => ?_⟩
    rw [← hj j u hju]
    refine World.cell?_of_block (w := w) (hk _ ?_)
    rw [hne ad rfl j]
    exact h2 ad rfl (by have := (List.getElem?_eq_some_iff.1 hju).1; omega)
/-- the world behind encodings -/
theorem enc_world {w W w1 X : World} {a : Option Addr} {n k : Nat} {l : List UInt64} {y0 y1 y2 : Value} (hs : W.heap.size = w.heap.size + 2) (hb0 : Below w.heap.size w W) (q1 : W.heap[w.heap.size]? = some (.cells #[.slice a n k] 23 (0, 0)))
    (q2 : W.heap[w.heap.size + 1]? = some (.cells #[.nilFunc, .nilFunc, .nilFunc] 56 (0, 0))) (hb : Below W.heap.size W w1) (hu : Holds w1 (.slice (some ⟨W.heap.size, 0, none⟩) n n) (u64s l)) (hX : w1.alloc (.cells #[.slice (some ⟨W.heap.size, 0, none⟩) n n] 46) = X) :
    (X.cell? ⟨w.heap.size + 1, 0, none⟩ = some .nilFunc ∧ X.cell? ⟨w.heap.size + 1, 1, none⟩ = some .nilFunc ∧ X.cell? ⟨w.heap.size + 1, 2, none⟩ = some .nilFunc ∧ X.frozen? ⟨w.heap.size + 1, 0, none⟩ = false ∧ X.frozen? ⟨w.heap.size + 1, 1, none⟩ = false ∧ X.frozen? ⟨w.heap.size + 1, 2, none⟩ = false) ∧
    ((((X.setCell ⟨w.heap.size + 1, 0, none⟩ y0).setCell ⟨w.heap.size + 1, 1, none⟩ y1).setCell ⟨w.heap.size + 1, 2, none⟩ y2).cell? ⟨w.heap.size + 1, 0, none⟩ = some y0 ∧ (((X.setCell ⟨w.heap.size + 1, 0, none⟩ y0).setCell ⟨w.heap.size + 1, 1, none⟩ y1).setCell ⟨w.heap.size + 1, 2, none⟩ y2).cell? ⟨w.heap.size + 1, 1, none⟩ = some y1 ∧
      (((X.setCell ⟨w.heap.size + 1, 0, none⟩ y0).setCell ⟨w.heap.size + 1, 1, none⟩ y1).setCell ⟨w.heap.size + 1, 2, none⟩ y2).cell? ⟨w.heap.size + 1, 2, none⟩ = some y2) ∧
    Hid ((((X.setCell ⟨w.heap.size + 1, 0, none⟩ y0).setCell ⟨w.heap.size + 1, 1, none⟩ y1).setCell ⟨w.heap.size + 1, 2, none⟩ y2).cell? ⟨w1.heap.size, 0, none⟩ = some (.slice (some ⟨W.heap.size, 0, none⟩) n n) ∧
      Holds (((X.setCell ⟨w.heap.size + 1, 0, none⟩ y0).setCell ⟨w.heap.size + 1, 1, none⟩ y1).setCell ⟨w.heap.size + 1, 2, none⟩ y2) (.slice (some ⟨W.heap.size, 0, none⟩) n n) (u64s l) ∧
      (((X.setCell ⟨w.heap.size + 1, 0, none⟩ y0).setCell ⟨w.heap.size + 1, 1, none⟩ y1).setCell ⟨w.heap.size + 1, 2, none⟩ y2).cell? ⟨w.heap.size, 0, none⟩ = some (.slice a n k) ∧
      Below w.heap.size w (((X.setCell ⟨w.heap.size + 1, 0, none⟩ y0).setCell ⟨w.heap.size + 1, 1, none⟩ y1).setCell ⟨w.heap.size + 1, 2, none⟩ y2)) := by
  have hbx := below_box w1 (.cells #[.slice (some ⟨W.heap.size, 0, none⟩) n n] 46)
  have q5 := heap_alloc_new w1 (.cells #[.slice (some ⟨W.heap.size, 0, none⟩) n n] 46)
  rw [hX] at hbx q5
  have hsz := hb.size
  have hsx := hbx.size
  have q3 : X.heap[w.heap.size + 1]? = some (.cells #[.nilFunc, .nilFunc, .nilFunc] 56 (0, 0)) := (hbx.block _ (by omega)).trans ((hb.block _ (by omega)).trans q2)
  have q4 : X.heap[w.heap.size]? = some (.cells #[.slice a n k] 23 (0, 0)) := (hbx.block _ (by omega)).trans ((hb.block _ (by omega)).trans q1)
  obtain ⟨s1, s2, s3, s4⟩ := set3 (y0 := y0) (y1 := y1) (y2 := y2) q3
  refine ⟨s1, s2, Lib.hid ⟨?_, ?_, ?_, ?_⟩⟩
  · rw [cell_of_row _ _ _ _ _ _ ((s4 _ (by omega)).trans q5)]; rfl
  · exact (hu.below hbx).of_blocks (S := w.heap.size + 1) (fun ad _ j => Addr.add_block ad j) (fun ad e _ => by cases e; show W.heap.size ≠ _; omega) s4
  · rw [cell_of_row _ _ _ _ _ _ ((s4 _ (by omega)).trans q4)]; rfl
  · exact (hb0.trans (hb.mono (by omega))).trans ((hbx.mono (by omega)).trans (s3.mono (by omega)))
set_option maxHeartbeats 800000 in
theorem encodings_any {w : World} {a : Option Addr} {n k : Nat} {l : List Int} (h : Holds w (.slice a n k) (i64s l)) (hl : l.length ≤ 1000) :
    Calls Try.prog 25 #[.slice a n k] w fun e w' => ∃ G B ua uk, e = .returned (fnsV G B) ∧ Hid (w'.cell? ⟨G, 0, none⟩ = some (.slice ua n uk) ∧ Holds w' (.slice ua n uk) (u64s (idsU l)) ∧ w'.cell? ⟨B, 0, none⟩ = some (.slice a n k) ∧ Below w.heap.size w w') := by
  have e1 := h.len.1
  rw [i64s_len] at e1
  obtain ⟨W, hW⟩ : ∃ W, (w.alloc (.cells #[.slice a n k] 23)).alloc (.cells #[.nilFunc, .nilFunc, .nilFunc] 56) = W := ⟨_, rfl⟩
  obtain ⟨_, q1, q2⟩ := two_boxes w (.cells #[.slice a n k] 23) (.cells #[.nilFunc, .nilFunc, .nilFunc] 56)
  have hs : W.heap.size = w.heap.size + 2 := by rw [← hW]; simp
  have hb0 : Below w.heap.size w W := by rw [← hW]; exact ((Below.refl _ _).alloc (Nat.le_refl _) _).alloc (by simp) _
  rw [hW] at q1 q2
  have KU := unsigned_any (h.below hb0) (by omega)
  rw [map_id] at KU
  unfold OutF at KU
  have hul : (u64s (l.map idU)).length = n := by rw [u64s_len, List.length_map]; exact e1
  rw [hul] at KU
  have c0 : W.cell? ⟨w.heap.size, 0, none⟩ = some (.slice a n k) := by rw [cell_of_row _ _ _ _ _ _ q1]; rfl
  have HE := Lib.hid (fun (w1 X : World) (y0 y1 y2 : Value) => @enc_world w W w1 X a n k (l.map idU) y0 y1 y2 hs hb0 q1 q2)
  clear h hl e1 q1 q2 hs hb0 hul
  go_enter Try.func25, Try.ntmps25
  go_wp2_with fail
  clear hW
  refine KU.mono ?_
  rintro e w1 ⟨rfl, hu, hb⟩
  obtain ⟨X, hX⟩ : ∃ X, w1.alloc (.cells #[.slice (some ⟨W.heap.size, 0, none⟩) n n] 46) = X := ⟨_, rfl⟩
  obtain ⟨⟨c3, c4, c5, c6, c7, c8⟩, ⟨r0, r1, r2⟩, HF⟩ := HE.out w1 X (.func (.func 35) #[] #[.pointer (some ⟨w1.heap.size, 0, none⟩)]) (.func (.func 37) #[] #[.pointer (some ⟨w1.heap.size, 0, none⟩)]) (.func (.func 39) #[] #[.pointer (some ⟨w.heap.size, 0, none⟩)]) hb hu hX
  clear KU HE hu hb
  go_wp2_with fail
  refine bodyPost_ret (v := fnsV w1.heap.size w.heap.size) ?_ rfl ⟨_, _, _, _, rfl, HF⟩
  simp [results, Try.results25, go_sem, r0, r1, r2, fnsV]
end Go.Proofs.Ytbijpjoljljlpaa
