/- Plain mathematics of records in bytes: what bytes tell, and what is read of them. Conditions: none. -/
import Derived.Test.YtehfoaicohnpfaaGreatDoorVbPlain
import Derived.Test.YtehfoaicohnpfaaGreatDoorVbBytes
import Derived.Test.YtehfoaicohnpfaaGreatDoorGetInvP
set_option maxRecDepth 100000
namespace Go.Proofs.YtehfoaicohnpfaaGreatDoor
open Go.RowKit Go.Lib

/-- an int as 64 bits, and back -/
def uN (n : Int) : Nat := (n % 18446744073709551616).toNat
def iN (u : Nat) : Int := IntKind.i64.wrap (u : Int)
theorem uN_lt (n : Int) : uN n < 18446744073709551616 := by unfold uN; omega
theorem iN_uN {n : Int} (h0 : -9223372036854775808 ≤ n) (h1 : n < 9223372036854775808) : iN (uN n) = n := by unfold iN uN; rw [IntKind.wrap_i64]; omega
theorem uN_iN {u : Nat} (h : u < 18446744073709551616) : uN (iN u) = u := by unfold iN uN; rw [IntKind.wrap_i64]; omega
theorem iN_small {u : Nat} (h : u < 9223372036854775808) : iN u = (u : Int) := by unfold iN; rw [IntKind.wrap_i64]; omega
theorem iN_in (u : Nat) : -9223372036854775808 ≤ iN u ∧ iN u < 9223372036854775808 := by unfold iN; rw [IntKind.wrap_i64]; omega
theorem uN_wrap (n : Int) : IntKind.u64.wrap n = ((uN n : Nat) : Int) := by unfold uN; rw [IntKind.wrap_u64]; omega
theorem uN_nat {n : Nat} (h : n < 18446744073709551616) : uN (n : Int) = n := by unfold uN; omega

def txL (s : ByteArray) : List UInt8 := dig s.size ++ s.data.toList
def blL (b : List UInt8) : List UInt8 := dig b.length ++ b
def inL (n : Int) : List UInt8 := dig (uN n)

/-- a record, plain -/
structure RV where
  k : Int
  tn : ByteArray
  tc : List (ByteArray × Int)
  rn : ByteArray
  rt : ByteArray
  rd : List ByteArray
  rm : List (Int × ByteArray)
  nm : ByteArray
  ws : List (List VV)
def nilS : ByteArray := ⟨#[]⟩
def colL (c : ByteArray × Int) : List UInt8 := txL c.1 ++ inL c.2
def meaL (m : Int × ByteArray) : List UInt8 := inL m.1 ++ txL m.2
def rowL (r : List VV) : List UInt8 := blL (bytesV r)
def manyL {α : Type} (e : α → List UInt8) (l : List α) : List UInt8 := (l.map e).flatten
theorem manyL_cons {α : Type} (e : α → List UInt8) (x : α) (l : List α) : manyL e (x :: l) = e x ++ manyL e l := by simp [manyL]
theorem manyL_snoc {α : Type} (e : α → List UInt8) (x : α) (l : List α) : manyL e (l ++ [x]) = manyL e l ++ e x := by simp [manyL]
def tabL (x : RV) : List UInt8 := txL x.tn ++ (dig x.tc.length ++ manyL colL x.tc)
def rolL (x : RV) : List UInt8 := txL x.rn ++ (txL x.rt ++ (dig x.rd.length ++ (manyL txL x.rd ++ (dig x.rm.length ++ manyL meaL x.rm))))
def batL (x : RV) : List UInt8 := txL x.nm ++ (dig x.ws.length ++ manyL rowL x.ws)
def bodL (x : RV) : List UInt8 := if x.k = 1 then tabL x else if x.k = 2 then rolL x else batL x
def bytR (x : RV) : List UInt8 := inL x.k ++ bodL x

def noT (x : RV) : Bool := x.tn.size == 0 && x.tc.length == 0
def noR (x : RV) : Bool := x.rn.size == 0 && x.rt.size == 0 && x.rd.length == 0 && x.rm.length == 0
def noB (x : RV) : Bool := x.nm.size == 0 && x.ws.length == 0
def fewB (n most : Nat) : Bool := decide (1 ≤ n) && decide (n ≤ most)
def rowG (n : Nat) (r : List VV) : Bool := decide (r.length = n) && r.all VV.good
def goodBat (ws : List (List VV)) : Bool := fewB ws.length 200 && (fewB (ws.headD []).length 8 && ws.all (rowG (ws.headD []).length))
def goodRol (x : RV) : Bool := decide (x.rd.length ≤ 8) && decide (x.rm.length ≤ 16)
def goodR (x : RV) : Bool :=
  if x.k = 1 then fewB x.tc.length 8 && (noR x && noB x)
  else if x.k = 2 then goodRol x && (noT x && noB x)
  else if x.k = 3 then goodBat x.ws && (noT x && noR x)
  else false
/-- ints are ints of 64 bits, texts are no longer than may be -/
structure RV.inI (x : RV) : Prop where
  tc : ∀ c ∈ x.tc, -9223372036854775808 ≤ c.2 ∧ c.2 < 9223372036854775808
  rm : ∀ m ∈ x.rm, -9223372036854775808 ≤ m.1 ∧ m.1 < 9223372036854775808
  ws : ∀ r ∈ x.ws, ∀ v ∈ r, v.inI

section
abbrev Ps (α : Type) := List UInt8 → Option (α × List UInt8)
def pNum : Ps Int := fun l => if (getN l).2 = 0 then none else some (iN (getN l).1, l.drop (getN l).2)
def pCnt (most : Nat) : Ps Nat := fun l => (pNum l).bind fun q => if q.1 < 0 ∨ (most : Int) < q.1 then none else some (q.1.toNat, q.2)
def pTxt : Ps ByteArray := fun l => (pNum l).bind fun q => if q.1 < 0 ∨ (q.2.length : Int) < q.1 then none else some (⟨(q.2.take q.1.toNat).toArray⟩, q.2.drop q.1.toNat)
def pCol : Ps (ByteArray × Int) := fun l => (pTxt l).bind fun q => (pNum q.2).bind fun p => some ((q.1, p.1), p.2)
def pMea : Ps (Int × ByteArray) := fun l => (pNum l).bind fun q => (pTxt q.2).bind fun p => some ((q.1, p.1), p.2)
def pRow : Ps (List VV) := fun l => (pTxt l).bind fun q => (loadV q.1.data.toList).bind fun r => some (r, q.2)
def pMany {α : Type} (p : Ps α) : Nat → Ps (List α)
  | 0, l => some ([], l)
  | k + 1, l => (p l).bind fun q => (pMany p k q.2).bind fun s => some (q.1 :: s.1, s.2)
def pTab : Ps (ByteArray × List (ByteArray × Int)) := fun l => (pTxt l).bind fun q => (pCnt 8 q.2).bind fun c => (pMany pCol c.1 c.2).bind fun s => some ((q.1, s.1), s.2)
def pRol : Ps (ByteArray × ByteArray × List ByteArray × List (Int × ByteArray)) := fun l => (pTxt l).bind fun q => (pTxt q.2).bind fun t => (pCnt 8 t.2).bind fun c => (pMany pTxt c.1 c.2).bind fun d =>
  (pCnt 16 d.2).bind fun k => (pMany pMea k.1 k.2).bind fun m => some ((q.1, t.1, d.1, m.1), m.2)
def pRows : Ps (List (List VV)) := fun l => (pCnt 200 l).bind fun c => pMany pRow c.1 c.2
def tabV (q : ByteArray × List (ByteArray × Int)) : RV := ⟨1, q.1, q.2, nilS, nilS, [], [], nilS, []⟩
def rolV (q : ByteArray × ByteArray × List ByteArray × List (Int × ByteArray)) : RV := ⟨2, nilS, [], q.1, q.2.1, q.2.2.1, q.2.2.2, nilS, []⟩
def batV (n : ByteArray) (ws : List (List VV)) : RV := ⟨3, nilS, [], nilS, nilS, [], [], n, ws⟩
def pRead (l : List UInt8) : Option RV := (pNum l).bind fun q =>
  if q.1 = 1 then (pTab q.2).bind fun s => some (tabV s.1)
  else if q.1 = 2 then (pRol q.2).bind fun s => some (rolV s.1)
  else if q.1 = 3 then (pTxt q.2).bind fun s => (pRows s.2).bind fun t => some (batV s.1 t.1)
  else none
def loadR (b : List UInt8) : Option RV := (pRead b).bind fun x => if goodR x = true ∧ (bytR x).length ≤ 262144 ∧ bytR x = b then some x else none
end

theorem inL_num {n : Int} (h0 : -9223372036854775808 ≤ n) (h1 : n < 9223372036854775808) (r : List UInt8) : pNum (inL n ++ r) = some (n, r) := by
  unfold pNum inL
  rw [get_app _ (uN_lt n)]
  simp only
  have := dig_pos (uN n)
  rw [if_neg (by omega), drop_app, iN_uN h0 h1]
theorem dig_num {n : Nat} (h : n < 9223372036854775808) (r : List UInt8) : pNum (dig n ++ r) = some ((n : Int), r) := by
  have := inL_num (n := (n : Int)) (by omega) (by omega) r
  unfold inL at this
  rwa [uN_nat (by omega)] at this
theorem dig_cnt {n most : Nat} (h : n ≤ most) (hm : most ≤ 1000) (r : List UInt8) : pCnt most (dig n ++ r) = some (n, r) := by
  unfold pCnt
  rw [dig_num (by omega)]
  simp only [Option.bind_some]
  rw [if_neg (by omega)]
  simp
theorem tx_list (s : ByteArray) : s.data.toList.length = s.size := (Lib.size_eq s).symm
theorem txL_txt {s : ByteArray} (h : s.size < 9223372036854775808) (r : List UInt8) : pTxt (txL s ++ r) = some (s, r) := by
  unfold pTxt txL
  rw [List.append_assoc, dig_num h]
  simp only [Option.bind_some]
  have e := tx_list s
  rw [if_neg (by rw [List.length_append]; omega)]
  have h1 : (s.data.toList ++ r).take (s.size : Int).toNat = s.data.toList := by
    rw [Int.toNat_natCast, ← e]; exact List.take_left
  have h2 : (s.data.toList ++ r).drop (s.size : Int).toNat = r := by
    rw [Int.toNat_natCast, ← e]; exact List.drop_left
  rw [h1, h2]
theorem blL_txt {b : List UInt8} (h : b.length < 9223372036854775808) (r : List UInt8) : pTxt (blL b ++ r) = some (⟨b.toArray⟩, r) := by
  have := txL_txt (s := ⟨b.toArray⟩) (by rw [Lib.size_eq]; simpa using h) r
  unfold txL at this
  rw [Lib.size_eq] at this
  simpa [blL] using this
theorem many_ok {α : Type} {p : Ps α} {e : α → List UInt8} : ∀ (xs : List α), (∀ x ∈ xs, ∀ r, p (e x ++ r) = some (x, r)) → ∀ r, pMany p xs.length (manyL e xs ++ r) = some (xs, r)
  | [], _, r => rfl
  | x :: l, h, r => by
    rw [manyL_cons, List.append_assoc, List.length_cons]
    unfold pMany
    rw [h x (List.mem_cons_self ..)]
    simp only [Option.bind_some]
    rw [many_ok l (fun y hy => h y (List.mem_cons_of_mem _ hy)) r]
    rfl
theorem fewB_iff {n most : Nat} : fewB n most = true ↔ 1 ≤ n ∧ n ≤ most := by simp [fewB]
theorem size_nil {s : ByteArray} (h : s.size = 0) : s = nilS := by
  rcases s with ⟨⟨l⟩⟩
  rw [Lib.size_eq] at h
  simp at h
  subst h
  rfl
theorem noT_iff {x : RV} : noT x = true ↔ x.tn = nilS ∧ x.tc = [] := by
  unfold noT
  simp only [Bool.and_eq_true, beq_iff_eq, List.length_eq_zero_iff]
  exact ⟨fun h => ⟨size_nil h.1, h.2⟩, fun h => ⟨by rw [h.1]; rfl, h.2⟩⟩
theorem noR_iff {x : RV} : noR x = true ↔ x.rn = nilS ∧ x.rt = nilS ∧ x.rd = [] ∧ x.rm = [] := by
  unfold noR
  simp only [Bool.and_eq_true, beq_iff_eq, List.length_eq_zero_iff]
  exact ⟨fun h => ⟨size_nil h.1.1.1, size_nil h.1.1.2, h.1.2, h.2⟩, fun h => ⟨⟨⟨by rw [h.1]; rfl, by rw [h.2.1]; rfl⟩, h.2.2.1⟩, h.2.2.2⟩⟩
theorem noB_iff {x : RV} : noB x = true ↔ x.nm = nilS ∧ x.ws = [] := by
  unfold noB
  simp only [Bool.and_eq_true, beq_iff_eq, List.length_eq_zero_iff]
  exact ⟨fun h => ⟨size_nil h.1, h.2⟩, fun h => ⟨by rw [h.1]; rfl, h.2⟩⟩
theorem bat_iff {ws : List (List VV)} : goodBat ws = true ↔ ∃ n, 1 ≤ n ∧ n ≤ 8 ∧ 1 ≤ ws.length ∧ ws.length ≤ 200 ∧ ∀ r ∈ ws, r.length = n ∧ ∀ v ∈ r, v.good = true := by
  unfold goodBat rowG
  simp only [Bool.and_eq_true, fewB_iff, List.all_eq_true, decide_eq_true_eq]
  constructor
  · rintro ⟨⟨a, b⟩, ⟨c, d⟩, e⟩
    exact ⟨_, c, d, a, b, e⟩
  · rintro ⟨n, c, d, a, b, e⟩
    cases ws with
    | nil => simp at a
    | cons r l =>
      have := (e r (List.mem_cons_self ..)).1
      refine ⟨⟨a, b⟩, ⟨?_, ?_⟩, fun y hy => ⟨?_, (e y hy).2⟩⟩
      · show 1 ≤ r.length; omega
      · show r.length ≤ 8; omega
      · show y.length = r.length
        rw [(e y hy).1, this]
/-- a good record is of one kind -/
theorem good_shape {x : RV} (h : goodR x = true) : (x = tabV (x.tn, x.tc) ∧ 1 ≤ x.tc.length ∧ x.tc.length ≤ 8) ∨ (x = rolV (x.rn, x.rt, x.rd, x.rm) ∧ x.rd.length ≤ 8 ∧ x.rm.length ≤ 16) ∨ (x = batV x.nm x.ws ∧ goodBat x.ws = true) := by
  obtain ⟨k, tn, tc, rn, rt, rd, rm, nm, ws⟩ := x
  unfold goodR at h
  simp only at h ⊢
  split at h
  · rename_i hk
    simp only [Bool.and_eq_true, fewB_iff, noR_iff, noB_iff] at h
    obtain ⟨⟨a, b⟩, ⟨c1, c2, c3, c4⟩, d1, d2⟩ := h
    subst hk c1 c2 c3 c4 d1 d2
    exact .inl ⟨rfl, a, b⟩
  · split at h
    · rename_i hk
      simp only [Bool.and_eq_true, goodRol, decide_eq_true_eq, noT_iff, noB_iff] at h
      obtain ⟨⟨a, b⟩, ⟨c1, c2⟩, d1, d2⟩ := h
      subst hk c1 c2 d1 d2
      exact .inr (.inl ⟨rfl, a, b⟩)
    · split at h
      · rename_i hk
        simp only [Bool.and_eq_true, noT_iff, noR_iff] at h
        obtain ⟨a, ⟨c1, c2⟩, d1, d2, d3, d4⟩ := h
        subst hk c1 c2 d1 d2 d3 d4
        exact .inr (.inr ⟨rfl, a⟩)
      · cases h
theorem txL_len (s : ByteArray) : s.size ≤ (txL s).length := by unfold txL; rw [List.length_append, tx_list]; omega
theorem many_len {α : Type} {e : α → List UInt8} : ∀ {l : List α} {x : α}, x ∈ l → (e x).length ≤ (manyL e l).length
  | y :: l, x, h => by
    rw [manyL_cons, List.length_append]
    rcases List.mem_cons.1 h with rfl | h
    · omega
    · have := many_len (e := e) h
      omega
theorem colL_len (c : ByteArray × Int) : c.1.size ≤ (colL c).length := by
  unfold colL
  rw [List.length_append]
  have := txL_len c.1
  omega
theorem meaL_len (m : Int × ByteArray) : m.2.size ≤ (meaL m).length := by
  unfold meaL
  rw [List.length_append]
  have := txL_len m.2
  omega
theorem rowL_len (r : List VV) : (bytesV r).length ≤ (rowL r).length := by
  unfold rowL blL
  rw [List.length_append]
  omega
theorem col_ok {c : ByteArray × Int} (h : c.1.size < 9223372036854775808) (h0 : -9223372036854775808 ≤ c.2 ∧ c.2 < 9223372036854775808) (r : List UInt8) : pCol (colL c ++ r) = some (c, r) := by
  unfold pCol colL
  rw [List.append_assoc, txL_txt h]
  simp only [Option.bind_some]
  rw [inL_num h0.1 h0.2]
  rfl
theorem mea_ok {m : Int × ByteArray} (h : m.2.size < 9223372036854775808) (h0 : -9223372036854775808 ≤ m.1 ∧ m.1 < 9223372036854775808) (r : List UInt8) : pMea (meaL m ++ r) = some (m, r) := by
  unfold pMea meaL
  rw [List.append_assoc, inL_num h0.1 h0.2]
  simp only [Option.bind_some]
  rw [txL_txt h]
  rfl
theorem row_ok {l : List VV} (hl : (bytesV l).length < 9223372036854775808) (hw : l.length < 18446744073709551616) (h : ∀ v ∈ l, v.good = true ∧ v.inI) (r : List UInt8) : pRow (rowL l ++ r) = some (l, r) := by
  unfold pRow rowL
  rw [blL_txt hl]
  simp only [Option.bind_some]
  have : loadV (bytesV l) = some l := (load_iff (by omega)).2 ⟨h, hw, rfl⟩
  rw [this]
  rfl
/-- what a good record tells is read as that record -/
theorem read_bytR {x : RV} (h : goodR x = true) (hi : x.inI) (hl : (bytR x).length ≤ 262144) : pRead (bytR x) = some x := by
  have hb : (bodL x).length ≤ 262144 := by unfold bytR at hl; rw [List.length_append] at hl; omega
  rcases good_shape h with ⟨e, h1, h2⟩ | ⟨e, h1, h2⟩ | ⟨e, h1⟩
  · have hk : x.k = 1 := by rw [e]; rfl
    have e2 : bodL x = tabL x := by unfold bodL; rw [if_pos hk]
    have et : pTab (tabL x) = some ((x.tn, x.tc), []) := by
      rw [e2] at hb
      unfold tabL at hb
      simp only [List.length_append] at hb
      have ht := txL_len x.tn
      unfold pTab tabL
      rw [txL_txt (by omega)]
      simp only [Option.bind_some]
      rw [dig_cnt h2 (by omega)]
      simp only [Option.bind_some]
      have := many_ok (p := pCol) (e := colL) x.tc (fun c hc r => col_ok (by
        have := many_len (e := colL) hc
        have := colL_len c
        omega) (hi.tc c hc) r) []
      rw [List.append_nil] at this
      rw [this]
      rfl
    unfold bytR pRead
    rw [inL_num (by omega) (by omega), hk, e2]
    simp only [Option.bind_some]
    rw [if_pos trivial, et]
    simp only [Option.bind_some]
    rw [← e]
  · have hk : x.k = 2 := by rw [e]; rfl
    have e2 : bodL x = rolL x := by unfold bodL; rw [if_neg (by omega), if_pos hk]
    have et : pRol (rolL x) = some ((x.rn, x.rt, x.rd, x.rm), []) := by
      rw [e2] at hb
      unfold rolL at hb
      simp only [List.length_append] at hb
      have ht := txL_len x.rn
      have ht2 := txL_len x.rt
      unfold pRol rolL
      rw [txL_txt (by omega)]
      simp only [Option.bind_some]
      rw [txL_txt (by omega)]
      simp only [Option.bind_some]
      rw [dig_cnt h1 (by omega)]
      simp only [Option.bind_some]
      rw [many_ok (p := pTxt) (e := txL) x.rd (fun c hc r => txL_txt (by
        have := many_len (e := txL) hc
        have := txL_len c
        omega) r)]
      simp only [Option.bind_some]
      rw [dig_cnt h2 (by omega)]
      simp only [Option.bind_some]
      have := many_ok (p := pMea) (e := meaL) x.rm (fun c hc r => mea_ok (by
        have := many_len (e := meaL) hc
        have := meaL_len c
        omega) (hi.rm c hc) r) []
      rw [List.append_nil] at this
      rw [this]
      rfl
    unfold bytR pRead
    rw [inL_num (by omega) (by omega), hk, e2]
    simp only [Option.bind_some]
    rw [if_neg (by omega), if_pos trivial, et]
    simp only [Option.bind_some]
    rw [← e]
  · have hk : x.k = 3 := by rw [e]; rfl
    have e2 : bodL x = batL x := by unfold bodL; rw [if_neg (by omega), if_neg (by omega)]
    obtain ⟨n, n1, n8, w1, w2, hr⟩ := bat_iff.1 h1
    rw [e2] at hb
    unfold batL at hb
    simp only [List.length_append] at hb
    have ht := txL_len x.nm
    have ew : pRows (dig x.ws.length ++ manyL rowL x.ws) = some (x.ws, []) := by
      unfold pRows
      rw [dig_cnt w2 (by omega)]
      simp only [Option.bind_some]
      have := many_ok (p := pRow) (e := rowL) x.ws (fun c hc r => row_ok (by
        have := many_len (e := rowL) hc
        have := rowL_len c
        omega) (by have := (hr c hc).1; omega) (fun v hv => ⟨(hr c hc).2 v hv, hi.ws c hc v hv⟩) r) []
      rw [List.append_nil] at this
      exact this
    unfold bytR pRead
    rw [inL_num (by omega) (by omega), hk, e2]
    simp only [Option.bind_some]
    rw [if_neg (by omega), if_neg (by omega), if_pos trivial]
    unfold batL
    rw [txL_txt (by omega)]
    simp only [Option.bind_some]
    rw [ew]
    simp only [Option.bind_some]
    rw [← e]
end Go.Proofs.YtehfoaicohnpfaaGreatDoor
