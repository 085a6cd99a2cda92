/- Contract of the document's own Load of values at any bytes. Conditions: at most 10^6 bytes. -/
import Derived.Test.YtbijpjoljljlpaaGreatDoorVbRefBytes
import Derived.Test.YtbijpjoljljlpaaGreatDoorCodecRefGet
set_option maxRecDepth 100000
namespace Go.Proofs.YtbijpjoljljlpaaGreatDoor
open Go.RowKit Go.Maps Go.Sort Go.Lib

/-- whichever good values the bytes are of: they begin with those that were read, and the rest is what is left -/
def KeyR (whole : List UInt8) (acc : List VV) (rest : List UInt8) : Prop :=
  ∀ ws : List VV, (∀ x ∈ ws, x.good = true ∧ x.inI) → ws.length < 18446744073709551616 → whole = bytesV ws → ∃ ws', ws = acc ++ ws' ∧ rest = flatV ws'
theorem key_n {whole : List UInt8} {ws : List VV} (h2 : ws.length < 18446744073709551616) (h3 : whole = bytesV ws) : (getN whole).1 = ws.length ∧ (getN whole).2 ≠ 0 ∧ whole.drop (getN whole).2 = flatV ws := by
  subst h3
  unfold bytesV
  rw [get_app _ h2]
  refine ⟨rfl, ?_, List.drop_left⟩
  have := dig_pos ws.length
  simp only
  omega
theorem key_start (whole : List UInt8) : KeyR whole [] (whole.drop (getN whole).2) := fun ws _ h2 h3 => ⟨ws, rfl, (key_n h2 h3).2.2⟩
/-- what a good value's bytes tell of it -/
theorem okR_of {x : VV} (h : x.good = true) (hi : x.inI) (r : List UInt8) :
    (getN (x.bytes ++ r)).2 ≠ 0 ∧ (getN (x.bytes ++ r)).1 ≤ 4 ∧ ((getN (x.bytes ++ r)).1 ≠ 0 → (getN ((x.bytes ++ r).drop (getN (x.bytes ++ r)).2)).2 ≠ 0) ∧
    ((getN (x.bytes ++ r)).1 = 3 → (getN ((x.bytes ++ r).drop (getN (x.bytes ++ r)).2)).1 ≤ (x.bytes ++ r).length - ((getN (x.bytes ++ r)).2 + (getN ((x.bytes ++ r).drop (getN (x.bytes ++ r)).2)).2)) := by
  have hk := goodV_kind h
  have e : x.bytes ++ r = dig x.k.toNat ++ (x.body ++ r) := by unfold VV.bytes; rw [List.append_assoc]
  have g1 := get_app x.k.toNat (by omega) (x.body ++ r)
  have p1 := dig_pos x.k.toNat
  rw [← e] at g1
  have d1 : (x.bytes ++ r).drop (dig x.k.toNat).length = x.body ++ r := by rw [e]; exact List.drop_left
  rw [g1]
  simp only
  rw [d1]
  refine ⟨by omega, by omega, fun h0 => ?_, fun h3 => ?_⟩
  · have hb : ∃ u t, u < 18446744073709551616 ∧ x.body = dig u ++ t := by
      unfold VV.body
      rcases good_cases h with rfl | ⟨e, _⟩ | ⟨e, _⟩ | ⟨e, _, es⟩ | ⟨e, _⟩
      · simp [VV.none_] at h0
      · rw [if_pos (.inl e)]; exact ⟨_, [], (zig_zag _ hi.1 hi.2).2, (List.append_nil _).symm⟩
      · rw [if_pos (.inr (.inl e))]; exact ⟨_, [], (zig_zag _ hi.1 hi.2).2, (List.append_nil _).symm⟩
      · rw [if_neg (by omega), if_pos e]; exact ⟨_, _, by omega, rfl⟩
      · rw [if_pos (.inr (.inr e))]; exact ⟨_, [], (zig_zag _ hi.1 hi.2).2, (List.append_nil _).symm⟩
    obtain ⟨u, t, hu, hb⟩ := hb
    rw [hb, List.append_assoc, get_app u hu]
    have := dig_pos u
    simp only
    omega
  · have e3 : x.k = 3 := by omega
    rcases good_cases h with rfl | ⟨e, _⟩ | ⟨e, _⟩ | ⟨_, _, es⟩ | ⟨e, _⟩
    · simp [VV.none_] at e3
    · omega
    · omega
    · have hb : x.body = dig x.s.size ++ x.s.data.toList := by unfold VV.body; rw [if_neg (by omega), if_pos e3]
      rw [hb, List.append_assoc, get_app _ (by omega)]
      have hl := congrArg List.length e
      rw [hb] at hl
      simp only [List.length_append] at hl ⊢
      have := Lib.size_eq x.s
      omega
    · omega
/-- there is a value more, and it stands ahead -/
theorem key_more {whole rest : List UInt8} {acc ws : List VV} (h : KeyR whole acc rest) (h1 : ∀ x ∈ ws, x.good = true ∧ x.inI) (h2 : ws.length < 18446744073709551616) (h3 : whole = bytesV ws) (hlt : acc.length < (getN whole).1) :
    ∃ x r, ws = acc ++ x :: r ∧ rest = x.bytes ++ flatV r ∧ x.good = true ∧ x.inI := by
  obtain ⟨ws', e1, e2⟩ := h ws h1 h2 h3
  have hn := (key_n h2 h3).1
  cases ws' with
  | nil => rw [e1] at hn; simp at hn; omega
  | cons x r =>
    have hx := h1 x (by rw [e1]; simp)
    exact ⟨x, r, e1, by rw [e2, flatV_cons, norm_of hx.1], hx.1, hx.2⟩
theorem key_stop {whole rest : List UInt8} {acc : List VV} (h : KeyR whole acc rest) (hb : whole.length < 18446744073709551616) (hlt : acc.length < (getN whole).1)
    (hno : ∀ (x : VV) (r : List UInt8), x.good = true → x.inI → rest = x.bytes ++ r → False) : loadV whole = none :=
  (load_none hb).2 fun ws h1 h2 h3 => by
    obtain ⟨x, r, _, e, hg, hi⟩ := key_more h h1 h2 h3 hlt
    exact hno x _ hg hi e
theorem key_next {whole rest : List UInt8} {acc : List VV} (h : KeyR whole acc rest) (hlt : acc.length < (getN whole).1) : KeyR whole (acc ++ [(firstV rest).1]) (rest.drop (firstV rest).2) := fun ws h1 h2 h3 => by
  obtain ⟨x, r, e1, e2, hg, hi⟩ := key_more h h1 h2 h3 hlt
  have hf := first_good hg hi (flatV r)
  rw [← e2] at hf
  refine ⟨r, ?_, ?_⟩
  · rw [hf, e1]; simp
  · rw [hf, e2]; exact List.drop_left
/-- all of them were read: the bytes tell whether they are those -/
theorem key_end {whole rest : List UInt8} {acc : List VV} (h : KeyR whole acc rest) (hb : whole.length < 18446744073709551616) (hn : acc.length = (getN whole).1) (hg : ∀ x ∈ acc, x.good = true ∧ x.inI) : loadV whole = if bytesV acc = whole then some acc else none := by
  by_cases he : bytesV acc = whole
  · rw [if_pos he]
    exact (load_iff hb).2 ⟨hg, by rw [hn]; exact (getN_bound whole).2, he.symm⟩
  · rw [if_neg he]
    refine (load_none hb).2 fun ws h1 h2 h3 => ?_
    obtain ⟨ws', e1, _⟩ := h ws h1 h2 h3
    have := (key_n h2 h3).1
    rw [e1, List.length_append] at this
    have : ws' = [] := List.eq_nil_of_length_eq_zero (by omega)
    rw [this, List.append_nil] at e1
    exact he (by rw [← e1]; exact h3.symm)
theorem good_snoc {acc : List VV} {k n : Int} {s : ByteArray} (h : ∀ x ∈ acc, x.good = true ∧ x.inI) (hg : goodV k n s = true) (hi : VV.inI ⟨k, n, s⟩) : ∀ x ∈ acc ++ [⟨k, n, s⟩], VV.good x = true ∧ VV.inI x := fun x hx => by
  rcases List.mem_append.1 hx with hx | hx
  · exact h x hx
  · simp at hx; subst hx; exact ⟨hg, hi⟩
theorem len_lt {i m N : Nat} (h : i < N) (e : m = i) : m < N := by omega
theorem le_u64 {n : Nat} (h : n ≤ 1000000) : n < 18446744073709551616 := by omega
theorem wrap_m {m n : Nat} (h : m ≤ n) (h2 : n ≤ 1000000) : IntKind.u64.wrap (m : Int) = (m : Int) := by rw [IntKind.wrap_u64]; omega
theorem le_acc {i m N n : Nat} (e : m = i) (h : i < N) (h2 : N ≤ n) (h3 : n ≤ 1000000) : m ≤ 1000000000000 := by omega
theorem le_five {m n : Nat} (h : m ≤ n) (h2 : n ≤ 1000000) : m ≤ 1099511627776 := by omega
theorem first_null_eq {l : List UInt8} (hk : (getN l).1 = 0) : firstV l = (⟨0, 0, ⟨#[]⟩⟩, (getN l).2) := by
  unfold firstV
  dsimp only
  rw [hk, if_neg (by decide), if_neg (by decide)]
  rfl
theorem kind_cases {k : Nat} (h : k ≤ 4) : k = 0 ∨ k = 1 ∨ k = 2 ∨ k = 3 ∨ k = 4 := by omega
theorem stop_P {x : VV} {r rest : List UInt8} (h : x.good = true) (hi : x.inI) (e : rest = x.bytes ++ r) (hP : (getN rest).2 = 0) : False := by
  subst e; exact (okR_of h hi r).1 hP
theorem stop_K {x : VV} {r rest : List UInt8} (h : x.good = true) (hi : x.inI) (e : rest = x.bytes ++ r) (hK : 4 < (getN rest).1) : False := by
  subst e; have := (okR_of h hi r).2.1; omega
theorem stop_M {x : VV} {r rest : List UInt8} (h : x.good = true) (hi : x.inI) (e : rest = x.bytes ++ r) (hK : (getN rest).1 ≠ 0) (hM : (getN (rest.drop (getN rest).2)).2 = 0) : False := by
  subst e; exact (okR_of h hi r).2.2.1 hK hM
theorem stop_U {x : VV} {r rest : List UInt8} (h : x.good = true) (hi : x.inI) (e : rest = x.bytes ++ r) (hK : (getN rest).1 = 3) (hU : rest.length - ((getN rest).2 + (getN (rest.drop (getN rest).2)).2) < (getN (rest.drop (getN rest).2)).1) : False := by
  subst e; have := (okR_of h hi r).2.2.2 hK; omega
theorem stop_G {x : VV} {r rest : List UInt8} (h : x.good = true) (hi : x.inI) (e : rest = x.bytes ++ r) (hb : (firstV rest).1.good = false) : False := by
  subst e; rw [first_good h hi r] at hb; simp only at hb; rw [h] at hb; cases hb
theorem head_stop {whole : List UInt8} (hb : whole.length < 18446744073709551616) (h : (getN whole).2 = 0 ∨ whole.length < (getN whole).1) : loadV whole = none :=
  (load_none hb).2 fun ws h1 h2 h3 => by
    obtain ⟨a, b, c⟩ := key_n h2 h3
    rcases h with h | h
    · exact b h
    · have hl : ∀ l : List VV, l.length ≤ (flatV l).length := fun l => by
        induction l with
        | nil => simp
        | cons x r ih =>
          have := bytes_pos x.norm
          rw [flatV_cons, List.length_append, List.length_cons]; omega
      have := hl ws
      have hd := congrArg List.length c
      rw [List.length_drop] at hd
      omega
end Go.Proofs.YtbijpjoljljlpaaGreatDoor
