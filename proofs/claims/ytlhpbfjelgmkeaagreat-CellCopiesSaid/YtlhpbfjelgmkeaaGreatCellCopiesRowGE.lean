/- The texts DigPlace DigMap DigEntry DigSk DigRow DigCmp DigGath SrtR DigPrefX, one behind the other; each one's own comment says what it holds. -/
import Derived.Test.YtlhpbfjelgmkeaaGreatGen
import Derived.DeepKeys4
import Derived.ChangeKeys
import Derived.Maps.OwnSet
import Derived.Maps.RangeWalk
import Derived.Maps.Ext
import Derived.Lib.SlMapFilter
import Derived.WideKeyEntry
import Derived.Test.YtlhpbfjelgmkeaaGreatThings
import Derived.Test.YtlhpbfjelgmkeaaGreatCellCopiesRowGB
import Derived.Test.YtlhpbfjelgmkeaaGreatRows
import Derived.Shelf.SlSortCmp.KitK
import Derived.Sort.OwnSorted
import Derived.Test.YtlhpbfjelgmkeaaGreatShelf
import Derived.Outline
import Derived.Test.YtlhpbfjelgmkeaaGreatShelfD
import Derived.Shelf.SlSortCmp.WholeK
import Derived.Test.YtlhpbfjelgmkeaaGreatSrtK
/- A struct of two numbers as a map's key (digest's place): what it reads as, and the order of such keys. Conditions: none. -/
set_option maxRecDepth 100000
namespace Go.Proofs.YtlhpbfjelgmkeaaGreat.Dig
open Go.RowKit Go.Maps Go.Sort

theorem KLaw : WideMaps.KeyLaw Tryz.prog 310 := deep_law_laid (show laidOutB Tryz.prog = true by kernel_rfl) (m := 2) (by omega) (of_decide_eq_true (by kernel_rfl)) (by kernel_rfl) (by rw [Tryz.underlying310])
theorem KP : Keyed Tryz.prog 310 := Keyed.of_law KLaw

/-! the order of the bytes of numbers -/
theorem before_append : ∀ {a b : List UInt8} (a' b' : List UInt8), a.length = b.length → bytesBefore (a ++ a') (b ++ b') = (bytesBefore a b || (decide (a = b) && bytesBefore a' b'))
  | [], [], _, _, _ => by simp [bytesBefore]
  | x :: a, y :: b, a', b', h => by
    have ih := before_append (a := a) (b := b) a' b' (by simpa using h)
    simp only [List.cons_append, bytesBefore, ih]
    by_cases e : x = y
    · subst e
      simp
    · have e' : (x == y) = false := by simp [e]
      simp [e, e']

theorem be_succ (w n : Nat) : bytesBE (w + 1) n = bytesBE w (n / 256) ++ [UInt8.ofNat (n % 256)] := by simp [bytesBE, bytesLE]

theorem before_be : ∀ (w : Nat) {x y : Nat}, x < 256 ^ w → y < 256 ^ w → bytesBefore (bytesBE w x) (bytesBE w y) = decide (x < y)
  | 0, x, y, hx, hy => by
    simp at hx hy
    subst hx
    subst hy
    rfl
  | w + 1, x, y, hx, hy => by
    have hx' : x / 256 < 256 ^ w := by rw [Nat.pow_succ] at hx; omega
    have hy' : y / 256 < 256 ^ w := by rw [Nat.pow_succ] at hy; omega
    rw [be_succ, be_succ, before_append _ _ (by simp [length_bytesBE]), before_be w hx' hy']
    have e : (bytesBE w (x / 256) = bytesBE w (y / 256)) ↔ x / 256 = y / 256 := ⟨fun h => bytesBE_inj hx' hy' h, fun h => by rw [h]⟩
    have l : (UInt8.ofNat (x % 256) < UInt8.ofNat (y % 256)) ↔ x % 256 < y % 256 := by
      rw [UInt8.lt_iff_toNat_lt]
      simp
    have q : (UInt8.ofNat (x % 256) == UInt8.ofNat (y % 256)) = decide (x % 256 = y % 256) := by
      by_cases h : x % 256 = y % 256
      · simp [h]
      · have : UInt8.ofNat (x % 256) ≠ UInt8.ofNat (y % 256) := fun g => h (by simpa using congrArg UInt8.toNat g)
        simp [h, this]
    rw [Bool.eq_iff_iff]
    simp only [Bool.or_eq_true, Bool.and_eq_true, decide_eq_true_eq, e, bytesBefore, l]
    simp
    omega

/-! a place -/
abbrev PL := Nat × Nat
def PL.lt (p q : PL) : Prop := p.1 < q.1 ∨ p.1 = q.1 ∧ p.2 < q.2
instance (p q : PL) : Decidable (PL.lt p q) := by unfold PL.lt; infer_instance
def PL.In (p : PL) : Prop := p.1 ≤ 64 ∧ p.2 < 18446744073709551616
def plV (p : PL) : Value := .agg #[.int .i64 (p.1 : Int), .int .u64 (p.2 : Int)]
def plB (p : PL) : List UInt8 := bytesBE 8 p.1 ++ bytesBE 8 p.2
def plL (p : PL) : Lit := .string (plB p)

theorem plL_before {p q : PL} (hp : p.In) (hq : q.In) : (plL p).before (plL q) = decide (p.lt q) := by
  have e : (256 : Nat) ^ 8 = 18446744073709551616 := by decide
  have h1 : p.1 < 256 ^ 8 := by have := hp.1; omega
  have h2 : q.1 < 256 ^ 8 := by have := hq.1; omega
  have h3 : p.2 < 256 ^ 8 := by have := hp.2; omega
  have h4 : q.2 < 256 ^ 8 := by have := hq.2; omega
  show bytesBefore (plB p) (plB q) = _
  unfold plB
  rw [before_append _ _ (by simp [length_bytesBE]), before_be 8 h1 h2, before_be 8 h3 h4]
  have e : (bytesBE 8 p.1 = bytesBE 8 q.1) ↔ p.1 = q.1 := ⟨fun h => bytesBE_inj h1 h2 h, fun h => by rw [h]⟩
  rw [Bool.eq_iff_iff, decide_eq_true_eq]
  simp [e, PL.lt]
theorem plL_inj {p q : PL} (hp : p.In) (hq : q.In) (h : plL p = plL q) : p = q := by
  have e : (256 : Nat) ^ 8 = 18446744073709551616 := by decide
  have h1 : p.1 < 256 ^ 8 := by have := hp.1; omega
  have h2 : q.1 < 256 ^ 8 := by have := hq.1; omega
  have h3 : p.2 < 256 ^ 8 := by have := hp.2; omega
  have h4 : q.2 < 256 ^ 8 := by have := hq.2; omega
  unfold plL plB at h
  obtain ⟨g1, g2⟩ := List.append_inj (Lit.string.inj h) (by simp [length_bytesBE])
  exact Prod.ext (bytesBE_inj h1 h2 g1) (bytesBE_inj h3 h4 g2)
theorem keyLits_one {P : Program} {q : IntKind} {t : TypeId} (hu : P.underlying t = some (.int q)) {a : Int} (wa : (Lit.int q a).wf = true) (n : Nat) : P.keyLits (n + 1) t [.int q a] = some [.int q a] := by
  simp [Program.keyLits, hu, wa]
theorem keyLits_two {P : Program} {q r : IntKind} {t ta tb : TypeId} {f g : Field} (ht : P.underlying t = some (.struct #[f, g])) (hf : f.offset = 0 ∧ f.type = ta ∧ (f.name != "_") = true) (hg : g.offset = 1 ∧ g.type = tb ∧ (g.name != "_") = true)
    (ha : P.underlying ta = some (.int q)) (hb : P.underlying tb = some (.int r)) (ca : P.cellsOf ta = 1) (cb : P.cellsOf tb = 1) (ct : P.cellsOf t = 2) {a b : Int} (wa : (Lit.int q a).wf = true) (wb : (Lit.int r b).wf = true) (n : Nat) :
    P.keyLits (n + 1 + 1) t [.int q a, .int r b] = some [.int q a, .int r b] := by
  obtain ⟨f1, f2, f3⟩ := hf
  obtain ⟨g1, g2, g3⟩ := hg
  unfold Program.keyLits
  simp only [ht]
  rw [if_pos ⟨by rw [ct]; rfl, by simp [f3, g3]⟩]
  simp only [List.mapM_cons, List.mapM_nil, f1, f2, g1, g2, ca, cb, List.drop_zero, List.take_succ_cons, List.take_zero, List.drop_succ_cons, keyLits_one ha wa n, keyLits_one hb wb n]
  rfl
theorem keyOf_two {P : Program} {q r : IntKind} {t ta tb : TypeId} {f g : Field} (ht : P.underlying t = some (.struct #[f, g])) (hf : f.offset = 0 ∧ f.type = ta ∧ (f.name != "_") = true) (hg : g.offset = 1 ∧ g.type = tb ∧ (g.name != "_") = true)
    (ha : P.underlying ta = some (.int q)) (hb : P.underlying tb = some (.int r)) (ca : P.cellsOf ta = 1) (cb : P.cellsOf tb = 1) (ct : P.cellsOf t = 2) {a b : Int} (wa : (Lit.int q a).wf = true) (wb : (Lit.int r b).wf = true)
    (hk : P.keyType t = true) {n : Nat} (hsz : P.types.size = n + 1) : keyOf P t (.agg #[.int q a, .int r b]) = some (.string (keyBytes [.int q a, .int r b])) := by
  unfold keyOf
  simp only [ht]
  rw [if_pos (by rw [hk]; simp [Value.formed, ht, ct]), hsz]
  simp only [Value.cells]
  rw [keyLits_two ht hf hg ha hb ca cb ct wa wb n]
  rfl
theorem plV_bytes {p : PL} (hp : p.In) : keyBytes [.int .i64 (p.1 : Int), .int .u64 (p.2 : Int)] = plB p := by
  obtain ⟨h1, h2⟩ := hp
  have e1 : (((p.1 : Nat) : Int) % 2 ^ 64).toNat = p.1 := by omega
  have e2 : (((p.2 : Nat) : Int) % 2 ^ 64).toNat = p.2 := by omega
  show bytesBE 8 (((p.1 : Nat) : Int) % 2 ^ 64).toNat ++ (bytesBE 8 (((p.2 : Nat) : Int) % 2 ^ 64).toNat ++ []) = _
  rw [e1, e2, List.append_nil]
  rfl
theorem plV_key {p : PL} (hp : p.In) : keyOf Tryz.prog 310 (plV p) = some (plL p) := by
  have wa : (Lit.int .i64 (p.1 : Int)).wf = true := Go.WalkArith.wf_i64 ⟨by omega, by have := hp.1; omega⟩
  have wb : (Lit.int .u64 (p.2 : Int)).wf = true := Go.WalkArith.wf_u64 ⟨by omega, by have := hp.2; omega⟩
  unfold plV
  rw [keyOf_two Tryz.underlying310 ⟨rfl, rfl, by decide⟩ ⟨rfl, rfl, by decide⟩ Tryz.underlying3 Tryz.underlying43 (by kernel_rfl) (by kernel_rfl) (by kernel_rfl) wa wb (by kernel_rfl) (n := Tryz.prog.types.size - 1) (by kernel_rfl), plV_bytes hp]
  rfl
end Go.Proofs.YtlhpbfjelgmkeaaGreat.Dig
/- Counts by place as a list by code (level * 2^64 + prefix): plain mathematics of the digest's map, and that map in memory. Conditions: none. -/
set_option maxRecDepth 100000
namespace Go.Proofs.YtlhpbfjelgmkeaaGreat.Dig
open Go.RowKit Go.Maps Go.Sort

/-! the code of a place -/
def pk (c : Nat) : PL := (c / 18446744073709551616, c % 18446744073709551616)
def KIn (c : Nat) : Prop := c < 1199038364791120855040
theorem KIn.pl {c : Nat} (h : KIn c) : (pk c).In := by
  unfold KIn at h
  unfold pk PL.In
  omega
theorem pk_lt (a b : Nat) : (pk a).lt (pk b) ↔ a < b := by
  unfold pk PL.lt
  omega
theorem pk_inj {a b : Nat} (h : pk a = pk b) : a = b := by
  unfold pk at h
  have h1 := congrArg Prod.fst h
  have h2 := congrArg Prod.snd h
  simp only at h1 h2
  omega
def kL (c : Nat) : Lit := plL (pk c)
def kV (c : Nat) : Value := plV (pk c)
theorem kV_key {c : Nat} (h : KIn c) : keyOf Tryz.prog 310 (kV c) = some (kL c) := plV_key h.pl
theorem kL_before {a b : Nat} (ha : KIn a) (hb : KIn b) : (kL a).before (kL b) = decide (a < b) := by
  unfold kL
  rw [plL_before ha.pl hb.pl]
  exact decide_eq_decide.2 (pk_lt a b)
theorem kL_inj {a b : Nat} (ha : KIn a) (hb : KIn b) (h : kL a = kL b) : a = b := pk_inj (plL_inj ha.pl hb.pl h)
theorem kL_same {a b : Nat} (ha : KIn a) (hb : KIn b) : (kL a).sameKey (kL b) = decide (a = b) := by
  have e : ∀ x y : List UInt8, (Lit.string x).sameKey (Lit.string y) = decide (x = y) := fun x y => by
    show (x == y) = _
    rw [Bool.eq_iff_iff]
    simp
  show (Lit.string (plB (pk a))).sameKey (Lit.string (plB (pk b))) = _
  rw [e]
  exact decide_eq_decide.2 ⟨fun h => kL_inj ha hb (congrArg Lit.string h), fun h => by rw [h]⟩

abbrev DL := List (Nat × Int)
/-- codes of places rise -/
def DAsc (L : DL) : Prop := L.Pairwise fun p q => p.1 < q.1
/-- how often a place came -/
def dcnt : DL → Nat → Int
  | [], _ => 0
  | p :: r, id => if p.1 = id then p.2 else dcnt r id
/-- a place's count anew -/
def putD (id : Nat) (c : Int) : DL → DL
  | [] => [(id, c)]
  | p :: r => if id < p.1 then (id, c) :: p :: r else if p.1 = id then (id, c) :: r else p :: putD id c r

theorem dasc_tail {p : Nat × Int} {r : DL} (h : DAsc (p :: r)) : DAsc r := (List.pairwise_cons.1 h).2
theorem dasc_head {p : Nat × Int} {r : DL} (h : DAsc (p :: r)) : ∀ q ∈ r, p.1 < q.1 := (List.pairwise_cons.1 h).1
theorem dcnt_none {L : DL} {id : Nat} (h : ∀ p ∈ L, p.1 ≠ id) : dcnt L id = 0 := by
  induction L with
  | nil => rfl
  | cons p r ih =>
    unfold dcnt
    rw [if_neg (h p (List.mem_cons_self ..))]
    exact ih fun q hq => h q (List.mem_cons_of_mem _ hq)
theorem dcnt_mem {L : DL} (hA : DAsc L) {id : Nat} {c : Int} (h : (id, c) ∈ L) : dcnt L id = c := by
  induction L with
  | nil => cases h
  | cons p r ih =>
    unfold dcnt
    rcases List.mem_cons.1 h with rfl | h
    · rw [if_pos rfl]
    · rw [if_neg (by have := dasc_head hA _ h; simp only at this; omega)]
      exact ih (dasc_tail hA) h
theorem mem_of_dcnt {L : DL} {id : Nat} (h : dcnt L id ≠ 0) : (id, dcnt L id) ∈ L := by
  induction L with
  | nil => exact absurd rfl h
  | cons p r ih =>
    unfold dcnt at h ⊢
    by_cases e : p.1 = id
    · rw [if_pos e] at h ⊢
      obtain ⟨a, b⟩ := p
      simp only at e
      subst e
      exact List.mem_cons_self ..
    · rw [if_neg e] at h ⊢
      exact List.mem_cons_of_mem _ (ih h)
theorem putD_mem {L : DL} {id : Nat} {c : Int} {p : Nat × Int} (h : p ∈ putD id c L) : p = (id, c) ∨ (p ∈ L ∧ p.1 ≠ id) ∨ (p ∈ L ∧ p.1 = id ∧ False) ∨ p ∈ L := by
  induction L with
  | nil => simp [putD] at h; exact .inl h
  | cons q r ih =>
    unfold putD at h
    split at h
    · rcases List.mem_cons.1 h with rfl | h
      · exact .inl rfl
      · exact .inr (.inr (.inr h))
    · split at h
      · rcases List.mem_cons.1 h with rfl | h
        · exact .inl rfl
        · exact .inr (.inr (.inr (List.mem_cons_of_mem _ h)))
      · rcases List.mem_cons.1 h with rfl | h
        · exact .inr (.inr (.inr (List.mem_cons_self ..)))
        · rcases ih h with e | e | e | e
          · exact .inl e
          · exact .inr (.inr (.inr (List.mem_cons_of_mem _ e.1)))
          · exact e.2.2.elim
          · exact .inr (.inr (.inr (List.mem_cons_of_mem _ e)))
theorem putD_sub {L : DL} {id : Nat} {c : Int} {p : Nat × Int} (h : p ∈ putD id c L) : p = (id, c) ∨ p ∈ L := by
  rcases putD_mem h with e | e | e | e
  · exact .inl e
  · exact .inr e.1
  · exact .inr e.1
  · exact .inr e
theorem dasc_putD {L : DL} (hA : DAsc L) (id : Nat) (c : Int) : DAsc (putD id c L) := by
  induction L with
  | nil => exact List.pairwise_singleton _ _
  | cons q r ih =>
    have h1 := dasc_head hA
    have h2 := dasc_tail hA
    unfold putD
    split
    · rename_i g
      refine List.pairwise_cons.2 ⟨fun x hx => ?_, hA⟩
      rcases List.mem_cons.1 hx with rfl | hx
      · exact g
      · exact Nat.lt_trans g (h1 x hx)
    · split
      · rename_i g
        refine List.pairwise_cons.2 ⟨fun x hx => ?_, h2⟩
        rw [← g]; exact h1 x hx
      · rename_i g1 g2
        refine List.pairwise_cons.2 ⟨fun x hx => ?_, ih h2⟩
        rcases putD_sub hx with rfl | hx
        · show q.1 < id; omega
        · exact h1 x hx
theorem putD_len (L : DL) (id : Nat) (c : Int) : (putD id c L).length ≤ L.length + 1 := by
  induction L with
  | nil => exact Nat.le_refl _
  | cons q r ih =>
    unfold putD
    split
    · simp
    · split
      · simp
      · simp; omega
theorem putD_len_mem {L : DL} (hA : DAsc L) {id : Nat} {c : Int} (h : ∃ p ∈ L, p.1 = id) : (putD id c L).length = L.length := by
  induction L with
  | nil => obtain ⟨p, hp, _⟩ := h; cases hp
  | cons q r ih =>
    obtain ⟨p, hp, e⟩ := h
    unfold putD
    rcases List.mem_cons.1 hp with rfl | hp
    · rw [if_neg (by omega), if_pos e]; simp
    · have := dasc_head hA p hp
      rw [if_neg (by omega), if_neg (by omega)]
      simp [ih (dasc_tail hA) ⟨p, hp, e⟩]
theorem putD_at {A B : DL} {id : Nat} {c0 c : Int} (h : DAsc (A ++ (id, c0) :: B)) : putD id c (A ++ (id, c0) :: B) = A ++ (id, c) :: B := by
  induction A with
  | nil =>
    show putD id c ((id, c0) :: B) = _
    unfold putD
    rw [if_neg (by simp), if_pos rfl]; rfl
  | cons q r ih =>
    have h1 := dasc_head h (id, c0) (by simp)
    show putD id c (q :: (r ++ (id, c0) :: B)) = _
    unfold putD
    simp only at h1
    rw [if_neg (by omega), if_neg (by omega), ih (dasc_tail h)]; rfl
theorem dcnt_putD {L : DL} (hA : DAsc L) (id : Nat) (c : Int) (x : Nat) : dcnt (putD id c L) x = if x = id then c else dcnt L x := by
  induction L with
  | nil => simp [putD, dcnt, eq_comm]
  | cons q r ih =>
    unfold putD
    split
    · rename_i g
      show (if id = x then c else dcnt (q :: r) x) = _
      by_cases e : x = id
      · rw [if_pos e, if_pos e.symm]
      · rw [if_neg e, if_neg (fun h => e h.symm)]
    · split
      · rename_i g1 g2
        show (if id = x then c else dcnt r x) = _
        by_cases e : x = id
        · rw [if_pos e, if_pos e.symm]
        · rw [if_neg e, if_neg (fun h => e h.symm)]
          show _ = if q.1 = x then q.2 else dcnt r x
          rw [if_neg (by omega)]
      · rename_i g1 g2
        show (if q.1 = x then q.2 else dcnt (putD id c r) x) = if x = id then c else if q.1 = x then q.2 else dcnt r x
        rw [ih (dasc_tail hA)]
        by_cases e : q.1 = x
        · rw [if_pos e, if_pos e, if_neg (by omega)]
        · rw [if_neg e, if_neg e]

/-- taken out -/
def delD (id : Nat) (L : DL) : DL := L.filter fun p => !decide (p.1 = id)
theorem dasc_delD {L : DL} (hA : DAsc L) (id : Nat) : DAsc (delD id L) := hA.filter _
theorem delD_sub {L : DL} {id : Nat} {p : Nat × Int} (h : p ∈ delD id L) : p ∈ L := (List.mem_filter.1 h).1
theorem delD_ne {L : DL} {id : Nat} {p : Nat × Int} (h : p ∈ delD id L) : p.1 ≠ id := by
  have := (List.mem_filter.1 h).2
  simpa using this
theorem dcnt_delD {L : DL} (hA : DAsc L) (id x : Nat) : dcnt (delD id L) x = if x = id then 0 else dcnt L x := by
  by_cases e : x = id
  · rw [if_pos e]
    exact dcnt_none fun p hp => by rw [e]; exact delD_ne hp
  · rw [if_neg e]
    induction L with
    | nil => rfl
    | cons p r ih =>
      have ih := ih (dasc_tail hA)
      unfold delD at ih ⊢
      by_cases g : p.1 = id
      · rw [List.filter_cons_of_neg (by simp [g]), ih]
        show _ = if p.1 = x then p.2 else dcnt r x
        rw [if_neg (by omega)]
      · rw [List.filter_cons_of_pos (by simp [g])]
        show (if p.1 = x then p.2 else dcnt (r.filter _) x) = if p.1 = x then p.2 else dcnt r x
        rw [ih]

/-- the datum that a map by places reads as -/
def dent (p : Nat × Int) : Lit × DataW Unit := (kL p.1, .lit (.int .i64 p.2))
def mapP (L : DL) : DataW Unit := .map (L.map dent)
abbrev AllIn (L : DL) : Prop := ∀ p ∈ L, KIn p.1
theorem AllIn.tail {p : Nat × Int} {r : DL} (h : AllIn (p :: r)) : AllIn r := fun q hq => h q (List.mem_cons_of_mem _ hq)
theorem AllIn.head {p : Nat × Int} {r : DL} (h : AllIn (p :: r)) : KIn p.1 := h p (List.mem_cons_self ..)
theorem find_dent {L : DL} (hL : AllIn L) {id : Nat} (hid : KIn id) : (L.map dent).find? (fun p => p.1.sameKey (kL id)) = (L.find? fun p => decide (p.1 = id)).map dent := by
  induction L with
  | nil => rfl
  | cons p r ih =>
    have e : (dent p).1.sameKey (kL id) = decide (p.1 = id) := kL_same hL.head hid
    simp only [List.map_cons, List.find?_cons, e]
    by_cases g : p.1 = id
    · simp [g]
    · simp only [g, decide_false]
      exact ih hL.tail
theorem atKey_mapP {L : DL} (hL : AllIn L) {id : Nat} (hid : KIn id) : (mapP L).atKey (kL id) (.lit (.int .i64 0)) = .lit (.int .i64 (dcnt L id)) := by
  unfold mapP DataW.atKey
  simp only [find_dent hL hid]
  clear hL
  induction L with
  | nil => rfl
  | cons p r ih =>
    unfold dcnt
    by_cases e : p.1 = id
    · simp [e, dent]
    · simp only [List.find?_cons, e, decide_false, if_false]
      exact ih
theorem size_mapP (L : DL) : size (mapP L) = L.length := by simp [mapP, size]
theorem put_mapP {L : DL} (hA : DAsc L) (hL : AllIn L) {id : Nat} (hid : KIn id) (c : Int) : (mapP L).put (kL id) (.lit (.int .i64 c)) = mapP (putD id c L) := by
  unfold mapP DataW.put
  simp only
  congr 1
  induction L with
  | nil => rfl
  | cons p r ih =>
    have h1 := dasc_head hA
    have hp := hL.head
    have keep : ∀ (l : DL), AllIn l → (∀ q ∈ l, q.1 ≠ id) → (l.map dent).filter (fun p => !p.1.sameKey (kL id)) = l.map dent := fun l hl' hl => by
      rw [List.filter_eq_self]
      intro x hx
      obtain ⟨q, hq, rfl⟩ := List.mem_map.1 hx
      simp [dent, kL_same (hl' q hq) hid, hl q hq]
    unfold putD
    by_cases g1 : id < p.1
    · rw [if_pos g1, keep (p :: r) hL (fun q hq => by
        rcases List.mem_cons.1 hq with rfl | hq
        · omega
        · have := h1 q hq; omega)]
      simp [DataW.insert, dent, kL_before hid hp, g1]
    · rw [if_neg g1]
      by_cases g2 : p.1 = id
      · rw [if_pos g2, List.map_cons, List.filter_cons_of_neg (by show ¬ (!(kL p.1).sameKey (kL id)) = true; rw [kL_same hp hid, g2]; simp), keep r hL.tail (fun q hq => by have := h1 q hq; omega)]
        cases r with
        | nil => rfl
        | cons q r' =>
          have := h1 q (List.mem_cons_self ..)
          simp only [List.map_cons, DataW.insert, dent, kL_before hid hL.tail.head]
          have g3 : decide (id < q.1) = true := decide_eq_true (by omega)
          exact if_pos g3
      · rw [if_neg g2, List.map_cons, List.filter_cons_of_pos (by simp [dent, kL_same hp hid, g2])]
        simp only [DataW.insert]
        rw [if_neg (by simp [dent, kL_before hid hp]; omega), ih (dasc_tail hA) hL.tail]
        rfl
theorem del_mapP {L : DL} (hL : AllIn L) {id : Nat} (hid : KIn id) : (mapP L).del (kL id) = mapP (delD id L) := by
  unfold mapP DataW.del
  simp only
  congr 1
  induction L with
  | nil => rfl
  | cons p r ih =>
    have e : (dent p).1.sameKey (kL id) = decide (p.1 = id) := kL_same hL.head hid
    unfold delD at ih ⊢
    by_cases g : p.1 = id
    · rw [List.map_cons, List.filter_cons_of_neg (by simp [e, g]), List.filter_cons_of_neg (by simp [g]), ih hL.tail]
    · rw [List.map_cons, List.filter_cons_of_pos (by simp [e, g]), List.filter_cons_of_pos (by simp [g]), ih hL.tail]
      rfl

/-- a whole number of 64 bits -/
def InI (n : Int) : Prop := -9223372036854775808 ≤ n ∧ n ≤ 9223372036854775807
theorem InI.wf {n : Int} (h : InI n) : (Lit.int .i64 n).wf = true := Go.WalkArith.wf_i64 h
theorem zero_int (w : World) : (zeroValue 3).run Tryz.prog w = .ok (.int .i64 0) w := by kernel_rfl

/-- at block b lies a map by places that holds these counts -/
structure PAt (w : World) (b : Nat) (L : DL) : Prop where
  asc : DAsc L
  inI : ∀ p ∈ L, KIn p.1 ∧ InI p.2
  own : w.ownsMap Tryz.prog 310 (plainElem Tryz.prog 3) b L.length (mapP L)

theorem PAt.allIn {w : World} {b : Nat} {L : DL} (h : PAt w b L) : AllIn L := fun p hp => (h.inI p hp).1
theorem own_tightP {w : World} {b n : Nat} {L : DL} (h : w.ownsMap Tryz.prog 310 (plainElem Tryz.prog 3) b n (mapP L)) : w.ownsMap Tryz.prog 310 (plainElem Tryz.prog 3) b L.length (mapP L) := by
  obtain ⟨es, clock, hb, F, _, hD⟩ := h
  refine ⟨es, clock, hb, F, ?_, hD⟩
  have e := congrArg size hD
  rw [size_mapP, size_eq, length_sorted] at e
  simp at e
  omega
theorem PAt.of_block {w w' : World} {b : Nat} {L : DL} (h : PAt w b L) (hb : w'.heap[b]? = w.heap[b]?) : PAt w' b L := by
  obtain ⟨es, clock, h1, h2⟩ := h.own
  exact ⟨h.asc, h.inI, es, clock, hb.trans h1, h2⟩
theorem PAt.lt {w : World} {b : Nat} {L : DL} (h : PAt w b L) : b < w.heap.size := h.own.lt
theorem PAt.made (w : World) : PAt (w.alloc (.map #[] 0)) w.heap.size [] := ⟨List.Pairwise.nil, (fun p hp => by cases hp), World.ownsMap_made w _ _ _⟩
theorem dcnt_inI {L : DL} (h : ∀ p ∈ L, KIn p.1 ∧ InI p.2) (id : Nat) : InI (dcnt L id) := by
  by_cases e : dcnt L id = 0
  · rw [e]; unfold InI; omega
  · exact (h _ (mem_of_dcnt e)).2
theorem PAt.lookup {w : World} {b : Nat} {L : DL} (h : PAt w b L) {id : Nat} (hid : KIn id) :
    (Instr.lookup 198 (.map (some b)) (kV id) false).run Tryz.prog w = .ok (.int .i64 (dcnt L id)) w := by
  obtain ⟨c, h1, h2, _⟩ := h.own.lookup_int KP Tryz.underlying198 Tryz.underlying3 (zero_int w) (kV_key hid)
  rw [atKey_mapP h.allIn hid] at h2
  simp at h2
  rw [h1, h2]
theorem PAt.len {w : World} {b : Nat} {L : DL} (h : PAt w b L) (ty : TypeId) : (Builtin.len_ #[198] ty #[.map (some b)]).run Tryz.prog w = .ok (.int .i64 L.length) w := by
  have := h.own.len Tryz.underlying198 ty
  rwa [size_mapP] at this
theorem PAt.put {w w' : World} {b n : Nat} {L : DL} (h : PAt w b L) {id : Nat} {c : Int} (hid : KIn id) (hc : InI c)
    (h2 : w'.ownsMap Tryz.prog 310 (plainElem Tryz.prog 3) b n ((mapP L).put (kL id) (.lit (.int .i64 c)))) : PAt w' b (putD id c L) := by
  rw [put_mapP h.asc h.allIn hid] at h2
  refine ⟨dasc_putD h.asc id c, fun p hp => ?_, own_tightP h2⟩
  rcases putD_sub hp with rfl | hp
  · exact ⟨hid, hc⟩
  · exact h.inI p hp
theorem PAt.update {w : World} {b : Nat} {L : DL} (h : PAt w b L) {id : Nat} {c : Int} (hid : KIn id) (hc : InI c) (hl : L.length < maxLen) :
    ∃ w', (Instr.mapUpdate 198 (.map (some b)) (kV id) (.int .i64 c)).run Tryz.prog w = .ok () w' ∧ PAt w' b (putD id c L) ∧ w.mapTurned w' b := by
  obtain ⟨w', h1, h2, h3⟩ := h.own.store KP Tryz.underlying198 hl (kV_key hid) (plainElem_int Tryz.underlying3 hc.wf)
  exact ⟨w', h1, h.put hid hc h2, h3⟩
theorem PAt.drop {w : World} {b : Nat} {L : DL} (h : PAt w b L) {id : Nat} (hid : KIn id) (ty : TypeId) :
    ∃ w', (Builtin.delete_ #[198, 310] ty #[.map (some b), kV id]).run Tryz.prog w = .ok (.tuple #[]) w' ∧ PAt w' b (delD id L) ∧ w.mapTurned w' b := by
  obtain ⟨w', h1, h2, h3⟩ := h.own.drop KP Tryz.underlying198 (kV_key hid) ty
  rw [del_mapP h.allIn hid] at h2
  exact ⟨w', h1, ⟨dasc_delD h.asc id, fun p hp => h.inI p (delD_sub hp), own_tightP h2⟩, h3⟩
end Go.Proofs.YtlhpbfjelgmkeaaGreat.Dig
/- 'm[k] op= v' on the digest's map: the two operations mapEntry and entryStore. Conditions: none. -/
set_option maxRecDepth 100000
namespace Go.Proofs.YtlhpbfjelgmkeaaGreat.Dig
open Go.RowKit Go.Maps Go.Sort Go.MapKept Go.ChangeMaps Go.ChangeShapes Go.WideShapes

theorem turned_setBlock {w : World} {b : Nat} {es es' : Array MapEntry} {c c' : Nat} (hb : w.heap[b]? = some (.map es c)) : w.mapTurned (setBlock w b (.map es' c')) b := ⟨es, c, es', c', hb, rfl⟩

theorem PAt.entry {w : World} {b : Nat} {L : DL} (h : PAt w b L) {id : Nat} (hid : KIn id) (hl : L.length < maxLen) :
    ∃ st w1 L1, (Instr.mapEntry 198 (.map (some b)) (kV id)).run Tryz.prog w = .ok (.tuple #[.int .i64 (dcnt L id), goInt st]) w1 ∧ PAt w1 b L1 ∧ dcnt L1 id = dcnt L id ∧ w.mapTurned w1 b ∧
      ∀ (w2 : World) (c : Int), InI c → w2.heap[b]? = w1.heap[b]? →
        ∃ w3, (Instr.entryStore 198 (.map (some b)) (goInt st) (.int .i64 c)).run Tryz.prog w2 = .ok () w3 ∧ PAt w3 b (putD id c L) ∧ w2.mapTurned w3 b := by
  obtain ⟨es, clock, hb, F, hs, hD⟩ := h.own
  have K : WideMaps.KeyLaw Tryz.prog 310 := KLaw
  have ht := Tryz.underlying198
  have hkey := kV_key hid
  obtain ⟨v0, st, es1, clock1, e1, e2, e3⟩ := WideElems.entry_then_store K ht zero_int hb F hkey
  have hlook := h.lookup hid
  have hst : ∀ (w2 : World) (c : Int), InI c → w2.heap[b]? = some (.map es1 clock1) → ∃ w3, (Instr.entryStore 198 (.map (some b)) (goInt st) (.int .i64 c)).run Tryz.prog w2 = .ok () w3 ∧ PAt w3 b (putD id c L) ∧ w2.mapTurned w3 b := by
    intro w2 c hc hw2
    obtain ⟨es', clock', g1, g2⟩ := e3 w2 (.int .i64 c) hw2
    obtain ⟨w', u1, u2, _⟩ := h.update hid hc hl
    rw [g2] at u1
    injection u1 with _ u1
    subst u1
    refine ⟨_, g1, u2.of_block ?_, turned_setBlock hw2⟩
    rw [heap_setBlock_same hw2 _, heap_setBlock_same hb _]
  have hb1 : (setBlock w b (.map es1 clock1)).heap[b]? = some (.map es1 clock1) := heap_setBlock_same hb _
  have hz := zero_int w
  rcases K.find w hkey es.toList F.keys with ⟨h1, h2⟩ | ⟨j, e0, h1, h2, h3⟩
  · have hc0 : dcnt L id = 0 := by
      simp [Instr.lookup, run_underlying ht, MapKept.run_getObj_map hb, K.check w es.isEmpty hkey, h1, hz, Result.andThen] at hlook
      exact hlook.symm
    have r1 : (Instr.mapEntry 198 (.map (some b)) (kV id)).run Tryz.prog w = .ok (.tuple #[.int .i64 0, goInt clock]) (setBlock w b (.map (es.push ⟨kV id, .int .i64 0, clock⟩) (clock + 1))) := by
      simp [Instr.mapEntry, run_underlying ht, MapKept.run_getObj_map hb, K.check w false hkey, h1, hz, MapKept.run_setObj_map _ hb, Result.andThen, setBlock]
    have r2 : (Instr.mapUpdate 198 (.map (some b)) (kV id) (.int .i64 0)).run Tryz.prog w = .ok () (setBlock w b (.map (es.push ⟨kV id, .int .i64 0, clock⟩) (clock + 1))) := by
      simp [Instr.mapUpdate, run_underlying ht, MapKept.run_getObj_map hb, K.check w false hkey, h1, MapKept.run_setObj_map _ hb, Result.andThen, setBlock]
    obtain ⟨w', u1, u2, u3⟩ := h.update hid (c := 0) (by unfold InI; omega) hl
    rw [r2] at u1
    injection u1 with _ u1
    rw [r1] at e1
    injection e1 with e1 e1'
    rw [← u1, e1'] at u2 u3
    have hv : v0 = .int .i64 0 := by
      rcases e2 with ⟨e0, m1, m2, _⟩ | ⟨_, e2⟩
      · exact absurd m2 (h2 e0 m1)
      · exact e2
    refine ⟨st, setBlock w b (.map es1 clock1), putD id 0 L, ?_, u2, ?_, u3, fun w2 c hc hw2 => hst w2 c hc (hw2.trans hb1)⟩
    · rw [r1, e1, hv, hc0, e1']
    · rw [dcnt_putD h.asc, if_pos rfl, hc0]
  · have hj : es[j]? = some e0 := by simpa using h2
    have hsame : es.modify j (fun e => { e with key := kV id }) = es := by
      apply Array.ext'
      rw [Array.toList_modify, modify_eq_set _ _ _ _ h2]
      have : ({ e0 with key := kV id } : MapEntry) = e0 := by rw [← h3]
      rw [this]
      exact WideElems.set_self _ _ _ h2
    have hc0 : e0.val = .int .i64 (dcnt L id) := by
      simp [Instr.lookup, run_underlying ht, MapKept.run_getObj_map hb, K.check w es.isEmpty hkey, h1, Result.andThen] at hlook
      exact hlook
    have r1 : (Instr.mapEntry 198 (.map (some b)) (kV id)).run Tryz.prog w = .ok (.tuple #[e0.val, goInt e0.born]) (setBlock w b (.map es clock)) := by
      simp [Instr.mapEntry, run_underlying ht, MapKept.run_getObj_map hb, K.check w false hkey, h1, hj, h3, K.stays w hkey, hsame, MapKept.run_setObj_map _ hb, Result.andThen, setBlock]
    rw [r1] at e1
    injection e1 with e1 e1'
    have hh : (setBlock w b (.map es1 clock1)).heap[b]? = w.heap[b]? := by
      rw [← e1', heap_setBlock_same hb _, hb]
    refine ⟨st, setBlock w b (.map es1 clock1), L, ?_, h.of_block hh, rfl, turned_setBlock hb, fun w2 c hc hw2 => hst w2 c hc (hw2.trans hb1)⟩
    rw [r1, e1', e1, ← hc0]
    simp at e1
    rw [e1.1]
end Go.Proofs.YtlhpbfjelgmkeaaGreat.Dig
/- What a digest is in memory; contracts of its smallest calls. Conditions: none. -/
set_option maxRecDepth 100000
namespace Go.Proofs.YtlhpbfjelgmkeaaGreat.Dig
open Go.RowKit Go.Maps Go.Sort

/-- a digest, as plain lists -/
structure DV where
  k : Nat
  n : Nat
  L : DL
structure DkAt (T : Tags) (i : Nat) (w : World) (p k : Nat) (n : Int) (b : Nat) (L : DL) : Prop where
  head : w.heap[p]? = some (.cells #[.int .i64 k, .int .i64 n, .map (some b)] 200 (0, 0))
  tp : T p = some i
  map : PAt w b L
  tb : T b = some i
/-- a digest in memory, whatever it counts -/
def Dl (p k : Nat) (n : Int) (L : DL) : Thing := fun T i w => ∃ b, DkAt T i w p k n b L
theorem Dl.framed (p k : Nat) (n : Int) (L : DL) : Framed (Dl p k n L) := by
  rintro T T' i w w' ⟨b, h⟩ hT hw
  exact ⟨b, ⟨(hw p (lt_of_heap h.head) (.inr h.tp)).trans h.head, (hT p (lt_of_heap h.head)).trans h.tp, h.map.of_block (hw b h.map.lt (.inr h.tb)), (hT b h.map.lt).trans h.tb⟩⟩
theorem DkAt.ne {T : Tags} {i : Nat} {w : World} {p k b : Nat} {n : Int} {L : DL} (h : DkAt T i w p k n b L) : p ≠ b := by
  rintro rfl
  obtain ⟨es, clock, h1, _⟩ := h.map.own
  rw [h.head] at h1
  cases h1
theorem DkAt.cells {T : Tags} {i : Nat} {w : World} {p k b : Nat} {n : Int} {L : DL} (h : DkAt T i w p k n b L) :
    w.cell? ⟨p, 0, none⟩ = some (.int .i64 k) ∧ w.cell? ⟨p, 1, none⟩ = some (.int .i64 n) ∧ w.cell? ⟨p, 2, none⟩ = some (.map (some b)) ∧ ∀ j, w.frozen? ⟨p, j, none⟩ = false :=
  ⟨by rw [cell_of_row _ _ _ _ _ _ h.head]; rfl, by rw [cell_of_row _ _ _ _ _ _ h.head]; rfl, by rw [cell_of_row _ _ _ _ _ _ h.head]; rfl, free_of_row h.head⟩

theorem made_at {w : World} {p : Nat} {k : Nat} (hk : 1 ≤ k) (c0 : w.cell? ⟨p, 0, none⟩ = some (.int .i64 k)) :
    Calls Tryz.prog 228 #[.pointer (some ⟨p, 0, none⟩)] w fun e w' => e = .returned (.bool true) ∧ w = w' := by
  have h2 : 0 < k := hk
  clear hk
  go_enter Tryz.func228, Tryz.ntmps228
  go_wp2_with fail
  go_ret
  exact ⟨rfl, rfl⟩
theorem new_no (z : Int) (hz : z < 1 ∨ 64 < z) (w : World) :
    Calls Tryz.prog 63 #[.int .i64 z] w fun e w' => e = .returned (.pointer none) ∧ w = w' := by
  by_cases g : z < 1
  · have t0 : decide (z < 1) = true := decide_eq_true g
    clear hz g
    go_enter Tryz.func63, Tryz.ntmps63
    go_wp2_with fail
    go_ret
    exact ⟨rfl, rfl⟩
  · have t0 : decide (z < 1) = false := decide_eq_false g
    have t1 : decide (z > 64) = true := decide_eq_true (by omega)
    have t2 : decide (64 < z) = true := decide_eq_true (by omega)
    clear hz g
    go_enter Tryz.func63, Tryz.ntmps63
    go_wp2_with fail
    go_ret
    exact ⟨rfl, rfl⟩
end Go.Proofs.YtlhpbfjelgmkeaaGreat.Dig
/- Rows of nodes (level, prefix, count) in memory. Conditions: none. -/
set_option maxRecDepth 100000
namespace Go.Proofs.YtlhpbfjelgmkeaaGreat.Dig
open Go.RowKit Go.Maps Go.Sort

/-- a node's cells -/
def encN (p : Nat × Int) : List Value := [.int .i64 ((p.1 / 18446744073709551616 : Nat) : Int), .int .u64 ((p.1 % 18446744073709551616 : Nat) : Int), .int .i64 p.2]
theorem encN_len (p : Nat × Int) : (encN p).length = 3 := rfl
theorem encN_one (p : Nat × Int) : ∀ u ∈ encN p, u.oneCell' = true := fun u hu => by
  simp [encN] at hu
  rcases hu with rfl | rfl | rfl <;> rfl
def flatN (L : DL) : List Value := L.flatMap encN
theorem flatN_len : ∀ L : DL, (flatN L).length = L.length * 3
  | [] => rfl
  | p :: r => by
    have := flatN_len r
    unfold flatN at this ⊢
    rw [List.flatMap_cons, List.length_append, this, List.length_cons, encN_len]
    omega
theorem flatN_snoc (L : DL) (p : Nat × Int) : flatN (L ++ [p]) = flatN L ++ encN p := by simp [flatN]
theorem flatN_one (L : DL) : ∀ u ∈ flatN L, u.oneCell' = true := fun u hu => by
  obtain ⟨p, _, hp⟩ := List.mem_flatMap.1 hu
  exact encN_one p u hp
theorem flatN_at : ∀ (L : DL) (k : Nat) (p : Nat × Int), L[k]? = some p → (flatN L)[k * 3]? = some (.int .i64 ((p.1 / 18446744073709551616 : Nat) : Int)) ∧ (flatN L)[k * 3 + 1]? = some (.int .u64 ((p.1 % 18446744073709551616 : Nat) : Int)) ∧ (flatN L)[k * 3 + 2]? = some (.int .i64 p.2)
  | [], k, p, h => by simp at h
  | q :: r, 0, p, h => by
    simp at h
    subst h
    simp [flatN, encN]
  | q :: r, k + 1, p, h => by
    have := flatN_at r k p (by simpa using h)
    unfold flatN at this ⊢
    rw [List.flatMap_cons, show (k + 1) * 3 = k * 3 + 3 by omega, show k * 3 + 3 + 1 = (k * 3 + 1) + 3 by omega, show k * 3 + 3 + 2 = (k * 3 + 2) + 3 by omega]
    exact this

/-- at block g lie these counters, from its head on -/
def RowN (w : World) (g : Nat) (L : DL) : Prop := HoldsK encN 3 w g 0 L.toArray ∧ g < w.heap.size
theorem RowN.cell {w : World} {g : Nat} {L : DL} (h : RowN w g L) {k : Nat} {p : Nat × Int} (hp : L[k]? = some p) :
    w.cell? ⟨g, k * 3, none⟩ = some (.int .i64 ((p.1 / 18446744073709551616 : Nat) : Int)) ∧ w.cell? ⟨g, k * 3 + 1, none⟩ = some (.int .u64 ((p.1 % 18446744073709551616 : Nat) : Int)) ∧ w.cell? ⟨g, k * 3 + 2, none⟩ = some (.int .i64 p.2) := by
  obtain ⟨hk, e⟩ := List.getElem?_eq_some_iff.1 hp
  have h0 := h.1.cell (i := k) (c := 0) (by simpa using hk) (by omega)
  have h1 := h.1.cell (i := k) (c := 1) (by simpa using hk) (by omega)
  have h2 := h.1.cell (i := k) (c := 2) (by simpa using hk) (by omega)
  have e2 : L.toArray[k]! = p := by rw [getElem!_pos _ k (by simpa using hk)]; simpa using e
  rw [e2] at h0 h1 h2
  simp only [Nat.zero_add, Nat.add_zero] at h0 h1 h2
  exact ⟨h0.1, h1.1, h2.1⟩
theorem rowN_of_owns {w : World} {B g c : Nat} {L : DL} (h : w.ownsRow B 307 3 (.slice (some ⟨g, 0, none⟩) L.length c) L.length (flatN L)) : RowN w g L := by
  have hc := h.cells (g := g) rfl
  have hf : ∀ o, w.frozen? ⟨g, o, none⟩ = false := fun o => by
    rcases h.2 with ⟨e, _⟩ | ⟨g', cap, cur, e, _, hg, _⟩
    · simp at e
    · simp at e
      obtain ⟨rfl, _⟩ := e
      exact free_of_row hg o
  refine ⟨fun j hj => ?_, (h.lt g rfl).2⟩
  rw [size_flatK] at hj
  have hj' : j / 3 < L.length := by simp at hj; omega
  obtain ⟨p, hp, e2⟩ : ∃ p, L[j / 3]? = some p ∧ L.toArray[j / 3]! = p := ⟨L[j / 3], List.getElem?_eq_getElem hj', by rw [getElem!_pos _ _ (by simpa using hj')]; simp⟩
  obtain ⟨a0, a1, a2⟩ := flatN_at L (j / 3) _ hp
  refine ⟨?_, by rw [Nat.zero_add]; exact hf j⟩
  rw [get_flatK _ _ _ _ hj, e2, Nat.zero_add]
  rcases (by omega : j % 3 = 0 ∨ j % 3 = 1 ∨ j % 3 = 2) with e | e | e
  · rw [e]
    have := hc (j / 3 * 3) _ a0
    rw [Addr.add_at, Nat.zero_add, show j / 3 * 3 = j by omega] at this
    exact this
  · rw [e]
    have := hc (j / 3 * 3 + 1) _ a1
    rw [Addr.add_at, Nat.zero_add, show j / 3 * 3 + 1 = j by omega] at this
    exact this
  · rw [e]
    have := hc (j / 3 * 3 + 2) _ a2
    rw [Addr.add_at, Nat.zero_add, show j / 3 * 3 + 2 = j by omega] at this
    exact this
theorem RowN.of_block {w w' : World} {g : Nat} {L : DL} (h : RowN w g L) (hb : w'.heap[g]? = w.heap[g]?) (hs : w.heap.size ≤ w'.heap.size) : RowN w' g L :=
  ⟨fun j hj => by rw [World.cell?_of_block (w := w) hb, World.frozen?_of_block (w := w) hb]; exact h.1 j hj, Nat.lt_of_lt_of_le h.2 hs⟩
theorem RowN.below {w w' : World} {g : Nat} {L : DL} (h : RowN w g L) (hb : Below w.heap.size w w') : RowN w' g L := h.of_block (hb.block g h.2) hb.size

/-- behind a sort: the row, and what is as it was -/
theorem rowN_of_swk {w w' : World} {g : Nat} {L L' : DL} (h : RowN w g L) (hs : SWK encN 3 w g 0 L'.toArray w') (hl : L'.length = L.length) : RowN w' g L' ∧ w.grownBy w' (some g) := by
  have hd : L'.toArray.size = L.toArray.size := by simp [hl]
  refine ⟨⟨hs.holds h.2 h.1 hd, hs.lt h.2⟩, ?_⟩
  obtain ⟨n, os, rfl⟩ := hs
  refine ⟨rfl, rfl, rfl, by unfold sortWorldK; rw [size_grow, size_putRowK]; exact Nat.le_add_right _ _, fun k hk hne => ?_⟩
  unfold sortWorldK
  rw [heap_grow_old _ _ (by rw [size_putRowK]; exact hk)]
  have : g ≠ k := fun e => hne (by rw [e])
  simp [putRowK, putRow, mapBlock, Sort.ahead, Array.getElem?_modify, this]

end Go.Proofs.YtlhpbfjelgmkeaaGreat.Dig
/- The comparison of nodes by level and prefix. Conditions: none. -/
set_option maxRecDepth 100000
namespace Go.Proofs.YtlhpbfjelgmkeaaGreat.Dig
open Go.RowKit Go.Maps Go.Sort

theorem isNaN_u64 (x : Int) (w : World) : Calls Tryz.prog 243 #[.int .u64 x] w fun e w' => e = .returned (.bool false) ∧ w = w' := by
  go_enter Tryz.func243, Tryz.ntmps243
  go_wp2_with fail
  go_ret
  exact ⟨by simp, rfl⟩
theorem compare_u64 (x y : Int) (w : World) : Calls Tryz.prog 239 #[.int .u64 x, .int .u64 y] w fun e w' => e = .returned (.int .i64 (Lib.compareInt x y)) ∧ w = w' := by
  have KX := isNaN_u64 x w
  have KY := isNaN_u64 y w
  unfold Lib.compareInt
  by_cases h1 : x < y
  · go_enter Tryz.func239, Tryz.ntmps239
    go_wp2_with fail
    refine KX.mono ?_
    rintro e w' ⟨rfl, rfl⟩
    go_wp2_with fail
    refine KY.mono ?_
    rintro e w' ⟨rfl, rfl⟩
    clear KX KY
    go_wp2_with fail
    go_ret
    exact ⟨by simp, rfl⟩
  · by_cases h2 : y < x
    · go_enter Tryz.func239, Tryz.ntmps239
      go_wp2_with fail
      refine KX.mono ?_
      rintro e w' ⟨rfl, rfl⟩
      go_wp2_with fail
      refine KY.mono ?_
      rintro e w' ⟨rfl, rfl⟩
      clear KX KY
      go_wp2_with fail
      go_ret
      exact ⟨by simp, rfl⟩
    · go_enter Tryz.func239, Tryz.ntmps239
      go_wp2_with fail
      refine KX.mono ?_
      rintro e w' ⟨rfl, rfl⟩
      go_wp2_with fail
      refine KY.mono ?_
      rintro e w' ⟨rfl, rfl⟩
      clear KX KY
      go_wp2_with fail
      go_ret
      exact ⟨by simp, rfl⟩

theorem or_two {w : World} {g : Nat} {a b : Int} (ha : w.cell? ⟨g, 0, none⟩ = some (.int .i64 a)) (hb : w.cell? ⟨g, 1, none⟩ = some (.int .i64 b)) :
    Calls Tryz.prog 238 #[.slice (some ⟨g, 0, none⟩) 2 2] w fun e w' => e = .returned (.int .i64 (if a = 0 then b else a)) ∧ w = w' := by
  by_cases h1 : a = 0
  · subst h1
    by_cases h2 : b = 0
    · subst h2
      go_enter Tryz.func238, Tryz.ntmps238
      go_wp2_with fail
      refine wp_loop_rounds 3 ?_
      rw [rounds_succ]
      go_wp2_with fail
      rw [rounds_succ]
      go_wp2_with fail
      rw [rounds_succ]
      go_wp2_with fail
      go_ret
      exact ⟨rfl, rfl⟩
    · go_enter Tryz.func238, Tryz.ntmps238
      go_wp2_with fail
      refine wp_loop_rounds 2 ?_
      rw [rounds_succ]
      go_wp2_with fail
      rw [rounds_succ]
      go_wp2_with fail
      go_ret
      exact ⟨rfl, rfl⟩
  · rw [if_neg h1]
    go_enter Tryz.func238, Tryz.ntmps238
    go_wp2_with fail
    refine wp_loop_rounds 1 ?_
    rw [rounds_succ]
    go_wp2_with fail
    go_ret
    exact ⟨rfl, rfl⟩

/-- the comparison by code -/
def cfN (x y : Nat × Int) : Int := Lib.compareInt x.1 y.1
theorem lt_N (x y : Nat × Int) : ltOf cfN x y = decide (x.1 < y.1) := by
  unfold ltOf cfN Lib.compareInt
  by_cases h1 : x.1 < y.1
  · have : (x.1 : Int) < y.1 := by omega
    simp [h1]
  · by_cases h2 : y.1 < x.1 <;> simp [h1, h2]
theorem swo_N : SWO (ltOf cfN) where
  irrefl x := by rw [lt_N]; simp
  trans x y z h1 h2 := by rw [lt_N] at *; simp at *; omega
  ntrans x y z h1 h2 := by rw [lt_N] at *; simp at *; omega
theorem cf_split (a b : Nat) : (if Lib.compareInt ((a / 18446744073709551616 : Nat) : Int) ((b / 18446744073709551616 : Nat) : Int) = 0 then Lib.compareInt ((a % 18446744073709551616 : Nat) : Int) ((b % 18446744073709551616 : Nat) : Int) else Lib.compareInt ((a / 18446744073709551616 : Nat) : Int) ((b / 18446744073709551616 : Nat) : Int)) = Lib.compareInt (a : Int) (b : Int) := by
  unfold Lib.compareInt
  split <;> split <;> (try split) <;> (try split) <;> (try split) <;> (try split) <;> omega

set_option maxHeartbeats 4000000 in
theorem closNode (x y : Nat × Int) (W : World) :
    Calls Tryz.prog 237 #[.agg (encN x).toArray, .agg (encN y).toArray] W fun e w' => e = .returned (.int .i64 (cfN x y)) ∧ ∃ q os', w' = grow (W.drewN q) os' := by
  obtain ⟨x0, x1, x2, ex⟩ : ∃ x0 x1 x2 : Int, x0 = ((x.1 / 18446744073709551616 : Nat) : Int) ∧ x1 = ((x.1 % 18446744073709551616 : Nat) : Int) ∧ x2 = x.2 := ⟨_, _, _, rfl, rfl, rfl⟩
  obtain ⟨y0, y1, y2, ey⟩ : ∃ y0 y1 y2 : Int, y0 = ((y.1 / 18446744073709551616 : Nat) : Int) ∧ y1 = ((y.1 % 18446744073709551616 : Nat) : Int) ∧ y2 = y.2 := ⟨_, _, _, rfl, rfl, rfl⟩
  have e : cfN x y = if Lib.compareInt x0 y0 = 0 then Lib.compareInt x1 y1 else Lib.compareInt x0 y0 := by rw [ex.1, ex.2.1, ey.1, ey.2.1, cf_split]; rfl
  have fx : (encN x).toArray = #[.int .i64 x0, .int .u64 x1, .int .i64 x2] := by rw [ex.1, ex.2.1, ex.2.2]; rfl
  have fy : (encN y).toArray = #[.int .i64 y0, .int .u64 y1, .int .i64 y2] := by rw [ey.1, ey.2.1, ey.2.2]; rfl
  rw [e, fx, fy]
  have K1 := fun W' => Tryz.cmp_Compare_int x0 y0 W'
  have K2 := fun W' => compare_u64 x1 y1 W'
  generalize Lib.compareInt x0 y0 = r at K1 ⊢
  generalize Lib.compareInt x1 y1 = s at K2 ⊢
  have KT := fun (g : Nat) (w : World) (h1 : w.cell? ⟨g, 0, none⟩ = some (.int .i64 r)) (h2 : w.cell? ⟨g, 1, none⟩ = some (.int .i64 s)) => or_two h1 h2
  generalize (if r = 0 then s else r) = t at KT ⊢
  have HT := Lib.hid KT
  clear KT
  obtain ⟨G, hG⟩ : ∃ G, W.heap.size = G := ⟨_, rfl⟩
  obtain ⟨V, hV⟩ : ∃ V, (W.alloc (.cells #[.int .i64 x0, .int .u64 x1, .int .i64 x2] 307)).alloc (.cells #[.int .i64 y0, .int .u64 y1, .int .i64 y2] 307) = V := ⟨_, rfl⟩
  have a0 : V.heap[G]? = some (.cells #[.int .i64 x0, .int .u64 x1, .int .i64 x2] 307 (0, 0)) := by
    rw [← hV, heap_alloc_old _ _ (by simp; omega), ← hG]
    exact heap_alloc_new W _
  have a1 : V.heap[G + 1]? = some (.cells #[.int .i64 y0, .int .u64 y1, .int .i64 y2] 307 (0, 0)) := by
    have := heap_alloc_new (W.alloc (.cells #[.int .i64 x0, .int .u64 x1, .int .i64 x2] 307)) (.cells #[.int .i64 y0, .int .u64 y1, .int .i64 y2] 307)
    rw [World.size_alloc, hG, hV] at this
    exact this
  have c0 : V.cell? ⟨G, 0, none⟩ = some (.int .i64 x0) := by rw [cell_of_row _ _ _ _ _ _ a0]; rfl
  have c1 : V.cell? ⟨G, 1, none⟩ = some (.int .u64 x1) := by rw [cell_of_row _ _ _ _ _ _ a0]; rfl
  have d0 : V.cell? ⟨G + 1, 0, none⟩ = some (.int .i64 y0) := by rw [cell_of_row _ _ _ _ _ _ a1]; rfl
  have d1 : V.cell? ⟨G + 1, 1, none⟩ = some (.int .u64 y1) := by rw [cell_of_row _ _ _ _ _ _ a1]; rfl
  have hVg : ∃ os, V = grow W os := ⟨_, by rw [← hV, alloc_eq_grow, alloc_eq_grow, grow_grow]⟩
  clear a0 a1 ex ey e fx fy
  go_enter Tryz.func237, Tryz.ntmps237
  go_wp2_with fail
  clear hV
  refine wp_region_mix (fun Z => Z.cell? ⟨G, 0, none⟩ = some (.int .i64 x0) ∧ Z.cell? ⟨G, 1, none⟩ = some (.int .u64 x1) ∧ Z.cell? ⟨G + 1, 0, none⟩ = some (.int .i64 y0) ∧ Z.cell? ⟨G + 1, 1, none⟩ = some (.int .u64 y1)) 13 [(true, 0), (true, 1), (true, 2), (true, 3), (true, 5), (true, 6), (true, 7), (true, 8), (false, 4), (false, 9), (false, 10), (false, 11), (false, 12)] (by kernel_rfl) (by decide +kernel) rfl (by decide +kernel) ⟨c0, c1, d0, d1⟩ ?_
  iterate 8
    refine wpMix_take (v := ?_) rfl rfl ?_ ?_
    rotate_left
    · (intro W hW; (try dsimp only at hW); go_simp) <;> with_reducible rfl
    simp only [Act.put, List.setIfInBounds_toArray, List.set_cons_zero, List.set_cons_succ]
  refine wpMix_run rfl ?_
  intro K hK
  go_wp2_with fail
  refine (K1 _).mono ?_
  rintro e w1 ⟨rfl, rfl⟩
  go_wp2_with fail
  refine hK.out _ _ (fun _ => ⟨c0, c1, d0, d1⟩) ?_
  clear hK K
  refine wpMix_run rfl ?_
  intro K hK
  go_wp2_with fail
  refine (K2 _).mono ?_
  rintro e w1 ⟨rfl, rfl⟩
  go_wp2_with fail
  refine hK.out _ _ (fun _ => ⟨c0, c1, d0, d1⟩) ?_
  clear hK K K1 K2
  refine wpMix_run rfl ?_
  intro K hK
  go_wp2_with fail
  have hb := (Below.refl V.heap.size V).alloc (Nat.le_refl _) (.cells #[.int .i64 r, .int .i64 s] 3)
  have S2 : (V.alloc (.cells #[.int .i64 r, .int .i64 s] 3)).cell? ⟨G, 0, none⟩ = some (.int .i64 x0) ∧ (V.alloc (.cells #[.int .i64 r, .int .i64 s] 3)).cell? ⟨G, 1, none⟩ = some (.int .u64 x1) ∧
      (V.alloc (.cells #[.int .i64 r, .int .i64 s] 3)).cell? ⟨G + 1, 0, none⟩ = some (.int .i64 y0) ∧ (V.alloc (.cells #[.int .i64 r, .int .i64 s] 3)).cell? ⟨G + 1, 1, none⟩ = some (.int .u64 y1) :=
    ⟨(hb.cell (World.block_lt_of_cell? _ _ c0)).trans c0, (hb.cell (World.block_lt_of_cell? _ _ c1)).trans c1, (hb.cell (World.block_lt_of_cell? _ _ d0)).trans d0, (hb.cell (World.block_lt_of_cell? _ _ d1)).trans d1⟩
  have n0 : (V.alloc (.cells #[.int .i64 r, .int .i64 s] 3)).cell? ⟨V.heap.size, 0, none⟩ = some (.int .i64 r) := by rw [cell_of_row _ _ _ _ _ _ (heap_alloc_new V _)]; rfl
  have n1 : (V.alloc (.cells #[.int .i64 r, .int .i64 s] 3)).cell? ⟨V.heap.size, 1, none⟩ = some (.int .i64 s) := by rw [cell_of_row _ _ _ _ _ _ (heap_alloc_new V _)]; rfl
  have KO := HT.out _ (V.alloc (.cells #[.int .i64 r, .int .i64 s] 3)).drew n0 n1
  clear HT
  have FIN : Hid (∃ q os', (V.alloc (.cells #[.int .i64 r, .int .i64 s] 3)).drew = grow (W.drewN q) os') := by
    obtain ⟨os, rfl⟩ := hVg
    exact ⟨1, _, by rw [alloc_eq_grow, grow_grow]; rfl⟩
  refine hK.out _ _ (fun _ => S2) ?_
  clear hK K hb c0 c1 d0 d1 n0 n1 hVg
  refine wpMix_run rfl ?_
  intro K hK
  go_wp2_with fail
  refine KO.mono ?_
  rintro e w1 ⟨rfl, rfl⟩
  go_wp2_with fail
  refine hK.out _ _ (fun _ => S2) ?_
  clear hK K KO
  refine wpMix_run rfl ?_
  intro K hK
  go_wp2_with fail
  refine hK.out _ _ (fun _ => S2) ?_
  clear hK K S2
  refine wpMix_nil ?_
  go_wp2_with fail
  go_ret
  exact ⟨rfl, FIN.out⟩
end Go.Proofs.YtlhpbfjelgmkeaaGreat.Dig
/- Sorting nodes, a node more in a row, a loop over the digest's map. Conditions: none. -/
set_option maxRecDepth 100000
namespace Go.Proofs.YtlhpbfjelgmkeaaGreat.Dig
open Go.RowKit Go.Maps Go.Sort Go.Shelf

/-- two lists that rise and have the same counters are one -/
theorem dasc_eq : ∀ {L L' : DL}, DAsc L → DAsc L' → (∀ p, p ∈ L ↔ p ∈ L') → L = L'
  | [], [], _, _, _ => rfl
  | [], q :: r, _, _, h => absurd ((h q).2 (List.mem_cons_self ..)) (by simp)
  | p :: r, [], _, _, h => absurd ((h p).1 (List.mem_cons_self ..)) (by simp)
  | p :: r, q :: s, hA, hB, h => by
    have h1 := dasc_head hA
    have h2 := dasc_head hB
    have e : p = q := by
      rcases List.mem_cons.1 ((h p).1 (List.mem_cons_self ..)) with e | e
      · exact e
      · rcases List.mem_cons.1 ((h q).2 (List.mem_cons_self ..)) with e' | e'
        · exact e'.symm
        · have := h2 p e
          have := h1 q e'
          omega
    subst e
    have := dasc_eq (L := r) (L' := s) (dasc_tail hA) (dasc_tail hB) fun x => by
      constructor
      · intro hx
        rcases List.mem_cons.1 ((h x).1 (List.mem_cons_of_mem _ hx)) with e | e
        · subst e; exact absurd (h1 _ hx) (by omega)
        · exact e
      · intro hx
        rcases List.mem_cons.1 ((h x).2 (List.mem_cons_of_mem _ hx)) with e | e
        · subst e; exact absurd (h2 _ hx) (by omega)
        · exact e
    rw [this]

theorem sort_nodes {w : World} {g c : Nat} {xs L : DL} (hR : RowN w g xs) (hA : DAsc L) (hn : xs.Nodup) (hm : ∀ p, p ∈ xs ↔ p ∈ L) (hl : xs.length ≤ 1000000) :
    Calls Tryz.prog 236 #[.slice (some ⟨g, 0, none⟩) xs.length c, .func (.func 237) #[] #[]] w fun e w' =>
      e = .returned (.tuple #[]) ∧ RowN w' g L ∧ w.grownBy w' (some g) ∧ L.length = xs.length := by
  have eg : ∀ args w, (callFunc 237 args).run Tryz.prog w = .ok (.enter 237 args) w := enters_of Tryz.func237 (by kernel_rfl) rfl
  have hC : CmpLays Tryz.prog 237 #[] encN 3 cfN g 0 xs.toArray.size w := fun m os dk _ x y => by
    have := closNode x y (sortWorldK encN 3 w g 0 m dk os)
    simpa [encN] using this
  have h := AnyQ.slices_SortFunc Tryz.sortNode 3 Tryz.isAgg307 Tryz.sizeOf307 encN encN_len encN_one cfN swo_N 237 #[] g 0 c xs.toArray w eg hC hR.1 hR.2 (by simp; omega)
  have e0 : xs.toArray.size = xs.length := by simp
  rw [e0] at h
  refine h.mono ?_
  rintro e w' ⟨rfl, d', n, os, hp, hs, hw⟩
  have hd : d'.size = xs.length := by rw [hp.1, e0]
  have hperm : d'.toList.Perm xs := by
    have := hp.2.2
    rw [← hd] at this
    simp only [Array.extract_size] at this
    rw [hd] at this
    have e1 : xs.toArray.extract 0 xs.length = xs.toArray := by rw [← e0]; simp
    rw [e1] at this
    exact this
  have hasc : DAsc d'.toList := by
    refine List.pairwise_iff_getElem.2 fun i j hi hj hij => ?_
    have h1 := hs i j (Nat.zero_le _) hij (by simp at hj; omega)
    have e1 : d'[i]! = d'.toList[i] := by rw [getElem!_pos d' i (by simpa using hi)]; simp
    have e2 : d'[j]! = d'.toList[j] := by rw [getElem!_pos d' j (by simpa using hj)]; simp
    rw [e1, e2, lt_N] at h1
    simp at h1
    have hnd : d'.toList.Nodup := hperm.nodup_iff.2 hn
    have hne : d'.toList[i] ≠ d'.toList[j] := fun e => by
      have := (List.nodup_iff_pairwise_ne.1 hnd)
      exact List.pairwise_iff_getElem.1 this i j hi hj hij e
    have m1 : d'.toList[i] ∈ L := (hm _).1 (hperm.mem_iff.1 (List.getElem_mem hi))
    have m2 : d'.toList[j] ∈ L := (hm _).1 (hperm.mem_iff.1 (List.getElem_mem hj))
    rcases Nat.lt_or_eq_of_le h1 with g1 | g1
    · simpa using g1
    · exfalso
      apply hne
      have c1 := dcnt_mem hA (id := (d'.toList[i]).1) (c := (d'.toList[i]).2) m1
      have c2 := dcnt_mem hA (id := (d'.toList[j]).1) (c := (d'.toList[j]).2) m2
      refine Prod.ext (by simpa using g1) ?_
      rw [← c1, ← c2]
      congr 1
  have heq : d'.toList = L := dasc_eq hasc hA fun p => by rw [hperm.mem_iff, hm]
  have hlen : L.length = xs.length := by rw [← heq]; simpa using hd
  have hSW : SWK encN 3 w g 0 L.toArray w' := ⟨n, os, by rw [hw, ← heq]⟩
  obtain ⟨r1, r2⟩ := rowN_of_swk hR hSW hlen
  exact ⟨rfl, r1, r2, hlen⟩

theorem info_node : (Tryz.prog.info? 307).map (fun i => (i.zero, i.size, i.bytes)) = some (some (.agg #[.int .i64 0, .int .u64 0, .int .i64 0]), 3, 24) := by kernel_rfl
/-- a node more, behind a row of the call's own -/
theorem app_node {w : World} {B : Nat} {v : Value} {xs : DL} (hown : w.ownsRow B 307 3 v xs.length (flatN xs)) (hB : B ≤ w.heap.size) (hv : v ≠ .slice none 0 0) (id : Nat) (a u c : Int)
    (ha : a = ((id / 18446744073709551616 : Nat) : Int)) (hu : u = ((id % 18446744073709551616 : Nat) : Int)) (hl : xs.length ≤ 1000000) :
    ∃ v' w', (∀ ty, (Builtin.append_ #[304, 304] ty #[v, .slice (some ⟨w.heap.size, 0, none⟩) 1 1]).run Tryz.prog (w.alloc (.cells #[.int .i64 a, .int .u64 u, .int .i64 c] 307)) = .ok v' w') ∧
      w'.ownsRow B 307 3 v' (xs ++ [(id, c)]).length (flatN (xs ++ [(id, c)])) ∧ w.grownBy w' v.ownBlock ∧ v' ≠ .slice none 0 0 := by
  obtain ⟨i, hi, hz0, hz1, hz2⟩ := info_parts info_node
  have hown' : (w.alloc (.cells #[.int .i64 a, .int .u64 u, .int .i64 c] 307)).ownsRow B 307 3 v xs.length (flatN xs) := hown.alloc _
  obtain ⟨v', w', hr, h2, h3, h4⟩ := run_append_own (P := Tryz.prog) (w := w.alloc (.cells #[.int .i64 a, .int .u64 u, .int .i64 c] 307)) B 304 0 307 i (.agg #[.int .i64 0, .int .u64 0, .int .i64 0]) 3 24 Tryz.underlying304 hi hz0 hz1 hz2 rfl (by omega) v xs.length (flatN xs) hown'
    ⟨w.heap.size, 0, none⟩ 1 1 [.int .i64 a, .int .u64 u, .int .i64 c] rfl (fun j u' hj => by
      rw [Addr.add_at, Nat.zero_add, cell_of_row _ _ _ _ _ _ (heap_alloc_new w _)]
      simpa using hj) (fun u' hu' => by simp at hu'; rcases hu' with rfl | rfl | rfl <;> rfl) (by unfold maxLen; omega) (by omega) (by simp; omega)
  refine ⟨v', w', fun ty => hr, ?_, (World.grownBy_alloc w _ v.ownBlock).andThen h3 (fun j hj => .inr hj), fun e => hv (h4.1 e).1⟩
  rw [flatN_snoc, List.length_append]
  subst ha hu
  exact h2

/-- what the loop over the map has gathered -/
structure GathP (L xs : DL) (left : Lit → Bool) : Prop where
  nodup : xs.Nodup
  sub : ∀ p ∈ xs, p ∈ L
  rest : ∀ p ∈ L, left (kL p.1) = false → p ∈ xs
  not_ : ∀ p ∈ xs, left (kL p.1) = false
theorem GathP.step {L xs : DL} {left : Lit → Bool} (h : GathP L xs left) (hA : DAsc L) (hI : AllIn L) {x : Nat} {c : Int} (hm : (x, c) ∈ L) (hl : left (kL x) = true) : GathP L (xs ++ [(x, c)]) (fun z => left z && !z.sameKey (kL x)) where
  nodup := by
    refine List.nodup_append.2 ⟨h.nodup, by simp, fun a ha b hb => ?_⟩
    simp at hb
    subst hb
    rintro rfl
    have := h.not_ _ ha
    rw [hl] at this; cases this
  sub := fun p hp => by
    rcases List.mem_append.1 hp with hp | hp
    · exact h.sub p hp
    · simp at hp; subst hp; exact hm
  rest := fun p hp hl' => by
    simp only [kL_same (hI p hp) (hI _ hm)] at hl'
    by_cases e : p.1 = x
    · have : p = (x, c) := Prod.ext e (by have h1 := dcnt_mem hA (id := p.1) (c := p.2) hp; have h2 := dcnt_mem hA hm; rw [e, h2] at h1; exact h1.symm)
      subst this; simp
    · simp [e] at hl'
      exact List.mem_append_left _ (h.rest p hp hl')
  not_ := fun p hp => by
    rcases List.mem_append.1 hp with hp | hp
    · simp [h.not_ p hp]
    · simp at hp; subst hp; simp [kL_same (hI _ hm) (hI _ hm)]
theorem has_mapP {L : DL} (hI : AllIn L) {p : Nat × Int} (hp : p ∈ L) : has (mapP L) (kL p.1) = true := by
  show (L.map dent).any (fun q => q.1.sameKey (kL p.1)) = true
  exact List.any_eq_true.2 ⟨dent p, List.mem_map.2 ⟨p, hp, rfl⟩, by show (kL p.1).sameKey (kL p.1) = true; rw [kL_same (hI p hp) (hI p hp)]; simp⟩
theorem GathP.start {L : DL} (hI : AllIn L) : GathP L [] (has (mapP L)) := ⟨List.nodup_nil, (fun p hp => by cases hp), (fun p hp hl => by
  rw [has_mapP hI hp] at hl; cases hl), (fun p hp => by cases hp)⟩
theorem nodup_len {α : Type} [DecidableEq α] : ∀ (xs L : List α), xs.Nodup → (∀ p ∈ xs, p ∈ L) → xs.length ≤ L.length
  | [], _, _, _ => Nat.zero_le _
  | x :: r, L, hn, hs => by
    have hx := hs x (List.mem_cons_self ..)
    have hn' := List.nodup_cons.1 hn
    have := nodup_len r (L.erase x) hn'.2 fun p hp => (List.mem_erase_of_ne (fun e => by subst e; exact hn'.1 hp)).2 (hs p (List.mem_cons_of_mem _ hp))
    rw [List.length_erase_of_mem hx] at this
    have := List.length_pos_of_mem hx
    rw [List.length_cons]; omega
theorem GathP.end {L xs : DL} {left : Lit → Bool} (h : GathP L xs left) (hl : ∀ kl, left kl = false) : ∀ p, p ∈ xs ↔ p ∈ L := fun p => ⟨h.sub p, fun hp => h.rest p hp (hl _)⟩
theorem GathP.len {L xs : DL} {left : Lit → Bool} (h : GathP L xs left) : xs.length ≤ L.length := nodup_len xs L h.nodup h.sub


section
variable {w : World} {ops : Array Oper} {rest : List Oper} {o : Oper} {a : Act} {Q : Exit → Act → World → Prop}
/-- one more of the map's places comes -/
theorem wpList_next_places {L : DL} (hI : AllIn L) (hg : o.guard = none) (it : Operand) (hop : o.op = Op.next it false) (b r n : Nat) (left : Lit → Bool) (cnt : Nat)
    (hit : a.eval it = .pointer (some ⟨r, 0, none⟩)) (h : w.ranges Tryz.prog 310 (plainElem Tryz.prog 3) b r n (mapP L) left cnt)
    (hDone : cnt = 0 → (∀ kl, left kl = false) → wpList Tryz.prog ops Q rest (a.put o.dst (.tuple #[.bool false])) w)
    (hMore : ∀ (id : Nat) (c : Int) (w' : World) (cnt' : Nat), (id, c) ∈ L → left (kL id) = true → w'.ranges Tryz.prog 310 (plainElem Tryz.prog 3) b r n (mapP L) (fun z => left z && !z.sameKey (kL id)) cnt' → cnt' < cnt →
      w.grownBy w' (some r) → w'.heap.size = w.heap.size → (Instr.entry (.pointer (some ⟨r, 0, none⟩))).run Tryz.prog w' = .ok (.tuple #[kV id, .int .i64 c]) w' → wpList Tryz.prog ops Q rest (a.put o.dst (.tuple #[.bool true, kV id, .int .i64 c])) w') :
    wpList Tryz.prog ops Q (o :: rest) a w := by
  refine wpList_next_ranges w hg it hop 310 KP (plainElem Tryz.prog 3) (fun v : Value => v) (Value.int .i64) (fun key kl _ => ⟨key, rfl⟩) (fun v y hv => by obtain ⟨c, rfl, _⟩ := plainElem_int_inv Tryz.underlying3 hv; exact ⟨c, rfl⟩)
    b r n (mapP L) left cnt hit h hDone ?_
  intro x c kl y w' cnt' hkey hlk hv hat hrg hlt hgr hsz hen
  obtain ⟨c', ec, hy, _⟩ := plainElem_int_inv Tryz.underlying3 hv
  cases ec
  obtain ⟨p, hp, ep, e2⟩ : ∃ p ∈ L, kL p.1 = kl ∧ y.1 = .lit (.int .i64 p.2) := by
    have h1 := hat .nil
    unfold mapP DataW.atKey at h1
    simp only at h1
    obtain ⟨bs, rfl⟩ := KLaw.str hkey
    cases hf : (L.map dent).find? (fun p => p.1.sameKey (.string bs)) with
    | none =>
      rw [hf] at h1
      rw [hy] at h1
      simp at h1
    | some q =>
      rw [hf] at h1
      have g1 := List.find?_some hf
      obtain ⟨p, hp, rfl⟩ := List.mem_map.1 (List.mem_of_find?_eq_some hf)
      refine ⟨p, hp, ?_, by simpa [dent] using h1.symm⟩
      have g2 : (plB (pk p.1) == bs) = true := g1
      show Lit.string (plB (pk p.1)) = _
      rw [eq_of_beq g2]
  have ex : x = kV p.1 := KP.inj hkey (by rw [← ep]; exact kV_key (hI p hp))
  have ec : c = p.2 := by
    rw [hy] at e2
    simpa using e2
  subst ep ex ec
  exact hMore p.1 p.2 w' cnt' hp hlk hrg hlt hgr hsz hen
end
end Go.Proofs.YtlhpbfjelgmkeaaGreat.Dig
/- slices.Sort at []uint64: the row holds its numbers in another order. Conditions: none but the row. -/
set_option maxRecDepth 1000000
namespace Go.Proofs.YtlhpbfjelgmkeaaGreat.Dig
open Go.Shelf Go.RowKit Go.Lib Go.Sort

theorem pdq_w (blk off cap : Nat) (d0 : Array UInt64) (w0 : World) (R : RowW w0 blk off d0) (hsz : d0.size < 1152921504606846976) :
    ∀ (n a b : Nat) (l : Int) (W : World), b - a ≤ n → a ≤ b → b ≤ d0.size → Srt w0 blk off d0 W → Calls Tryz.prog 260 #[.slice (some ⟨blk, off, none⟩) d0.size cap, .int .i64 a, .int .i64 b, .int .i64 l] W fun e w' => e = .returned (.tuple #[]) ∧ Srt w0 blk off d0 w'
  | 0, a, b, l, W, hn, hab, hb, S => pdq_step blk off cap 0 a b l d0 w0 W R S hn hab hb hsz (fun a b l W h => absurd h (Nat.not_lt_zero _))
  | n + 1, a, b, l, W, hn, hab, hb, S => pdq_step blk off cap (n + 1) a b l d0 w0 W R S hn hab hb hsz (fun a b l W h h1 h2 h3 => pdq_w blk off cap d0 w0 R hsz n a b l W (by omega) h1 h2 h3)

theorem len_w (n : Nat) (hn : n < 4611686018427387904) (W : World) : Calls Tryz.prog 114 #[.int .u64 (n : Int)] W fun e w' => (∃ l : Int, e = .returned (.int .i64 l)) ∧ w' = W := by
  have L : SlLaysF0.n15 Tryz.prog Tryz.sortNode_ren := { Tryz.sortNode with }
  have h := Any.bits_Len (SlLaysF0.n15.bits L) (n : Int) W (by omega) (by omega)
  exact h.mono fun e w' ⟨h1, h2⟩ => ⟨⟨_, h1⟩, h2⟩

set_option maxHeartbeats 4000000 in
theorem sort_w (blk off cap : Nat) (d0 : Array UInt64) (w : World) (R : RowW w blk off d0) (hsz : d0.size < 1152921504606846976) :
    Calls Tryz.prog 254 #[.slice (some ⟨blk, off, none⟩) d0.size cap] w fun e w' => e = .returned (.tuple #[]) ∧ Srt w blk off d0 w' := by
  obtain ⟨n, hn⟩ : ∃ n, d0.size = n := ⟨_, rfl⟩
  have K1 := len_w n (by omega) w
  have KP := Lib.hid (fun (l : Int) => pdq_w blk off cap d0 w R hsz n 0 n l w (by omega) (by omega) (by omega) ⟨d0, SWK.start R.hH, permIn_refl d0 0 _⟩)
  rw [hn] at KP ⊢
  have wn : IntKind.u64.wrap (n : Int) = (n : Int) := by rw [IntKind.wrap_u64]; omega
  clear R
  go_enter Tryz.func254, Tryz.ntmps254
  go_wp2_with fail
  refine K1.mono ?_
  rintro e w' ⟨⟨l, rfl⟩, rfl⟩
  have K2 := KP.out l
  clear K1 KP
  go_wp2_with fail
  refine K2.mono ?_
  rintro e w1 ⟨rfl, S1⟩
  have S2 : Aside (Srt w' blk off d0 w1) := S1
  clear K2 S1
  go_wp2_with fail
  go_end0
  exact ⟨rfl, S2.out⟩
#print axioms sort_w

theorem encW_len (x : UInt64) : (encW x).length = 1 := rfl
theorem encW_one (x : UInt64) : ∀ v ∈ encW x, v.oneCell' = true := fun v hv => by
  unfold encW at hv
  rw [List.mem_singleton] at hv
  subst hv
  rfl
/-- a row of the heap that holds numbers -/
def RowU (w : World) (g : Nat) (l : List UInt64) : Prop := ∀ j, j < l.length → w.cell? ⟨g, j, none⟩ = some (.int .u64 ((l[j]!).toNat : Int)) ∧ w.frozen? ⟨g, j, none⟩ = false
theorem rowU_holds {w : World} {g : Nat} {l : List UInt64} (h : RowU w g l) : HoldsK encW 1 w g 0 l.toArray := by
  intro j hj
  rw [size_flatK] at hj
  have hj' : j < l.length := by simpa using hj
  have h1 := h j hj'
  refine ⟨?_, by simpa using h1.2⟩
  have e : (encW l.toArray[j / 1]!)[j % 1]! = .int .u64 ((l[j]!).toNat : Int) := by
    rw [Nat.div_one, Nat.mod_one]
    simp [encW, hj']
  rw [get_flatK _ _ _ _ hj, e]
  simpa using h1.1
theorem holds_rowU {w : World} {g : Nat} {d : Array UInt64} (h : HoldsK encW 1 w g 0 d) : RowU w g d.toList := by
  intro j hj
  have hj' : j < d.size := by simpa using hj
  obtain ⟨a0, b0⟩ := h.cell hj' (c := 0) (by omega)
  refine ⟨?_, by simpa [Nat.mul_one] using b0⟩
  simpa [Nat.mul_one, encW, hj'] using a0
theorem sort_words {w : World} {g c : Nat} {l : List UInt64} (h : RowU w g l) (hg : g < w.heap.size) (hl : l.length < 1152921504606846976) :
    Calls Tryz.prog 254 #[.slice (some ⟨g, 0, none⟩) l.length c] w fun e w' => e = .returned (.tuple #[]) ∧ ∃ l' : List UInt64, l'.Perm l ∧ RowU w' g l' ∧ g < w'.heap.size ∧ w.grownBy w' (some g) := by
  have R : RowW w g 0 l.toArray := ⟨encW_len, encW_one, rowU_holds h, hg⟩
  have K := sort_w g 0 c l.toArray w R (by simpa using hl)
  rw [show l.toArray.size = l.length by simp] at K
  refine K.mono ?_
  rintro e w' ⟨rfl, dk, hS, hP⟩
  refine ⟨rfl, dk.toList, ?_, holds_rowU (hS.holds hg R.hH hP.1), hS.lt hg, ?_⟩
  · have := hP.2.2
    rw [show dk.extract 0 l.toArray.size = dk by rw [← hP.1]; simp, show l.toArray.extract 0 l.toArray.size = l.toArray by simp] at this
    simpa using this
  · obtain ⟨n, os, rfl⟩ := hS
    refine ⟨rfl, rfl, rfl, by unfold sortWorldK; rw [size_grow, size_putRowK]; exact Nat.le_add_right _ _, fun k hk hne => ?_⟩
    unfold sortWorldK
    rw [heap_grow_old _ _ (by rw [size_putRowK]; exact hk)]
    have : g ≠ k := fun e => hne (by rw [e])
    simp [putRowK, putRow, mapBlock, Sort.ahead, Array.getElem?_modify, this]
end Go.Proofs.YtlhpbfjelgmkeaaGreat.Dig
/- Contract of digest's prefixes: the prefixes of a level's nodes, in some order, in memory of the call's own. Conditions: a digest that was made. -/
set_option maxRecDepth 100000
namespace Go.Proofs.YtlhpbfjelgmkeaaGreat.Dig
open Go.RowKit Go.Maps Go.Sort Go.Shelf

/-- the prefixes of level lv's nodes -/
def preL (lv : Int) (xs : DL) : List UInt64 := (xs.filter fun p => decide (((p.1 / 18446744073709551616 : Nat) : Int) = lv)).map fun p => UInt64.ofNat (p.1 % 18446744073709551616)
theorem preL_snoc (lv : Int) (xs : DL) (id : Nat) (y : Int) : preL lv (xs ++ [(id, y)]) = preL lv xs ++ (if ((id / 18446744073709551616 : Nat) : Int) = lv then [UInt64.ofNat (id % 18446744073709551616)] else []) := by
  unfold preL
  rw [List.filter_append, List.map_append]
  congr 1
  by_cases h : ((id / 18446744073709551616 : Nat) : Int) = lv
  · rw [if_pos h, List.filter_cons_of_pos (by simpa using h)]
    rfl
  · rw [if_neg h, List.filter_cons_of_neg (by simpa using h)]
    rfl
theorem preL_len (lv : Int) (xs : DL) : (preL lv xs).length ≤ xs.length := by
  unfold preL
  rw [List.length_map]
  exact List.length_filter_le _ _
theorem word_of (id : Nat) : ((UInt64.ofNat (id % 18446744073709551616)).toNat : Int) = ((id % 18446744073709551616 : Nat) : Int) := by
  simp
theorem rowU_of_owns {w : World} {B g c : Nat} {l : List UInt64} (h : w.ownsRow B 43 1 (.slice (some ⟨g, 0, none⟩) l.length c) l.length (u64s l)) : RowU w g l := by
  have hc := h.cells (g := g) rfl
  have hf : ∀ o, w.frozen? ⟨g, o, none⟩ = false := fun o => by
    rcases h.2 with ⟨e, _⟩ | ⟨g', cap, cur, e, _, hg, _⟩
    · simp at e
    · simp at e
      obtain ⟨rfl, _⟩ := e
      exact free_of_row hg o
  intro j hj
  refine ⟨?_, hf j⟩
  have := hc j (.int .u64 ((l[j]!).toNat : Int)) (by unfold u64s; rw [List.getElem?_map, List.getElem?_eq_getElem hj]; simp [hj])
  rw [Addr.add_at, Nat.zero_add] at this
  exact this

set_option maxHeartbeats 4000000 in
/-- sorting nothing -/
theorem sort_nilW (w : World) : Calls Tryz.prog 254 #[.slice none 0 0] w fun e w' => e = .returned (.tuple #[]) ∧ w' = w := by
  have K1 := len_w 0 (by omega) w
  have KI : ∀ W : World, Calls Tryz.prog 262 #[.slice none 0 0, .int .i64 0, .int .i64 0] W fun e w' => e = .returned (.tuple #[]) ∧ w' = W := fun W => by
    go_enter Tryz.func262, Tryz.ntmps262
    go_wp2
    go_loopg [6] 0 (fun kx si wr => si = .int .i64 1 ∧ wr = W)
    case atStart => exact ⟨rfl, rfl⟩
    case round =>
      obtain ⟨rfl, rfl⟩ := hrel
      go_wp2
      go_end0
      exact ⟨rfl, rfl⟩
  have KP : ∀ (l : Int) (W : World), Calls Tryz.prog 260 #[.slice none 0 0, .int .i64 0, .int .i64 0, .int .i64 l] W fun e w' => e = .returned (.tuple #[]) ∧ w' = W := fun l W => by
    have K := KI W
    go_enter Tryz.func260, Tryz.ntmps260
    go_wp2_with fail
    go_loopg [1, 2, 3, 8, 9] 0 (fun kx sa sb sl s8 s9 wr => sa = .int .i64 0 ∧ sb = .int .i64 0 ∧ wr = W)
    case atStart => exact ⟨rfl, rfl, rfl⟩
    case round =>
      obtain ⟨rfl, rfl, rfl⟩ := hrel
      go_wp2_with fail
      refine K.mono ?_
      rintro e w' ⟨rfl, rfl⟩
      clear K
      go_wp2_with fail
      refine bodyPost_ret (results_none rfl _ _ _) rfl ?_
      exact ⟨rfl, rfl⟩
  go_enter Tryz.func254, Tryz.ntmps254
  go_wp2_with fail
  refine K1.mono ?_
  rintro e w' ⟨⟨l, rfl⟩, rfl⟩
  have K2 := KP l w'
  clear K1 KP KI
  go_wp2_with fail
  refine K2.mono ?_
  rintro e w1 ⟨rfl, rfl⟩
  clear K2
  go_wp2_with fail
  go_end0
  exact ⟨rfl, rfl⟩

theorem infoW64 : (Tryz.prog.info? 43).map (fun i => (i.zero, i.size, i.bytes)) = some (some (.int .u64 0), 1, 8) := by kernel_rfl

/-- the prefixes of level lv's nodes, in memory of the call's own -/
def PrefAt (w : World) (L : DL) (lv : Int) (e : Ending) (w' : World) : Prop :=
  ∃ (xs : DL) (us : List UInt64), (∀ p, p ∈ xs ↔ p ∈ L) ∧ xs.Nodup ∧ us.Perm (preL lv xs) ∧ Below w.heap.size w w' ∧
    ((us = [] ∧ e = .returned (.slice none 0 0)) ∨ ∃ g c, e = .returned (.slice (some ⟨g, 0, none⟩) us.length c) ∧ us.length ≤ c ∧ w.heap.size ≤ g ∧ g < w'.heap.size ∧ RowU w' g us)

set_option maxHeartbeats 4000000 in
theorem prefixes_at {w : World} {p b : Nat} {L : DL} (lv : Int) (c2 : w.cell? ⟨p, 2, none⟩ = some (.map (some b))) (hM : PAt w b L) (hl : L.length ≤ 100000) :
    Calls Tryz.prog 244 #[.pointer (some ⟨p, 0, none⟩), .int .i64 lv] w (PrefAt w L lv) := by
  have hb := hM.lt
  have HM := Lib.hid hM
  have HL := Lib.hid hl
  have hown : w.ownsMap Tryz.prog 310 (plainElem Tryz.prog 3) b L.length (mapP L) := hM.own
  clear hM hl
  go_enter Tryz.func244, Tryz.ntmps244
  go_wp2_with (first
    | (at_range; refine wpList_range_own _ rfl _ 198 rfl 310 3 KP Tryz.underlying198 (plainElem Tryz.prog 3) b L.length _ rfl hown ?_; intro w1 hrg1 hg1 hs1)
    | fail)
  go_frame
  obtain ⟨r, hr⟩ : ∃ r, w.heap.size = r := ⟨_, rfl⟩
  rw [hr] at hrg1 ⊢
  have B1 : Hid (Below w.heap.size w w1) := (Below.refl _ w).grown hg1 (Nat.le_refl _) (fun j hj => by cases hj)
  have O1 : w1.ownsRow w.heap.size 43 1 (.slice none 0 0) (preL lv []).length (u64s (preL lv [])) := World.ownsRow_nil _ _ _ _
  have HG0 := Lib.hid (GathP.start HM.out.allIn)
  have HR := Lib.hid hr
  have HX := Lib.hid (And.intro hrg1 O1)
  clear hr hg1 hs1 hrg1 O1 hown c2
  go_loopw [5] (fun v wr => ∃ (left : Lit → Bool) (cn : Nat) (xs : DL) (vv : Value), v = vv ∧ Hid (wr.ranges Tryz.prog 310 (plainElem Tryz.prog 3) b r L.length (mapP L) left cn) ∧ Hid (wr.ownsRow w.heap.size 43 1 vv (preL lv xs).length (u64s (preL lv xs))) ∧ Hid (Below w.heap.size w wr) ∧ Hid (GathP L xs left))
    (fun _ wr => wr.rangeLeft b r)
  case atStart => exact ⟨_, _, [], _, rfl, HX.out.1, HX.out.2, B1, HG0⟩
  case round =>
    clear HX B1 HG0
    obtain ⟨left, cn, xs, vv, rfl, Hrg, Hown, HB, HG⟩ := hrel
    have hrg := Hrg.out
    go_wp2_with (first
      | (at_next; refine wpList_next_places HM.out.allIn rfl _ rfl b r L.length _ _ rfl hrg ?_ ?_)
      | fail)
    · intro _ hl0
      have HE0 := Lib.hid (HG.out.end hl0)
      rcases Hown.out.2 with ⟨e, hx⟩ | ⟨g, cap, cur, e, _, _, hcl, _⟩
      · have K := sort_nilW wr
        have hu : preL lv xs = [] := by simpa [u64s] using hx
        have HU := Lib.hid hu
        clear hl0 hrg hx hu
        subst e
        go_wp2_with fail
        refine K.mono ?_
        rintro e w3 ⟨rfl, rfl⟩
        clear K
        go_wp2_with fail
        go_ret
        exact ⟨xs, [], HE0.out, HG.out.nodup, by rw [HU.out], HB.out, .inl ⟨rfl, rfl⟩⟩
      · subst e
        have hlt := Hown.out.lt g rfl
        have K := sort_words (c := cap) (rowU_of_owns Hown.out) hlt.2 (by have := HG.out.len; have := HL.out; have := preL_len lv xs; omega)
        have HC := Lib.hid (And.intro hcl hlt.1)
        clear hl0 hrg hcl hlt
        go_wp2_with fail
        refine K.mono ?_
        rintro e w3 ⟨rfl, us, hp, hR, hg3, hgr⟩
        have HE : Hid (PrefAt w L lv (.returned (.slice (some ⟨g, 0, none⟩) (preL lv xs).length cap)) w3) := by
          refine ⟨xs, us, HE0.out, HG.out.nodup, hp, HB.out.grown hgr HB.out.size (fun j hj => by cases hj; exact HC.out.2), .inr ⟨g, cap, by rw [hp.length_eq], by rw [hp.length_eq]; exact HC.out.1, HC.out.2, hg3, hR⟩⟩
        clear K hR hgr hp hg3
        go_wp2_with fail
        go_ret
        exact HE.out
    · intro id y w2 cn2 hm hlx hrg2 hlt hg2 hs2 hen
      have G2 := Lib.hid (HG.out.step HM.out.asc HM.out.allIn hm hlx)
      obtain ⟨a, ha⟩ : ∃ a : Int, a = ((id / 18446744073709551616 : Nat) : Int) := ⟨_, rfl⟩
      obtain ⟨u, hu⟩ : ∃ u : Int, u = ((id % 18446744073709551616 : Nat) : Int) := ⟨_, rfl⟩
      have ek : kV id = .agg #[.int .i64 a, .int .u64 u] := by rw [ha, hu]; rfl
      rw [ek] at hen ⊢
      have hne : some r ≠ u5.ownBlock := row_ne_iter Hown.out hrg
      have hown2 : w2.ownsRow w.heap.size 43 1 u5 (preL lv xs).length (u64s (preL lv xs)) := Hown.out.kept hg2 (.inr (fun e => hne e.symm))
      have B2 : Hid (Below w.heap.size w w2) := HB.out.grown hg2 HB.out.size (fun j hj => by cases hj; rw [HR.out]; exact Nat.le_refl _)
      have hownA := hown2.alloc (.cells #[.int .i64 a, .int .u64 u] 310)
      have BA : Hid (Below w.heap.size w (w2.alloc (.cells #[.int .i64 a, .int .u64 u] 310))) := B2.out.alloc B2.out.size _
      have hrgA := hrg2.alloc (.cells #[.int .i64 a, .int .u64 u] 310)
      have hsn := preL_snoc lv xs id y
      rw [← ha] at hsn
      have HLT := Lib.hid (And.intro hlt (And.intro hrgA.left_eq Hrg.out.left_eq))
      by_cases hal : a = lv
      · rw [if_pos hal] at hsn
        have alb : (a == lv) = true := by simpa using hal
        have hownC := hownA.alloc (.cells #[.int .u64 u] 43)
        have BC : Hid (Below w.heap.size w ((w2.alloc (.cells #[.int .i64 a, .int .u64 u] 310)).alloc (.cells #[.int .u64 u] 43))) := BA.out.alloc BA.out.size _
        have hrgC := hrgA.alloc (.cells #[.int .u64 u] 43)
        obtain ⟨W1, hW1⟩ : ∃ W1, w2.alloc (.cells #[.int .i64 a, .int .u64 u] 310) = W1 := ⟨_, rfl⟩
        have hszA : W1.heap.size = wr.heap.size + 1 := by rw [← hW1, World.size_alloc, hs2]
        rw [hW1] at hownC BC hrgC
        have hHold : Holds (W1.alloc (.cells #[.int .u64 u] 43)) (.slice (some ⟨W1.heap.size, 0, none⟩) 1 1) [.int .u64 u] := ⟨_, _, rfl, Nat.le_refl _, .inr ⟨_, rfl, fun j u' hj => by
          rw [Addr.add_at, Nat.zero_add, cell_of_row _ _ _ _ _ _ (heap_alloc_new W1 _)]
          simpa using hj⟩⟩
        obtain ⟨v', w3, hrun, hown3, hgr3, hv3⟩ := app_any (P := Tryz.prog) (t := 208) Tryz.underlying208 infoW64 (Nat.le_refl _) rfl (by rw [u64s_len]; exact hownC) BC.out.size hHold (fun u' hu' => by simp at hu'; subst hu'; rfl) (by rw [u64s_len]; have := HG.out.len; have := HL.out; have := preL_len lv xs; simp; omega)
        rw [hszA] at hrun
        have hE : u64s (preL lv xs) ++ [Value.int .u64 u] = u64s (preL lv (xs ++ [(id, y)])) := by
          rw [hsn, u64s_append]
          congr 1
          show _ = [Value.int .u64 _]
          rw [word_of, hu]
        rw [hE, u64s_len] at hown3
        have hlow : some b ≠ u5.ownBlock := row_ne_low hownC hb
        have RG3 := Lib.hid (hrgC.kept hgr3 hlow (row_ne_iter hownC hrgC))
        have B3 : Hid (Below w.heap.size w w3) := BC.out.grown hgr3 BC.out.size (fun j hj => (hownC.lt j hj).1)
        have O3 := Lib.hid hown3
        have HLT := Lib.hid (And.intro hlt (And.intro RG3.out.left_eq Hrg.out.left_eq))
        have HRUN := Lib.hid hrun
        have HW1 := Lib.hid hW1
        have c0 : W1.cell? ⟨wr.heap.size, 0, none⟩ = some (.int .i64 a) := by rw [← hW1, ← hs2, cell_of_row _ _ _ _ _ _ (heap_alloc_new w2 _)]; rfl
        have c1 : W1.cell? ⟨wr.heap.size, 1, none⟩ = some (.int .u64 u) := by rw [← hW1, ← hs2, cell_of_row _ _ _ _ _ _ (heap_alloc_new w2 _)]; rfl
        subst hal
        clear hm hlx hrg2 hlt hg2 hne hown2 hownA hownC hrgA hrgC hown3 hgr3 hv3 hlow hrg hrun ha hu ek hsn hE hHold
        go_wp2_with (first
          | (at_builtin; refine wpList_append_run rfl _ _ 208 rfl rfl rfl (HRUN.out _) ?_)
          | fail)
        go_roundw
        case rel => exact ⟨_, cn2, xs ++ [(id, y)], _, rfl, RG3, O3, B3, G2⟩
        case measure => rw [HLT.out.2.1, HLT.out.2.2]; exact HLT.out.1
      · rw [if_neg hal, List.append_nil] at hsn
        have alb : (a == lv) = false := by simpa using hal
        have O3 := Lib.hid (hsn ▸ hownA)
        have RG3 := Lib.hid hrgA
        clear hm hlx hrg2 hlt hg2 hne hown2 hownA hrgA hrg ha hu ek hsn
        go_wp2_with fail
        go_roundw
        case rel => exact ⟨_, cn2, xs ++ [(id, y)], _, rfl, RG3, O3, BA, G2⟩
        case measure => rw [HLT.out.2.1, HLT.out.2.2]; exact HLT.out.1
end Go.Proofs.YtlhpbfjelgmkeaaGreat.Dig
