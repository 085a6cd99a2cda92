/- A struct of two numbers as a map's key (digest's place): what it reads as, and the order of such keys. Conditions: none. -/
import Derived.Test.YtahaoodklfmddaaGen
import Derived.DeepKeys4
import Derived.ChangeKeys
import Derived.Maps.OwnSet
import Derived.Maps.RangeWalk
import Derived.Maps.Ext
import Derived.Lib.SlMapFilter
set_option maxRecDepth 100000
namespace Go.Proofs.Ytahaoodklfmddaa
open Go.RowKit Go.Maps Go.Sort

theorem KLaw : WideMaps.KeyLaw Try.prog 67 := deep_law_laid (show laidOutB Try.prog = true by kernel_rfl) (m := 2) (by omega) (of_decide_eq_true (by kernel_rfl)) (by kernel_rfl) (by rw [Try.underlying67])
theorem KP : Keyed Try.prog 67 := Keyed.of_law KLaw

/-! the order of the bytes of numbers -/
theorem before_append : ∀ {a b : List UInt8} (a' b' : List UInt8), a.length = b.length → bytesBefore (a ++ a') (b ++ b') = (bytesBefore a b || (decide (a = b) && bytesBefore a' b'))
  | [], [], _, _, _ => by simp [bytesBefore]
  | x :: a, y :: b, a', b', h => by
    have ih := before_append (a := a) (b := b) a' b' (by simpa using h)
    simp only [List.cons_append, bytesBefore, ih]
    by_cases e : x = y
    · subst e
      simp
    · have e' : (x == y) = false := by simp [e]
      simp [e, e']

theorem be_succ (w n : Nat) : bytesBE (w + 1) n = bytesBE w (n / 256) ++ [UInt8.ofNat (n % 256)] := by simp [bytesBE, bytesLE]

theorem before_be : ∀ (w : Nat) {x y : Nat}, x < 256 ^ w → y < 256 ^ w → bytesBefore (bytesBE w x) (bytesBE w y) = decide (x < y)
  | 0, x, y, hx, hy => by
    simp at hx hy
    subst hx
    subst hy
    rfl
  | w + 1, x, y, hx, hy => by
    have hx' : x / 256 < 256 ^ w := by rw [Nat.pow_succ] at hx; omega
    have hy' : y / 256 < 256 ^ w := by rw [Nat.pow_succ] at hy; omega
    rw [be_succ, be_succ, before_append _ _ (by simp [length_bytesBE]), before_be w hx' hy']
    have e : (bytesBE w (x / 256) = bytesBE w (y / 256)) ↔ x / 256 = y / 256 := ⟨fun h => bytesBE_inj hx' hy' h, fun h => by rw [h]⟩
    have l : (UInt8.ofNat (x % 256) < UInt8.ofNat (y % 256)) ↔ x % 256 < y % 256 := by
      rw [UInt8.lt_iff_toNat_lt]
      simp
    have q : (UInt8.ofNat (x % 256) == UInt8.ofNat (y % 256)) = decide (x % 256 = y % 256) := by
      by_cases h : x % 256 = y % 256
      · simp [h]
      · have : UInt8.ofNat (x % 256) ≠ UInt8.ofNat (y % 256) := fun g => h (by simpa using congrArg UInt8.toNat g)
        simp [h, this]
    rw [Bool.eq_iff_iff]
    simp only [Bool.or_eq_true, Bool.and_eq_true, decide_eq_true_eq, e, bytesBefore, l]
    simp
    omega

/-! a place -/
abbrev PL := Nat × Nat
def PL.lt (p q : PL) : Prop := p.1 < q.1 ∨ p.1 = q.1 ∧ p.2 < q.2
instance (p q : PL) : Decidable (PL.lt p q) := by unfold PL.lt; infer_instance
def PL.In (p : PL) : Prop := p.1 ≤ 64 ∧ p.2 < 18446744073709551616
def plV (p : PL) : Value := .agg #[.int .i64 (p.1 : Int), .int .u64 (p.2 : Int)]
def plB (p : PL) : List UInt8 := bytesBE 8 p.1 ++ bytesBE 8 p.2
def plL (p : PL) : Lit := .string (plB p)

theorem plL_before {p q : PL} (hp : p.In) (hq : q.In) : (plL p).before (plL q) = decide (p.lt q) := by
  have e : (256 : Nat) ^ 8 = 18446744073709551616 := by decide
  have h1 : p.1 < 256 ^ 8 := by have := hp.1; omega
  have h2 : q.1 < 256 ^ 8 := by have := hq.1; omega
  have h3 : p.2 < 256 ^ 8 := by have := hp.2; omega
  have h4 : q.2 < 256 ^ 8 := by have := hq.2; omega
  show bytesBefore (plB p) (plB q) = _
  unfold plB
  rw [before_append _ _ (by simp [length_bytesBE]), before_be 8 h1 h2, before_be 8 h3 h4]
  have e : (bytesBE 8 p.1 = bytesBE 8 q.1) ↔ p.1 = q.1 := ⟨fun h => bytesBE_inj h1 h2 h, fun h => by rw [h]⟩
  rw [Bool.eq_iff_iff, decide_eq_true_eq]
  simp [e, PL.lt]
theorem plL_inj {p q : PL} (hp : p.In) (hq : q.In) (h : plL p = plL q) : p = q := by
  have e : (256 : Nat) ^ 8 = 18446744073709551616 := by decide
  have h1 : p.1 < 256 ^ 8 := by have := hp.1; omega
  have h2 : q.1 < 256 ^ 8 := by have := hq.1; omega
  have h3 : p.2 < 256 ^ 8 := by have := hp.2; omega
  have h4 : q.2 < 256 ^ 8 := by have := hq.2; omega
  unfold plL plB at h
  obtain ⟨g1, g2⟩ := List.append_inj (Lit.string.inj h) (by simp [length_bytesBE])
  exact Prod.ext (bytesBE_inj h1 h2 g1) (bytesBE_inj h3 h4 g2)
theorem keyLits_one {P : Program} {q : IntKind} {t : TypeId} (hu : P.underlying t = some (.int q)) {a : Int} (wa : (Lit.int q a).wf = true) (n : Nat) : P.keyLits (n + 1) t [.int q a] = some [.int q a] := by
  simp [Program.keyLits, hu, wa]
theorem keyLits_two {P : Program} {q r : IntKind} {t ta tb : TypeId} {f g : Field} (ht : P.underlying t = some (.struct #[f, g])) (hf : f.offset = 0 ∧ f.type = ta ∧ (f.name != "_") = true) (hg : g.offset = 1 ∧ g.type = tb ∧ (g.name != "_") = true)
    (ha : P.underlying ta = some (.int q)) (hb : P.underlying tb = some (.int r)) (ca : P.cellsOf ta = 1) (cb : P.cellsOf tb = 1) (ct : P.cellsOf t = 2) {a b : Int} (wa : (Lit.int q a).wf = true) (wb : (Lit.int r b).wf = true) (n : Nat) :
    P.keyLits (n + 1 + 1) t [.int q a, .int r b] = some [.int q a, .int r b] := by
  obtain ⟨f1, f2, f3⟩ := hf
  obtain ⟨g1, g2, g3⟩ := hg
  unfold Program.keyLits
  simp only [ht]
  rw [if_pos ⟨by rw [ct]; rfl, by simp [f3, g3]⟩]
  simp only [List.mapM_cons, List.mapM_nil, f1, f2, g1, g2, ca, cb, List.drop_zero, List.take_succ_cons, List.take_zero, List.drop_succ_cons, keyLits_one ha wa n, keyLits_one hb wb n]
  rfl
theorem keyOf_two {P : Program} {q r : IntKind} {t ta tb : TypeId} {f g : Field} (ht : P.underlying t = some (.struct #[f, g])) (hf : f.offset = 0 ∧ f.type = ta ∧ (f.name != "_") = true) (hg : g.offset = 1 ∧ g.type = tb ∧ (g.name != "_") = true)
    (ha : P.underlying ta = some (.int q)) (hb : P.underlying tb = some (.int r)) (ca : P.cellsOf ta = 1) (cb : P.cellsOf tb = 1) (ct : P.cellsOf t = 2) {a b : Int} (wa : (Lit.int q a).wf = true) (wb : (Lit.int r b).wf = true)
    (hk : P.keyType t = true) {n : Nat} (hsz : P.types.size = n + 1) : keyOf P t (.agg #[.int q a, .int r b]) = some (.string (keyBytes [.int q a, .int r b])) := by
  unfold keyOf
  simp only [ht]
  rw [if_pos (by rw [hk]; simp [Value.formed, ht, ct]), hsz]
  simp only [Value.cells]
  rw [keyLits_two ht hf hg ha hb ca cb ct wa wb n]
  rfl
theorem plV_bytes {p : PL} (hp : p.In) : keyBytes [.int .i64 (p.1 : Int), .int .u64 (p.2 : Int)] = plB p := by
  obtain ⟨h1, h2⟩ := hp
  have e1 : (((p.1 : Nat) : Int) % 2 ^ 64).toNat = p.1 := by omega
  have e2 : (((p.2 : Nat) : Int) % 2 ^ 64).toNat = p.2 := by omega
  show bytesBE 8 (((p.1 : Nat) : Int) % 2 ^ 64).toNat ++ (bytesBE 8 (((p.2 : Nat) : Int) % 2 ^ 64).toNat ++ []) = _
  rw [e1, e2, List.append_nil]
  rfl
theorem plV_key {p : PL} (hp : p.In) : keyOf Try.prog 67 (plV p) = some (plL p) := by
  have wa : (Lit.int .i64 (p.1 : Int)).wf = true := Go.WalkArith.wf_i64 ⟨by omega, by have := hp.1; omega⟩
  have wb : (Lit.int .u64 (p.2 : Int)).wf = true := Go.WalkArith.wf_u64 ⟨by omega, by have := hp.2; omega⟩
  unfold plV
  rw [keyOf_two Try.underlying67 ⟨rfl, rfl, by decide⟩ ⟨rfl, rfl, by decide⟩ Try.underlying3 Try.underlying29 (by kernel_rfl) (by kernel_rfl) (by kernel_rfl) wa wb (by kernel_rfl) (n := Try.prog.types.size - 1) (by kernel_rfl), plV_bytes hp]
  rfl
end Go.Proofs.Ytahaoodklfmddaa
