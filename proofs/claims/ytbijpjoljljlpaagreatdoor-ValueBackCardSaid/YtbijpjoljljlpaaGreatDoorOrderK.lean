/- Contracts of order's read and Parse. Conditions: fewer than 2^48 bytes; the tables and error variables as the program's text lays them. -/
import Derived.Test.YtbijpjoljljlpaaGreatDoorOrderJ
import Derived.Test.YtbijpjoljljlpaaGreatDoorOrderF
set_option maxRecDepth 100000
namespace Go.Proofs.YtbijpjoljljlpaaGreatDoor
open Go.RowKit

/-- what read answers -/
def ReadP (l : List UInt8) (n : Nat) (ok : Bool) : Prop := n < 18446744073709551616 ∧ ((ok = true ∧ ReadsAs l n) ∨ (ok = false ∧ NoFloat l))
def ReadPost (l : List UInt8) (w : World) (e : Ending) (w' : World) : Prop := ∃ n ok, e = .returned (.tuple #[.int .i64 (iw n), .bool ok]) ∧ ReadP l n ok ∧ Below w.heap.size w w'
theorem eq_false {l m : List UInt8} (h : l ≠ m) : (l == m) = false := by rw [beq_eq_false_iff_ne]; exact h
theorem drew_below {w w1 : World} (h : Below w.heap.size w w1) (n : Nat) : Below w.heap.size w (w1.drewN n) := ⟨h.os, h.tape, h.output, h.size, h.block⟩
set_option maxHeartbeats 800000 in
theorem read_any (s : ByteArray) (hmax : s.size ≤ 281474976710656) {w : World} (hv : Vars w) :
    Calls Tryz.prog 36 #[.string s] w (ReadPost s.data.toList w) := by
  have hl := str_list s
  obtain ⟨l, hl2⟩ : ∃ l, s.data.toList = l := ⟨_, rfl⟩
  have K1 := fun w => Tryz.strings_CutPrefix s ⟨#[48, 102]⟩ w
  have hlen : l.length ≤ 281474976710656 := by rw [← hl2, ← Lib.size_eq]; exact hmax
  rw [hl2] at hl K1 ⊢
  clear hl2 hmax
  by_cases n1 : l = [78, 65, 78]
  · have t1 : (l == [78, 65, 78]) = true := by rw [n1]; rfl
    have HR : Hid (ReadP l 9221120237041090560 true) := Lib.hid ⟨by decide, .inl ⟨rfl, by rw [n1]; exact reads_nan⟩⟩
    clear K1 hv hlen n1
    go_enter Tryz.func36, Tryz.ntmps36
    go_wp2_with fail
    go_ret2
    exact ⟨9221120237041090560, true, rfl, HR.out, Below.refl _ _⟩
  · have t1 := eq_false n1
    by_cases n2 : l = [73, 78, 70]
    · have t2 : (l == [73, 78, 70]) = true := by rw [n2]; rfl
      have HR : Hid (ReadP l 9218868437227405312 true) := Lib.hid ⟨by decide, .inl ⟨rfl, by rw [n2]; exact reads_inf⟩⟩
      have hb : ∀ w, (callFunc 48 #[.float .f64 9218868437227405312]).run Tryz.prog w = .ok (.value (.int .u64 9218868437227405312)) w := fun w => bits_run 9218868437227405312 w
      clear K1 hv hlen n1 n2
      go_enter Tryz.func36, Tryz.ntmps36
      go_wp2_with fail
      refine (inf1_word _).mono ?_; rintro e w' ⟨rfl, rfl⟩; go_wp2_with fail
      go_ret2
      exact ⟨9218868437227405312, true, rfl, HR.out, Below.refl _ _⟩
    · have t2 := eq_false n2
      by_cases n3 : l = [45, 73, 78, 70]
      · have t3 : (l == [45, 73, 78, 70]) = true := by rw [n3]; rfl
        have HR : Hid (ReadP l 18442240474082181120 true) := Lib.hid ⟨by decide, .inl ⟨rfl, by rw [n3]; exact reads_minf⟩⟩
        have hb : ∀ w, (callFunc 48 #[.float .f64 18442240474082181120]).run Tryz.prog w = .ok (.value (.int .u64 18442240474082181120)) w := fun w => bits_run 18442240474082181120 w
        have hw : IntKind.i64.wrap 18442240474082181120 = iw 18442240474082181120 := iw_i64 18442240474082181120 (by decide)
        clear K1 hv hlen n1 n2 n3
        go_enter Tryz.func36, Tryz.ntmps36
        go_wp2_with fail
        refine (infm_word _).mono ?_; rintro e w' ⟨rfl, rfl⟩; go_wp2_with fail
        go_ret2
        exact ⟨18442240474082181120, true, rfl, HR.out, Below.refl _ _⟩
      · have t3 := eq_false n3
        obtain ⟨p, hp⟩ : ∃ p, Lib.hasPrefix l [48, 102] = p := ⟨_, rfl⟩
        obtain ⟨hex, hx⟩ : ∃ hex, Lib.trimPrefix l [48, 102] = hex := ⟨_, rfl⟩
        have hhx : hex.length ≤ 281474976710656 := by rw [← hx]; exact Nat.le_trans (Lib.trimPrefix_le l _) hlen
        have hpre : (p = true ∧ l = [48, 102] ++ hex) ∨ (p = false ∧ ∀ hex, l ≠ [48, 102] ++ hex) := by
          cases p with
          | true =>
            refine .inl ⟨rfl, ?_⟩
            rw [← hx]
            unfold Lib.trimPrefix
            rw [hp, if_pos rfl]
            obtain ⟨r, hr⟩ := List.isPrefixOf_iff_prefix.1 (show List.isPrefixOf [48, 102] l = true from hp)
            rw [← hr]; rfl
          | false =>
            refine .inr ⟨rfl, fun hex e => ?_⟩
            have : List.isPrefixOf [48, 102] l = true := List.isPrefixOf_iff_prefix.2 ⟨hex, e.symm⟩
            rw [show List.isPrefixOf [48, 102] l = false from hp] at this
            cases this
        have K1 : ∀ w, Calls Tryz.prog 26 #[.string s, .string ⟨#[48, 102]⟩] w fun e w' => e = .returned (.tuple #[.string ⟨hex.toArray⟩, .bool p]) ∧ w' = w := by rw [← hx, ← hp]; exact K1
        have K2 := parseUintE_any ⟨hex.toArray⟩ (by show hex.toArray.size ≤ _; rw [List.size_toArray]; exact hhx) hv
        have N1 := Lib.hid (And.intro n1 (And.intro n2 n3))
        have HP := Lib.hid hpre
        clear hv hlen n1 n2 n3 hp hx hhx hpre
        go_enter Tryz.func36, Tryz.ntmps36
        go_wp2_with fail
        refine (K1 _).mono ?_; rintro e w' ⟨rfl, rfl⟩; go_wp2_with fail
        refine K2.mono ?_
        rintro e w1 ⟨x, ev, rfl, hr, b1⟩
        have HB := Lib.hid b1
        obtain ⟨x0, x1, hr⟩ := hr
        obtain ⟨n, rfl⟩ : ∃ n : Nat, x = n := ⟨x.toNat, by omega⟩
        have hn : n < 18446744073709551616 := by omega
        have hw := iw_i64 n hn
        have HN := Lib.hid hn
        clear b1 K1 K2 x0 x1 hn
        have hcase : (p = true ∧ ev = .nilIface ∧ ReadP l n true) ∨ (p = true ∧ (∃ te pe, ev = .iface te pe) ∧ ReadP l n false) ∨ (p = false ∧ ReadP l n false) := by
          rcases HP.out with ⟨h1, h2⟩ | ⟨h1, h2⟩
          · rcases hr with ⟨h3, h4⟩ | ⟨h3, h4⟩
            · exact .inl ⟨h1, h3, HN.out, .inl ⟨rfl, reads_hex N1.out.1 N1.out.2.1 N1.out.2.2 h2 (fun c hc e => by have := h4 c hc e; omega)⟩⟩
            · exact .inr (.inl ⟨h1, h3, HN.out, .inr ⟨rfl, no_hex N1.out.1 N1.out.2.1 N1.out.2.2 h2 h4⟩⟩)
          · exact .inr (.inr ⟨h1, HN.out, .inr ⟨rfl, no_prefix N1.out.1 N1.out.2.1 N1.out.2.2 h2⟩⟩)
        clear hr HP HN N1
        rcases hcase with ⟨rfl, rfl, h⟩ | ⟨rfl, ⟨te, pe, rfl⟩, h⟩ | ⟨rfl, h⟩
        · have HR := Lib.hid h
          clear h
          go_wp2_with fail
          go_quiet (fail)
          go_wp2_with fail
          go_ret2
          exact ⟨n, true, rfl, HR.out, drew_below HB.out _⟩
        · have HR := Lib.hid h
          clear h
          go_wp2_with fail
          go_quiet (fail)
          go_wp2_with fail
          go_ret2
          exact ⟨n, false, rfl, HR.out, drew_below HB.out _⟩
        · have HR := Lib.hid h
          clear h
          go_wp2_with fail
          go_quiet (fail)
          go_wp2_with fail
          go_ret2
          exact ⟨n, false, rfl, HR.out, drew_below HB.out _⟩
def ParsePost (l : List UInt8) (w : World) (e : Ending) (w' : World) : Prop := ∃ x ok, e = .returned (.tuple #[.int .i64 (iw x), .bool ok]) ∧ ParseP l x ok ∧ Below w.heap.size w w'
theorem toList_mk (l : List UInt8) : (⟨l.toArray⟩ : ByteArray).toList = l := by rw [str_list]
theorem parse_any (s : ByteArray) (hmax : s.size ≤ 281474976710656) {w : World} (hv : Vars w) :
    Calls Tryz.prog 23 #[.string s] w (ParsePost s.data.toList w) := by
  have hl := str_list s
  have K := read_any s hmax hv
  have HV := Lib.hid hv
  obtain ⟨l, hl2⟩ : ∃ l, s.data.toList = l := ⟨_, rfl⟩
  rw [hl2] at hl K ⊢
  clear hl2 hmax hv
  go_enter Tryz.func23, Tryz.ntmps23
  go_wp2_with fail
  refine K.mono ?_
  rintro e w1 ⟨n, ok, rfl, ⟨hn, hr⟩, b1⟩
  have HB := Lib.hid b1
  rcases hr with ⟨rfl, h⟩ | ⟨rfl, h⟩
  · have K2 := print_any (HV.out.below b1).tab n hn
    have ht := toList_mk (prW n)
    by_cases e2 : prW n = l
    · have t1 : (prW n == l) = true := by rw [e2]; simp
      have t2 : (prW n != l) = false := by rw [e2]; simp
      have HR := Lib.hid (parseP_yes hn h e2)
      generalize prW n = P at K2 ht t1 t2
      clear b1 K hn h e2
      go_wp2_with fail
      refine K2.mono ?_
      rintro e w2 ⟨rfl, b2⟩
      have HB2 := Lib.hid (HB.out.trans (b2.mono HB.out.size))
      clear b2 K2
      go_wp2_with fail
      go_ret2
      exact ⟨n, true, rfl, HR.out, HB2.out⟩
    · have t1 : (prW n == l) = false := eq_false e2
      have t2 : (prW n != l) = true := by rw [bne_iff_ne]; exact e2
      have HR := Lib.hid (parseP_no (noFloat_of h e2))
      generalize prW n = P at K2 ht t1 t2
      clear b1 K hn h e2
      go_wp2_with fail
      refine K2.mono ?_
      rintro e w2 ⟨rfl, b2⟩
      have HB2 := Lib.hid (HB.out.trans (b2.mono HB.out.size))
      clear b2 K2
      go_wp2_with fail
      go_ret2
      exact ⟨0, false, rfl, HR.out, HB2.out⟩
  · have HR := Lib.hid (parseP_no h)
    clear b1 K hn h
    go_wp2_with fail
    go_ret2
    exact ⟨0, false, rfl, HR.out, HB.out⟩
end Go.Proofs.YtbijpjoljljlpaaGreatDoor
