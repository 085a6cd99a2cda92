/- The walk of HeavyLoads: any bytes as a sketch. Conditions: none. -/
import Derived.Test.YtkmonecolkamjaaRHeavyLoad
import Derived.Test.YtkmonecolkamjaaHeavyAlike
import Derived.Test.YtkmonecolkamjaaHeavyLives
set_option maxRecDepth 100000
namespace Go.Proofs.Ytkmonecolkamjaa
open Go.RowKit Go.Maps Go.Sort Go.Shelf

/-- bytes tell one sketch -/
theorem ok_one {m : Nat} {V U : HV} (hV : OkV m V) (hU : OkV m U) (e : V.bytes = U.bytes) : U = V := by
  have hs : ∀ q ∈ V.L, InI q.1 ∧ InI q.2 ∧ 0 ≤ q.2 := fun q hq => ⟨(hV.2.2.2.2 q hq).1, (hV.2.2.2.2 q hq).2, by have := hV.1.pos q hq; omega⟩
  have hR : Rd U.bytes V.n V.L.length V.L [] := by
    unfold Rd
    rw [List.append_nil, ← e]
    rfl
  have a1 := hV.1.n50
  have a2 := hV.1.len
  have a3 := hV.1.m64
  have hk : V.L.length ≤ U.L.length := by
    -- the counts stand ahead
    have h2 : Rd U.bytes V.n V.L.length [] (bytesW (cwords V.L)) := by
      unfold Rd
      rw [← e]
      unfold HV.bytes HV.words
      simp [bytesW, cwords]
    have := Rd.of hU (by omega) (by omega) (fun q hq => by cases hq) h2 (Nat.zero_le _)
    omega
  obtain ⟨e1, e2, e3, _⟩ := Rd.of hU (by omega) (by omega) hs hR hk
  rw [← e2, List.take_length] at e3
  have e4 := hU.2.1.trans hV.2.1.symm
  cases U; cases V
  simp only at e1 e3 e4
  rw [e1, e3, e4]

theorem side_two' {w0 w : World} {x y p r : Nat} {V Z : HV} (h : Side w0 [(4, RK y Z), (3, Hk x Z), (2, RK r V), (1, Hk p V)] w) : ∃ T, RK r V T 2 w ∧ Hk p V T 1 w := by
  obtain ⟨T, h⟩ := h
  exact ⟨T, (h.at_ (2, RK r V) (by simp)).2, (h.at_ (1, Hk p V) (by simp)).2⟩
section
variable {w : World}
theorem holds_len {a : Option Addr} {n c : Nat} {l : List UInt8} (h : Holds w (.slice a n c) (u8s l)) : l.length = n := by
  have := h.len.1
  rwa [u8s_len] at this

set_option maxHeartbeats 1600000 in
theorem loads_long (m : Int) (a : Option Addr) (n c : Nat) (hn : 5000 < n) :
    Calls Try.prog 4 #[.int .i64 m, .slice a n c] w fun e w' => e = .returned (.bool true) ∧ Below w.heap.size w w' := by
  have KL := lives_any w
  have tl : decide ((5000 : Int) < (n : Int)) = true := decide_eq_true (by omega)
  clear hn
  go_enter Try.func4, Try.ntmps4
  go_wp2_with fail
  refine KL.mono ?_
  rintro e w5 ⟨rfl, hb⟩
  have HF := Lib.hid hb
  clear KL hb
  go_wp2_with fail
  go_ret
  exact ⟨rfl, HF.out⟩

set_option maxHeartbeats 1600000 in
theorem loads_out (m : Int) (hm : m < 1 ∨ 64 < m) (a : Option Addr) (n c : Nat) (hn : n ≤ 5000) :
    Calls Try.prog 4 #[.int .i64 m, .slice a n c] w fun e w' => e = .returned (.bool true) ∧ Below w.heap.size w w' := by
  have K1 := load_arg (W := w) hm (.slice a n c)
  have K2 := rload_arg (W := w) hm (.slice a n c)
  have K3 := new_no (w := w) hm
  have K4 := rnew_no (w := w) hm
  have KL := lives_any w
  have tl : decide ((5000 : Int) < (n : Int)) = false := decide_eq_false (by omega)
  clear hn hm
  go_enter Try.func4, Try.ntmps4
  go_wp2_with fail
  refine K1.mono ?_
  rintro e w1 ⟨rfl, rfl⟩
  go_wp2_with fail
  refine K2.mono ?_
  rintro e w1 ⟨rfl, rfl⟩
  clear K1 K2
  go_wp2_with fail
  refine K3.mono ?_
  rintro e w1 ⟨rfl, rfl⟩
  go_wp2_with fail
  refine K4.mono ?_
  rintro e w1 ⟨rfl, rfl⟩
  clear K3 K4
  go_wp2_with fail
  refine KL.mono ?_
  rintro e w5 ⟨rfl, hb⟩
  have HF := Lib.hid hb
  clear KL hb
  go_wp2_with fail
  go_ret
  exact ⟨rfl, HF.out⟩

set_option maxHeartbeats 3200000 in
theorem loads_in (m : Nat) (h1 : 1 ≤ m) (h64 : m ≤ 64) (a : Option Addr) (n c : Nat) (hn : n ≤ 5000) {l : List UInt8} (hH : Holds w (.slice a n c) (u8s l)) :
    Calls Try.prog 4 #[.int .i64 (m : Int), .slice a n c] w fun e w' => e = .returned (.bool true) ∧ Below w.heap.size w w' := by
  have K1 := load_gen (Side.nil w) 1 m h1 h64 hH (by omega)
  have K2 := Lib.hid fun W E (h : Side w E W) => rload_gen h 2 m h1 h64 (hH.below h.base) (by omega)
  have K3 := Lib.hid fun W E (h : Side w E W) => side_new h 3 h1 h64
  have K4 := Lib.hid fun W E (h : Side w E W) => (h.make 4 (fun p => RK p (HV.none_ m)) (fun p => RK.framed p _) (R := fun p e => e = .returned (.pointer (some ⟨p, 0, none⟩))) fun T _ => rk_new h1 h64 T 4)
  have KL := Lib.hid fun W => lives_any W
  have tl : decide ((5000 : Int) < (n : Int)) = false := decide_eq_false (by omega)
  clear hn hH h1 h64
  go_enter Try.func4, Try.ntmps4
  go_wp2_with fail
  refine K1.mono ?_
  rintro e w1 (⟨V, p, ok, hl, rfl, S1⟩ | ⟨hno, rfl, S1⟩)
  · have K2' := K2.out _ _ S1
    clear K1 K2 S1
    go_wp2_with fail
    refine K2'.mono ?_
    rintro e w2 (⟨U, r, okU, hlU, rfl, S2⟩ | ⟨hno, _, _⟩)
    · obtain rfl := ok_one ok okU (hl.symm.trans hlU)
      have K3' := K3.out _ _ S2
      clear K2' K3 ok okU hl hlU S2
      go_wp2_with fail
      refine K3'.mono ?_
      rintro e w3 ⟨x, rfl, S3⟩
      have K4' := K4.out _ _ S3.out
      clear K3' K4 S3
      go_wp2_with fail
      refine K4'.mono ?_
      rintro e w4 ⟨y, rfl, S4⟩
      obtain ⟨T, t1, t2⟩ := side_two' S4.out
      have KA := alike_any t2 t1 2
      have HB := Lib.hid S4.out.base
      clear K4' S4 t1 t2
      go_wp2_with fail
      refine KA.mono ?_
      rintro e w5 ⟨rfl, hb⟩
      have HB5 := Lib.hid (HB.out.trans (hb.mono HB.out.size))
      have KL' := KL.out w5
      clear KA hb HB KL
      go_wp2_with fail
      refine KL'.mono ?_
      rintro e w6 ⟨rfl, hb⟩
      have HF := Lib.hid (HB5.out.trans (hb.mono HB5.out.size))
      clear KL' hb HB5
      go_wp2_with fail
      go_ret
      exact ⟨rfl, HF.out⟩
    · exact absurd hl (hno V ok)
  · have K2' := K2.out _ _ S1
    clear K1 K2 S1
    go_wp2_with fail
    refine K2'.mono ?_
    rintro e w2 (⟨U, r, okU, hlU, _, _⟩ | ⟨_, rfl, S2⟩)
    · exact absurd hlU (hno U okU)
    · have K3' := K3.out _ _ S2
      clear K2' K3 S2 hno
      go_wp2_with fail
      refine K3'.mono ?_
      rintro e w3 ⟨x, rfl, S3⟩
      have K4' := K4.out _ _ S3.out
      clear K3' K4 S3
      go_wp2_with fail
      refine K4'.mono ?_
      rintro e w4 ⟨y, rfl, S4⟩
      have HB := Lib.hid S4.out.base
      have KL' := KL.out w4
      clear K4' S4 KL
      go_wp2_with fail
      refine KL'.mono ?_
      rintro e w6 ⟨rfl, hb⟩
      have HF := Lib.hid (HB.out.trans (hb.mono HB.out.size))
      clear KL' hb HB
      go_wp2_with fail
      go_ret
      exact ⟨rfl, HF.out⟩

theorem loads_walk (m : Int) (a : Option Addr) (n c : Nat) {l : List UInt8} (hH : Holds w (.slice a n c) (u8s l)) :
    Calls Try.prog 4 #[.int .i64 m, .slice a n c] w fun e w' => e = .returned (.bool true) ∧ Below w.heap.size w w' := by
  by_cases hn : 5000 < n
  · exact loads_long m a n c hn
  · by_cases hm : m < 1 ∨ 64 < m
    · exact loads_out m hm a n c (by omega)
    · obtain ⟨k, rfl⟩ : ∃ k : Nat, m = k := ⟨m.toNat, by omega⟩
      exact loads_in k (by omega) (by omega) a n c (by omega) hH
end
end Go.Proofs.Ytkmonecolkamjaa
