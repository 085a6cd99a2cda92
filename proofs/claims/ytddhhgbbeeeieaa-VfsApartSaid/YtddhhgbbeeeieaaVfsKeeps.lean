/- VfsKeeps holds: what was synced is there behind a failure, and of the rest a beginning. Conditions: none. -/
import Derived.Test.YtddhhgbbeeeieaaVfsOne
import Derived.Test.YtddhhgbbeeeieaaVfsNames
import Derived.OpenShut
import Derived.Deep.RegionLaw
set_option maxRecDepth 100000
namespace Go.Proofs.Ytddhhgbbeeeieaa
open Go.ChangeShapes Go.WideShapes Go.ChangeAt Go.RowKit Go.Maps Go.Sort
open Go.ChangeMaps (open_string shut_string)

/-- what is known of a slice of integers that came in -/
def IsRow (k : IntKind) (w : World) (a : Option Addr) (len cap : Nat) (zs : List Int) : Prop :=
  (a = none ∧ len = 0 ∧ cap = 0 ∧ zs = []) ∨
  ∃ x, a = some x ∧ len ≤ cap ∧ cap ≤ maxLen ∧ zs.length = cap ∧ (∀ i, i < zs.length → w.cell? (x.add i) = some (.int k (zs.getD i 0))) ∧ ∀ n ∈ zs, (Lit.int k n).wf = true

theorem isRow_holds {w : World} {a : Option Addr} {len cap : Nat} {zs : List Int} (h : IsRow .u8 w a len cap zs) : ∃ l : List UInt8, l.length = len ∧ Holds8 w (.slice a len cap) l ∧ ∀ (ad : Addr) (n c : Nat), Value.slice a len cap = .slice (some ad) n c → n ≠ 0 → ad.block < w.heap.size := by
  rcases h with ⟨rfl, rfl, rfl, rfl⟩ | ⟨x, rfl, h1, h2, h3, h4, h5⟩
  · exact ⟨[], rfl, ⟨none, 0, rfl, Nat.le_refl _, .inl ⟨rfl, rfl, rfl⟩⟩, fun ad n c e => by simp at e⟩
  · have hlen : ((zs.take len).map fun n => UInt8.ofNat n.toNat).length = len := by simp; omega
    have hc : ∀ i, i < len → w.cell? (x.add i) = some (.int .u8 ((((zs.take len).map fun n => UInt8.ofNat n.toNat).getD i 0).toNat : Int)) := fun i hi => by
      have hz : i < zs.length := by omega
      rw [h4 i hz]
      have hw := h5 _ (List.getElem_mem hz)
      have hw2 := bounds_u8 hw
      rw [List.getD_eq_getElem?_getD, List.getElem?_eq_getElem hz, List.getD_eq_getElem?_getD, List.getElem?_map, List.getElem?_take, if_pos hi, List.getElem?_eq_getElem hz]
      simp
      omega
    refine ⟨(zs.take len).map fun n => UInt8.ofNat n.toNat, hlen, ⟨some x, cap, by rw [hlen], by omega, .inr ⟨x, rfl, fun j u hj => ?_⟩⟩, fun ad n c e hn => ?_⟩
    · unfold u8s at hj
      rw [List.getElem?_map] at hj
      have hjl : j < ((zs.take len).map fun n => UInt8.ofNat n.toNat).length := by
        rcases Nat.lt_or_ge j ((zs.take len).map fun n => UInt8.ofNat n.toNat).length with g | g
        · exact g
        · rw [List.getElem?_eq_none g] at hj; simp at hj
      rw [hc j (by omega), List.getD_eq_getElem?_getD, List.getElem?_eq_getElem hjl]
      rw [List.getElem?_eq_getElem hjl] at hj
      simpa using hj
    · simp only [Value.slice.injEq, Option.some.injEq] at e
      obtain ⟨rfl, rfl, _⟩ := e
      have := World.block_lt_of_cell? w _ (hc 0 (by omega))
      rwa [Addr.add_block] at this

theorem Holds8.below {w w' : World} {v : Value} {l : List UInt8} (h : Holds8 w v l) (hb : Below w.heap.size w w') : Holds8 w' v l :=
  h.kept fun a u ha => by rw [hb.cell (World.block_lt_of_cell? w a ha)]; exact ha

theorem holds_take {w : World} {a : Option Addr} {n c : Nat} {l : List UInt8} (h : Holds8 w (.slice a n c) l) (m : Nat) (hm : m ≤ n) : Holds8 w (.slice a m c) (l.take m) := by
  obtain ⟨a', c', e, h1, h2⟩ := h
  simp only [Value.slice.injEq] at e
  obtain ⟨rfl, rfl, rfl⟩ := e
  have hl : (l.take m).length = m := by simp; omega
  refine ⟨a, c, by rw [hl], by omega, ?_⟩
  rcases h2 with ⟨rfl, rfl, rfl⟩ | ⟨ad, rfl, h3⟩
  · exact .inl ⟨rfl, by simp, rfl⟩
  · refine .inr ⟨ad, rfl, fun j u hj => h3 j u ?_⟩
    rw [← u8s_take, List.getElem?_take] at hj
    split at hj
    · exact hj
    · cases hj

theorem size102 : (⟨#[102]⟩ : ByteArray).size ≤ maxLen := by unfold maxLen; show 1 ≤ _; omega
theorem ready102 : readyE true [(⟨#[102]⟩ : ByteArray).data.toList] = 0 := by decide

theorem keeps_eq {k r : List UInt8} {m : Int} {q : Nat} (hq : (q : Int) = min (max m 0) r.length) :
    ([] ++ k ++ r).take (([] ++ k).length + (stayN [m] 0 ((([] ++ k ++ r).length : Int) - (([] ++ k).length : Nat))).toNat) = k ++ r.take q := by
  have e : stayN [m] 0 ((([] ++ k ++ r).length : Int) - (([] ++ k).length : Nat)) = (q : Int) := by
    unfold stayN
    rw [if_neg (by simp)]
    simp only [List.length_cons, List.length_nil, List.nil_append, List.length_append, List.getD_eq_getElem?_getD]
    simp
    omega
  rw [e]
  simp only [List.nil_append, Int.toNat_natCast]
  rw [List.take_append, List.take_of_length_le (by omega)]
  congr 2
  omega

structure KeepsA (w w9 : World) (a0 : Option Addr) (n0 c0 : Nat) (a1 : Option Addr) (q c1 : Nat) (v1 : Value) (w10 : World) (v2 : Value) (w11 : World) (v : Value) (x : List UInt8) : Prop where
  run1 : ∀ ty, (Builtin.append_ #[30, 30] ty #[.slice (some ⟨w9.heap.size, 0, none⟩) 0 0, .slice a0 n0 c0]).run Try.prog (w9.alloc (.cells #[] 5)).drew = .ok v1 w10
  run2 : ∀ ty, (Builtin.append_ #[30, 30] ty #[v1, .slice a1 q c1]).run Try.prog w10 = .ok v2 w11
  left : Holds8 w11 v x
  right : Holds8 w11 v2 x
  below : Below w.heap.size w w11

theorem below_grown {w w' : World} {o : Option Nat} {B : Nat} (h : w.grownBy w' o) (hB : B ≤ w.heap.size) (ho : ∀ g, o = some g → B ≤ g) : Below B w w' :=
  ⟨h.os, h.tape, h.output, h.size, fun k hk => h.block k (by omega) (fun e => by have := ho k e.symm; omega)⟩

theorem keeps_apps {w w9 : World} {a0 : Option Addr} {n0 c0 : Nat} {k : List UInt8} {a1 : Option Addr} {n1 c1 : Nat} {r : List UInt8} {q : Nat} {v : Value} {B : Nat} (hb : Below w.heap.size w w9) (hk : Holds8 w (.slice a0 n0 c0) k) (hr : Holds8 w (.slice a1 n1 c1) r) (hkl : k.length = n0) (hrl : r.length = n1) (hq : q ≤ n1) (h0 : n0 ≤ 100000) (h1 : n1 ≤ 100000)
    (hv : w9.ownsRow B 5 1 v (k ++ r.take q).length (u8s (k ++ r.take q))) :
    ∃ v1 w10 v2 w11, KeepsA w w9 a0 n0 c0 a1 q c1 v1 w10 v2 w11 v (k ++ r.take q) := by
  have hrq := holds_take hr q hq
  have hb1 : Below w9.heap.size w9 (w9.alloc (.cells #[] 5)).drew := ((Below.refl _ w9).alloc (Nat.le_refl _) _).drew
  have hs9 := hb.size
  have hbw1 := hb.trans (hb1.mono hs9)
  have hrow : (w9.alloc (.cells #[] 5)).drew.ownsRow 0 5 1 (.slice (some ⟨w9.heap.size, 0, none⟩) 0 0) ([] : List UInt8).length (u8s []) :=
    World.ownsRow_made w9 #[] 0 (Nat.zero_le _) (Nat.zero_le _) rfl
  have hsz1 : (w9.alloc (.cells #[] 5)).drew.heap.size = w9.heap.size + 1 := by simp
  obtain ⟨v1, w10, r1, o1, g1, b1⟩ := app8 _ hrow (hk.below hbw1) (by simp; omega)
  have k1 : Below w9.heap.size (w9.alloc (.cells #[] 5)).drew w10 := below_grown g1 (by omega) (fun g e => by simp [Value.ownBlock] at e; omega)
  have hb10 : Below w9.heap.size w9 w10 := hb1.trans k1
  obtain ⟨v2, w11, r2, o2, g2, b2⟩ := app8 w10 (xs := [] ++ k) o1 (hrq.below (hb.trans (hb10.mono hs9))) (by simp; omega)
  have hv1 : ∀ g, v1.ownBlock = some g → w9.heap.size ≤ g := fun g e => by
    rcases b1 with b1 | b1
    · rw [b1] at e; simp [Value.ownBlock] at e; omega
    · rw [b1] at e
      simp only [Option.some.injEq] at e
      omega
  have k2 : Below w9.heap.size w10 w11 := below_grown g2 hb10.size hv1
  have hb11 := hb10.trans k2
  refine ⟨v1, w10, v2, w11, r1, r2, (holds8_of_row hv).below hb11, ?_, hb.trans (hb11.mono hs9)⟩
  have := holds8_of_row o2
  simpa using this
end Go.Proofs.Ytddhhgbbeeeieaa
