/- Contract of the document's own Bytes of values. Conditions: at most 10^9 values. -/
import Derived.Test.YtbijpjoljljlpaaGreatDoorVbRefGood
import Derived.Test.YtbijpjoljljlpaaGreatDoorVbRead
set_option maxRecDepth 100000
namespace Go.Proofs.YtbijpjoljljlpaaGreatDoor
open Go.RowKit Go.Maps Go.Sort Go.Lib

theorem below_drew_v (w : World) : Below w.heap.size w w.drew := ⟨rfl, rfl, rfl, Nat.le_refl _, fun _ _ => rfl⟩
theorem Out.str {w wr : World} {v : Value} {acc : List UInt8} (h : Out w wr v acc) (s : ByteArray) (hl : acc.length + s.size ≤ 17592186044416) :
    ∃ v' w2, (∀ ty, (Builtin.append_ #[33, 9] ty #[v, .string s]).run Tryz.prog wr = .ok v' w2) ∧ Out w w2 v' (acc ++ s.data.toList) ∧ (∀ k, k < wr.heap.size → (∀ g, v.ownBlock = some g → g ≠ k) → w2.heap[k]? = wr.heap[k]?) := by
  obtain ⟨v', w2, r, o, g⟩ := app_str (u := 9) Tryz.underlying9 h.1 h.2.size s hl
  exact ⟨v', w2, r, ⟨o, h.2.trans (below_grown g h.2.size (ownsRow_ge h.1))⟩, fun k hk hne => g.block k hk (fun e => hne k e.symm rfl)⟩
theorem room4 {a b : Nat} (h : a ≤ 200000000000) (h2 : b ≤ 10) : a + b ≤ 17592186044000 := by omega
theorem room5 {a : List UInt8} {b : List UInt8} (h : a.length ≤ 200000000000) (h2 : b.length ≤ 10) : (a ++ b).length ≤ 17592186044000 := by rw [List.length_append]; omega
theorem room0 {a : Nat} (h : a ≤ 200000000000) : a ≤ 17592186044000 := by omega
theorem room6 {a b c : List UInt8} {s : Nat} (h : a.length ≤ 200000000000) (h2 : b.length ≤ 10) (h3 : c.length ≤ 10) (h4 : s ≤ 64) : (a ++ b ++ c).length + s ≤ 17592186044416 := by rw [List.length_append, List.length_append]; omega
end Go.Proofs.YtbijpjoljljlpaaGreatDoor
