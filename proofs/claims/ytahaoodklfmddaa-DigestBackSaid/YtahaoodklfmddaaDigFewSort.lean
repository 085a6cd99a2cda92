/- slices.SortStableFunc at fewer than 20 nodes: one insertion sort. Conditions: few. -/
import Derived.Test.YtahaoodklfmddaaDigRankC
import Derived.Test.YtahaoodklfmddaaShelf
import Derived.Shelf.SlSortCmp.WholeK
import Derived.Outline
set_option maxRecDepth 100000
namespace Go.Proofs.Ytahaoodklfmddaa
open Go.RowKit Go.Maps Go.Sort Go.Shelf

theorem lt_G (x y : Nat × Int) : ltOf cfG x y = decide (gr x.1 < gr y.1) := by
  unfold ltOf cfG Lib.compareInt
  by_cases h1 : gr x.1 < gr y.1
  · simp [h1]
  · by_cases h2 : gr y.1 < gr x.1 <;> simp [h1, h2]
theorem swo_G : SWO (ltOf cfG) where
  irrefl x := by rw [lt_G]; simp
  trans x y z h1 h2 := by rw [lt_G] at *; simp at *; omega
  ntrans x y z h1 h2 := by rw [lt_G] at *; simp at *; omega

set_option maxHeartbeats 4000000 in
theorem stable_few {w : World} {g c : Nat} {xs : DL} (hH : HoldsK encG 3 w g 0 xs.toArray) (hg : g < w.heap.size) (hl : xs.length < 20) :
    Calls Try.prog 37 #[.slice (some ⟨g, 0, none⟩) xs.length c, .func (.func 38) #[] #[]] w fun e w' =>
      e = .returned (.tuple #[]) ∧ Hid (SWK encG 3 w g 0 (insertionSort (ltOf cfG) xs.toArray 0 xs.length) w') := by
  have eg : ∀ args w, (callFunc 38 args).run Try.prog w = .ok (.enter 38 args) w := enters_of Try.func38 (by kernel_rfl) rfl
  have hC : CmpLays Try.prog 38 #[] encG 3 cfG g 0 xs.toArray.size w := fun m os dk _ x y => by
    have := closRank x y (sortWorldK encG 3 w g 0 m dk os)
    simpa [encG_form] using this
  have L : SlLaysF0.n20 Try.prog Try.sortNode_ren := { Try.sortNode with }
  have e0 : xs.toArray.size = xs.length := by simp
  have KI := AnyQ.insertionSortCmpFunc L 3 Try.isAgg50 Try.sizeOf50 encG encG_len encG_one cfG 38 #[] g 0 c 0 xs.length xs.toArray w eg hC hH hg (Nat.zero_le _) (by omega) (by omega)
  rw [e0] at KI
  obtain ⟨n, hn⟩ : ∃ n, xs.length = n := ⟨_, rfl⟩
  rw [hn] at KI hl ⊢
  have t1 : ¬ (20 : Int) ≤ (n : Int) := by omega
  have t2 : ¬ (20 : Int) < (n : Int) := by omega
  clear L hC eg hH hg
  have KS : Calls Try.prog 55 #[.slice (some ⟨g, 0, none⟩) n c, .int .i64 n, .func (.func 38) #[] #[]] w fun e w' => e = .returned (.tuple #[]) ∧ Hid (SWK encG 3 w g 0 (insertionSort (ltOf cfG) xs.toArray 0 n) w') := by
    go_enter Try.func55, Try.ntmps55
    go_wp2_with fail
    refine wp_loop_rounds 1 ?_
    rw [rounds_succ]
    go_wp2_with fail
    refine KI.mono ?_
    rintro e w' ⟨rfl, hS⟩
    have HS : Hid (SWK encG 3 w g 0 (insertionSort (ltOf cfG) xs.toArray 0 n) w') := hS
    clear KI hS
    go_wp2_with fail
    refine wp_loop_rounds 1 ?_
    rw [rounds_succ]
    go_wp2_with fail
    go_end0
    exact ⟨rfl, HS⟩
  clear KI
  go_enter Try.func37, Try.ntmps37
  go_wp2_with fail
  refine KS.mono ?_
  rintro e w' ⟨rfl, HS⟩
  clear KS
  go_wp2_with fail
  go_end0
  exact ⟨rfl, HS⟩
end Go.Proofs.Ytahaoodklfmddaa
