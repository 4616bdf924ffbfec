/-
  A text's words, in both.
-/
import Derived.Test.YtjdiaighfhljgaaDoorWordsMath
import Derived.Test.YtjdiaighfhljgaaDoorRowS
import Derived.Test.YtjdiaighfhljgaaDoorShelf
import Derived.WalkKit
import Derived.LoopTactic
namespace Go.Proofs.YtjdiaighfhljgaaDoor
open Go.RowKit

def WordsPost (s : ByteArray) (w : World) (e : Ending) (w' : World) : Prop := ∃ v, e = .returned v ∧ RowS w.heap.size w' v (wordsL s) ∧ Below w.heap.size w w'
theorem blank_gives (W : World) (x : Nat) : FnGives Tryd.prog 24 #[] #[.int .i32 (x : Int)] (.bool (blankR x)) W := by
  show Calls Tryd.prog 24 #[.int .i32 (x : Int)] W fun e w' => e = .returned (.bool (blankR x)) ∧ ∃ q, w' = W.drewN q
  by_cases h1 : x = 32
  · subst h1
    go_enter Tryd.func24, Tryd.ntmps24
    go_wp2
    go_ret
    exact ⟨rfl, 0, rfl⟩
  · by_cases h2 : x = 9
    · subst h2
      go_enter Tryd.func24, Tryd.ntmps24
      go_wp2
      go_ret
      exact ⟨rfl, 0, rfl⟩
    · have q1 : ((x : Int) == 32) = false := by simp; omega
      have q2 : ((x : Int) == 9) = false := by simp; omega
      have HV := Lib.hid (show blankR x = false by unfold blankR; simp [h1, h2])
      clear h1 h2
      rw [HV.out]
      go_enter Tryd.func24, Tryd.ntmps24
      go_wp2
      go_ret
      exact ⟨rfl, 0, rfl⟩
set_option maxHeartbeats 2000000 in
theorem words_any (s : ByteArray) (w : World) (hs : s.size ≤ 1000000) : Calls Tryd.prog 14 #[.string s] w (WordsPost s w) := by
  have cF := Tryd.strings_FieldsFunc 24 #[] (fun args w => by kernel_rfl) blankR s w (by omega) (fun W x _ => blank_gives W x)
  rw [words_goes] at cF
  obtain ⟨L, hL⟩ : ∃ L, wordsL s = L := ⟨_, rfl⟩
  unfold WordsPost
  rw [hL] at cF ⊢
  clear hL
  go_enter Tryd.func14, Tryd.ntmps14
  go_wp2_with fail
  refine cF.mono ?_
  rintro e w1 ⟨A, rfl, hA, hown, hb⟩
  have HR : Hid (RowS w.heap.size w1 (.slice (some ⟨A, 0, none⟩) L.length L.length) L) := Lib.hid hown
  clear hown hA
  go_wp2
  go_ret
  exact ⟨_, rfl, HR.out, hb⟩
end Go.Proofs.YtjdiaighfhljgaaDoor
