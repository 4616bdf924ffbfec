/-
  A text's words, in both.
-/
import Derived.Test.YthdolhfaiofogaaShelf
import Derived.WalkKit
import Derived.LoopTactic
import Derived.Test.YthdolhfaiofogaaMg1
import Derived.Test.YthdolhfaiofogaaMg2
namespace Go.Proofs.Ythdolhfaiofogaa
open Go.RowKit

def WordsPost (s : ByteArray) (w : World) (e : Ending) (w' : World) : Prop := ∃ v, e = .returned v ∧ RowS w.heap.size w' v (wordsL s) ∧ Below w.heap.size w w'
theorem blank_gives (W : World) (x : Nat) : FnGives Try.prog 31 #[] #[.int .i32 (x : Int)] (.bool (blankR x)) W := by
  show Calls Try.prog 31 #[.int .i32 (x : Int)] W fun e w' => e = .returned (.bool (blankR x)) ∧ ∃ q, w' = W.drewN q
  by_cases h1 : x = 32
  · subst h1
    go_enter Try.func31, Try.ntmps31
    go_wp2
    go_ret
    exact ⟨rfl, 0, rfl⟩
  · by_cases h2 : x = 9
    · subst h2
      go_enter Try.func31, Try.ntmps31
      go_wp2
      go_ret
      exact ⟨rfl, 0, rfl⟩
    · have q1 : ((x : Int) == 32) = false := by simp; omega
      have q2 : ((x : Int) == 9) = false := by simp; omega
      have HV := Lib.hid (show blankR x = false by unfold blankR; simp [h1, h2])
      clear h1 h2
      rw [HV.out]
      go_enter Try.func31, Try.ntmps31
      go_wp2
      go_ret
      exact ⟨rfl, 0, rfl⟩
set_option maxHeartbeats 2000000 in
theorem words_any (s : ByteArray) (w : World) (hs : s.size ≤ 1000000) : Calls Try.prog 17 #[.string s] w (WordsPost s w) := by
  have cF := Try.strings_FieldsFunc 31 #[] (fun args w => by kernel_rfl) blankR s w (by omega) (fun W x _ => blank_gives W x)
  rw [words_goes] at cF
  obtain ⟨L, hL⟩ : ∃ L, wordsL s = L := ⟨_, rfl⟩
  unfold WordsPost
  rw [hL] at cF ⊢
  clear hL
  go_enter Try.func17, Try.ntmps17
  go_wp2_with fail
  refine cF.mono ?_
  rintro e w1 ⟨A, rfl, hA, hown, hb⟩
  have HR : Hid (RowS w.heap.size w1 (.slice (some ⟨A, 0, none⟩) L.length L.length) L) := Lib.hid hown
  clear hown hA
  go_wp2
  go_ret
  exact ⟨_, rfl, HR.out, hb⟩
theorem u8_lit (c : UInt8) (k : Nat) (hk : k < 256) : ((c.toNat : Int) == (k : Int)) = (c.toNat == k) := by
  rw [Bool.eq_iff_iff]; simp; omega
set_option maxHeartbeats 8000000 in
theorem refWords_any (s : ByteArray) (w : World) (hs : s.size ≤ 1000000) : Calls Try.prog 19 #[.string s] w (WordsPost s w) := by
  go_enter Try.func19, Try.ntmps19
  go_wp2
  go_loopw [3, 4, 5] (fun o fr i wr => ∃ (k : Nat) (R : List ByteArray) (z : Int), k ≤ s.size + 1 ∧ i = .int .i64 k ∧ fr = .int .i64 z ∧ Hid (WordsInv s k R z) ∧ Hid (RowS w.heap.size wr o R) ∧ Hid (R.length ≤ k) ∧ Hid (Spares (atLeast w.heap.size) w wr))
    (fun _ _ i _ => s.size + 1 - (intOf i).toNat)
  case atStart => exact ⟨0, [], -1, Nat.zero_le _, rfl, rfl, Lib.hid (words_zero s), Lib.hid (rowS_nil _ _), Lib.hid (Nat.le_refl _), Lib.hid (Spares.refl _ _)⟩
  case round =>
    obtain ⟨k, R, z, hk, rfl, rfl, HI, HR, HRL, HS⟩ := hrel
    have hl : Hid (R.length ≤ k + 1) := Lib.hid (by have := HRL.out; omega)
    by_cases hle : k ≤ s.size
    · have hz := words_in HI.out hle
      by_cases hlt : k < s.size
      · have hkp : ((k : Int) == (s.size : Int)) = false := by simp; omega
        by_cases hb : blankR s[k].toNat = true
        · rcases hz with rfl | ⟨a, rfl, hak⟩
          · have HN := Lib.hid (words_blank hlt hb HI.out)
            have HRb := HR
            rcases (show s[k].toNat = 32 ∨ s[k].toNat = 9 by unfold blankR at hb; simpa using hb) with h1 | h1
            · have q1 : ((s[k].toNat : Int) == 32) = true := by rw [h1]; rfl
              clear hb h1
              go_wp2
              go_roundw
              case rel => exact ⟨k + 1, R, -1, by omega, by go_num, rfl, HN, HR, hl, HS⟩
              case measure => simp [intOf]; omega
            · have q1 : ((s[k].toNat : Int) == 32) = false := by rw [h1]; rfl
              have q2 : ((s[k].toNat : Int) == 9) = true := by rw [h1]; rfl
              clear hb h1
              go_wp2
              go_roundw
              case rel => exact ⟨k + 1, R, -1, by omega, by go_num, rfl, HN, HR, hl, HS⟩
              case measure => simp [intOf]; omega
          · obtain ⟨u, hx⟩ : ∃ u, s.extract a k = u := ⟨_, rfl⟩
            have HN := Lib.hid (words_close hlt hb HI.out)
            rw [hx] at HN
            have HRM : Hid (R.length + 1 ≤ 1000000000000) := Lib.hid (by have := HRL.out; omega)
            have HRL9 : Hid ((R ++ [u]).length ≤ k + 1) := Lib.hid (by have := HRL.out; simp; omega)
            rcases (show s[k].toNat = 32 ∨ s[k].toNat = 9 by unfold blankR at hb; simpa using hb) with h1 | h1
            · have q1 : ((s[k].toNat : Int) == 32) = true := by rw [h1]; rfl
              clear hb h1
              go_wp2_with ((with_reducible show wpList _ _ _ (⟨some 40, _, _, _, _, _⟩ :: _) _ _); refine wpList_rowS_one rfl _ _ rfl w.heap.size _ R rfl HR.out u rfl HRM.out HS.out.size ?_; intro v9 w9 hr9 hs9; have HR9 := Lib.hid hr9; have HS9 := Lib.hid hs9; clear hr9 hs9)
              go_roundw
              case rel => exact ⟨k + 1, R ++ [u], -1, by omega, by go_num, rfl, HN, HR9, HRL9, Lib.hid (HS.out.trans HS9.out)⟩
              case measure => simp [intOf]; omega
            · have q1 : ((s[k].toNat : Int) == 32) = false := by rw [h1]; rfl
              have q2 : ((s[k].toNat : Int) == 9) = true := by rw [h1]; rfl
              clear hb h1
              go_wp2_with ((with_reducible show wpList _ _ _ (⟨some 40, _, _, _, _, _⟩ :: _) _ _); refine wpList_rowS_one rfl _ _ rfl w.heap.size _ R rfl HR.out u rfl HRM.out HS.out.size ?_; intro v9 w9 hr9 hs9; have HR9 := Lib.hid hr9; have HS9 := Lib.hid hs9; clear hr9 hs9)
              go_roundw
              case rel => exact ⟨k + 1, R ++ [u], -1, by omega, by go_num, rfl, HN, HR9, HRL9, Lib.hid (HS.out.trans HS9.out)⟩
              case measure => simp [intOf]; omega
        · have hb' : blankR s[k].toNat = false := by simpa using hb
          have h1 : ¬ s[k].toNat = 32 ∧ ¬ s[k].toNat = 9 := by unfold blankR at hb'; simpa using hb'
          have q1 : ((s[k].toNat : Int) == 32) = false := by simp; omega
          have q2 : ((s[k].toNat : Int) == 9) = false := by simp; omega
          rcases hz with rfl | ⟨a, rfl, hak⟩
          · have HN := Lib.hid (words_plain hlt hb' HI.out)
            clear hb hb' h1
            go_wp2
            go_roundw
            case rel => exact ⟨k + 1, R, k, by omega, by go_num, rfl, HN, HR, hl, HS⟩
            case measure => simp [intOf]; omega
          · have HN := Lib.hid (words_on hlt hb' HI.out)
            clear hb hb' h1
            go_wp2
            go_roundw
            case rel => exact ⟨k + 1, R, a, by omega, by go_num, rfl, HN, HR, hl, HS⟩
            case measure => simp [intOf]; omega
      · have HKE : Hid (k = s.size) := Lib.hid (by omega)
        have hkp : ((k : Int) == (s.size : Int)) = true := by simp; omega
        rcases hz with rfl | ⟨a, rfl, hak⟩
        · have HN := Lib.hid (words_last HKE.out HI.out)
          go_wp2
          go_roundw
          case rel => exact ⟨k + 1, R, -1, by omega, by go_num, rfl, HN, HR, hl, HS⟩
          case measure => simp [intOf]; omega
        · obtain ⟨u, hx⟩ : ∃ u, s.extract a k = u := ⟨_, rfl⟩
          have HN := Lib.hid (words_lastClose HKE.out HI.out)
          rw [hx] at HN
          have HRM : Hid (R.length + 1 ≤ 1000000000000) := Lib.hid (by have := HRL.out; omega)
          have HRL9 : Hid ((R ++ [u]).length ≤ k + 1) := Lib.hid (by have := HRL.out; simp; omega)
          go_wp2_with ((with_reducible show wpList _ _ _ (⟨some 40, _, _, _, _, _⟩ :: _) _ _); refine wpList_rowS_one rfl _ _ rfl w.heap.size _ R rfl HR.out u rfl HRM.out HS.out.size ?_; intro v9 w9 hr9 hs9; have HR9 := Lib.hid hr9; have HS9 := Lib.hid hs9; clear hr9 hs9)
          go_roundw
          case rel => exact ⟨k + 1, R ++ [u], -1, by omega, by go_num, rfl, HN, HR9, HRL9, Lib.hid (HS.out.trans HS9.out)⟩
          case measure => simp [intOf]; omega
    · have HE := Lib.hid (words_done hle HI.out)
      have HBL := Lib.hid (HS.out.below (Nat.le_refl _) (fun _ hk h => absurd hk (Nat.not_lt.2 h)) : Below w.heap.size w wr)
      go_wp2
      go_ret
      exact ⟨_, rfl, by rw [← HE.out]; exact HR.out, HBL.out⟩
end Go.Proofs.Ythdolhfaiofogaa
