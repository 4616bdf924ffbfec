/-
  line.howWord, line.natural.
  A line's reader: space, word, quoted, number.
-/
import Derived.Lib.ItoaMem
import Derived.Lib.IndexMore
import Derived.Test.YtkbcklaloblmeaaGreatDoorMg1
import Derived.Test.YtkbcklaloblmeaaGreatDoorMg11
import Derived.Test.YtkbcklaloblmeaaGreatDoorMg15
import Derived.Test.YtkbcklaloblmeaaGreatDoorMg16
import Derived.Test.YtkbcklaloblmeaaGreatDoorMg18
namespace Go.Proofs.YtkbcklaloblmeaaGreatDoor
open Go.RowKit LineMath DateMath

theorem how_word (k : Nat) (h : k < 6) (w : World) : Calls Tryz.prog 21 #[.int .i64 k] w fun e w' => e = .returned (.string (arrS (howB k))) ∧ w = w' := by
  match k, h with
  | 0, _ => go_enter Tryz.func21, Tryz.ntmps21; go_wp2; go_ret; exact ⟨rfl, rfl⟩
  | 1, _ => go_enter Tryz.func21, Tryz.ntmps21; go_wp2; go_ret; exact ⟨rfl, rfl⟩
  | 2, _ => go_enter Tryz.func21, Tryz.ntmps21; go_wp2; go_ret; exact ⟨rfl, rfl⟩
  | 3, _ => go_enter Tryz.func21, Tryz.ntmps21; go_wp2; go_ret; exact ⟨rfl, rfl⟩
  | 4, _ => go_enter Tryz.func21, Tryz.ntmps21; go_wp2; go_ret; exact ⟨rfl, rfl⟩
  | 5, _ => go_enter Tryz.func21, Tryz.ntmps21; go_wp2; go_ret; exact ⟨rfl, rfl⟩
theorem how_none (n : Int) (h : ¬ (0 ≤ n ∧ n < 6)) (w : World) : Calls Tryz.prog 21 #[.int .i64 n] w fun e w' => e = .returned (.string ⟨#[]⟩) ∧ w = w' := by
  have h0 : (n == 0) = false := by simp; omega
  have h1 : (n == 1) = false := by simp; omega
  have h2 : (n == 2) = false := by simp; omega
  have h3 : (n == 3) = false := by simp; omega
  have h4 : (n == 4) = false := by simp; omega
  have h5 : (n == 5) = false := by simp; omega
  clear h
  go_enter Tryz.func21, Tryz.ntmps21
  go_wp2
  go_ret
  exact ⟨rfl, rfl⟩
theorem natural_any (n : Int) (h : n ≤ 9223372036854775807) (w : World) (hT : TabP w) : Calls Tryz.prog 22 #[.int .i64 n] w fun e w' => e = .returned (.string (arrS (natT n))) ∧ Below w.heap.size w w' := by
  have c := Tryz.strconv_Itoa (max n 0) (by omega) (by omega) w hT
  have e : (⟨(Lib.itoa (max n 0)).toArray⟩ : ByteArray) = arrS (natT n) := by
    unfold arrS natT Lib.itoa
    rw [if_neg (by omega)]
  rw [e] at c
  replace c := c.mono fun e w' ⟨he, k, os, hw⟩ => (⟨he, hw ▸ Lib.below_grow _ _ (Nat.le_refl _) k os⟩ : _ ∧ Below w.heap.size w w')
  obtain ⟨X, hX⟩ : ∃ X, arrS (natT n) = X := ⟨_, rfl⟩
  rw [hX] at c ⊢
  clear hX e h
  go_enter Tryz.func22, Tryz.ntmps22
  go_wp2_with fail
  refine c.mono ?_
  rintro e w1 ⟨rfl, hb⟩
  go_wp2
  go_ret
  exact ⟨rfl, hb⟩
end Go.Proofs.YtkbcklaloblmeaaGreatDoor
namespace Go.Proofs.YtkbcklaloblmeaaGreatDoor
open Go.RowKit LineMath ChunkS NormS

def MaxL (w : World) : Prop := ∃ m, w.cell? ⟨1, 0, none⟩ = some (.int .i64 m)
theorem MaxL.spares {F : Nat → Prop} {w w' : World} (h : MaxL w) (hs : Spares F w w') (hF : ¬ F 1) : MaxL w' := by
  obtain ⟨m, hm⟩ := h
  have hlt : 1 < w.heap.size := by
    rcases Nat.lt_or_ge 1 w.heap.size with h | h
    · exact h
    · simp [World.cell?, Array.getElem?_eq_none h] at hm
  exact ⟨m, (hs.cell (p := ⟨1, 0, none⟩) hlt hF).trans hm⟩
theorem cut_word (l : List UInt8) : (Lib.cut l [32]).1 = wordOf l := by
  unfold Lib.cut
  have key : ∀ l : List UInt8, (Lib.index l [32] = -1 ∧ wordOf l = l) ∨ (∃ i : Nat, Lib.index l [32] = i ∧ wordOf l = l.take i) := by
    intro l
    induction l with
    | nil => exact .inl ⟨rfl, rfl⟩
    | cons c l ih =>
      by_cases hc : c = 32
      · subst hc
        exact .inr ⟨0, by simp [Lib.index, List.isPrefixOf], by simp [wordOf]⟩
      · have hp : ([32] : List UInt8).isPrefixOf (c :: l) = false := by
          simp [List.isPrefixOf]; exact fun e => hc e.symm
        have hw : wordOf (c :: l) = c :: wordOf l := by unfold wordOf; rw [List.takeWhile_cons, if_pos (by simpa using hc)]
        rcases ih with ⟨h1, h2⟩ | ⟨i, h1, h2⟩
        · exact .inl ⟨by rw [Lib.index, hp, h1]; rfl, by rw [hw, h2]⟩
        · refine .inr ⟨i + 1, ?_, by rw [hw, h2]; rfl⟩
          rw [Lib.index, hp, h1]
          have : ((i : Int) == -1) = false := by simp
          simp [this]
  rcases key l with ⟨h1, h2⟩ | ⟨i, h1, h2⟩
  · rw [h1, if_neg (by omega), h2]
  · rw [h1, if_pos (by omega), h2]; simp
/-- A reader in memory. -/
def RdAt (w : World) (p : Nat) (r : Rd) : Prop := w.heap[p]? = some (.cells #[.string (arrS r.rest), .bool r.fine] 54 (0, 0))
theorem RdAt.lt {w : World} {p : Nat} {r : Rd} (h : RdAt w p r) : p < w.heap.size := by
  rcases Nat.lt_or_ge p w.heap.size with h' | h'
  · exact h'
  · unfold RdAt at h; simp [Array.getElem?_eq_none h'] at h
theorem RdAt.set {w : World} {p : Nat} {r : Rd} (h : RdAt w p r) (s : ByteArray) (b : Bool) : ((w.setCell ⟨p, 0, none⟩ (.string s)).setCell ⟨p, 1, none⟩ (.bool b)).heap[p]? = some (.cells #[.string s, .bool b] 54 (0, 0)) := by
  rw [heap_set (heap_set h 0 _) 1 _]
  rfl
def only (p : Nat) : Nat → Prop := fun b => b = p
def SpacePost (p : Nat) (r : Rd) (w : World) (e : Ending) (w' : World) : Prop := e = .returned (.tuple #[]) ∧ RdAt w' p (spaceS r) ∧ Spares (only p) w w'
theorem cutPrefix_yes (s : ByteArray) (t : List UInt8) (h : s.data.toList = 32 :: t) (w : World) : Calls Tryz.prog 82 #[.string s, .string ⟨#[32]⟩] w fun e w' => e = .returned (.tuple #[.string (arrS t), .bool true]) ∧ w = w' := by
  have hp : Lib.hasPrefix s.data.toList [32] = true := by rw [h]; rfl
  have c : ∀ w, Calls Tryz.prog 92 #[.string s, .string ⟨#[32]⟩] w fun e w' => e = .returned (.bool true) ∧ w = w' := fun w => by
    refine (Tryz.stringslite_HasPrefix s ⟨#[32]⟩ w).mono ?_
    rintro e w' ⟨rfl, hw⟩
    rw [show Lib.hasPrefix s.data.toList (⟨#[32]⟩ : ByteArray).data.toList = true from hp]
    exact ⟨rfl, hw.symm⟩
  have hl : 1 ≤ s.size := by rw [← size_list, h]; simp
  have HE : Hid (s.extract 1 s.size = arrS t) := Lib.hid (by rw [extract_arr, h]; rfl)
  have c2 : Calls Tryz.prog 100 #[.string s, .string ⟨#[32]⟩] w fun e w' => e = .returned (.tuple #[.string (arrS t), .bool true]) ∧ w = w' := by
    clear hp h
    go_enter Tryz.func100, Tryz.ntmps100
    go_wp2_with fail
    refine (c _).mono ?_
    rintro e w1 ⟨rfl, rfl⟩
    go_wp2
    go_ret2
    exact ⟨by rw [← HE.out]; rfl, rfl⟩
  clear hp h c HE
  go_enter Tryz.func82, Tryz.ntmps82
  go_wp2_with fail
  refine c2.mono ?_
  rintro e w1 ⟨rfl, rfl⟩
  go_wp2
  go_ret2
  exact ⟨rfl, rfl⟩
theorem cutPrefix_no (s : ByteArray) (h : Lib.hasPrefix s.data.toList [32] = false) (w : World) : Calls Tryz.prog 82 #[.string s, .string ⟨#[32]⟩] w fun e w' => e = .returned (.tuple #[.string s, .bool false]) ∧ w = w' := by
  have c : ∀ w, Calls Tryz.prog 92 #[.string s, .string ⟨#[32]⟩] w fun e w' => e = .returned (.bool false) ∧ w = w' := fun w => by
    refine (Tryz.stringslite_HasPrefix s ⟨#[32]⟩ w).mono ?_
    rintro e w' ⟨rfl, hw⟩
    rw [show Lib.hasPrefix s.data.toList (⟨#[32]⟩ : ByteArray).data.toList = false from h]
    exact ⟨rfl, hw.symm⟩
  have c2 : Calls Tryz.prog 100 #[.string s, .string ⟨#[32]⟩] w fun e w' => e = .returned (.tuple #[.string s, .bool false]) ∧ w = w' := by
    clear h
    go_enter Tryz.func100, Tryz.ntmps100
    go_wp2_with fail
    refine (c _).mono ?_
    rintro e w1 ⟨rfl, rfl⟩
    go_wp2
    go_ret2
    exact ⟨rfl, rfl⟩
  clear h c
  go_enter Tryz.func82, Tryz.ntmps82
  go_wp2_with fail
  refine c2.mono ?_
  rintro e w1 ⟨rfl, rfl⟩
  go_wp2
  go_ret2
  exact ⟨rfl, rfl⟩
theorem cutPrefix_any (r : Rd) (w : World) : ∃ b : Bool, Calls Tryz.prog 82 #[.string (arrS r.rest), .string ⟨#[32]⟩] w (fun e w' => e = .returned (.tuple #[.string (arrS (spaceS r).rest), .bool b]) ∧ w = w') ∧ (spaceS r).fine = (r.fine && b) := by
  obtain ⟨rest, fine⟩ := r
  cases rest with
  | nil => exact ⟨false, cutPrefix_no (arrS []) (by rw [arrS_list]; rfl) w, by cases fine <;> rfl⟩
  | cons c t =>
    by_cases hc : c = 32
    · subst hc
      refine ⟨true, ?_, by rw [space_yes]; simp⟩
      rw [space_yes]
      exact cutPrefix_yes (arrS (32 :: t)) t (arrS_list _) w
    · refine ⟨false, ?_, by rw [space_no _ (fun u e => hc (by injection e))]; simp⟩
      rw [space_no _ (fun u e => hc (by injection e))]
      exact cutPrefix_no (arrS (c :: t)) (by rw [arrS_list]; simp [Lib.hasPrefix, List.isPrefixOf]; exact fun e => hc e.symm) w
set_option maxHeartbeats 4000000 in
theorem space_any (p : Nat) (r : Rd) (w : World) (h : RdAt w p r) : Calls Tryz.prog 58 #[.pointer (some ⟨p, 0, none⟩)] w (SpacePost p r w) := by
  obtain ⟨b, c, hf⟩ := cutPrefix_any r w
  have c0 : w.cell? ⟨p, 0, none⟩ = some (.string (arrS r.rest)) := by rw [Lib.cell_of_heap h]; rfl
  have c1 : w.cell? ⟨p, 1, none⟩ = some (.bool r.fine) := by rw [Lib.cell_of_heap h]; rfl
  have f0 : w.frozen? ⟨p, 0, none⟩ = false := heap_frozen h 0
  have f1 : w.frozen? ⟨p, 1, none⟩ = false := heap_frozen h 1
  have H := Lib.hid h
  have HF := Lib.hid hf
  obtain ⟨X, hX⟩ : ∃ X, arrS (spaceS r).rest = X := ⟨_, rfl⟩
  have HX := Lib.hid hX
  obtain ⟨Y, hY⟩ : ∃ Y, arrS r.rest = Y := ⟨_, rfl⟩
  rw [hX, hY] at c
  rw [hY] at c0
  obtain ⟨g, hg⟩ : ∃ g, r.fine = g := ⟨_, rfl⟩
  rw [hg] at c1 HF
  clear h hf hX hY hg
  unfold SpacePost
  have fin : ∀ z : Bool, z = (g && b) → RdAt ((w.setCell ⟨p, 0, none⟩ (.string X)).setCell ⟨p, 1, none⟩ (.bool z)) p (spaceS r) ∧ Spares (only p) w ((w.setCell ⟨p, 0, none⟩ (.string X)).setCell ⟨p, 1, none⟩ (.bool z)) := by
    rintro z rfl
    refine ⟨?_, spares_set (spares_set (Spares.refl _ _) 0 _) 1 _⟩
    unfold RdAt
    rw [H.out.set X (g && b), HX.out, HF.out]
  have FIN := Lib.hid fin
  clear fin
  cases g with
  | false =>
    go_enter Tryz.func58, Tryz.ntmps58
    go_wp2_with fail
    refine c.mono ?_
    rintro e w1 ⟨rfl, hw⟩
    subst hw
    go_wp2
    go_end0
    exact ⟨rfl, FIN.out _ rfl⟩
  | true =>
    go_enter Tryz.func58, Tryz.ntmps58
    go_wp2_with fail
    refine c.mono ?_
    rintro e w1 ⟨rfl, hw⟩
    subst hw
    go_wp2
    go_end0
    exact ⟨rfl, FIN.out _ (by simp)⟩
def WordPost (p : Nat) (r : Rd) (w : World) (e : Ending) (w' : World) : Prop := e = .returned (.string (arrS (wordS r).1)) ∧ RdAt w' p (wordS r).2 ∧ Spares (only p) w w'
theorem drop_size (l : List UInt8) : (wordOf l).length ≤ l.length := by unfold wordOf; exact (List.takeWhile_prefix _).length_le
set_option maxHeartbeats 4000000 in
theorem word_any (p : Nat) (r : Rd) (w : World) (h : RdAt w p r) (hm : MaxL w) (hp : p ≠ 1) (hl : r.rest.length ≤ 1000000000) : Calls Tryz.prog 29 #[.pointer (some ⟨p, 0, none⟩)] w (WordPost p r w) := by
  have cS := space_any p r w h
  have hle : (spaceS r).rest.length ≤ r.rest.length := by
    obtain ⟨rest, fine⟩ := r
    cases rest with
    | nil => exact Nat.le_refl _
    | cons c t => unfold spaceS; simp only; split <;> simp
  unfold SpacePost at cS
  have HWO := Lib.hid (drop_size (spaceS r).rest)
  have cC : ∀ w1 : World, MaxL w1 → Calls Tryz.prog 59 #[.string (arrS (spaceS r).rest), .string ⟨#[32]⟩] w1 fun e w' => (∃ y z, e = .returned (.tuple #[.string (arrS (wordOf (spaceS r).rest)), y, z])) ∧ ∃ n, w' = w1.drewN n := fun w1 h1 => by
    obtain ⟨m, hm1⟩ := h1
    refine (Tryz.strings_Cut (arrS (spaceS r).rest) ⟨#[32]⟩ m w1 (by rw [arrS_size]; omega) hm1).mono ?_
    rintro e w' ⟨rfl, hw⟩
    have e1 : (⟨(Lib.cut (arrS (spaceS r).rest).data.toList (⟨#[32]⟩ : ByteArray).data.toList).1.toArray⟩ : ByteArray) = arrS (wordOf (spaceS r).rest) := by
      rw [arrS_list, show (⟨#[32]⟩ : ByteArray).data.toList = [32] from rfl, cut_word]
      rfl
    rw [e1]
    exact ⟨⟨_, _, rfl⟩, hw⟩
  have HP := Lib.hid hp
  have HM := Lib.hid hm
  obtain ⟨rest, hrest⟩ : ∃ rest, (spaceS r).rest = rest := ⟨_, rfl⟩
  obtain ⟨fine, hfine⟩ : ∃ fine, (spaceS r).fine = fine := ⟨_, rfl⟩
  have HV : Hid (wordS r = (wordOf rest, ⟨rest.drop (wordOf rest).length, fine⟩)) := Lib.hid (by unfold wordS; rw [hrest, hfine])
  have HRF : Hid (spaceS r = ⟨rest, fine⟩) := Lib.hid (by rw [← hrest, ← hfine])
  rw [hrest] at cC HWO
  have hsz : (wordOf rest).length ≤ (arrS rest).size := by rw [arrS_size]; exact HWO.out
  have HX2 : Hid ((arrS rest).extract (wordOf rest).length (arrS rest).size = arrS (rest.drop (wordOf rest).length)) := Lib.hid (by rw [extract_arr, arrS_list])
  obtain ⟨W, hW⟩ : ∃ W, arrS (wordOf rest) = W := ⟨_, rfl⟩
  have hWs : W.size = (wordOf rest).length := by rw [← hW, arrS_size]
  rw [← hWs] at hsz HX2
  obtain ⟨X, hX⟩ : ∃ X, arrS rest = X := ⟨_, rfl⟩
  have HXX := Lib.hid hX
  have HWW := Lib.hid hW
  have HWS := Lib.hid hWs
  rw [hX] at hsz HX2
  simp only [hX, hW] at cC
  clear h hm hp hl hle hrest hfine hW hX hWs
  unfold WordPost
  go_enter Tryz.func29, Tryz.ntmps29
  go_wp2_with fail
  refine cS.mono ?_
  rintro e w1 ⟨rfl, hr1, hs1⟩
  rw [HRF.out] at hr1
  have c0 : w1.cell? ⟨p, 0, none⟩ = some (.string X) := by rw [Lib.cell_of_heap hr1, ← HXX.out]; rfl
  have hmx := HM.out.spares hs1 (fun e => HP.out e.symm)
  have HR1 := Lib.hid hr1
  have HS1 := Lib.hid hs1
  clear hr1 hs1 cS
  go_wp2_with fail
  refine (cC w1 hmx).mono ?_
  rintro e w2 ⟨⟨y, z, rfl⟩, n, hw2⟩
  have hs2 : Spares (only p) w w2 := by rw [hw2]; exact HS1.out.drewN n
  have hr2 : RdAt w2 p ⟨rest, fine⟩ := by rw [hw2]; exact HR1.out
  have c2 : w2.cell? ⟨p, 0, none⟩ = some (.string X) := by rw [Lib.cell_of_heap hr2, ← HXX.out]; rfl
  have f2 : w2.frozen? ⟨p, 0, none⟩ = false := heap_frozen hr2 0
  have HR2 := Lib.hid hr2
  have HS2 := Lib.hid hs2
  clear hr2 hs2 hw2 cC hmx c0
  go_wp2
  go_ret
  refine ⟨by rw [HV.out, ← HWW.out]; rfl, ?_, spares_set HS2.out 0 _⟩
  rw [HV.out]
  unfold RdAt
  exact (heap_set HR2.out 0 _).trans (by rw [HX2.out, HWS.out]; rfl)
end Go.Proofs.YtkbcklaloblmeaaGreatDoor
