/-
  conf.read: ranges, log, rules.
-/
import Derived.Test.YtjdiaighfhljgaaDoorConfRead
namespace Go.Proofs.YtjdiaighfhljgaaDoor
open Go.RowKit GlobMath DateMath

theorem IsC.cells {B p : Nat} {c : ConfS} {w : World} (h : IsC B p c w) : ∀ i, w.frozen? ⟨p, i, none⟩ = false := by
  obtain ⟨h1, h2, v, xs, h3, h4⟩ := h
  exact fun i => Lib.frozen_of_heap h3 i
theorem IsC.c1 {B p : Nat} {c : ConfS} {w : World} (h : IsC B p c w) : w.cell? ⟨p, 1, none⟩ = some (.bool c.ranges) := by
  obtain ⟨h1, h2, v, xs, h3, h4⟩ := h
  rw [Lib.cell_of_heap h3]; rfl
theorem IsC.c3 {B p : Nat} {c : ConfS} {w : World} (h : IsC B p c w) : w.cell? ⟨p, 3, none⟩ = some (.int .i64 c.log) := by
  obtain ⟨h1, h2, v, xs, h3, h4⟩ := h
  rw [Lib.cell_of_heap h3]; rfl
set_option maxHeartbeats 4000000 in
theorem read_off (B p : Nat) (c : ConfS) (s : ByteArray) (w : World) (hs : s.size ≤ 1000000) (hL : wordsL s = [rangesB, offB]) (hC : IsC B p c w) : Calls Tryd.prog 11 #[.pointer (some ⟨p, 0, none⟩), .string s] w (ReadPost B p c .off w) := by
  have HC := Lib.hid hC
  clear hC
  have cW := fun w => words_any s w hs
  unfold WordsPost at cW
  simp only [hL] at cW
  clear hL
  have hx : 0 < rangesB.size := by decide
  have q : ((rangesB[0].toNat : Int) == 35) = false := rfl
  have q1 : (rangesB.toList == [114, 97, 110, 103, 101, 115]) = true := by rw [Lib.toList_data]; rfl
  have q2 : (offB.toList == [111, 110]) = false := by rw [Lib.toList_data]; rfl
  have q3 : (offB.toList == [111, 102, 102]) = true := by rw [Lib.toList_data]; rfl
  go_enter Tryd.func11, Tryd.ntmps11
  go_wp2_with fail
  refine (cW w).mono ?_
  rintro e v2 ⟨v, rfl, hr, hb⟩
  have HS := Lib.hid (below_none hb)
  rcases hr.shape with ⟨rfl, hl0⟩ | ⟨g, cp, rfl, _, hg, hc, hcells⟩
  · cases hl0
  · have c0 : v2.cell? ⟨g, 0, none⟩ = some (.string rangesB) := hcells 0 (by decide)
    have c1 : v2.cell? ⟨g, 1, none⟩ = some (.string offB) := hcells 1 (by decide)
    have HC2 := Lib.hid (HC.out.spares HS.out)
    have hfz := HC2.out.cells 1
    have hc1 := HC2.out.c1
    obtain ⟨n, hn⟩ : ∃ n, [rangesB, offB].length = n := ⟨_, rfl⟩
    rw [hn] at hc ⊢
    obtain rfl : n = 2 := hn.symm
    clear hr hb cW hcells hn
    go_wp2_with fail
    refine (demand_yes _).mono ?_
    rintro e w3 ⟨rfl, rfl⟩
    go_wp2
    first | go_end0 | (simp only [Exit.inBlock, Exit.then]; refine bodyPost_ret (results_none rfl _ _ _) rfl ?_) | refine bodyPost_ret (results_none rfl _ _ _) rfl ?_
    refine readPost_some (d := { c with ranges := false }) rfl rfl (HC2.out.set (fun v => rfl) rfl) ((spares_foot HS.out).trans (HC2.out.put 1 _))
set_option maxHeartbeats 4000000 in
theorem read_log (B p : Nat) (c : ConfS) (s d : ByteArray) (n : Nat) (w : World) (hs : s.size ≤ 1000000) (hL : wordsL s = [logB, d]) (hd : numF d.data.toList 9 = some n) (hC : IsC B p c w) : Calls Tryd.prog 11 #[.pointer (some ⟨p, 0, none⟩), .string s] w (ReadPost B p c (.log n) w) := by
  have HC := Lib.hid hC
  clear hC
  have hdz : d.size ≤ 1000000 := Nat.le_trans (words_size (s := s) (by rw [hL]; simp)) hs
  have cW := fun w => words_any s w hs
  unfold WordsPost at cW
  simp only [hL] at cW
  clear hL
  have cN := fun w => numberD_any d 9 w (by decide) (by omega)
  rw [hd] at cN
  have hnv : numV (some n) = .tuple #[.int .i64 n, .bool true] := rfl
  rw [hnv] at cN
  have hn64 : (n : Int) ≤ 9223372036854775807 := by
    unfold numF at hd
    split at hd
    · rename_i h
      injection hd with hd
      have h1 := valD_lt d.data.toList h.2.2
      have h2 : (10 : Nat) ^ d.data.toList.length ≤ 10 ^ 9 := Nat.pow_le_pow_right (by decide) h.2.1
      rw [show (10 : Nat) ^ 9 = 1000000000 by decide] at h2
      omega
    · cases hd
  have hx : 0 < logB.size := by decide
  have q : ((logB[0].toNat : Int) == 35) = false := rfl
  have q1 : (logB.toList == [114, 97, 110, 103, 101, 115]) = false := by rw [Lib.toList_data]; rfl
  have q2 : (logB.toList == [99, 111, 110, 115, 111, 108, 101]) = false := by rw [Lib.toList_data]; rfl
  have q3 : (logB.toList == [108, 111, 103]) = true := by rw [Lib.toList_data]; rfl
  clear hd hnv
  go_enter Tryd.func11, Tryd.ntmps11
  go_wp2_with fail
  refine (cW w).mono ?_
  rintro e v2 ⟨v, rfl, hr, hb⟩
  have HS := Lib.hid (below_none hb)
  rcases hr.shape with ⟨rfl, hl0⟩ | ⟨g, cp, rfl, _, hg, hc, hcells⟩
  · cases hl0
  · have c0 : v2.cell? ⟨g, 0, none⟩ = some (.string logB) := hcells 0 (Nat.zero_lt_succ _)
    have c1 : v2.cell? ⟨g, 1, none⟩ = some (.string d) := hcells 1 (by simp)
    have HC2 := Lib.hid (HC.out.spares HS.out)
    have hfz := HC2.out.cells 3
    have hc3 := HC2.out.c3
    obtain ⟨m, hm⟩ : ∃ m, [logB, d].length = m := ⟨_, rfl⟩
    rw [hm] at hc ⊢
    obtain rfl : m = 2 := hm.symm
    clear hr hb cW hcells hm
    go_wp2_with fail
    refine (demand_yes _).mono ?_
    rintro e w3 ⟨rfl, rfl⟩
    go_wp2_with fail
    refine (cN _).mono ?_
    rintro e w3 ⟨rfl, rfl⟩
    clear cN
    by_cases hle : n ≤ 200
    · have l1 : decide ((n : Int) ≤ 200) = true := by simp; omega
      have l2 : decide (n ≤ 200) = true := by simpa using hle
      have HL := Lib.hid (show stepC c (.log n) = some { c with log := n } from if_pos hle)
      clear hle
      go_wp2_with fail
      refine (demand_yes _).mono ?_
      rintro e w3 ⟨rfl, rfl⟩
      go_wp2
      first | go_end0 | (simp only [Exit.inBlock, Exit.then]; refine bodyPost_ret (results_none rfl _ _ _) rfl ?_) | refine bodyPost_ret (results_none rfl _ _ _) rfl ?_
      exact readPost_some HL.out rfl (HC2.out.set (fun v => rfl) rfl) ((spares_foot HS.out).trans (HC2.out.put 3 _))
    · have l1 : decide ((n : Int) ≤ 200) = false := by simp; omega
      have l2 : decide (n ≤ 200) = false := by simpa using hle
      have HL := Lib.hid (show stepC c (.log n) = none from if_neg hle)
      clear hle
      go_wp2_with fail
      refine (demand_no _).mono ?_
      rintro e w3 ⟨rfl, rfl⟩
      unfold FaultE
      go_wp2
      exact ⟨rfl, readPost_none HL.out rfl HC2.out (spares_foot HS.out)⟩
end Go.Proofs.YtjdiaighfhljgaaDoor
