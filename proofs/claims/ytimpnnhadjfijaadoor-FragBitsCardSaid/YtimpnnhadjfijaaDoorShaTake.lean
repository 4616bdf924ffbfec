/-
  take: all whole blocks into the state.
-/
import Derived.Test.YtimpnnhadjfijaaDoorShaMix
namespace Go.Proofs.YtimpnnhadjfijaaDoor
open Go.RowKit

theorem bytesAt_drop {w : World} {b off k : Nat} {l : List UInt8} (h : BytesAt w (some ⟨b, off, none⟩) l) : BytesAt w (some ⟨b, off + k, none⟩) (l.drop k) := by
  intro j hj
  have hj' : k + j < l.length := by simp at hj; omega
  obtain ⟨b', off', e, hc⟩ := h (k + j) hj'
  injection e with e
  injection e with e1 e2 e3
  subst e1; subst e2
  exact ⟨_, _, rfl, by rw [List.getElem_drop, Nat.add_assoc]; exact hc⟩
theorem bytesAt_take {w : World} {a : Option Addr} {l : List UInt8} (k : Nat) (h : BytesAt w a l) : BytesAt w a (l.take k) := by
  intro j hj
  have hj' : j < l.length := by simp at hj; omega
  obtain ⟨b', off', e, hc⟩ := h j hj'
  exact ⟨_, _, e, by rw [List.getElem_take]; exact hc⟩
theorem takeS_snoc : ∀ (m : Nat) (s : S8) (l : List UInt8), takeS (m + 1) s l = mixS (takeS m s l) ((l.drop (64 * m)).take 64)
  | 0, s, l => by simp [takeS]
  | m + 1, s, l => by
    rw [takeS, takeS_snoc m, takeS, List.drop_drop]
    rw [show 64 + 64 * m = 64 * (m + 1) by omega]
theorem mixS_take (s : S8) (l : List UInt8) : mixS s (l.take 64) = mixS s l := by
  have h : wordsOf 16 (l.take 64) = wordsOf 16 l := by
    unfold wordsOf
    refine List.map_congr_left fun i hi => ?_
    have hi : i < 16 := by simpa using hi
    unfold wordAt
    have g : ∀ j, j < 64 → (l.take 64).getD j 0 = l.getD j 0 := fun j hj => by
      rw [List.getD_eq_getElem?_getD, List.getD_eq_getElem?_getD, List.getElem?_take, if_pos hj]
    rw [g _ (by omega), g _ (by omega), g _ (by omega), g _ (by omega)]
  unfold mixS
  rw [h]
def lenV : Value → Nat
  | .slice _ n _ => n
  | _ => 0
/-- What take leaves. -/
def Taken (p : Nat) (z : Value) (s : S8) (b : Nat) (l : List UInt8) (w : World) (e : Ending) (w' : World) : Prop :=
  ∃ (m o n c : Nat), n + 64 * m = l.length ∧ n < 64 ∧ n ≤ c ∧ e = .returned (.slice (some ⟨b, o, none⟩) n c) ∧ BytesAt w' (some ⟨b, o, none⟩) (l.drop (64 * m)) ∧ w'.heap[p]? = some (.cells (sumCells 1 0 z madeV (stV (takeS m s l))) 84 (0, 0)) ∧ Spares (fun b => b = p) w w'
set_option maxRecDepth 100000 in
set_option maxHeartbeats 1000000 in
theorem take_any (p : Nat) (z : Value) (s : S8) (b off n c : Nat) (l : List UInt8) (w : World) (hg : w.heap[p]? = some (.cells (sumCells 1 0 z madeV (stV s)) 84 (0, 0)))
    (hl : BytesAt w (some ⟨b, off, none⟩) l) (hn : n = l.length) (_ : n < 9223372036854775808) (hnc : n ≤ c) (hbp : b ≠ p) (hbw : b < w.heap.size) :
    Calls Tryd.prog 35 #[.pointer (some ⟨p, 0, none⟩), .slice (some ⟨b, off, none⟩) n c] w (Taken p z s b l w) := by
  have HG := Lib.hid hg
  have HL := Lib.hid hl
  have HN := Lib.hid hn
  clear hg hl hn
  go_enter Tryd.func35, Tryd.ntmps35
  go_wp2
  go_loopw [1] (fun v wr => ∃ (m o k c : Nat), k + 64 * m = n ∧ k ≤ c ∧ v = .slice (some ⟨b, o, none⟩) k c ∧ Hid (BytesAt wr (some ⟨b, o, none⟩) (l.drop (64 * m))) ∧ Hid (wr.heap[p]? = some (.cells (sumCells 1 0 z madeV (stV (takeS m s l))) 84 (0, 0))) ∧ Hid (Spares (fun b => b = p) w wr)) (fun v _ => lenV v)
  case atStart => exact ⟨0, off, n, c, by omega, hnc, rfl, HL, HG, Lib.hid (Spares.refl _ _)⟩
  case round =>
    obtain ⟨m, o, k, c, hk, hkc, rfl, HL1, HG1, HS1⟩ := hrel
    by_cases hlt : 64 ≤ k
    · have i1 : (64 : Int) ≤ (k : Int) := by omega
      have i2 : (64 : Int) ≤ (c : Int) := by omega
      have hlen : 64 ≤ (l.drop (64 * m)).length := by rw [List.length_drop]; have := HN.out; omega
      have HM := Lib.hid (mix_any p 1 z (takeS m s l) madeV b o 64 c ((l.drop (64 * m)).take 64) wr HG1.out madeV_len (.inr ⟨rfl, rfl⟩) (bytesAt_take 64 HL1.out) (by rw [List.length_take]; omega) (by rw [List.length_take]; omega) (by omega) (by omega) hbp (Nat.lt_of_lt_of_le hbw HS1.out.size))
      by_cases hcc : c = 64
      · subst hcc
        obtain rfl : k = 64 := by omega
        go_wp2_with fail
        refine HM.out.mono ?_
        rintro e w3 ⟨rfl, hg3, hs3⟩
        have HG3 := Lib.hid hg3
        have HS3 := Lib.hid hs3
        clear hg3 hs3
        go_wp2
        go_roundw
        case rel =>
          refine ⟨m + 1, o, 0, 0, by omega, by omega, rfl, Lib.hid ?_, Lib.hid (by rw [takeS_snoc]; exact HG3.out), Lib.hid (HS1.out.trans HS3.out)⟩
          rw [List.drop_of_length_le (by have := HN.out; omega)]
          exact bytesAt_nil _ _
        case measure => simp [lenV]
      · have i3 : ¬ (c - 64 = 0) := by omega
        have i4 : ¬ ((c : Int) = 64) := by omega
        go_wp2_with fail
        refine HM.out.mono ?_
        rintro e w3 ⟨rfl, hg3, hs3⟩
        have HG3 := Lib.hid hg3
        have HS3 := Lib.hid hs3
        clear hg3 hs3
        go_wp2
        go_roundw
        case rel =>
          refine ⟨m + 1, o + 64, k - 64, c - 64, by omega, by omega, rfl, Lib.hid ?_, Lib.hid (by rw [takeS_snoc]; exact HG3.out), Lib.hid (HS1.out.trans HS3.out)⟩
          have h := bytesAt_drop (k := 64) (HL1.out.spares HS3.out (fun b' off' e => by cases e; exact hbp))
          rw [List.drop_drop] at h
          rw [show 64 * (m + 1) = 64 * m + 64 by omega]
          exact h
        case measure => simp [lenV]; omega
    · have i1 : ¬ (64 : Int) ≤ (k : Int) := by omega
      go_wp2
      go_ret
      exact ⟨m, o, k, c, by have := HN.out; omega, by omega, hkc, rfl, HL1.out, HG1.out, HS1.out⟩
set_option maxRecDepth 100000 in
theorem take_nil (p : Nat) (w : World) :
    Calls Tryd.prog 35 #[.pointer (some ⟨p, 0, none⟩), .slice none 0 0] w fun e w' => e = .returned (.slice none 0 0) ∧ w' = w := by
  go_enter Tryd.func35, Tryd.ntmps35
  go_wp2
  go_loopw [1] (fun v wr => v = .slice none 0 0 ∧ wr = w) (fun v _ => lenV v)
  case atStart => exact ⟨rfl, rfl⟩
  case round =>
    obtain ⟨rfl, rfl⟩ := hrel
    go_wp2
    go_ret
    exact ⟨rfl, rfl⟩
end Go.Proofs.YtimpnnhadjfijaaDoor
