/-
  chunk's reader: a byte, a byte that must be there, so many bytes.
-/
import Derived.Test.YtkfnebpooohflaaDoorChunkMath
import Derived.Test.YtkfnebpooohflaaDoorBytes2
import Derived.LoopTactic
import Derived.WalkSpells
import Derived.BigQuiet
namespace Go.Proofs.YtkfnebpooohflaaDoor
open Go.RowKit HeadMath NormMath NormS ChunkMath

def FaultC (n : Nat) : Ending := .panicked [{ v := .iface 40 (.agg #[.int .i64 n]), recovered := false }]
/-- The reader in block p goes through the bytes b, and stands at k. -/
structure IsR (p : Nat) (a : Option Addr) (c : Nat) (b : Bs) (k : Nat) (w : World) : Prop where
  cells : w.heap[p]? = some (.cells #[.slice a b.length c, .int .i64 k] 44 (0, 0))
  bytes : BytesAt w a b
  le : k ≤ b.length
  cap : b.length ≤ c
  size : b.length ≤ 1000000000000
  other : 0 < b.length → ∀ x o, a = some ⟨x, o, none⟩ → x ≠ p
theorem IsR.spares {p : Nat} {a : Option Addr} {c k : Nat} {b : Bs} {w w' : World} {F : Nat → Prop} (h : IsR p a c b k w) (hs : Spares F w w') (h1 : ¬ F p) (h2 : 0 < b.length → ∀ x o, a = some ⟨x, o, none⟩ → ¬ F x) : IsR p a c b k w' :=
  ⟨hs.heap h.cells h1, h.bytes.spares' hs h2, h.le, h.cap, h.size, h.other⟩
theorem IsR.quiet {p : Nat} {a : Option Addr} {c k : Nat} {b : Bs} {w w' : World} (h : IsR p a c b k w) (hs : Spares nowhere w w') : IsR p a c b k w' := h.spares hs (fun h => h) (fun _ _ _ _ h => h)
theorem IsR.c0 {p : Nat} {a : Option Addr} {c k : Nat} {b : Bs} {w : World} (h : IsR p a c b k w) : w.cell? ⟨p, 0, none⟩ = some (.slice a b.length c) := by rw [Lib.cell_of_heap h.cells]; rfl
theorem IsR.c1 {p : Nat} {a : Option Addr} {c k : Nat} {b : Bs} {w : World} (h : IsR p a c b k w) : w.cell? ⟨p, 1, none⟩ = some (.int .i64 k) := by rw [Lib.cell_of_heap h.cells]; rfl
theorem IsR.fz {p : Nat} {a : Option Addr} {c k : Nat} {b : Bs} {w : World} (h : IsR p a c b k w) (i : Nat) : w.frozen? ⟨p, i, none⟩ = false := Lib.frozen_of_heap h.cells i
/-- It goes on. -/
theorem IsR.move {p : Nat} {a : Option Addr} {c k j : Nat} {b : Bs} {w : World} (h : IsR p a c b k w) (hj : j ≤ b.length) : IsR p a c b j (w.setCell ⟨p, 1, none⟩ (.int .i64 j)) ∧ Spares (fun x => x = p) w (w.setCell ⟨p, 1, none⟩ (.int .i64 j)) := by
  have hs : Spares (fun x => x = p) w (w.setCell ⟨p, 1, none⟩ (.int .i64 j)) := Spares.setCell (F := fun x => x = p) (Spares.refl _ w) (p := ⟨p, 1, none⟩) (.inl rfl) _
  refine ⟨⟨?_, h.bytes.spares' hs (fun h0 x o e => h.other h0 x o e), hj, h.cap, h.size, h.other⟩, hs⟩
  simp only [World.setCell, Array.getElem?_modify, h.cells]
  simp
def Fell (n : Nat) (w : World) (e : Ending) (w' : World) : Prop := e = FaultC n ∧ Spares nowhere w w'
theorem next_in {p : Nat} {a : Option Addr} {c k : Nat} {b : Bs} {w : World} (h : IsR p a c b k w) (i : Nat) (x : UInt8) (hx : b[i]? = some x) : Calls Tryd.prog 36 #[.pointer (some ⟨p, 0, none⟩), .int .i64 i] w fun e w' => e = .returned (.int .u8 x.toNat) ∧ w' = w := by
  obtain ⟨hi, rfl⟩ := List.getElem?_eq_some_iff.1 hx
  have c0 := h.c0
  have hsz := h.size
  obtain ⟨q, o, rfl, hc⟩ := h.bytes i hi
  obtain ⟨y, hy⟩ : ∃ y, b[i] = y := ⟨_, rfl⟩
  rw [hy] at hc ⊢
  have hcp := h.cap
  obtain ⟨n, hn⟩ : ∃ n, b.length = n := ⟨_, rfl⟩
  rw [hn] at hi c0 hsz hcp
  have l1 : ¬ ((n : Int) ≤ (i : Int)) := by omega
  have l2 : (i : Int) < (n : Int) := by omega
  clear h hx hy hn
  go_enter Tryd.func36, Tryd.ntmps36
  go_wp2
  go_ret
  exact ⟨rfl, rfl⟩
theorem next_out {p : Nat} {a : Option Addr} {c k : Nat} {b : Bs} {w : World} (h : IsR p a c b k w) (i : Nat) (hi : b.length ≤ i) (_hi2 : i ≤ 2000000000000) : Calls Tryd.prog 36 #[.pointer (some ⟨p, 0, none⟩), .int .i64 i] w (Fell 92 w) := by
  have c0 := h.c0
  obtain ⟨n, hn⟩ : ∃ n, b.length = n := ⟨_, rfl⟩
  rw [hn] at hi c0
  have l1 : ((n : Int) ≤ (i : Int)) := by omega
  clear h hn
  go_enter Tryd.func36, Tryd.ntmps36
  go_wp2
  exact ⟨rfl, rfl, Spares.refl _ _⟩
theorem drop_get {b : Bs} {k : Nat} {c : UInt8} {r : Bs} (h : b.drop k = c :: r) : b[k]? = some c ∧ k < b.length ∧ b.drop (k + 1) = r := by
  have hl := congrArg List.length h
  simp only [List.length_drop, List.length_cons] at hl
  refine ⟨?_, by omega, ?_⟩
  · have := congrArg (·[0]?) h
    simpa using this
  · have := congrArg (List.drop 1) h
    rw [List.drop_drop] at this
    simpa using this
theorem drop_end {b : Bs} {k : Nat} (h : b.drop k = []) : b.length ≤ k := by
  have hl := congrArg List.length h
  simp at hl; omega
theorem wantF_yes {c : UInt8} {r : Bs} : wantF c (c :: r) = .ok r := if_pos rfl
theorem wantF_no {c d : UInt8} {r : Bs} (h : ¬ d = c) : wantF c (d :: r) = .error 94 := if_neg h
def WantPost (p : Nat) (a : Option Addr) (c : Nat) (b : Bs) (k : Nat) (r : Except Nat Bs) (w : World) (e : Ending) (w' : World) : Prop := match r with
  | .error n => e = FaultC n ∧ Spares nowhere w w'
  | .ok t => e = .returned (.tuple #[]) ∧ t = b.drop (k + 1) ∧ IsR p a c b (k + 1) w' ∧ Spares (fun x => x = p) w w'
theorem expect_any {p : Nat} {a : Option Addr} {c k : Nat} {b : Bs} {w : World} (h : IsR p a c b k w) (x : UInt8) : Calls Tryd.prog 23 #[.pointer (some ⟨p, 0, none⟩), .int .u8 x.toNat] w (WantPost p a c b k (wantF x (b.drop k)) w) := by
  have c1 := h.c1
  have H := Lib.hid h
  have hk : k ≤ 1000000000000 := Nat.le_trans h.le h.size
  cases hd : b.drop k with
  | nil =>
    have cN := next_out h k (drop_end hd) (by omega)
    unfold Fell at cN
    show Calls _ _ _ _ (fun e w' => e = FaultC 92 ∧ Spares nowhere w w')
    clear h hd
    go_enter Tryd.func23, Tryd.ntmps23
    go_wp2_with fail
    refine cN.mono ?_
    rintro e w1 ⟨rfl, hs⟩
    unfold FaultC
    go_wp2
    exact ⟨rfl, rfl, hs⟩
  | cons d r =>
    obtain ⟨g1, g2, g3⟩ := drop_get hd
    have cN := next_in h k d g1
    by_cases hx : d = x
    · subst hx
      rw [wantF_yes]
      have hfz := h.fz 1
      have HM := Lib.hid (h.move (j := k + 1) (by omega))
      have G3 := Lib.hid g3
      unfold WantPost
      clear h hd g1 g3
      go_enter Tryd.func23, Tryd.ntmps23
      go_wp2_with fail
      refine cN.mono ?_
      rintro e w1 ⟨rfl, hw⟩
      replace hw := hw.symm
      subst hw
      have q : ((d.toNat : Int) != (d.toNat : Int)) = false := by unfold bne; simp
      go_wp2
      first | go_end0 | (simp only [Exit.inBlock, Exit.then]; refine bodyPost_ret (results_none rfl _ _ _) rfl ?_) | refine bodyPost_ret (results_none rfl _ _ _) rfl ?_
      exact ⟨rfl, G3.out.symm, HM.out.1, HM.out.2⟩
    · rw [wantF_no hx]
      show Calls _ _ _ _ (fun e w' => e = FaultC 94 ∧ Spares nowhere w w')
      have q : ((d.toNat : Int) != (x.toNat : Int)) = true := by
        unfold bne
        rw [Bool.not_eq_true', beq_eq_false_iff_ne]
        intro e
        exact hx (UInt8.toNat_inj.1 (by omega))
      clear h hd g1 g3 hx
      go_enter Tryd.func23, Tryd.ntmps23
      go_wp2_with fail
      refine cN.mono ?_
      rintro e w1 ⟨rfl, hw⟩
      replace hw := hw.symm
      subst hw
      go_wp2
      exact ⟨rfl, rfl, Spares.refl _ _⟩
def TakePost (p : Nat) (a : Option Addr) (c : Nat) (b : Bs) (k n : Nat) (w : World) (e : Ending) (w' : World) : Prop :=
  if (b.drop k).length < n then e = FaultC 92 ∧ Spares nowhere w w'
  else ∃ x o c', e = .returned (.slice (some ⟨x, o, none⟩) n c') ∧ BytesAt w' (some ⟨x, o, none⟩) ((b.drop k).take n) ∧ IsR p a c b (k + n) w' ∧ Spares (fun x => x = p) w w'
theorem bytesAt_drop {w : World} {x o : Nat} {b : Bs} (h : BytesAt w (some ⟨x, o, none⟩) b) (k n : Nat) : BytesAt w (some ⟨x, o + k, none⟩) ((b.drop k).take n) := by
  intro j hj
  have hj2 : j < n ∧ k + j < b.length := by simp at hj; omega
  obtain ⟨y, z, e, hc⟩ := h (k + j) hj2.2
  injection e with e
  injection e with e1 e2
  subst e1; subst e2
  refine ⟨x, o + k, rfl, ?_⟩
  rw [Nat.add_assoc, hc]
  simp
set_option maxHeartbeats 2000000 in
theorem take_any {p : Nat} {a : Option Addr} {c k : Nat} {b : Bs} {w : World} (h : IsR p a c b k w) (n : Nat) (h0 : 0 < n) (hn : n ≤ 1000000000000) : Calls Tryd.prog 22 #[.pointer (some ⟨p, 0, none⟩), .int .i64 n] w (TakePost p a c b k n w) := by
  have c0 := h.c0
  have c1 := h.c1
  have hle := h.le
  have hcp := h.cap
  have hsz := h.size
  by_cases hlt : (b.drop k).length < n
  · have HP : Hid (∀ e w', (e = FaultC 92 ∧ Spares nowhere w w') → TakePost p a c b k n w e w') := Lib.hid (fun e w' h => by unfold TakePost; rw [if_pos hlt]; exact h)
    have l0 : b.length - k < n := by simpa using hlt
    obtain ⟨m, hm⟩ : ∃ m, b.length = m := ⟨_, rfl⟩
    rw [hm] at c0 hle hcp hsz l0
    have l1 : (m : Int) - (k : Int) < (n : Int) := by omega
    clear h hlt hm
    go_enter Tryd.func22, Tryd.ntmps22
    go_wp2
    go_region
    go_wp2
    exact ⟨rfl, HP.out _ _ ⟨rfl, (Spares.refl _ _).drew⟩⟩
  · have l0 : k + n ≤ b.length := by simp at hlt; omega
    obtain ⟨x, o, rfl, _⟩ := h.bytes 0 (by omega)
    have hfz := h.fz 1
    have hm := h.move (j := k + n) l0
    have HD : Hid (BytesAt (w.setCell ⟨p, 1, none⟩ (.int .i64 ((k + n : Nat) : Int))).drew.drew (some ⟨x, o + k, none⟩) ((b.drop k).take n) ∧ IsR p (some ⟨x, o, none⟩) c b (k + n) (w.setCell ⟨p, 1, none⟩ (.int .i64 ((k + n : Nat) : Int))).drew.drew ∧ Spares (fun x => x = p) w (w.setCell ⟨p, 1, none⟩ (.int .i64 ((k + n : Nat) : Int))).drew.drew) :=
      Lib.hid ⟨bytesAt_drop (hm.1.bytes) k n, hm.1.quiet ((Spares.refl _ _).drew.drew), hm.2.drew.drew⟩
    have d0 := hm.1.c0
    have d1 := hm.1.c1
    have HP : Hid (¬ (b.drop k).length < n) := Lib.hid hlt
    have kn : ((k + n : Nat) : Int) = (k : Int) + (n : Int) := by omega
    rw [kn] at d0 d1 HD
    obtain ⟨m, hm'⟩ : ∃ m, b.length = m := ⟨_, rfl⟩
    rw [hm'] at c0 d0 hle hcp hsz l0
    have l1 : ¬ ((m : Int) - (k : Int) < (n : Int)) := by omega
    have l2 : (k : Int) + (n : Int) ≤ (m : Int) := by omega
    have l3 : (k : Int) + (n : Int) ≤ (c : Int) := by omega
    have l4 : (k : Int) + (n : Int) - (n : Int) = (k : Int) := by omega
    clear h hlt hm hm'
    go_enter Tryd.func22, Tryd.ntmps22
    go_wp2
    go_region
    go_wp2
    go_region
    go_wp2
    go_ret
    unfold TakePost
    rw [if_neg HP.out]
    refine ⟨x, o + k, c - k, ?_, HD.out.1, HD.out.2.1, HD.out.2.2⟩
    show Ending.returned (.slice (some ⟨x, o + k, none⟩) (k + n - k) (c - k)) = _
    rw [Nat.add_sub_cancel_left]
end Go.Proofs.YtkfnebpooohflaaDoor
