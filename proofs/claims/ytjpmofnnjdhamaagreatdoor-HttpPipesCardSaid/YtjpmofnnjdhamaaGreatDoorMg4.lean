/-
  chunk's reader: a byte, a byte that must be there, so many bytes.
  chunk's reader: a line.
  Parts of a row of bytes.
  The reference's line, of few bytes.
  The line ahead of a chunk.
  The reference's length of a chunk.
  chunk's reader: the trailers.
  chunk.Open: the closure that recovers.
-/
import Derived.LoopTactic
import Derived.WalkSpells
import Derived.BigQuiet
import Derived.Deep.QuietTactic
import Derived.Test.YtjpmofnnjdhamaaGreatDoorShelf
import Derived.Laws.BitsAllLaws
import Derived.Lib.Strings
import Derived.Test.YtjpmofnnjdhamaaGreatDoorMg1
import Derived.Test.YtjpmofnnjdhamaaGreatDoorMg3
import Derived.Test.YtjpmofnnjdhamaaGreatDoorMg5
namespace Go.Proofs.YtjpmofnnjdhamaaGreatDoor
open Go.RowKit HeadMath NormMath NormS ChunkMath

def FaultC (n : Nat) : Ending := .panicked [{ v := .iface 128 (.agg #[.int .i64 n]), recovered := false }]
/-- The reader in block p goes through the bytes b, and stands at k. -/
structure IsR (p : Nat) (a : Option Addr) (c : Nat) (b : Bs) (k : Nat) (w : World) : Prop where
  cells : w.heap[p]? = some (.cells #[.slice a b.length c, .int .i64 k] 132 (0, 0))
  bytes : BytesAt w a b
  le : k ≤ b.length
  cap : b.length ≤ c
  size : b.length ≤ 1000000000000
  other : 0 < b.length → ∀ x o, a = some ⟨x, o, none⟩ → x ≠ p
theorem IsR.spares {p : Nat} {a : Option Addr} {c k : Nat} {b : Bs} {w w' : World} {F : Nat → Prop} (h : IsR p a c b k w) (hs : Spares F w w') (h1 : ¬ F p) (h2 : 0 < b.length → ∀ x o, a = some ⟨x, o, none⟩ → ¬ F x) : IsR p a c b k w' :=
  ⟨hs.heap h.cells h1, h.bytes.spares' hs h2, h.le, h.cap, h.size, h.other⟩
theorem IsR.quiet {p : Nat} {a : Option Addr} {c k : Nat} {b : Bs} {w w' : World} (h : IsR p a c b k w) (hs : Spares nowhere w w') : IsR p a c b k w' := h.spares hs (fun h => h) (fun _ _ _ _ h => h)
theorem IsR.c0 {p : Nat} {a : Option Addr} {c k : Nat} {b : Bs} {w : World} (h : IsR p a c b k w) : w.cell? ⟨p, 0, none⟩ = some (.slice a b.length c) := by rw [Lib.cell_of_heap h.cells]; rfl
theorem IsR.c1 {p : Nat} {a : Option Addr} {c k : Nat} {b : Bs} {w : World} (h : IsR p a c b k w) : w.cell? ⟨p, 1, none⟩ = some (.int .i64 k) := by rw [Lib.cell_of_heap h.cells]; rfl
theorem IsR.fz {p : Nat} {a : Option Addr} {c k : Nat} {b : Bs} {w : World} (h : IsR p a c b k w) (i : Nat) : w.frozen? ⟨p, i, none⟩ = false := Lib.frozen_of_heap h.cells i
/-- It goes on. -/
theorem IsR.move {p : Nat} {a : Option Addr} {c k j : Nat} {b : Bs} {w : World} (h : IsR p a c b k w) (hj : j ≤ b.length) : IsR p a c b j (w.setCell ⟨p, 1, none⟩ (.int .i64 j)) ∧ Spares (fun x => x = p) w (w.setCell ⟨p, 1, none⟩ (.int .i64 j)) := by
  have hs : Spares (fun x => x = p) w (w.setCell ⟨p, 1, none⟩ (.int .i64 j)) := Spares.setCell (F := fun x => x = p) (Spares.refl _ w) (p := ⟨p, 1, none⟩) (.inl rfl) _
  refine ⟨⟨?_, h.bytes.spares' hs (fun h0 x o e => h.other h0 x o e), hj, h.cap, h.size, h.other⟩, hs⟩
  simp only [World.setCell, Array.getElem?_modify, h.cells]
  simp
def Fell (n : Nat) (w : World) (e : Ending) (w' : World) : Prop := e = FaultC n ∧ Spares nowhere w w'
theorem next_in {p : Nat} {a : Option Addr} {c k : Nat} {b : Bs} {w : World} (h : IsR p a c b k w) (i : Nat) (x : UInt8) (hx : b[i]? = some x) : Calls Tryz.prog 131 #[.pointer (some ⟨p, 0, none⟩), .int .i64 i] w fun e w' => e = .returned (.int .u8 x.toNat) ∧ w' = w := by
  obtain ⟨hi, rfl⟩ := List.getElem?_eq_some_iff.1 hx
  have c0 := h.c0
  have hsz := h.size
  obtain ⟨q, o, rfl, hc⟩ := h.bytes i hi
  obtain ⟨y, hy⟩ : ∃ y, b[i] = y := ⟨_, rfl⟩
  rw [hy] at hc ⊢
  have hcp := h.cap
  obtain ⟨n, hn⟩ : ∃ n, b.length = n := ⟨_, rfl⟩
  rw [hn] at hi c0 hsz hcp
  have l1 : ¬ ((n : Int) ≤ (i : Int)) := by omega
  have l2 : (i : Int) < (n : Int) := by omega
  clear h hx hy hn
  go_enter Tryz.func131, Tryz.ntmps131
  go_wp2
  go_ret
  exact ⟨rfl, rfl⟩
theorem next_out {p : Nat} {a : Option Addr} {c k : Nat} {b : Bs} {w : World} (h : IsR p a c b k w) (i : Nat) (hi : b.length ≤ i) (_hi2 : i ≤ 2000000000000) : Calls Tryz.prog 131 #[.pointer (some ⟨p, 0, none⟩), .int .i64 i] w (Fell 92 w) := by
  have c0 := h.c0
  obtain ⟨n, hn⟩ : ∃ n, b.length = n := ⟨_, rfl⟩
  rw [hn] at hi c0
  have l1 : ((n : Int) ≤ (i : Int)) := by omega
  clear h hn
  go_enter Tryz.func131, Tryz.ntmps131
  go_wp2
  exact ⟨rfl, rfl, Spares.refl _ _⟩
theorem drop_get {b : Bs} {k : Nat} {c : UInt8} {r : Bs} (h : b.drop k = c :: r) : b[k]? = some c ∧ k < b.length ∧ b.drop (k + 1) = r := by
  have hl := congrArg List.length h
  simp only [List.length_drop, List.length_cons] at hl
  refine ⟨?_, by omega, ?_⟩
  · have := congrArg (·[0]?) h
    simpa using this
  · have := congrArg (List.drop 1) h
    rw [List.drop_drop] at this
    simpa using this
theorem drop_end {b : Bs} {k : Nat} (h : b.drop k = []) : b.length ≤ k := by
  have hl := congrArg List.length h
  simp at hl; omega
theorem wantF_yes {c : UInt8} {r : Bs} : wantF c (c :: r) = .ok r := if_pos rfl
theorem wantF_no {c d : UInt8} {r : Bs} (h : ¬ d = c) : wantF c (d :: r) = .error 94 := if_neg h
def WantPost (p : Nat) (a : Option Addr) (c : Nat) (b : Bs) (k : Nat) (r : Except Nat Bs) (w : World) (e : Ending) (w' : World) : Prop := match r with
  | .error n => e = FaultC n ∧ Spares nowhere w w'
  | .ok t => e = .returned (.tuple #[]) ∧ t = b.drop (k + 1) ∧ IsR p a c b (k + 1) w' ∧ Spares (fun x => x = p) w w'
theorem expect_any {p : Nat} {a : Option Addr} {c k : Nat} {b : Bs} {w : World} (h : IsR p a c b k w) (x : UInt8) : Calls Tryz.prog 108 #[.pointer (some ⟨p, 0, none⟩), .int .u8 x.toNat] w (WantPost p a c b k (wantF x (b.drop k)) w) := by
  have c1 := h.c1
  have H := Lib.hid h
  have hk : k ≤ 1000000000000 := Nat.le_trans h.le h.size
  cases hd : b.drop k with
  | nil =>
    have cN := next_out h k (drop_end hd) (by omega)
    unfold Fell at cN
    show Calls _ _ _ _ (fun e w' => e = FaultC 92 ∧ Spares nowhere w w')
    clear h hd
    go_enter Tryz.func108, Tryz.ntmps108
    go_wp2_with fail
    refine cN.mono ?_
    rintro e w1 ⟨rfl, hs⟩
    unfold FaultC
    go_wp2
    exact ⟨rfl, rfl, hs⟩
  | cons d r =>
    obtain ⟨g1, g2, g3⟩ := drop_get hd
    have cN := next_in h k d g1
    by_cases hx : d = x
    · subst hx
      rw [wantF_yes]
      have hfz := h.fz 1
      have HM := Lib.hid (h.move (j := k + 1) (by omega))
      have G3 := Lib.hid g3
      unfold WantPost
      clear h hd g1 g3
      go_enter Tryz.func108, Tryz.ntmps108
      go_wp2_with fail
      refine cN.mono ?_
      rintro e w1 ⟨rfl, hw⟩
      replace hw := hw.symm
      subst hw
      have q : ((d.toNat : Int) != (d.toNat : Int)) = false := by unfold bne; simp
      go_wp2
      first | go_end0 | (simp only [Exit.inBlock, Exit.then]; refine bodyPost_ret (results_none rfl _ _ _) rfl ?_) | refine bodyPost_ret (results_none rfl _ _ _) rfl ?_
      exact ⟨rfl, G3.out.symm, HM.out.1, HM.out.2⟩
    · rw [wantF_no hx]
      show Calls _ _ _ _ (fun e w' => e = FaultC 94 ∧ Spares nowhere w w')
      have q : ((d.toNat : Int) != (x.toNat : Int)) = true := by
        unfold bne
        rw [Bool.not_eq_true', beq_eq_false_iff_ne]
        intro e
        exact hx (UInt8.toNat_inj.1 (by omega))
      clear h hd g1 g3 hx
      go_enter Tryz.func108, Tryz.ntmps108
      go_wp2_with fail
      refine cN.mono ?_
      rintro e w1 ⟨rfl, hw⟩
      replace hw := hw.symm
      subst hw
      go_wp2
      exact ⟨rfl, rfl, Spares.refl _ _⟩
def TakePost (p : Nat) (a : Option Addr) (c : Nat) (b : Bs) (k n : Nat) (w : World) (e : Ending) (w' : World) : Prop :=
  if (b.drop k).length < n then e = FaultC 92 ∧ Spares nowhere w w'
  else ∃ x o c', e = .returned (.slice (some ⟨x, o, none⟩) n c') ∧ BytesAt w' (some ⟨x, o, none⟩) ((b.drop k).take n) ∧ IsR p a c b (k + n) w' ∧ Spares (fun x => x = p) w w'
theorem bytesAt_drop {w : World} {x o : Nat} {b : Bs} (h : BytesAt w (some ⟨x, o, none⟩) b) (k n : Nat) : BytesAt w (some ⟨x, o + k, none⟩) ((b.drop k).take n) := by
  intro j hj
  have hj2 : j < n ∧ k + j < b.length := by simp at hj; omega
  obtain ⟨y, z, e, hc⟩ := h (k + j) hj2.2
  injection e with e
  injection e with e1 e2
  subst e1; subst e2
  refine ⟨x, o + k, rfl, ?_⟩
  rw [Nat.add_assoc, hc]
  simp
set_option maxHeartbeats 2000000 in
theorem take_any {p : Nat} {a : Option Addr} {c k : Nat} {b : Bs} {w : World} (h : IsR p a c b k w) (n : Nat) (h0 : 0 < n) (hn : n ≤ 1000000000000) : Calls Tryz.prog 107 #[.pointer (some ⟨p, 0, none⟩), .int .i64 n] w (TakePost p a c b k n w) := by
  have c0 := h.c0
  have c1 := h.c1
  have hle := h.le
  have hcp := h.cap
  have hsz := h.size
  by_cases hlt : (b.drop k).length < n
  · have HP : Hid (∀ e w', (e = FaultC 92 ∧ Spares nowhere w w') → TakePost p a c b k n w e w') := Lib.hid (fun e w' h => by unfold TakePost; rw [if_pos hlt]; exact h)
    have l0 : b.length - k < n := by simpa using hlt
    obtain ⟨m, hm⟩ : ∃ m, b.length = m := ⟨_, rfl⟩
    rw [hm] at c0 hle hcp hsz l0
    have l1 : (m : Int) - (k : Int) < (n : Int) := by omega
    clear h hlt hm
    go_enter Tryz.func107, Tryz.ntmps107
    go_wp2
    go_region
    go_wp2
    exact ⟨rfl, HP.out _ _ ⟨rfl, (Spares.refl _ _).drew⟩⟩
  · have l0 : k + n ≤ b.length := by simp at hlt; omega
    obtain ⟨x, o, rfl, _⟩ := h.bytes 0 (by omega)
    have hfz := h.fz 1
    have hm := h.move (j := k + n) l0
    have HD : Hid (BytesAt (w.setCell ⟨p, 1, none⟩ (.int .i64 ((k + n : Nat) : Int))).drew.drew (some ⟨x, o + k, none⟩) ((b.drop k).take n) ∧ IsR p (some ⟨x, o, none⟩) c b (k + n) (w.setCell ⟨p, 1, none⟩ (.int .i64 ((k + n : Nat) : Int))).drew.drew ∧ Spares (fun x => x = p) w (w.setCell ⟨p, 1, none⟩ (.int .i64 ((k + n : Nat) : Int))).drew.drew) :=
      Lib.hid ⟨bytesAt_drop (hm.1.bytes) k n, hm.1.quiet ((Spares.refl _ _).drew.drew), hm.2.drew.drew⟩
    have d0 := hm.1.c0
    have d1 := hm.1.c1
    have HP : Hid (¬ (b.drop k).length < n) := Lib.hid hlt
    have kn : ((k + n : Nat) : Int) = (k : Int) + (n : Int) := by omega
    rw [kn] at d0 d1 HD
    obtain ⟨m, hm'⟩ : ∃ m, b.length = m := ⟨_, rfl⟩
    rw [hm'] at c0 d0 hle hcp hsz l0
    have l1 : ¬ ((m : Int) - (k : Int) < (n : Int)) := by omega
    have l2 : (k : Int) + (n : Int) ≤ (m : Int) := by omega
    have l3 : (k : Int) + (n : Int) ≤ (c : Int) := by omega
    have l4 : (k : Int) + (n : Int) - (n : Int) = (k : Int) := by omega
    clear h hlt hm hm'
    go_enter Tryz.func107, Tryz.ntmps107
    go_wp2
    go_region
    go_wp2
    go_region
    go_wp2
    go_ret
    unfold TakePost
    rw [if_neg HP.out]
    refine ⟨x, o + k, c - k, ?_, HD.out.1, HD.out.2.1, HD.out.2.2⟩
    show Ending.returned (.slice (some ⟨x, o + k, none⟩) (k + n - k) (c - k)) = _
    rw [Nat.add_sub_cancel_left]
end Go.Proofs.YtjpmofnnjdhamaaGreatDoor
namespace Go.Proofs.YtjpmofnnjdhamaaGreatDoor
open Go.RowKit HeadMath NormMath NormS ChunkMath

def LinePost (p : Nat) (a : Option Addr) (c : Nat) (b : Bs) (r : Except Nat (Bs × Bs)) (w : World) (e : Ending) (w' : World) : Prop := match r with
  | .error n => e = FaultC n ∧ Spares nowhere w w'
  | .ok (t, s) => e = .returned (.string ⟨t.toArray⟩) ∧ ∃ k, s = b.drop k ∧ IsR p a c b k w' ∧ Spares (fun x => x = p) w w'
theorem linePost_error {p : Nat} {a : Option Addr} {c : Nat} {b : Bs} {r : Except Nat (Bs × Bs)} {w w' : World} {e : Ending} {n : Nat} (h : r = .error n) (he : e = FaultC n) (hs : Spares nowhere w w') : LinePost p a c b r w e w' := by subst h; exact ⟨he, hs⟩
theorem linePost_ok {p : Nat} {a : Option Addr} {c k : Nat} {b t s : Bs} {r : Except Nat (Bs × Bs)} {w w' : World} {e : Ending} (h : r = .ok (t, s)) (he : e = .returned (.string ⟨t.toArray⟩)) (h1 : s = b.drop k) (h2 : IsR p a c b k w') (hs : Spares (fun x => x = p) w w') : LinePost p a c b r w e w' := by subst h; exact ⟨he, k, h1, h2, hs⟩
theorem take_on {b : Bs} {k i : Nat} {x : UInt8} (hk : k ≤ i) (h : b[i]? = some x) : (b.drop k).take (i + 1 - k) = (b.drop k).take (i - k) ++ [x] := by
  rw [show i + 1 - k = (i - k) + 1 by omega, List.take_add_one, List.getElem?_drop, show k + (i - k) = i by omega, h]
  rfl
set_option maxHeartbeats 8000000 in
theorem line_any {p : Nat} {a : Option Addr} {c k : Nat} {b : Bs} {w : World} (h : IsR p a c b k w) : Calls Tryz.prog 106 #[.pointer (some ⟨p, 0, none⟩)] w (LinePost p a c b (lineF (b.drop k)) w) := by
  have H := Lib.hid h
  have c0 := h.c0
  have c1 := h.c1
  have hsz := h.size
  have hle := h.le
  have hcp := h.cap
  have hfz := h.fz 1
  obtain ⟨R, hR⟩ : ∃ R, lineF (b.drop k) = R := ⟨_, rfl⟩
  rw [hR]
  have HR0 : Hid (R = lineG ((b.drop k).take (k - k)) (b.drop k)) := Lib.hid (by rw [← hR, Nat.sub_self]; rfl)
  clear h hR
  go_enter Tryz.func106, Tryz.ntmps106
  go_wp2
  go_loopw [3] (fun i wr => ∃ j : Nat, i = .int .i64 j ∧ k ≤ j ∧ j ≤ b.length ∧ j - k ≤ 1024 ∧ Hid (R = lineG ((b.drop k).take (j - k)) (b.drop j)) ∧ Hid (wr = w)) (fun i _ => b.length + 1 - (intOf i).toNat)
  case atStart => exact ⟨k, rfl, Nat.le_refl _, hle, by omega, HR0, Lib.hid rfl⟩
  case round =>
    obtain ⟨j, rfl, hkj, hjb, hj10, HR, HW⟩ := hrel
    obtain rfl := HW.out
    cases hd : b.drop j with
    | nil =>
      have cN := next_out H.out j (drop_end hd) (by omega)
      unfold Fell at cN
      have HE : Hid (R = .error 92) := Lib.hid (by rw [HR.out, hd, lineG])
      clear hd
      go_wp2_with fail
      refine cN.mono ?_
      rintro e w1 ⟨rfl, hs⟩
      unfold FaultC
      go_wp2
      exact ⟨rfl, linePost_error HE.out rfl hs⟩
    | cons x r =>
      obtain ⟨g1, g2, g3⟩ := drop_get hd
      have cN := next_in H.out j x g1
      have hlen : ((b.drop k).take (j - k)).length = j - k := by simp; omega
      by_cases h13 : x = 13
      · subst h13
        cases r with
        | nil =>
          have cN2 := next_out H.out (j + 1) (drop_end g3) (by omega)
          unfold Fell at cN2
          rw [show ((j + 1 : Nat) : Int) = (j : Int) + 1 by omega] at cN2
          have HE : Hid (R = .error 92) := Lib.hid (by rw [HR.out, hd, lineG_cr])
          clear hd g1 g3 hlen
          go_wp2_with fail
          refine cN.mono ?_
          rintro e w1 ⟨rfl, hw⟩
          replace hw := hw.symm
          subst hw
          go_wp2_with fail
          refine cN2.mono ?_
          rintro e w1 ⟨rfl, hs⟩
          unfold FaultC
          go_wp2
          exact ⟨rfl, linePost_error HE.out rfl hs⟩
        | cons d r' =>
          obtain ⟨f1, f2, f3⟩ := drop_get g3
          have cN2 := next_in H.out (j + 1) d f1
          rw [show ((j + 1 : Nat) : Int) = (j : Int) + 1 by omega] at cN2
          by_cases h10 : d = 10
          · subst h10
            have HE : Hid (R = .ok ((b.drop k).take (j - k), r')) := Lib.hid (by rw [HR.out, hd, lineG_end])
            have F3 := Lib.hid f3
            obtain ⟨y, o, rfl, _⟩ := H.out.bytes j g2
            obtain ⟨T, hT⟩ : ∃ T, (b.drop k).take (j - k) = T := ⟨_, rfl⟩
            rw [hT] at hlen HE
            have hcv : ∀ W : World, BytesAt W (some ⟨y, o + k, none⟩) T → (convert 23 9 (.slice (some ⟨y, o + k, none⟩) (j - k) (c - k))).run Tryz.prog W = .ok (.string ⟨T.toArray⟩) W := fun W hb => by
              have := conv_bytes hb (c - k)
              rwa [hlen] at this
            have hbt : ∀ m, BytesAt (wr.drewN m) (some ⟨y, o + k, none⟩) T := fun m => by rw [← hT]; exact bytesAt_drop (H.out.bytes.spares (F := nowhere) ((Spares.refl _ _).drewN m) (fun _ _ _ h => h)) k (j - k)
            have hcv0 := hcv wr (hbt 0)
            have hcv1 := hcv wr.drew (hbt 1)
            have hmv := H.out.move (j := j + 2) (by omega)
            rw [show ((j + 2 : Nat) : Int) = (j : Int) + 2 by omega] at hmv
            have HM := Lib.hid hmv
            obtain ⟨S, hS⟩ : ∃ S : ByteArray, (⟨T.toArray⟩ : ByteArray) = S := ⟨_, rfl⟩
            rw [hS] at hcv0 hcv1
            have HSS := Lib.hid hS
            obtain ⟨n, hn⟩ : ∃ n, b.length = n := ⟨_, rfl⟩
            rw [hn] at c0 hcp hjb hle hsz f2 g2
            have l1 : (j : Int) ≤ (n : Int) := by omega
            have l2 : (j : Int) ≤ (c : Int) := by omega
            have l3 : (k : Int) ≤ (j : Int) := by omega
            have HN := Lib.hid hn
            clear hd g1 g3 f1 f3 hcv hbt hT hlen hmv hS hn
            go_wp2_with fail
            refine cN.mono ?_
            rintro e w1 ⟨rfl, hw⟩
            replace hw := hw.symm
            subst hw
            go_wp2_with fail
            refine cN2.mono ?_
            rintro e w1 ⟨rfl, hw⟩
            replace hw := hw.symm
            subst hw
            go_wp2
            go_region
            go_wp2
            go_ret
            exact linePost_ok HE.out (by rw [HSS.out]; rfl) F3.out.symm (HM.out.1.quiet ((Spares.refl _ _).drew)) HM.out.2.drew
          · have HE : Hid (R = .error 94) := Lib.hid (by rw [HR.out, hd, lineG_bad h10])
            have q : ((d.toNat : Int) == 10) = false := by
              rw [beq_eq_false_iff_ne]
              intro e
              exact h10 (UInt8.toNat_inj.1 (by show d.toNat = 10; omega))
            clear hd g1 g3 f1 f3 hlen h10
            go_wp2_with fail
            refine cN.mono ?_
            rintro e w1 ⟨rfl, hw⟩
            replace hw := hw.symm
            subst hw
            go_wp2_with fail
            refine cN2.mono ?_
            rintro e w1 ⟨rfl, hw⟩
            replace hw := hw.symm
            subst hw
            go_wp2
            exact ⟨rfl, linePost_error HE.out rfl (Spares.refl _ _)⟩
      · have q13 : ((x.toNat : Int) == 13) = false := by
          rw [beq_eq_false_iff_ne]
          intro e
          exact h13 (UInt8.toNat_inj.1 (by show x.toNat = 13; omega))
        by_cases h10 : x = 10
        · subst h10
          have HE : Hid (R = .error 94) := Lib.hid (by rw [HR.out, hd, lineG_lf])
          clear hd g1 g3 hlen h13
          go_wp2_with fail
          refine cN.mono ?_
          rintro e w1 ⟨rfl, hw⟩
          replace hw := hw.symm
          subst hw
          go_wp2
          exact ⟨rfl, linePost_error HE.out rfl (Spares.refl _ _)⟩
        · have q10 : ((x.toNat : Int) == 10) = false := by
            rw [beq_eq_false_iff_ne]
            intro e
            exact h10 (UInt8.toNat_inj.1 (by show x.toNat = 10; omega))
          by_cases hlong : 1024 ≤ j - k
          · have HE : Hid (R = .error 94) := Lib.hid (by rw [HR.out, hd, lineG_long h13 (by rw [hlen]; exact hlong)])
            have l1 : (1024 : Int) ≤ (j : Int) - (k : Int) := by omega
            clear hd g1 g3 hlen h13 h10
            go_wp2_with fail
            refine cN.mono ?_
            rintro e w1 ⟨rfl, hw⟩
            replace hw := hw.symm
            subst hw
            go_wp2
            exact ⟨rfl, linePost_error HE.out rfl (Spares.refl _ _)⟩
          · have HE : Hid (R = lineG ((b.drop k).take (j + 1 - k)) (b.drop (j + 1))) := Lib.hid (by rw [HR.out, hd, lineG_plain ⟨h13, h10⟩ (by omega), take_on hkj g1, g3])
            have l1 : ¬ ((1024 : Int) ≤ (j : Int) - (k : Int)) := by omega
            clear hd g1 g3 hlen h13 h10
            go_wp2_with fail
            refine cN.mono ?_
            rintro e w1 ⟨rfl, hw⟩
            replace hw := hw.symm
            subst hw
            go_wp2
            go_roundw
            case rel => exact ⟨j + 1, by go_num, by omega, by omega, by omega, HE, by first | exact Lib.hid rfl | exact Lib.hid trivial⟩
            case measure => simp [intOf]; omega
end Go.Proofs.YtjpmofnnjdhamaaGreatDoor
namespace Go.Proofs.YtjpmofnnjdhamaaGreatDoor
open Go.RowKit HeadMath NormMath NormS ChunkMath

theorem bytesAt_take8 {w : World} {a : Option Addr} {b : Bs} (h : BytesAt w a b) (n : Nat) : BytesAt w a (b.take n) := by
  intro j hj
  have hj2 : j < b.length := by simp at hj; omega
  obtain ⟨y, z, e, hc⟩ := h j hj2
  exact ⟨y, z, e, by rw [hc]; simp⟩
theorem bytesAt_drop8 {w : World} {x o : Nat} {b : Bs} (h : BytesAt w (some ⟨x, o, none⟩) b) (k : Nat) : BytesAt w (some ⟨x, o + k, none⟩) (b.drop k) := by
  intro j hj
  have hj2 : k + j < b.length := by simp at hj; omega
  obtain ⟨y, z, e, hc⟩ := h (k + j) hj2
  injection e with e
  injection e with e1 e2
  subst e1; subst e2
  refine ⟨x, o + k, rfl, ?_⟩
  rw [Nat.add_assoc, hc]
  simp
end Go.Proofs.YtjpmofnnjdhamaaGreatDoor
namespace Go.Proofs.YtjpmofnnjdhamaaGreatDoor
open Go.RowKit HeadMath NormMath NormS ChunkMath

def lineQ : Bs → Bs → Except Nat (Bs × Bs)
  | _, [] => .error 92
  | acc, c :: r => if 1024 < acc.length ∨ c = 10 then .error 94 else if c = 13 then crF acc r else lineQ (acc ++ [c]) r
theorem lineQ_bad {acc r : Bs} {c : UInt8} (h : 1024 < acc.length ∨ c = 10) : lineQ acc (c :: r) = .error 94 := by rw [lineQ, if_pos h]
theorem lineQ_cr {acc r : Bs} (h : ¬ 1024 < acc.length) : lineQ acc (13 :: r) = crF acc r := by
  rw [lineQ, if_neg (by rintro (e | e); exact h e; exact absurd e (by decide)), if_pos rfl]
theorem lineQ_on {acc r : Bs} {c : UInt8} (h : ¬ 1024 < acc.length) (h10 : c ≠ 10) (h13 : c ≠ 13) : lineQ acc (c :: r) = lineQ (acc ++ [c]) r := by
  rw [lineQ, if_neg (by rintro (e | e); exact h e; exact h10 e), if_neg h13]
/-- No line of it is too long: of any 1025 bytes in it one is a CR, but for the last 1024. -/
def FitL (s : Bs) : Prop := s.length ≤ 60000 ∧ ∀ k, (s.drop k).length ≤ 1024 ∨ ∃ j, j ≤ 1024 ∧ (s.drop k)[j]? = some 13
theorem lineQ_eq : ∀ (s acc : Bs), (acc.length + s.length ≤ 1024 ∨ ∃ j, acc.length + j ≤ 1024 ∧ s[j]? = some 13) → lineQ acc s = lineG acc s
  | [], acc, _ => by rw [lineQ, lineG]
  | c :: r, acc, h => by
    rw [List.length_cons] at h
    by_cases h13 : c = 13
    · subst h13
      rw [lineG, if_pos rfl, lineQ_cr (by rcases h with h | ⟨j, h, _⟩ <;> omega)]
    · by_cases h10 : c = 10
      · subst h10
        rw [lineG_lf, lineQ_bad (.inr rfl)]
      · have hacc : acc.length < 1024 ∧ ((acc ++ [c]).length + r.length ≤ 1024 ∨ ∃ j, (acc ++ [c]).length + j ≤ 1024 ∧ r[j]? = some 13) := by
          rw [List.length_append]
          rcases h with h | ⟨j, h, hj⟩
          · exact ⟨by omega, .inl (by simp; omega)⟩
          · cases j with
            | zero => simp at hj; exact absurd hj h13
            | succ j => exact ⟨by omega, .inr ⟨j, by simp; omega, by simpa using hj⟩⟩
        rw [lineQ_on (by omega) h10 h13, lineG_plain ⟨h13, h10⟩ hacc.1]
        exact lineQ_eq r _ hacc.2
theorem fitL_short {s : Bs} (h : s.length ≤ 1024) : FitL s := ⟨by omega, fun k => .inl (by rw [List.length_drop]; omega)⟩
theorem fitL_drop {b : Bs} (h : FitL b) (k : Nat) : FitL (b.drop k) :=
  ⟨by have := h.1; rw [List.length_drop]; omega, fun j => by rw [List.drop_drop]; exact h.2 _⟩
/-- A piece of a line, its CR, and what fits behind. -/
theorem fitL_seg (g : Bs) {t : Bs} (hg : g.length ≤ 1024) (h : FitL t) (hl : (g ++ 13 :: t).length ≤ 60000) : FitL (g ++ 13 :: t) := by
  refine ⟨hl, fun k => ?_⟩
  by_cases hk : k ≤ g.length
  · refine .inr ⟨g.length - k, by omega, ?_⟩
    rw [List.getElem?_drop, Nat.add_sub_cancel' hk, List.getElem?_append_right (Nat.le_refl _), Nat.sub_self]
    rfl
  · obtain ⟨m, rfl⟩ : ∃ m, k = g.length + (m + 1) := ⟨k - g.length - 1, by omega⟩
    rw [← List.drop_drop, List.drop_left, List.drop_succ_cons]
    exact h.2 m
def RefLine (b : Bs) (r : Except Nat (Bs × Bs)) (w : World) (e : Ending) (w' : World) : Prop := (match r with
  | .error n => e = .returned (.tuple #[.string ⟨#[]⟩, .int .i64 0, .int .i64 n])
  | .ok (t, s) => e = .returned (.tuple #[.string ⟨t.toArray⟩, .int .i64 ((b.length - s.length : Nat) : Int), .int .i64 0])) ∧ w = w'
theorem refLine_error {b : Bs} {r : Except Nat (Bs × Bs)} {w : World} {e : Ending} {n : Nat} (h : r = .error n) (he : e = .returned (.tuple #[.string ⟨#[]⟩, .int .i64 0, .int .i64 n])) : RefLine b r w e w := by subst h; exact ⟨he, rfl⟩
theorem refLine_ok {b t s : Bs} {r : Except Nat (Bs × Bs)} {w : World} {e : Ending} (h : r = .ok (t, s)) (he : e = .returned (.tuple #[.string ⟨t.toArray⟩, .int .i64 ((b.length - s.length : Nat) : Int), .int .i64 0])) : RefLine b r w e w := by subst h; exact ⟨he, rfl⟩
set_option maxRecDepth 100000 in
set_option maxHeartbeats 8000000 in
theorem refLine_any (a : Option Addr) (c : Nat) (b : Bs) (k : Nat) (w : World) (hb : BytesAt w a b) (hc : b.length ≤ c) (hz : b.length ≤ 1000000000) (hk : k ≤ b.length) (he : FitL b) : Calls Tryz.prog 83 #[.slice a b.length c, .int .i64 k] w (RefLine b (lineF (b.drop k)) w) := by
  have HB := Lib.hid hb
  obtain ⟨R, hR⟩ : ∃ R, lineF (b.drop k) = R := ⟨_, rfl⟩
  rw [hR]
  have HR0 : Hid (R = lineQ ((b.drop k).take (k - k)) (b.drop k)) := Lib.hid (by rw [← hR, Nat.sub_self]; exact (lineQ_eq _ _ (by rcases he.2 k with h | ⟨j, h, hj⟩; exact .inl (by simp at h ⊢; omega); exact .inr ⟨j, by simp; omega, hj⟩)).symm)
  obtain ⟨bl, hbl⟩ : ∃ bl, b.length = bl := ⟨_, rfl⟩
  have HBL := Lib.hid hbl
  rw [hbl] at hc hz hk ⊢
  clear hb hR he hbl
  go_enter Tryz.func83, Tryz.ntmps83
  go_wp2
  go_loop [7] (fun i => ∃ j : Nat, i = .int .i64 j ∧ k ≤ j ∧ j ≤ bl ∧ j - k ≤ 1025 ∧ Hid (R = lineQ ((b.drop k).take (j - k)) (b.drop j))) (fun i => bl + 1 - (intOf i).toNat)
  case atStart => exact ⟨k, rfl, Nat.le_refl _, hk, by omega, HR0⟩
  case round =>
    obtain ⟨j, rfl, hkj, hjb, hj10, HR⟩ := hrel
    cases hd : b.drop j with
    | nil =>
      have i1 : ¬ (j : Int) < (bl : Int) := by have := drop_end hd; have := HBL.out; omega
      have HE : Hid (R = .error 92) := Lib.hid (by rw [HR.out, hd, lineQ])
      clear hd
      go_wp2
      go_ret3
      exact refLine_error HE.out rfl
    | cons x r =>
      obtain ⟨g1, g2, g3⟩ := drop_get hd
      have i1 : (j : Int) < (bl : Int) := by have := HBL.out; omega
      have hlen : ((b.drop k).take (j - k)).length = j - k := by have := HBL.out; simp; omega
      obtain ⟨y, z, rfl, c1⟩ := HB.out j g2
      have hx1 : b[j] = x := by have := List.getElem?_eq_getElem g2; rw [g1] at this; exact (Option.some.inj this).symm
      rw [hx1] at c1
      by_cases hlong : 1024 < j - k
      · have l1 : (1024 : Int) < (j : Int) - (k : Int) := by omega
        have HE : Hid (R = .error 94) := Lib.hid (by rw [HR.out, hd, lineQ_bad (.inl (by omega))])
        clear hd g1 g3 hlen hx1
        go_wp2
        go_ret3
        exact refLine_error HE.out rfl
      · have l1 : ¬ ((1024 : Int) < (j : Int) - (k : Int)) := by omega
        by_cases h10 : x = 10
        · subst h10
          have HE : Hid (R = .error 94) := Lib.hid (by rw [HR.out, hd, lineQ_bad (.inr rfl)])
          clear hd g1 g3 hlen hx1
          go_wp2
          go_ret3
          exact refLine_error HE.out rfl
        · have q10 : ((x.toNat : Int) == 10) = false := by
            rw [beq_eq_false_iff_ne]
            intro e
            exact h10 (UInt8.toNat_inj.1 (by show x.toNat = 10; omega))
          by_cases h13 : x = 13
          · subst h13
            cases r with
            | nil =>
              have HE : Hid (R = .error 92) := Lib.hid (by rw [HR.out, hd, lineQ_cr (by omega)]; rfl)
              have i2 : (bl : Int) ≤ (j : Int) + 1 := by have := drop_end g3; have := HBL.out; omega
              clear hd g1 g3 hlen hx1
              go_wp2
              go_ret3
              exact refLine_error HE.out rfl
            | cons d r' =>
              obtain ⟨f1, f2, f3⟩ := drop_get g3
              have i2 : ¬ (bl : Int) ≤ (j : Int) + 1 := by have := HBL.out; omega
              obtain ⟨y2, z2, e2, c2⟩ := HB.out (j + 1) f2
              injection e2 with e2
              injection e2 with e3 e4
              subst e3
              subst e4
              have hx2 : b[j + 1] = d := by have := List.getElem?_eq_getElem f2; rw [f1] at this; exact (Option.some.inj this).symm
              rw [hx2] at c2
              have c3 := c2
              rw [← Nat.add_assoc] at c3
              have i3 : (j : Int) + 1 < (bl : Int) := by have := HBL.out; omega
              by_cases hd10 : d = 10
              · subst hd10
                have HE : Hid (R = .ok ((b.drop k).take (j - k), r')) := Lib.hid (by rw [HR.out, hd, lineQ_cr (by omega)]; rfl)
                have HRL : Hid (((bl - r'.length : Nat) : Int) = (j : Int) + 2) := Lib.hid (by have := congrArg List.length f3; rw [List.length_drop] at this; have := HBL.out; omega)
                obtain ⟨T, hT⟩ : ∃ T, (b.drop k).take (j - k) = T := ⟨_, rfl⟩
                rw [hT] at hlen HE
                have hcv : (convert 23 9 (.slice (some ⟨y, z + k, none⟩) (j - k) (c - k))).run Tryz.prog w = .ok (.string ⟨T.toArray⟩) w := by
                  have h1 := conv_bytes (w := w) (a := some ⟨y, z + k, none⟩) (l := T) (by rw [← hT]; exact bytesAt_take8 (bytesAt_drop8 HB.out k) (j - k)) (c - k)
                  rwa [hlen] at h1
                clear hd g1 g3 hlen hx1 hx2 f1 f3 hT
                obtain ⟨SS, hSS⟩ : ∃ SS : ByteArray, (⟨T.toArray⟩ : ByteArray) = SS := ⟨_, rfl⟩
                rw [hSS] at hcv
                have HSS := Lib.hid hSS
                have s1 : (j : Int) ≤ (c : Int) := by omega
                have s2 : (k : Int) ≤ (j : Int) := by omega
                clear hSS
                go_wp2
                go_ret3
                exact refLine_ok HE.out (by rw [HBL.out, HRL.out, HSS.out]; rfl)
              · have q2 : ((d.toNat : Int) == 10) = false := by
                  rw [beq_eq_false_iff_ne]
                  intro e
                  exact hd10 (UInt8.toNat_inj.1 (by show d.toNat = 10; omega))
                have q3 : ((d.toNat : Int) != 10) = true := by unfold bne; rw [q2]; rfl
                have HE : Hid (R = .error 94) := Lib.hid (by rw [HR.out, hd, lineQ_cr (by omega), crF, if_neg hd10])
                clear hd g1 g3 hlen hx1 hx2 f1 f3
                go_wp2
                go_ret3
                exact refLine_error HE.out rfl
          · have q13 : ((x.toNat : Int) == 13) = false := by
              rw [beq_eq_false_iff_ne]
              intro e
              exact h13 (UInt8.toNat_inj.1 (by show x.toNat = 13; omega))
            have HE : Hid (R = lineQ ((b.drop k).take (j + 1 - k)) (b.drop (j + 1))) := Lib.hid (by rw [HR.out, hd, lineQ_on (by omega) h10 h13, take_on hkj g1, g3])
            clear hd g1 g3 hlen hx1
            go_wp2
            go_round
            case rel => exact ⟨j + 1, by go_num, by omega, by omega, by omega, HE⟩
            case measure => simp [intOf]; omega
end Go.Proofs.YtjpmofnnjdhamaaGreatDoor
namespace Go.Proofs.YtjpmofnnjdhamaaGreatDoor
open Go.RowKit HeadMath NormMath NormS HeadS ChunkMath

theorem i64_or_nat (a b : Nat) (ha : a < 9223372036854775808) (hb : b < 9223372036854775808) : Go.bits .or .i64 (a : Int) (b : Int) = ((a ||| b : Nat) : Int) := by
  have hx : a ||| b < 2 ^ 63 := Nat.or_lt_two_pow (by omega) (by omega)
  have h1 : ∀ c : Nat, c < 9223372036854775808 → (BitVec.ofInt 64 (c : Int)).toNat = c := fun c hc => by
    rw [BitVec.ofInt_natCast, BitVec.toNat_ofNat]; exact Nat.mod_eq_of_lt (by omega)
  show IntKind.i64.wrap ((BitVec.ofInt 64 (a : Int) ||| BitVec.ofInt 64 (b : Int)).toNat : Int) = _
  rw [BitVec.toNat_or, h1 a ha, h1 b hb]
  exact IntWalk.i64_in _ (by omega)
theorem or_digit (n v : Nat) (hn : n < 268435456) (hv : v < 16) : Go.bits .or .i64 ((n : Int) * 16) (v : Int) = ((16 * n + v : Nat) : Int) := by
  rw [show ((n : Int) * 16) = ((16 * n : Nat) : Int) by omega, i64_or_nat _ _ (by omega) (by omega)]
  congr 1
  have := Nat.two_pow_add_eq_or_of_lt (i := 4) (b := v) (by simpa using hv) n
  rw [show (2 : Nat) ^ 4 = 16 from rfl] at this
  exact this.symm
theorem wrap_sixteen (n : Nat) (hn : n < 268435456) : wrap64 ((n : Int) * 16) = (n : Int) * 16 := by unfold wrap64; omega
theorem valH_lt : ∀ (ds : Bs), valH ds < 16 ^ ds.length := by
  intro ds
  suffices h : ∀ (l : Bs) (n : Nat), l.foldl (fun n c => 16 * n + hexN c) n < (n + 1) * 16 ^ l.length by
    have := h ds 0
    unfold valH; omega
  intro l
  induction l with
  | nil => intro n; simp
  | cons c l ih =>
    intro n
    have h1 := ih (16 * n + hexN c)
    have hc := hexN_lt c
    rw [List.foldl_cons, List.length_cons, Nat.pow_succ]
    have h2 : (16 * n + hexN c + 1) * 16 ^ l.length ≤ ((n + 1) * 16) * 16 ^ l.length := Nat.mul_le_mul_right _ (by omega)
    have e : (n + 1) * (16 ^ l.length * 16) = ((n + 1) * 16) * 16 ^ l.length := by rw [Nat.mul_comm (16 ^ l.length) 16, Nat.mul_assoc]
    omega
theorem blank_text {c : UInt8} (h : blankB c = true) : textB c = true := by
  unfold blankB at h
  rw [Bool.or_eq_true, beq_iff_eq, beq_iff_eq] at h
  rcases h with rfl | rfl <;> rfl
theorem trimL_text (s : Bs) : (trimL s).all textB = s.all textB := by
  induction s with
  | nil => rfl
  | cons c s ih =>
    unfold trimL at ih ⊢
    rw [List.dropWhile_cons]
    split
    · rename_i h
      rw [ih, List.all_cons, blank_text h, Bool.true_and]
    · rfl
theorem value_trim (s : Bs) : valueF (trimF s) = s.all textB := by
  unfold valueF
  rw [trimF_id (trimF_bare s)]
  have h : (trimF s).all textB = s.all textB := by
    unfold trimF
    rw [trimL_text, List.all_reverse, trimL_text, List.all_reverse]
  rw [h, beq_self_eq_true, Bool.and_true]
/-- The digits that a line begins with. -/
theorem digits_at {l : Bs} {k : Nat} (h : (l.take k).all hexB = true) (hk : k ≤ l.length) (hn : ∀ x, l[k]? = some x → hexB x = false) : l.takeWhile hexB = l.take k ∧ l.dropWhile hexB = l.drop k := by
  induction k generalizing l with
  | zero =>
    cases l with
    | nil => exact ⟨rfl, rfl⟩
    | cons c l =>
      have := hn c rfl
      rw [List.takeWhile_cons, List.dropWhile_cons, this]
      simp
  | succ k ih =>
    cases l with
    | nil => simp at hk
    | cons c l =>
      rw [List.take_succ_cons, List.all_cons, Bool.and_eq_true] at h
      have := ih h.2 (by simpa using hk) (fun x hx => hn x (by simpa using hx))
      simp only [List.takeWhile_cons, List.dropWhile_cons, h.1, if_true, List.take_succ_cons, List.drop_succ_cons]
      exact ⟨by rw [this.1], this.2⟩
theorem digits_more {l : Bs} {k : Nat} (h : (l.take k).all hexB = true) (hk : k ≤ l.length) : k ≤ (l.takeWhile hexB).length := by
  induction k generalizing l with
  | zero => omega
  | succ k ih =>
    cases l with
    | nil => simp at hk
    | cons c l =>
      rw [List.take_succ_cons, List.all_cons, Bool.and_eq_true] at h
      have := ih h.2 (by simpa using hk)
      simp only [List.takeWhile_cons, h.1, if_true, List.length_cons]
      omega
def LenPost (r : Option Nat) (w : World) (e : Ending) (w' : World) : Prop := (match r with
  | some n => e = .returned (.int .i64 n)
  | none => e = FaultC 94) ∧ Below w.heap.size w w'
theorem lenPost_none {r : Option Nat} {w w' : World} {e : Ending} (h : r = none) (he : e = FaultC 94) (hb : Below w.heap.size w w') : LenPost r w e w' := by subst h; exact ⟨he, hb⟩
theorem lenPost_some {r : Option Nat} {n : Nat} {w w' : World} {e : Ending} (h : r = some n) (he : e = .returned (.int .i64 n)) (hb : Below w.heap.size w w') : LenPost r w e w' := by subst h; exact ⟨he, hb⟩
def cutV (s : ByteArray) : Value := if s.data.toList.head? = some 59 then .tuple #[.string (s.extract 1 s.size), .bool true] else .tuple #[.string s, .bool false]
theorem cutLite_any (s : ByteArray) (w : World) (hs : s.size ≤ 1000000000) : Calls Tryz.prog 111 #[.string s, .string ⟨#[59]⟩] w fun e w' => e = .returned (cutV s) ∧ w' = w := by
  have cH := Tryz.stringslite_HasPrefix s ⟨#[59]⟩ w
  have hp : Lib.hasPrefix s.data.toList (⟨#[59]⟩ : ByteArray).data.toList = decide (s.data.toList.head? = some 59) := by
    cases s.data.toList with
    | nil => rfl
    | cons c t =>
      by_cases hc : c = 59
      · subst hc; simp [Lib.hasPrefix]
      · have : ¬ (59 : UInt8) = c := fun e => hc e.symm
        simp [Lib.hasPrefix, List.isPrefixOf, hc, this]
  by_cases h : s.data.toList.head? = some 59
  · have h0 : 1 ≤ s.size := by
      cases hl : s.data.toList with
      | nil => rw [hl] at h; cases h
      | cons c t => have := congrArg List.length hl; simp at this; omega
    have HV : Hid (cutV s = .tuple #[.string (s.extract 1 s.size), .bool true]) := Lib.hid (if_pos h)
    rw [hp, decide_eq_true h] at cH
    have hz : (⟨#[59]⟩ : ByteArray).size = 1 := rfl
    clear hp h
    go_enter Tryz.func111, Tryz.ntmps111
    go_wp2_with fail
    refine cH.mono ?_
    rintro e w1 ⟨rfl, hw⟩
    replace hw := hw.symm
    subst hw
    go_wp2
    go_ret2
    exact ⟨by rw [HV.out]; rfl, rfl⟩
  · have HV : Hid (cutV s = .tuple #[.string s, .bool false]) := Lib.hid (if_neg h)
    rw [hp, decide_eq_false h] at cH
    clear hp h
    go_enter Tryz.func111, Tryz.ntmps111
    go_wp2_with fail
    refine cH.mono ?_
    rintro e w1 ⟨rfl, hw⟩
    replace hw := hw.symm
    subst hw
    go_wp2
    go_ret2
    exact ⟨by rw [HV.out]; rfl, rfl⟩
theorem cutP_any (s : ByteArray) (w : World) (hs : s.size ≤ 1000000000) (x : ByteArray) (b : Bool) (hc : cutV s = .tuple #[.string x, .bool b]) : Calls Tryz.prog 77 #[.string s, .string ⟨#[59]⟩] w fun e w' => e = .returned (.tuple #[.string x, .bool b]) ∧ w' = w := by
  have cH := cutLite_any s w hs
  rw [hc] at cH
  go_enter Tryz.func77, Tryz.ntmps77
  go_wp2_with fail
  refine cH.mono ?_
  rintro e w1 ⟨rfl, hw⟩
  replace hw := hw.symm
  subst hw
  go_wp2
  go_ret2
  exact ⟨rfl, rfl⟩
theorem lengthF_of {l : Bs} {k : Nat} (h : (l.take k).all hexB = true) (hk : k ≤ l.length) (hn : ∀ x, l[k]? = some x → hexB x = false) : lengthF l = if k = 0 ∨ 8 < k then none else if extB (l.drop k) then some (valH (l.take k)) else none := by
  obtain ⟨h1, h2⟩ := digits_at h hk hn
  unfold lengthF
  rw [h1, h2, List.length_take, Nat.min_eq_left hk]
theorem lengthF_long {l : Bs} (h : (l.take 9).all hexB = true) (hk : 9 ≤ l.length) : lengthF l = none := by
  have := digits_more h hk
  unfold lengthF
  rw [if_pos (.inr (by omega))]
theorem take_snoc (s : ByteArray) (k : Nat) (h : k < s.size) : s.data.toList.take (k + 1) = s.data.toList.take k ++ [s[k]] := by
  rw [List.take_succ_eq_append_getElem (by simpa using h)]; rfl
theorem ext_yes {X Y : ByteArray} (h : cutV X = .tuple #[.string Y, .bool true]) : extB X.data.toList = Y.data.toList.all textB := by
  unfold cutV at h
  split at h
  · rename_i hh
    injection h with h
    have h2 := congrArg (·[0]?) h
    simp only [List.getElem?_toArray, List.getElem?_cons_zero, Option.some.injEq, Value.string.injEq] at h2
    rw [← h2, Lib.extract_to_end]
    cases hl : X.data.toList with
    | nil => rw [hl] at hh; cases hh
    | cons c t =>
      rw [hl] at hh
      injection hh with hh
      subst hh
      rfl
  · injection h with h
    have h2 := congrArg (·[1]?) h
    simp at h2
theorem cut_size {X Y : ByteArray} {b : Bool} (h : cutV X = .tuple #[.string Y, .bool b]) : Y.size ≤ X.size := by
  unfold cutV at h
  split at h
  all_goals
    injection h with h
    have h2 := congrArg (·[0]?) h
    simp only [List.getElem?_toArray, List.getElem?_cons_zero, Option.some.injEq, Value.string.injEq] at h2
    rw [← h2]
  · rw [ByteArray.size_extract]; omega
  · exact Nat.le_refl _
theorem cut_no {X Y : ByteArray} (h : cutV X = .tuple #[.string Y, .bool false]) : X = Y ∧ X.data.toList.head? ≠ some 59 := by
  unfold cutV at h
  split at h
  · injection h with h
    have h2 := congrArg (·[1]?) h
    simp at h2
  · rename_i hh
    injection h with h
    have h2 := congrArg (·[0]?) h
    simp only [List.getElem?_toArray, List.getElem?_cons_zero, Option.some.injEq, Value.string.injEq] at h2
    exact ⟨h2, hh⟩
theorem ext_no {l : Bs} (h : l ≠ []) (hh : l.head? ≠ some 59) : extB l = false := by
  cases l with
  | nil => exact absurd rfl h
  | cons c t =>
    have : c ≠ 59 := fun e => hh (by rw [e]; rfl)
    simp [extB, this]
set_option maxRecDepth 100000 in
set_option maxHeartbeats 16000000 in
theorem length_any (s : ByteArray) (w : World) (hs : s.size ≤ 1000000000) : Calls Tryz.prog 105 #[.string s] w (LenPost (lengthF s.data.toList) w) := by
  obtain ⟨R, hR⟩ : ∃ R, lengthF s.data.toList = R := ⟨_, rfl⟩
  rw [hR]
  have HR := Lib.hid hR
  have hl : s.data.toList.length = s.size := by simp
  clear hR
  go_enter Tryz.func105, Tryz.ntmps105
  go_wp2
  go_loopw [3, 4] (fun n d wr => ∃ k : Nat, k ≤ s.size ∧ k ≤ 8 ∧ d = .int .i64 k ∧ n = .int .i64 (valH (s.data.toList.take k)) ∧ Hid ((s.data.toList.take k).all hexB = true) ∧ Hid (w = wr)) (fun _ d _ => s.size + 1 - (intOf d).toNat)
  case atStart => exact ⟨0, Nat.zero_le _, by omega, rfl, rfl, Lib.hid rfl, Lib.hid rfl⟩
  case round =>
    obtain ⟨k, hk, hk8, rfl, rfl, HA, HW⟩ := hrel
    by_cases hx : ∃ h : k < s.size, hexB s[k] = true
    · obtain ⟨hlt, hx⟩ := hx
      have hts := take_snoc s k hlt
      have HA2 : Hid ((s.data.toList.take (k + 1)).all hexB = true) := Lib.hid (by rw [hts, List.all_append, HA.out]; simp [hx])
      have hv := hexN_lt s[k]
      have hlim := valH_lt (s.data.toList.take k)
      rw [List.length_take, hl, Nat.min_eq_left hk] at hlim
      have HV : Hid (valH (s.data.toList.take (k + 1)) = 16 * valH (s.data.toList.take k) + hexN s[k]) := Lib.hid (by rw [hts, valH_snoc])
      have cX := fun w => hex_any s[k] w
      unfold HexPost at cX
      rw [hx] at cX
      obtain ⟨y, hy⟩ : ∃ y, s[k] = y := ⟨_, rfl⟩
      obtain ⟨V, hV⟩ : ∃ V, valH (s.data.toList.take k) = V := ⟨_, rfl⟩
      rw [hV] at hlim HV ⊢
      simp only [hy] at cX hv HV
      obtain ⟨v, hv'⟩ : ∃ v, hexN y = v := ⟨_, rfl⟩
      simp only [hv'] at cX hv HV
      have HY := Lib.hid hy
      clear hts hx hV hv' hy
      by_cases h8 : k = 8
      · subst h8
        have HN : Hid (R = none) := Lib.hid (by rw [← HR.out]; exact lengthF_long HA2.out (by omega))
        go_wp2_with fail
        rw [HY.out]
        refine (cX _).mono ?_
        rintro e w1 ⟨rfl, hw⟩
        subst hw
        go_wp2
        exact ⟨rfl, lenPost_none HN.out rfl (by rw [HW.out]; exact Below.refl _ _)⟩
      · have l1 : ¬ ((8 : Int) < (k : Int) + 1) := by omega
        have hV28 : V < 268435456 := by
          have h7 : (16 : Nat) ^ k ≤ 16 ^ 7 := Nat.pow_le_pow_right (by decide) (by omega)
          rw [show (16 : Nat) ^ 7 = 268435456 from by decide] at h7
          omega
        have g1 := wrap_sixteen V hV28
        have g2 := or_digit V v hV28 hv
        clear hlim hV28
        go_wp2_with fail
        rw [HY.out]
        refine (cX _).mono ?_
        rintro e w1 ⟨rfl, hw⟩
        subst hw
        go_wp2
        go_roundw
        case rel => exact ⟨k + 1, by omega, by omega, by go_num, by rw [HV.out]; go_num, HA2, HW⟩
        case measure => simp [intOf]; omega
    · have HF : Hid (R = if k = 0 ∨ 8 < k then none else if extB (s.data.toList.drop k) then some (valH (s.data.toList.take k)) else none) := Lib.hid (by
        rw [← HR.out]
        refine lengthF_of HA.out (by omega) (fun x hx2 => ?_)
        obtain ⟨h1, rfl⟩ := List.getElem?_eq_some_iff.1 hx2
        cases hb : hexB s.data.toList[k] with
        | false => rfl
        | true => exact absurd ⟨by simpa using h1, hb⟩ hx)
      -- GEN
      obtain ⟨X, hX⟩ : ∃ X, s.extract k s.size = X := ⟨_, rfl⟩
      have hXd : X.data.toList = s.data.toList.drop k := by rw [← hX, Lib.extract_to_end]
      have hXz : X.size ≤ 1000000000 := by rw [← hX, ByteArray.size_extract]; omega
      have HX := Lib.hid hX
      rw [← hXd] at HF
      obtain ⟨V, hV⟩ : ∃ V, valH (s.data.toList.take k) = V := ⟨_, rfl⟩
      rw [hV] at HF ⊢
      obtain ⟨Y, ex, hc⟩ : ∃ Y ex, cutV X = .tuple #[.string Y, .bool ex] := by unfold cutV; split; exact ⟨_, _, rfl⟩; exact ⟨_, _, rfl⟩
      have cP := fun w => cutP_any X w hXz Y ex hc
      clear hX hV
      by_cases hk0 : k = 0
      · have HE : Hid (R = none) := Lib.hid (by rw [HF.out, if_pos (.inl hk0)])
        have hk0i : ((k : Int) == 0) = true := by rw [hk0]; rfl
        clear hc hXd hk0
        by_cases hlt : k < s.size
        · have hxf : hexB s[k] = false := by cases hb : hexB s[k] with | false => rfl | true => exact absurd ⟨hlt, hb⟩ hx
          have cX := fun w => hex_any s[k] w
          unfold HexPost at cX
          rw [hxf] at cX
          obtain ⟨y, hy⟩ : ∃ y, s[k] = y := ⟨_, rfl⟩
          simp only [hy] at cX
          have HY := Lib.hid hy
          obtain ⟨v, hv⟩ : ∃ v, hexN y = v := ⟨_, rfl⟩
          simp only [hv] at cX
          clear hxf hy hv hx
          go_wp2_with fail
          rw [HY.out]
          refine (cX _).mono ?_
          rintro e w1 ⟨rfl, hw⟩
          subst hw
          go_wp2_with fail
          rw [HX.out]
          refine (cP _).mono ?_
          rintro e w1 ⟨rfl, hw⟩
          replace hw := hw.symm
          subst hw
          go_wp2
          exact ⟨rfl, lenPost_none HE.out rfl (by rw [HW.out]; exact Below.refl _ _)⟩
        · have hkk : ¬ ((k : Int) < (s.size : Int)) := by omega
          clear hx hlt
          go_wp2_with fail
          rw [HX.out]
          refine (cP _).mono ?_
          rintro e w1 ⟨rfl, hw⟩
          replace hw := hw.symm
          subst hw
          go_wp2
          exact ⟨rfl, lenPost_none HE.out rfl (by rw [HW.out]; exact Below.refl _ _)⟩
      · have hk0i : ((k : Int) == 0) = false := by simpa using hk0
        have HF2 : Hid (R = if extB X.data.toList then some V else none) := Lib.hid (by rw [HF.out, if_neg (by omega)])
        clear HF hk0
        cases ex with
        | true =>
          have hext : extB X.data.toList = Y.data.toList.all textB := ext_yes hc
          have hYz : Y.size ≤ 1000000000 := Nat.le_trans (cut_size hc) hXz
          clear hc hXd hXz
          have cT := fun w => trim_any Y w (by omega)
          obtain ⟨T, hT⟩ : ∃ T : ByteArray, (⟨(trimF Y.data.toList).toArray⟩ : ByteArray) = T := ⟨_, rfl⟩
          have hTz : T.size ≤ 1000000000 := by rw [← hT]; show (trimF Y.data.toList).toArray.size ≤ _; have := trimF_len Y.data.toList; simp at this ⊢; omega
          have HTV := Lib.hid hT
          have cV := fun w => value_any T w (by omega)
          have hval : valueF T.data.toList = Y.data.toList.all textB := by rw [← hT]; exact value_trim _
          rw [hval] at cV
          clear hT hval
          cases hall : Y.data.toList.all textB with
          | true =>
            rw [hall] at cV
            have HE : Hid (R = some V) := Lib.hid (by rw [HF2.out, hext, hall]; rfl)
            clear hall hext HF2
            by_cases hlt : k < s.size
            · have hxf : hexB s[k] = false := by cases hb : hexB s[k] with | false => rfl | true => exact absurd ⟨hlt, hb⟩ hx
              have cX := fun w => hex_any s[k] w
              unfold HexPost at cX
              rw [hxf] at cX
              obtain ⟨y, hy⟩ : ∃ y, s[k] = y := ⟨_, rfl⟩
              simp only [hy] at cX
              have HY := Lib.hid hy
              obtain ⟨v, hv⟩ : ∃ v, hexN y = v := ⟨_, rfl⟩
              simp only [hv] at cX
              clear hxf hy hv hx
              go_wp2_with fail
              rw [HY.out]
              refine (cX _).mono ?_
              rintro e w1 ⟨rfl, hw⟩
              subst hw
              go_wp2_with fail
              rw [HX.out]
              refine (cP _).mono ?_
              rintro e w1 ⟨rfl, hw⟩
              replace hw := hw.symm
              subst hw
              go_wp2_with fail
              refine (cT _).mono ?_
              rintro e w2 ⟨rfl, hb2⟩
              rw [HTV.out]
              go_wp2_with fail
              refine (cV _).mono ?_
              rintro e w3 ⟨rfl, hb3⟩
              have HB := Lib.hid (hb2.trans (hb3.mono hb2.size))
              clear hb2 hb3 cT cV
              go_wp2
              go_ret
              exact lenPost_some HE.out rfl (by rw [HW.out]; exact HB.out)
            · have hkk : ¬ ((k : Int) < (s.size : Int)) := by omega
              clear hx hlt
              go_wp2_with fail
              rw [HX.out]
              refine (cP _).mono ?_
              rintro e w1 ⟨rfl, hw⟩
              replace hw := hw.symm
              subst hw
              go_wp2_with fail
              refine (cT _).mono ?_
              rintro e w2 ⟨rfl, hb2⟩
              rw [HTV.out]
              go_wp2_with fail
              refine (cV _).mono ?_
              rintro e w3 ⟨rfl, hb3⟩
              have HB := Lib.hid (hb2.trans (hb3.mono hb2.size))
              clear hb2 hb3 cT cV
              go_wp2
              go_ret
              exact lenPost_some HE.out rfl (by rw [HW.out]; exact HB.out)
          | false =>
            rw [hall] at cV
            have HE : Hid (R = none) := Lib.hid (by rw [HF2.out, hext, hall]; rfl)
            clear hall hext HF2
            by_cases hlt : k < s.size
            · have hxf : hexB s[k] = false := by cases hb : hexB s[k] with | false => rfl | true => exact absurd ⟨hlt, hb⟩ hx
              have cX := fun w => hex_any s[k] w
              unfold HexPost at cX
              rw [hxf] at cX
              obtain ⟨y, hy⟩ : ∃ y, s[k] = y := ⟨_, rfl⟩
              simp only [hy] at cX
              have HY := Lib.hid hy
              obtain ⟨v, hv⟩ : ∃ v, hexN y = v := ⟨_, rfl⟩
              simp only [hv] at cX
              clear hxf hy hv hx
              go_wp2_with fail
              rw [HY.out]
              refine (cX _).mono ?_
              rintro e w1 ⟨rfl, hw⟩
              subst hw
              go_wp2_with fail
              rw [HX.out]
              refine (cP _).mono ?_
              rintro e w1 ⟨rfl, hw⟩
              replace hw := hw.symm
              subst hw
              go_wp2_with fail
              refine (cT _).mono ?_
              rintro e w2 ⟨rfl, hb2⟩
              rw [HTV.out]
              go_wp2_with fail
              refine (cV _).mono ?_
              rintro e w3 ⟨rfl, hb3⟩
              have HB := Lib.hid (hb2.trans (hb3.mono hb2.size))
              clear hb2 hb3 cT cV
              go_wp2
              exact ⟨rfl, lenPost_none HE.out rfl (by rw [HW.out]; exact HB.out)⟩
            · have hkk : ¬ ((k : Int) < (s.size : Int)) := by omega
              clear hx hlt
              go_wp2_with fail
              rw [HX.out]
              refine (cP _).mono ?_
              rintro e w1 ⟨rfl, hw⟩
              replace hw := hw.symm
              subst hw
              go_wp2_with fail
              refine (cT _).mono ?_
              rintro e w2 ⟨rfl, hb2⟩
              rw [HTV.out]
              go_wp2_with fail
              refine (cV _).mono ?_
              rintro e w3 ⟨rfl, hb3⟩
              have HB := Lib.hid (hb2.trans (hb3.mono hb2.size))
              clear hb2 hb3 cT cV
              go_wp2
              exact ⟨rfl, lenPost_none HE.out rfl (by rw [HW.out]; exact HB.out)⟩
        | false =>
          obtain ⟨hYX, hh⟩ := cut_no hc
          replace hYX := hYX.symm
          subst hYX
          by_cases hY : Y.data.toList = []
          · have hext : extB Y.data.toList = Y.data.toList.all textB := by rw [hY]; rfl
            have hYz := hXz
            have qy : (Y.toList != []) = false := by rw [Lib.toList_data, hY]; rfl
            have qy2 : (!(Y.toList.isEmpty)) = false := by rw [Lib.toList_data, hY]; rfl
            clear hc hXd hXz hh hY
            have cT := fun w => trim_any Y w (by omega)
            obtain ⟨T, hT⟩ : ∃ T : ByteArray, (⟨(trimF Y.data.toList).toArray⟩ : ByteArray) = T := ⟨_, rfl⟩
            have hTz : T.size ≤ 1000000000 := by rw [← hT]; show (trimF Y.data.toList).toArray.size ≤ _; have := trimF_len Y.data.toList; simp at this ⊢; omega
            have HTV := Lib.hid hT
            have cV := fun w => value_any T w (by omega)
            have hval : valueF T.data.toList = Y.data.toList.all textB := by rw [← hT]; exact value_trim _
            rw [hval] at cV
            clear hT hval
            cases hall : Y.data.toList.all textB with
            | true =>
              rw [hall] at cV
              have HE : Hid (R = some V) := Lib.hid (by rw [HF2.out, hext, hall]; rfl)
              clear hall hext HF2
              by_cases hlt : k < s.size
              · have hxf : hexB s[k] = false := by cases hb : hexB s[k] with | false => rfl | true => exact absurd ⟨hlt, hb⟩ hx
                have cX := fun w => hex_any s[k] w
                unfold HexPost at cX
                rw [hxf] at cX
                obtain ⟨y, hy⟩ : ∃ y, s[k] = y := ⟨_, rfl⟩
                simp only [hy] at cX
                have HY := Lib.hid hy
                obtain ⟨v, hv⟩ : ∃ v, hexN y = v := ⟨_, rfl⟩
                simp only [hv] at cX
                clear hxf hy hv hx
                go_wp2_with fail
                rw [HY.out]
                refine (cX _).mono ?_
                rintro e w1 ⟨rfl, hw⟩
                subst hw
                go_wp2_with fail
                rw [HX.out]
                refine (cP _).mono ?_
                rintro e w1 ⟨rfl, hw⟩
                replace hw := hw.symm
                subst hw
                go_wp2_with fail
                refine (cT _).mono ?_
                rintro e w2 ⟨rfl, hb2⟩
                rw [HTV.out]
                go_wp2_with fail
                refine (cV _).mono ?_
                rintro e w3 ⟨rfl, hb3⟩
                have HB := Lib.hid (hb2.trans (hb3.mono hb2.size))
                clear hb2 hb3 cT cV
                go_wp2
                go_ret
                exact lenPost_some HE.out rfl (by rw [HW.out]; exact HB.out)
              · have hkk : ¬ ((k : Int) < (s.size : Int)) := by omega
                clear hx hlt
                go_wp2_with fail
                rw [HX.out]
                refine (cP _).mono ?_
                rintro e w1 ⟨rfl, hw⟩
                replace hw := hw.symm
                subst hw
                go_wp2_with fail
                refine (cT _).mono ?_
                rintro e w2 ⟨rfl, hb2⟩
                rw [HTV.out]
                go_wp2_with fail
                refine (cV _).mono ?_
                rintro e w3 ⟨rfl, hb3⟩
                have HB := Lib.hid (hb2.trans (hb3.mono hb2.size))
                clear hb2 hb3 cT cV
                go_wp2
                go_ret
                exact lenPost_some HE.out rfl (by rw [HW.out]; exact HB.out)
            | false =>
              rw [hall] at cV
              have HE : Hid (R = none) := Lib.hid (by rw [HF2.out, hext, hall]; rfl)
              clear hall hext HF2
              by_cases hlt : k < s.size
              · have hxf : hexB s[k] = false := by cases hb : hexB s[k] with | false => rfl | true => exact absurd ⟨hlt, hb⟩ hx
                have cX := fun w => hex_any s[k] w
                unfold HexPost at cX
                rw [hxf] at cX
                obtain ⟨y, hy⟩ : ∃ y, s[k] = y := ⟨_, rfl⟩
                simp only [hy] at cX
                have HY := Lib.hid hy
                obtain ⟨v, hv⟩ : ∃ v, hexN y = v := ⟨_, rfl⟩
                simp only [hv] at cX
                clear hxf hy hv hx
                go_wp2_with fail
                rw [HY.out]
                refine (cX _).mono ?_
                rintro e w1 ⟨rfl, hw⟩
                subst hw
                go_wp2_with fail
                rw [HX.out]
                refine (cP _).mono ?_
                rintro e w1 ⟨rfl, hw⟩
                replace hw := hw.symm
                subst hw
                go_wp2_with fail
                refine (cT _).mono ?_
                rintro e w2 ⟨rfl, hb2⟩
                rw [HTV.out]
                go_wp2_with fail
                refine (cV _).mono ?_
                rintro e w3 ⟨rfl, hb3⟩
                have HB := Lib.hid (hb2.trans (hb3.mono hb2.size))
                clear hb2 hb3 cT cV
                go_wp2
                exact ⟨rfl, lenPost_none HE.out rfl (by rw [HW.out]; exact HB.out)⟩
              · have hkk : ¬ ((k : Int) < (s.size : Int)) := by omega
                clear hx hlt
                go_wp2_with fail
                rw [HX.out]
                refine (cP _).mono ?_
                rintro e w1 ⟨rfl, hw⟩
                replace hw := hw.symm
                subst hw
                go_wp2_with fail
                refine (cT _).mono ?_
                rintro e w2 ⟨rfl, hb2⟩
                rw [HTV.out]
                go_wp2_with fail
                refine (cV _).mono ?_
                rintro e w3 ⟨rfl, hb3⟩
                have HB := Lib.hid (hb2.trans (hb3.mono hb2.size))
                clear hb2 hb3 cT cV
                go_wp2
                exact ⟨rfl, lenPost_none HE.out rfl (by rw [HW.out]; exact HB.out)⟩
          · have HE : Hid (R = none) := Lib.hid (by rw [HF2.out, ext_no hY hh]; rfl)
            have qy : (Y.toList != []) = true := by rw [Lib.toList_data]; simpa using hY
            have qy2 : (!(Y.toList.isEmpty)) = true := by rw [Lib.toList_data]; simpa using hY
            clear hc hXd hXz hh hY HF2
            by_cases hlt : k < s.size
            · have hxf : hexB s[k] = false := by cases hb : hexB s[k] with | false => rfl | true => exact absurd ⟨hlt, hb⟩ hx
              have cX := fun w => hex_any s[k] w
              unfold HexPost at cX
              rw [hxf] at cX
              obtain ⟨y, hy⟩ : ∃ y, s[k] = y := ⟨_, rfl⟩
              simp only [hy] at cX
              have HY := Lib.hid hy
              obtain ⟨v, hv⟩ : ∃ v, hexN y = v := ⟨_, rfl⟩
              simp only [hv] at cX
              clear hxf hy hv hx
              go_wp2_with fail
              rw [HY.out]
              refine (cX _).mono ?_
              rintro e w1 ⟨rfl, hw⟩
              subst hw
              go_wp2_with fail
              rw [HX.out]
              refine (cP _).mono ?_
              rintro e w1 ⟨rfl, hw⟩
              replace hw := hw.symm
              subst hw
              go_wp2
              exact ⟨rfl, lenPost_none HE.out rfl (by rw [HW.out]; exact Below.refl _ _)⟩
            · have hkk : ¬ ((k : Int) < (s.size : Int)) := by omega
              clear hx hlt
              go_wp2_with fail
              rw [HX.out]
              refine (cP _).mono ?_
              rintro e w1 ⟨rfl, hw⟩
              replace hw := hw.symm
              subst hw
              go_wp2
              exact ⟨rfl, lenPost_none HE.out rfl (by rw [HW.out]; exact Below.refl _ _)⟩
end Go.Proofs.YtjpmofnnjdhamaaGreatDoor
namespace Go.Proofs.YtjpmofnnjdhamaaGreatDoor
open Go.RowKit HeadMath NormMath NormS HeadS ChunkMath

def hexR (o : Option Nat) : Int := match o with | some v => (v : Int) | none => -1
theorem ret_i64 {a b : Int} (h : a = b) : Ending.returned (.int .i64 a) = .returned (.int .i64 b) := by rw [h]
set_option maxHeartbeats 1000000 in
theorem refHexC_any (c : UInt8) (w : World) : Calls Tryz.prog 113 #[.int .u8 c.toNat] w fun e w' => e = .returned (.int .i64 (hexR (hexV c))) ∧ w = w' := by
  have hc := HeadS.u8_lt c
  by_cases h1 : 48 ≤ c.toNat ∧ c.toNat ≤ 57
  · have HV := Lib.hid (hex_digit h1)
    go_enter Tryz.func113, Tryz.ntmps113
    go_wp2
    go_ret
    exact ⟨ret_i64 (by rw [HV.out]; unfold hexR; first | omega | (dsimp only; omega)), rfl⟩
  · by_cases h2 : 97 ≤ c.toNat ∧ c.toNat ≤ 102
    · have HV := Lib.hid (hex_small h2)
      go_enter Tryz.func113, Tryz.ntmps113
      go_wp2
      go_ret
      exact ⟨ret_i64 (by rw [HV.out]; unfold hexR; first | omega | (dsimp only; omega)), rfl⟩
    · by_cases h3 : 65 ≤ c.toNat ∧ c.toNat ≤ 70
      · have HV := Lib.hid (hex_great h3)
        have d2 : (decide ((97 : Int) ≤ c.toNat) && decide ((c.toNat : Int) ≤ 102)) = false := by
          rw [Bool.and_eq_false_iff]; left; exact decide_eq_false (by omega)
        have g1 : ¬ ((97 : Int) ≤ c.toNat) := by omega
        go_enter Tryz.func113, Tryz.ntmps113
        by_cases g2 : (c.toNat : Int) ≤ 57
        · omega
        · go_wp2
          go_ret
          exact ⟨ret_i64 (by rw [HV.out]; unfold hexR; first | omega | (dsimp only; omega)), rfl⟩
      · have HV := Lib.hid (hex_none h1 h2 h3)
        go_enter Tryz.func113, Tryz.ntmps113
        by_cases g1 : (48 : Int) ≤ c.toNat
        · have g2 : ¬ ((c.toNat : Int) ≤ 57) := by omega
          by_cases g3 : (65 : Int) ≤ c.toNat
          · have g4 : ¬ ((c.toNat : Int) ≤ 70) := by omega
            by_cases g5 : (97 : Int) ≤ c.toNat
            · have g6 : ¬ ((c.toNat : Int) ≤ 102) := by omega
              go_wp2
              go_ret
              exact ⟨ret_i64 (by rw [HV.out]; rfl), rfl⟩
            · go_wp2
              go_ret
              exact ⟨ret_i64 (by rw [HV.out]; rfl), rfl⟩
          · have g5 : ¬ ((97 : Int) ≤ c.toNat) := by omega
            go_wp2
            go_ret
            exact ⟨ret_i64 (by rw [HV.out]; rfl), rfl⟩
        · have g3 : ¬ ((65 : Int) ≤ c.toNat) := by omega
          have g5 : ¬ ((97 : Int) ≤ c.toNat) := by omega
          go_wp2
          go_ret
          exact ⟨ret_i64 (by rw [HV.out]; rfl), rfl⟩
def lenV (r : Option Nat) : Value := match r with | some n => .tuple #[.int .i64 n, .bool true] | none => .tuple #[.int .i64 0, .bool false]
def RefLen (r : Option Nat) (w : World) (e : Ending) (w' : World) : Prop := e = .returned (lenV r) ∧ w = w'
theorem refLen_none {r : Option Nat} {w : World} {e : Ending} (h : r = none) (he : e = .returned (.tuple #[.int .i64 0, .bool false])) : RefLen r w e w := by subst h; exact ⟨he, rfl⟩
theorem refLen_some {r : Option Nat} {n : Nat} {w : World} {e : Ending} (h : r = some n) (he : e = .returned (.tuple #[.int .i64 n, .bool true])) : RefLen r w e w := by subst h; exact ⟨he, rfl⟩
theorem lengthF_sign {l : Bs} {k : Nat} (h : (l.take k).all hexB = true) {x : UInt8} (hx : l[k]? = some x) (h59 : x ≠ 59) (hb : k = 8 ∨ hexB x = false) : lengthF l = none := by
  obtain ⟨hk, _⟩ := List.getElem?_eq_some_iff.1 hx
  cases hxb : hexB x with
  | false =>
    rw [lengthF_of h (by omega) (fun z hz => by rw [hx] at hz; injection hz with hz; subst hz; exact hxb)]
    split
    · rfl
    · rw [List.drop_eq_getElem?_toList_append]
      rw [hx]
      simp [extB, h59]
  | true =>
    have h8 : k = 8 := by rcases hb with h | h; exact h; rw [hxb] at h; cases h
    subst h8
    refine lengthF_long ?_ (by omega)
    rw [List.take_succ_eq_append_getElem (by omega), List.all_append, h]
    have : l[8] = x := by have := List.getElem?_eq_getElem hk; rw [hx] at this; exact (Option.some.inj this).symm
    simp [this, hxb]
theorem lengthF_text {l X : Bs} {k : Nat} (h : (l.take k).all hexB = true) (hX : l.drop k = 59 :: X) (h0 : 0 < k) (h8 : k ≤ 8) : lengthF l = if (59 :: X).all textB = true then some (valH (l.take k)) else none := by
  have hk : k < l.length := by
    rcases Nat.lt_or_ge k l.length with h | h
    · exact h
    · rw [List.drop_of_length_le h] at hX; cases hX
  rw [lengthF_of h (by omega) (fun z hz => by
    have e : (l.drop k)[0]? = some z := by rw [List.getElem?_drop]; exact hz
    rw [hX] at e
    injection e with e
    subst e
    decide), if_neg (by omega), hX]
  rfl
set_option maxRecDepth 100000 in
set_option maxHeartbeats 16000000 in
theorem refLength_any (s : ByteArray) (w : World) (hs : s.size ≤ 1000000000) : Calls Tryz.prog 84 #[.string s] w (RefLen (lengthF s.data.toList) w) := by
  obtain ⟨R, hR⟩ : ∃ R, lengthF s.data.toList = R := ⟨_, rfl⟩
  rw [hR]
  have HR := Lib.hid hR
  have hl : s.data.toList.length = s.size := by simp
  clear hR
  go_enter Tryz.func84, Tryz.ntmps84
  go_wp2
  go_loop [4, 5] (fun n d => ∃ k : Nat, k ≤ s.size ∧ k ≤ 8 ∧ d = .int .i64 k ∧ n = .int .i64 (valH (s.data.toList.take k)) ∧ Hid ((s.data.toList.take k).all hexB = true)) (fun _ d => s.size + 1 - (intOf d).toNat)
  case atStart => exact ⟨0, Nat.zero_le _, by omega, rfl, rfl, Lib.hid rfl⟩
  case round =>
    obtain ⟨k, hk, hk8, rfl, rfl, HA⟩ := hrel
    have hlim := valH_lt (s.data.toList.take k)
    rw [List.length_take, hl, Nat.min_eq_left hk] at hlim
    have hV32 : valH (s.data.toList.take k) < 4294967296 := by
      have h7 : (16 : Nat) ^ k ≤ 16 ^ 8 := Nat.pow_le_pow_right (by decide) hk8
      rw [show (16 : Nat) ^ 8 = 4294967296 from by decide] at h7
      omega
    obtain ⟨V, hV⟩ : ∃ V, valH (s.data.toList.take k) = V := ⟨_, rfl⟩
    have HVV := Lib.hid hV
    rw [hV] at hV32 ⊢
    clear hlim hV
    obtain ⟨X, hX⟩ : ∃ X, s.extract k s.size = X := ⟨_, rfl⟩
    have hXd : X.data.toList = s.data.toList.drop k := by rw [← hX, Lib.extract_to_end]
    have hXz : X.size ≤ 1000000000 := by rw [← hX, ByteArray.size_extract]; omega
    have cT := fun w => refText_any X w (by omega)
    by_cases hlt : k < s.size
    · have hg : s.data.toList[k]? = some s[k] := by rw [List.getElem?_eq_getElem (by omega)]; rfl
      have hdr : s.data.toList.drop k = s[k] :: s.data.toList.drop (k + 1) := by rw [List.drop_eq_getElem_cons (by omega)]; rfl
      by_cases h8 : k < 8
      · have cX := fun w => refHexC_any s[k] w
        cases hv : hexV s[k] with
        | some v =>
          rw [hv] at cX
          have hvb : v < 16 := by have := hexN_lt s[k]; unfold hexN at this; rw [hv] at this; exact this
          have hb : hexB s[k] = true := by unfold hexB; rw [hv]; rfl
          have hts := take_snoc s k hlt
          have HA2 : Hid ((s.data.toList.take (k + 1)).all hexB = true) := Lib.hid (by rw [hts, List.all_append, HA.out]; simp [hb])
          have HV2 : Hid (valH (s.data.toList.take (k + 1)) = 16 * V + v) := Lib.hid (by rw [hts, valH_snoc, HVV.out]; unfold hexN; rw [hv]; rfl)
          unfold hexR at cX
          have v0 : (0 : Int) ≤ (v : Int) := by omega
          have v1 : (v : Int) < 16 := by omega
          clear hv hb hts hg hdr hX hXd hXz cT
          go_wp2_with fail
          refine (cX _).mono ?_
          rintro e w1 ⟨rfl, hw⟩
          subst hw
          go_wp2_with fail
          refine (cX _).mono ?_
          rintro e w1 ⟨rfl, hw⟩
          subst hw
          go_wp2
          go_round
          case rel => exact ⟨k + 1, by omega, by omega, by go_num, by rw [HV2.out]; go_num, HA2⟩
          case measure => simp [intOf]; omega
        | none =>
          rw [hv] at cX
          have hb : hexB s[k] = false := by unfold hexB; rw [hv]; rfl
          unfold hexR at cX
          by_cases h0 : k = 0
          · have HE : Hid (R = none) := Lib.hid (by rw [← HR.out, lengthF_of HA.out (by omega) (fun z hz => by rw [hg] at hz; injection hz with hz; rw [← hz]; exact hb), if_pos (.inl h0)])
            have k0 : ((k : Int) == 0) = true := by rw [h0]; rfl
            clear hv hb hg hdr hX hXd hXz cT h0
            go_wp2_with fail
            refine (cX _).mono ?_
            rintro e w1 ⟨rfl, hw⟩
            subst hw
            go_wp2
            go_ret2
            exact refLen_none HE.out rfl
          · have k0 : ((k : Int) == 0) = false := by simpa using h0
            by_cases h59 : s[k] = 59
            · have q59 : ((s[k].toNat : Int) != 59) = false := by rw [h59]; rfl
              have hE := lengthF_text HA.out (by rw [hdr, h59]) (by omega) hk8
              rw [← h59, ← hdr, ← hXd, HVV.out] at hE
              have HE : Hid (R = if textF X = true then some V else none) := Lib.hid (by rw [← HR.out]; exact hE)
              clear hv hb hg hdr hXd hXz hE h59
              go_wp2_with fail
              refine (cX _).mono ?_
              rintro e w1 ⟨rfl, hw⟩
              subst hw
              cases ht : textF X with
              | true =>
                simp only [ht] at cT
                rw [ht, if_pos rfl] at HE
                go_wp2_with fail
                refine (cT _).mono ?_
                rintro e w1 ⟨rfl, hw⟩
                subst hw
                go_wp2
                go_ret2
                exact refLen_some HE.out rfl
              | false =>
                simp only [ht] at cT
                rw [ht, if_neg (by decide)] at HE
                go_wp2_with fail
                refine (cT _).mono ?_
                rintro e w1 ⟨rfl, hw⟩
                subst hw
                go_wp2
                go_ret2
                exact refLen_none HE.out rfl
            · have q59 : ((s[k].toNat : Int) != 59) = true := by
                have : ((s[k].toNat : Int) == 59) = false := (u8_beq_lit s[k] 59 (by omega)).trans (by simpa using h59)
                unfold bne; rw [this]; rfl
              have HE : Hid (R = none) := Lib.hid (by rw [← HR.out]; exact lengthF_sign HA.out hg h59 (.inr hb))
              clear hv hb hg hdr hX hXd hXz cT h59
              go_wp2_with fail
              refine (cX _).mono ?_
              rintro e w1 ⟨rfl, hw⟩
              subst hw
              go_wp2
              go_ret2
              exact refLen_none HE.out rfl
      · obtain rfl : k = 8 := by omega
        by_cases h59 : s[8] = 59
        · have q59 : ((s[8].toNat : Int) != 59) = false := by rw [h59]; rfl
          have hE := lengthF_text HA.out (by rw [hdr, h59]) (by omega) hk8
          rw [← h59, ← hdr, ← hXd, HVV.out] at hE
          have HE : Hid (R = if textF X = true then some V else none) := Lib.hid (by rw [← HR.out]; exact hE)
          clear hg hdr hXd hXz hE h59
          cases ht : textF X with
          | true =>
            simp only [ht] at cT
            rw [ht, if_pos rfl] at HE
            go_wp2_with fail
            refine (cT _).mono ?_
            rintro e w1 ⟨rfl, hw⟩
            subst hw
            go_wp2
            go_ret2
            exact refLen_some HE.out rfl
          | false =>
            simp only [ht] at cT
            rw [ht, if_neg (by decide)] at HE
            go_wp2_with fail
            refine (cT _).mono ?_
            rintro e w1 ⟨rfl, hw⟩
            subst hw
            go_wp2
            go_ret2
            exact refLen_none HE.out rfl
        · have q59 : ((s[8].toNat : Int) != 59) = true := by
            have : ((s[8].toNat : Int) == 59) = false := (u8_beq_lit s[8] 59 (by omega)).trans (by simpa using h59)
            unfold bne; rw [this]; rfl
          have HE : Hid (R = none) := Lib.hid (by rw [← HR.out]; exact lengthF_sign HA.out hg h59 (.inl rfl))
          clear hg hdr hX hXd hXz cT h59
          go_wp2
          go_ret2
          exact refLen_none HE.out rfl
    · have hks : k = s.size := by omega
      have hXe : textF X = true := by unfold textF; rw [hXd, List.drop_of_length_le (by omega)]; rfl
      have hE := lengthF_of HA.out (by omega) (fun z hz => by rw [List.getElem?_eq_none (by omega)] at hz; cases hz)
      rw [List.drop_of_length_le (by omega), HVV.out] at hE
      by_cases h0 : k = 0
      · have HE : Hid (R = none) := Lib.hid (by rw [← HR.out, hE, if_pos (.inl h0)])
        have k0 : ((k : Int) == 0) = true := by rw [h0]; rfl
        have i1 : ¬ ((k : Int) < (s.size : Int)) := by omega
        clear hX hXd hXz cT h0 hE hks hlt
        go_wp2
        go_ret2
        exact refLen_none HE.out rfl
      · have k0 : ((k : Int) == 0) = false := by simpa using h0
        have HE : Hid (R = some V) := Lib.hid (by rw [← HR.out, hE, if_neg (by omega)]; rfl)
        simp only [hXe] at cT
        have i1 : ¬ ((k : Int) < (s.size : Int)) := by omega
        clear hXd hXz hE hks hlt
        go_wp2_with fail
        refine (cT _).mono ?_
        rintro e w1 ⟨rfl, hw⟩
        subst hw
        go_wp2
        go_ret2
        exact refLen_some HE.out rfl
end Go.Proofs.YtjpmofnnjdhamaaGreatDoor
namespace Go.Proofs.YtjpmofnnjdhamaaGreatDoor
open Go.RowKit HeadMath NormMath NormS HeadS ChunkMath

/-- A line that is a field. -/
def fieldB (t : Bs) : Bool := (fieldOf ⟨t.toArray⟩).isSome
theorem lineF_len {s t r : Bs} (h : lineF s = .ok (t, r)) : r.length + 2 ≤ s.length ∧ t.length ≤ s.length := by
  obtain ⟨u, h1, h2, h3, _⟩ := lineG_split s [] t r h
  have := congrArg List.length h1
  simp at this h3
  omega
def TrailPost (p : Nat) (a : Option Addr) (c : Nat) (b : Bs) (r : Except Nat Bs) (w : World) (e : Ending) (w' : World) : Prop := (match r with
  | .error n => e = FaultC n
  | .ok s => e = .returned (.tuple #[]) ∧ ∃ k, s = b.drop k ∧ IsR p a c b k w') ∧ Spares (fun x => x = p) w w'
theorem trailPost_error {p : Nat} {a : Option Addr} {c : Nat} {b : Bs} {r : Except Nat Bs} {w w' : World} {e : Ending} {n : Nat} (h : r = .error n) (he : e = FaultC n) (hs : Spares (fun x => x = p) w w') : TrailPost p a c b r w e w' := by subst h; exact ⟨he, hs⟩
theorem trailPost_ok {p : Nat} {a : Option Addr} {c k : Nat} {b s : Bs} {r : Except Nat Bs} {w w' : World} {e : Ending} (h : r = .ok s) (he : e = .returned (.tuple #[])) (h1 : s = b.drop k) (h2 : IsR p a c b k w') (hs : Spares (fun x => x = p) w w') : TrailPost p a c b r w e w' := by subst h; exact ⟨⟨he, k, h1, h2⟩, hs⟩
theorem one_line (T : ByteArray) (w : World) (hT : T.size ≤ 140737488351232) : Calls Tryz.prog 73 #[.slice (some ⟨w.heap.size, 0, none⟩) 1 1] (w.alloc (.cells #[.string T] 9)) fun e w' => (∃ v, e = .returned (.tuple #[v, .int .i64 (if (fieldOf T).isSome then 0 else 90)])) ∧ Spares nowhere w w' := by
  have hin : StrsIn (w.alloc (.cells #[.string T] 9)).heap.size (w.alloc (.cells #[.string T] 9)) (some ⟨w.heap.size, 0, none⟩) [T] := by
    intro j hj
    obtain rfl : j = 0 := by simpa using hj
    exact ⟨w.heap.size, 0, rfl, by simp, (Lib.cell_of_heap (heap_alloc_new w _) 0).trans rfl⟩
  refine (parse_some [T] (some ⟨w.heap.size, 0, none⟩) 1 _ hin (fun j hj => by obtain rfl : j = 0 := by simpa using hj
                                                                               exact hT) (show 1 ≤ _ by decide)).mono ?_
  rintro e w' ⟨hb, ⟨h, _⟩ | ⟨_, h1, rfl⟩ | ⟨_, fs, v, h1, rfl, _⟩⟩
  · simp at h
  · refine ⟨⟨.slice none 0 0, ?_⟩, ((Spares.refl nowhere w).alloc _).trans (Below.spares hb (fun k hk => .inr hk))⟩
    have : (fieldOf T).isSome = false := by
      unfold parseF at h1
      cases hf : fieldOf T with
      | none => rfl
      | some f => rw [hf] at h1; simp [parseF] at h1
    rw [this]; rfl
  · refine ⟨⟨v, ?_⟩, ((Spares.refl nowhere w).alloc _).trans (Below.spares hb (fun k hk => .inr hk))⟩
    have : (fieldOf T).isSome = true := by
      unfold parseF at h1
      cases hf : fieldOf T with
      | none => rw [hf] at h1; cases h1
      | some f => rfl
    rw [this]; rfl
theorem trailG_line {F : Bs → Bool} {f n : Nat} {s : Bs} {e : Nat} (h : lineF s = .error e) : trailG F (f + 1) n s = .error e := by rw [trailG, h]
theorem trailG_end {F : Bs → Bool} {f n : Nat} {s r : Bs} (h : lineF s = .ok ([], r)) : trailG F (f + 1) n s = .ok r := by rw [trailG, h]; rfl
theorem trailG_bad {F : Bs → Bool} {f n : Nat} {s t r : Bs} (h : lineF s = .ok (t, r)) (ht : t ≠ []) (hb : F t = false ∨ n = 100) : trailG F (f + 1) n s = .error 94 := by
  rw [trailG, h]; simp only; rw [if_neg ht, if_pos hb]
theorem trailG_on {F : Bs → Bool} {f n : Nat} {s t r : Bs} (h : lineF s = .ok (t, r)) (ht : t ≠ []) (hb : ¬ (F t = false ∨ n = 100)) : trailG F (f + 1) n s = trailG F f (n + 1) r := by
  rw [trailG, h]; simp only; rw [if_neg ht, if_neg hb]
set_option maxHeartbeats 8000000 in
theorem trail_any {p : Nat} {a : Option Addr} {c k : Nat} {b : Bs} {w : World} (h : IsR p a c b k w) : Calls Tryz.prog 109 #[.pointer (some ⟨p, 0, none⟩)] w (TrailPost p a c b (trailG fieldB ((b.drop k).length + 1) 0 (b.drop k)) w) := by
  have H := Lib.hid h
  have hplt : p < w.heap.size := (Array.getElem?_eq_some_iff.1 h.cells).1
  have hsz := h.size
  obtain ⟨R, hR⟩ : ∃ R, trailG fieldB ((b.drop k).length + 1) 0 (b.drop k) = R := ⟨_, rfl⟩
  rw [hR]
  have HR0 := Lib.hid hR.symm
  clear h hR
  go_enter Tryz.func109, Tryz.ntmps109
  go_wp2
  go_loopw [2] (fun i wr => ∃ n f j : Nat, n ≤ 100 ∧ i = .int .i64 n ∧ Hid (R = trailG fieldB f n (b.drop j) ∧ (b.drop j).length < f) ∧ Hid (IsR p a c b j wr) ∧ Hid (Spares (fun x => x = p) w wr)) (fun i _ => 101 - (intOf i).toNat)
  case atStart => exact ⟨0, _, k, by omega, rfl, Lib.hid ⟨HR0.out, Nat.lt_succ_self _⟩, H, Lib.hid (Spares.refl _ _)⟩
  case round =>
    obtain ⟨n, f, j, hn, rfl, HR, HI, HS⟩ := hrel
    obtain ⟨f, rfl⟩ : ∃ g, f = g + 1 := ⟨f - 1, by have := HR.out.2; omega⟩
    have cL := line_any HI.out
    cases hl : lineF (b.drop j) with
    | error x =>
      rw [hl] at cL
      unfold LinePost at cL
      have HE : Hid (R = .error x) := Lib.hid (HR.out.1.trans (trailG_line hl))
      clear hl
      go_wp2_with fail
      refine cL.mono ?_
      rintro e w1 ⟨rfl, hs⟩
      unfold FaultC
      go_wp2
      exact ⟨rfl, trailPost_error HE.out rfl (HS.out.trans (hs.mono (fun _ h => by cases h)))⟩
    | ok tr =>
      obtain ⟨t, r⟩ := tr
      rw [hl] at cL
      unfold LinePost at cL
      have hlen := lineF_len hl
      have htz : (⟨t.toArray⟩ : ByteArray).size ≤ 140737488351232 := by
        show t.toArray.size ≤ _
        have : (b.drop j).length ≤ b.length := by simp
        simp; omega
      have HL := Lib.hid hl
      clear hl
      go_wp2_with fail
      refine cL.mono ?_
      rintro e w1 ⟨rfl, j2, hj2, hi2, hs⟩
      have HI2 := Lib.hid hi2
      have HS2 := Lib.hid (HS.out.trans hs)
      have HJ := Lib.hid hj2
      clear hi2 hs hj2 cL
      cases t with
      | nil =>
        have HE : Hid (R = .ok r) := Lib.hid (HR.out.1.trans (trailG_end HL.out))
        have q1 : ((⟨([] : Bs).toArray⟩ : ByteArray).toList == []) = true := by rw [Lib.toList_data]; rfl
        have q2 : (⟨([] : Bs).toArray⟩ : ByteArray).toList.isEmpty = true := by rw [Lib.toList_data]; rfl
        go_wp2
        first | go_end0 | (simp only [Exit.inBlock, Exit.then]; refine bodyPost_ret (results_none rfl _ _ _) rfl ?_) | refine bodyPost_ret (results_none rfl _ _ _) rfl ?_
        exact trailPost_ok HE.out rfl HJ.out HI2.out HS2.out
      | cons x t =>
        obtain ⟨T, hT⟩ : ∃ T : ByteArray, (⟨(x :: t).toArray⟩ : ByteArray) = T := ⟨_, rfl⟩
        rw [hT] at htz ⊢
        have q1 : (T.toList == []) = false := by rw [Lib.toList_data, ← hT]; rfl
        have q2 : T.toList.isEmpty = false := by rw [Lib.toList_data, ← hT]; rfl
        have cP := one_line T w1 htz
        have hfb : fieldB (x :: t) = (fieldOf T).isSome := by unfold fieldB; rw [hT]
        have HLT := Lib.hid hlen
        clear hT hlen
        cases hf : (fieldOf T).isSome with
        | false =>
          rw [hf] at cP
          have HE : Hid (R = .error 94) := Lib.hid (HR.out.1.trans (trailG_bad HL.out (by simp) (.inl (hfb.trans hf))))
          clear hf hfb
          go_wp2_with fail
          refine cP.mono ?_
          rintro e w2 ⟨⟨v, rfl⟩, hs⟩
          have HS3 := Lib.hid (HS2.out.trans (hs.mono (fun _ h => by cases h)))
          clear hs cP
          go_wp2
          exact ⟨rfl, trailPost_error HE.out rfl HS3.out⟩
        | true =>
          rw [hf] at cP
          by_cases h100 : n = 100
          · have HE : Hid (R = .error 94) := Lib.hid (HR.out.1.trans (trailG_bad HL.out (by simp) (.inr h100)))
            have q3 : ((n : Int) == 100) = true := by rw [h100]; rfl
            clear hf hfb h100
            go_wp2_with fail
            refine cP.mono ?_
            rintro e w2 ⟨⟨v, rfl⟩, hs⟩
            have HS3 := Lib.hid (HS2.out.trans (hs.mono (fun _ h => by cases h)))
            clear hs cP
            go_wp2
            exact ⟨rfl, trailPost_error HE.out rfl HS3.out⟩
          · have hcond : ¬ (fieldB (x :: t) = false ∨ n = 100) := fun h => by
              rcases h with h | h
              · rw [hfb, hf] at h; cases h
              · exact h100 h
            have HE : Hid (R = trailG fieldB f (n + 1) (b.drop j2) ∧ (b.drop j2).length < f) := Lib.hid ⟨by rw [HR.out.1, trailG_on HL.out (by simp) hcond, HJ.out], by rw [← HJ.out]; have h1 := HR.out.2; have h2 := HLT.out; omega⟩
            clear hcond
            have q3 : ((n : Int) == 100) = false := by simpa using (by omega : ¬ (n : Int) = 100)
            clear hf hfb
            go_wp2_with fail
            refine cP.mono ?_
            rintro e w2 ⟨⟨v, rfl⟩, hs⟩
            have HS3 := Lib.hid (HS2.out.trans (hs.mono (fun _ h => by cases h)))
            have HI3 := Lib.hid (HI2.out.quiet hs)
            clear hs cP
            go_wp2
            go_roundw
            case rel => exact ⟨n + 1, f, j2, by omega, by go_num, HE, HI3, HS3⟩
            case measure => simp [intOf]; omega
end Go.Proofs.YtjpmofnnjdhamaaGreatDoor
namespace Go.Proofs.YtjpmofnnjdhamaaGreatDoor
open Go.RowKit HeadMath NormMath NormS HeadS ChunkMath

theorem assert_nil (w : World) : (Instr.typeAssert Value.nilIface 20 128 true).run Tryz.prog w = .ok (.tuple #[.agg #[.int .i64 0], .bool false]) w := by kernel_rfl
theorem assert_fault (n : Int) (w : World) : (Instr.typeAssert (.iface 128 (.agg #[.int .i64 n])) 20 128 true).run Tryz.prog w = .ok (.tuple #[.agg #[.int .i64 n], .bool true]) w := by kernel_rfl
set_option maxHeartbeats 1000000 in
theorem catch_idle (p q r : Nat) (w : World) :
    CallsD Tryz.prog 104 #[.pointer (some ⟨p, 0, none⟩), .pointer (some ⟨q, 0, none⟩), .pointer (some ⟨r, 0, none⟩)] .returning w fun e u' w' => e = .returned (.tuple #[]) ∧ u' = .returning ∧ Spares nowhere w w' := by
  refine callsD_of_wpS Tryz.func104 rfl fun c₀ cs hu => ?_
  apply wpS_seq
  apply wpS_region
  simp [wpOpsS, go_sem, recoverD, hu, assert_nil, Tryz.ntmps104, Exit.thenS]
  apply wpS_seq
  apply wpS_region
  simp [wpOpsS, go_sem, Exit.thenS]
  refine wpS_cond (t := false) (by simp [Act.eval, Array.replicate]) ?_
  simp only [Bool.false_eq_true, if_false]
  refine wpS_of_wp (wp_skip ?_)
  have hsp := (Spares.refl nowhere w).alloc (.cells #[.int .i64 0] 128)
  cases c₀
  simp_all [bodyPostS, results, Tryz.results104]
set_option maxHeartbeats 1000000 in
theorem catch_panicking (p q r : Nat) (n : Int) (older : List PanicEntry) (w : World) (x y z : Value) (h1 : ¬ q = p) (h2 : ¬ r = p) (h3 : ¬ r = q)
    (hp : w.heap[p]? = some (.cells #[x] 23 (0, 0))) (hq : w.heap[q]? = some (.cells #[y] 3 (0, 0))) (hr : w.heap[r]? = some (.cells #[z] 36 (0, 0))) :
    CallsD Tryz.prog 104 #[.pointer (some ⟨p, 0, none⟩), .pointer (some ⟨q, 0, none⟩), .pointer (some ⟨r, 0, none⟩)] (.panicking ({ v := .iface 128 (.agg #[.int .i64 n]), recovered := false } :: older)) w fun e u' w' =>
      e = .returned (.tuple #[]) ∧ u' = .panicking ({ v := .iface 128 (.agg #[.int .i64 n]), recovered := true } :: older) ∧
      w'.heap[p]? = some (.cells #[.slice none 0 0] 23 (0, 0)) ∧ w'.heap[q]? = some (.cells #[.int .i64 0] 3 (0, 0)) ∧ w'.heap[r]? = some (.cells #[.int .i64 n] 36 (0, 0)) ∧ Spares (fun k => k = p ∨ k = q ∨ k = r) w w' := by
  have hsp := (Spares.refl nowhere w).alloc (.cells #[.int .i64 n] 128)
  have hlp : p < w.heap.size := (Array.getElem?_eq_some_iff.1 hp).1
  have hlq : q < w.heap.size := (Array.getElem?_eq_some_iff.1 hq).1
  have hlr : r < w.heap.size := (Array.getElem?_eq_some_iff.1 hr).1
  have hf0 := heap_alloc_new w (.cells #[.int .i64 n] 128)
  obtain ⟨v1, hv1⟩ : ∃ v1, w.alloc (.cells #[.int .i64 n] 128) = v1 := ⟨_, rfl⟩
  rw [hv1] at hsp hf0
  obtain ⟨g, hg⟩ : ∃ g, w.heap.size = g := ⟨_, rfl⟩
  rw [hg] at hf0 hlp hlq hlr
  have hset : ∀ (u : World) (b : Nat) (x y : Value) (t : TypeId), u.heap[b]? = some (.cells #[x] t (0, 0)) → (u.setCell ⟨b, 0, none⟩ y).heap[b]? = some (.cells #[y] t (0, 0)) := fun u b x y t h => by
    simp [World.setCell, Array.getElem?_modify, h]
  have hk : ∀ (u : World) (b k : Nat) (y : Value) (o : Option Obj), k ≠ b → u.heap[k]? = o → (u.setCell ⟨b, 0, none⟩ y).heap[k]? = o := fun u b k y o hn h => (Below.heap_setCell u ⟨b, 0, none⟩ y k hn).trans h
  have f0 : ∀ {u : World} {b : Nat} {x : Value} {t : TypeId}, u.heap[b]? = some (.cells #[x] t (0, 0)) → u.frozen? ⟨b, 0, none⟩ = false := fun h => Lib.frozen_of_heap h 0
  have c0 : ∀ {u : World} {b : Nat} {x : Value} {t : TypeId}, u.heap[b]? = some (.cells #[x] t (0, 0)) → u.cell? ⟨b, 0, none⟩ = some x := fun h => (Lib.cell_of_heap h 0).trans rfl
  have P0 := hsp.heap hp (fun h => h)
  have Q0 := hsp.heap hq (fun h => h)
  have R0 := hsp.heap hr (fun h => h)
  have P1 := hset v1 p _ (.slice none 0 0) _ P0
  have Q1 := hk v1 p q (.slice none 0 0) _ h1 Q0
  have R1 := hk v1 p r (.slice none 0 0) _ h2 R0
  have F1 := hk v1 p g (.slice none 0 0) _ (by omega) hf0
  have P2 := hk _ q p (.int .i64 0) _ (fun e => h1 e.symm) P1
  have Q2 := hset _ q _ (.int .i64 0) _ Q1
  have R2 := hk _ q r (.int .i64 0) _ h3 R1
  have F2 := hk _ q g (.int .i64 0) _ (by omega) F1
  have P3 := hk _ r p (.int .i64 n) _ (fun e => h2 e.symm) P2
  have Q3 := hk _ r q (.int .i64 n) _ (fun e => h3 e.symm) Q2
  have R3 := hset _ r _ (.int .i64 n) _ R2
  have a1 := c0 P0
  have a2 := c0 Q1
  have a3 := c0 R2
  have a4 := c0 hf0
  have a5 := c0 F1
  have a6 := c0 F2
  have b1 := f0 P0
  have b2 := f0 Q1
  have b3 := f0 R2
  have HS : Hid (Spares (fun k => k = p ∨ k = q ∨ k = r) w (((v1.setCell ⟨p, 0, none⟩ (.slice none 0 0)).setCell ⟨q, 0, none⟩ (.int .i64 0)).setCell ⟨r, 0, none⟩ (.int .i64 n))) := Lib.hid
    ((((hsp.mono (F' := fun k => k = p ∨ k = q ∨ k = r) (fun _ h => by cases h)).setCell (p := ⟨p, 0, none⟩) (.inl (.inl rfl)) _).setCell (p := ⟨q, 0, none⟩) (.inl (.inr (.inl rfl))) _).setCell (p := ⟨r, 0, none⟩) (.inl (.inr (.inr rfl))) _)
  have HP3 := Lib.hid P3
  have HQ3 := Lib.hid Q3
  have HR3 := Lib.hid R3
  clear P0 Q0 R0 P1 Q1 R1 F1 P2 Q2 R2 F2 P3 Q3 R3 hf0 hset hk f0 c0 hp hq hr hsp
  have HV1 := Lib.hid hv1
  have HG := Lib.hid hg
  clear hv1 hg
  refine callsD_of_wpS Tryz.func104 rfl fun c₀ cs hu => ?_
  apply wpS_seq
  apply wpS_region
  simp [wpOpsS, go_sem, recoverD, hu, assert_fault, Tryz.ntmps104, Exit.thenS]
  apply wpS_seq
  apply wpS_region
  simp [wpOpsS, go_sem, Exit.thenS]
  refine wpS_cond (t := true) (by simp [Act.eval, Array.replicate]) ?_
  simp only [if_true]
  refine wpS_of_wp ?_
  rw [HV1.out, HG.out]
  go_region
  all_goals
    simp [bodyPostS, results, Tryz.results104]
    exact ⟨HP3.out, HQ3.out, HR3.out, HS.out.drew⟩
end Go.Proofs.YtjpmofnnjdhamaaGreatDoor
