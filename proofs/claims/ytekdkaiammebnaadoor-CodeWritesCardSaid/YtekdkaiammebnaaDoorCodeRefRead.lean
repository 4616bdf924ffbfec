/-
  The reference's Reader: numbers and texts.
-/
import Derived.Test.YtekdkaiammebnaaDoorCodeCuts
namespace Go.Proofs.YtekdkaiammebnaaDoor
open Go.RowKit CodeMath

def Formed (a : Option Addr) (c : Nat) : Prop := a = none ∧ c = 0 ∨ ∃ b off, a = some ⟨b, off, none⟩
/-- The reference's Reader in block p has l still to read; sure: its slice is known even where nothing is left. -/
def IsM (B : Nat) (sure : Bool) (p : Nat) (l : List UInt8) (bad : Bool) (w : World) : Prop :=
  ∃ a c, w.heap[p]? = some (.cells #[.slice a l.length c, .bool bad] 49 (0, 0)) ∧ BytesAt w a l ∧ (sure = true ∨ 0 < l.length → Formed a c) ∧ l.length ≤ c ∧ (0 < l.length → ∀ b off, a = some ⟨b, off, none⟩ → b ≠ p ∧ b < B)
theorem IsM.unsure {B : Nat} {s : Bool} {p : Nat} {l : List UInt8} {f : Bool} {w : World} (h : IsM B s p l f w) : IsM B false p l f w := by
  obtain ⟨a, c, h1, h2, h3, h4, h5⟩ := h
  exact ⟨a, c, h1, h2, fun h => h3 (h.elim (fun e => by cases e) .inr), h4, h5⟩
theorem IsM.spares {B : Nat} {G : Nat → Prop} {s : Bool} {p : Nat} {l : List UInt8} {f : Bool} {w w' : World} (h : IsM B s p l f w) (hs : Spares G w w') (hp : ¬ G p) (hn : ∀ b, b < w.heap.size → b < B → b ≠ p → ¬ G b) : IsM B s p l f w' := by
  obtain ⟨a, c, h1, h2, h3, h4, h5⟩ := h
  refine ⟨a, c, hs.heap h1 hp, h2.spares' hs (fun hl b off e => ?_), h3, h4, h5⟩
  obtain ⟨b', off', e', hlt⟩ := h2.lt hl
  have := h5 hl b off e
  rw [e] at e'
  injection e' with e'
  injection e' with e' _ _
  exact hn b (by omega) this.2 this.1
theorem IsM.stay {B : Nat} {s : Bool} {p : Nat} {l : List UInt8} {f : Bool} {w w' : World} (h : IsM B s p l f w) (hs : Spares nowhere w w') : IsM B s p l f w' := h.spares hs (fun h => h) (fun _ _ _ _ h => h)
theorem IsM.step {B : Nat} {s : Bool} {p k : Nat} {l : List UInt8} {a a' : Option Addr} {c c' : Nat} {f : Bool} {w : World}
    (h3 : w.heap[p]? = some (.cells #[.slice a l.length c, .bool f] 49 (0, 0))) (h4 : BytesAt w a' (l.drop k)) (h5 : Formed a' c') (h6 : (l.drop k).length ≤ c') (h7 : 0 < (l.drop k).length → ∀ b off, a' = some ⟨b, off, none⟩ → b ≠ p ∧ b < B) :
    IsM B s p (l.drop k) f (w.setCell ⟨p, 0, none⟩ (.slice a' (l.drop k).length c')) ∧ Spares (fun b => b = p) w (w.setCell ⟨p, 0, none⟩ (.slice a' (l.drop k).length c')) := by
  have hs : Spares (fun b => b = p) w (w.setCell ⟨p, 0, none⟩ (.slice a' (l.drop k).length c')) := Spares.setCell (F := fun b => b = p) (Spares.refl _ w) (p := ⟨p, 0, none⟩) (.inl rfl) _
  exact ⟨⟨a', c', heap_set h3 0 _, h4.spares' hs (fun hl b off e => (h7 hl b off e).1), fun _ => h5, h6, h7⟩, hs⟩
theorem IsM.fail {B : Nat} {s : Bool} {p : Nat} {l : List UInt8} {f : Bool} {w : World} (h : IsM B s p l f w) : w.cell? ⟨p, 1, none⟩ = some (.bool f) ∧ w.frozen? ⟨p, 1, none⟩ = false ∧ IsM B s p l true (w.setCell ⟨p, 1, none⟩ (.bool true)) ∧ Spares (fun b => b = p) w (w.setCell ⟨p, 1, none⟩ (.bool true)) := by
  obtain ⟨a, c, h1, h2, h3, h4, h5⟩ := h
  have hs : Spares (fun b => b = p) w (w.setCell ⟨p, 1, none⟩ (.bool true)) := Spares.setCell (F := fun b => b = p) (Spares.refl _ w) (p := ⟨p, 1, none⟩) (.inl rfl) _
  exact ⟨by rw [Lib.cell_of_heap h1]; rfl, Lib.frozen_of_heap h1 1, ⟨a, c, heap_set h1 1 _, h2.spares' hs (fun hl b off e => (h5 hl b off e).1), h3, h4, h5⟩, hs⟩

def IsMS (B p : Nat) (s : Option (List UInt8)) (w : World) : Prop := match s with
  | some l => IsM B false p l false w
  | none => ∃ l, IsM B false p l true w
theorem IsMS.spares {B : Nat} {G : Nat → Prop} {p : Nat} {s : Option (List UInt8)} {w w' : World} (h : IsMS B p s w) (hs : Spares G w w') (hp : ¬ G p) (hn : ∀ b, b < w.heap.size → b < B → b ≠ p → ¬ G b) : IsMS B p s w' := by
  cases s with
  | some l => exact IsM.spares h hs hp hn
  | none => obtain ⟨l, h⟩ := h; exact ⟨l, h.spares hs hp hn⟩

/-- What the reference's Num leaves: a Reader whose slice is known, where it read one. -/
def MNumbered (B p : Nat) (r : Nat × Option (List UInt8)) (w : World) (e : Ending) (w' : World) : Prop :=
  e = .returned (.int .u64 r.1) ∧ (match r.2 with | some t => IsM B true p t false w' | none => ∃ l, IsM B false p l true w') ∧ Spares (fun b => b = p) w w'

theorem mNum_bad (B p : Nat) (l : List UInt8) (w : World) (h : IsM B false p l true w) : Calls Tryd.prog 25 #[.pointer (some ⟨p, 0, none⟩)] w (MNumbered B p (readNum none) w) := by
  obtain ⟨x1, x2, x3, x4⟩ := h.fail
  have X3 := Lib.hid x3
  have X4 := Lib.hid x4
  clear h x3 x4
  go_enter Tryd.func25, Tryd.ntmps25
  go_wp2
  go_loopw [5] (fun i wr => i = .int .i64 0 ∧ wr = w) (fun i _ => 10 - (intOf i).toNat)
  case atStart => exact ⟨rfl, rfl⟩
  case round =>
    obtain ⟨rfl, rfl⟩ := hrel
    go_wp2
    go_ret
    exact ⟨rfl, ⟨l, X3.out⟩, X4.out⟩

set_option maxRecDepth 100000 in
set_option maxHeartbeats 2000000 in
theorem mNum_good (B p : Nat) (l : List UInt8) (w : World) (h : IsM B false p l false w) (hl : l.length ≤ 140737488355328) : Calls Tryd.prog 25 #[.pointer (some ⟨p, 0, none⟩)] w (MNumbered B p (readNum (some l)) w) := by
  obtain ⟨x1, x2, x3, x4⟩ := h.fail
  have X3 := Lib.hid x3
  have X4 := Lib.hid x4
  obtain ⟨a, c, h1, h2, h3, h4, h5⟩ := h
  have c0 : w.cell? ⟨p, 0, none⟩ = some (.slice a l.length c) := by rw [Lib.cell_of_heap h1]; rfl
  have fz : w.frozen? ⟨p, 0, none⟩ = false := Lib.frozen_of_heap h1 0
  have HH := Lib.hid h1
  have HB := Lib.hid h2
  have HF := Lib.hid h3
  have HP := Lib.hid h5
  clear x3 x4 h1 h2 h3 h5
  go_enter Tryd.func25, Tryd.ntmps25
  go_wp2
  go_loop [3, 4, 5] (fun n s i => ∃ (k m : Nat), k ≤ 9 ∧ i = .int .i64 k ∧ s = .int .i64 (7 * k : Int) ∧ n = .int .u64 m ∧ k ≤ l.length ∧ Hid (m < 2 ^ (7 * k) ∧ numR 10 0 l = numR (10 - k) m (l.drop k))) (fun _ _ i => 10 - (intOf i).toNat)
  case atStart => exact ⟨0, 0, by omega, rfl, rfl, rfl, by omega, Lib.hid ⟨by omega, rfl⟩⟩
  case round =>
    obtain ⟨k, m, hk, rfl, rfl, rfl, hkl, HM⟩ := hrel
    by_cases hend : k = l.length
    · have HE : Hid (readNum (some l) = (0, none)) := Lib.hid (by
        have : numR 10 0 l = none := by rw [HM.out.2, List.drop_of_length_le (by omega)]; exact numR_empty k m
        simp only [readNum, this])
      have q1 : decide ((l.length : Int) ≤ (k : Int)) = true := by simp; omega
      have q2 : decide (l.length ≤ k) = true := by simp; omega
      clear hend hkl
      go_wp2
      go_ret
      exact ⟨by rw [HE.out]; rfl, by rw [HE.out]; exact ⟨l, X3.out⟩, X4.out⟩
    · have hlt : k < l.length := by omega
      obtain ⟨b, off, rfl, hc⟩ := HB.out k hlt
      have HD := Lib.hid (List.drop_eq_getElem_cons hlt)
      obtain ⟨x, hx⟩ : ∃ x, l[k] = x := ⟨_, rfl⟩
      rw [hx] at hc HD
      have hxl := x.toNat_lt
      have hlt1 : (k : Int) < (l.length : Int) := by omega
      have t9 : (k : Int) < 10 := by omega
      clear hend hx hkl
      by_cases hb : k = 9 ∧ 1 < x.toNat
      · have HE : Hid (readNum (some l) = (0, none)) := Lib.hid (by
          have : numR 10 0 l = none := by rw [HM.out.2, HD.out]; exact numR_bad hb.1 hb.2
          simp only [readNum, this])
        have u1 : ((k : Int) == 9) = true := by rw [hb.1]; rfl
        have u2 : (1 : Int) < (x.toNat : Int) := by omega
        clear hb
        go_wp2
        go_ret
        exact ⟨by rw [HE.out]; rfl, by rw [HE.out]; exact ⟨l, X3.out⟩, X4.out⟩
      · have hb9 : k = 9 → x.toNat ≤ 1 := fun e => by omega
        obtain ⟨q, sh, m', g1, g2, g3, g4, g5, g6, g7⟩ := num_step m x.toNat k HM.out.1 hk (by omega) hb9
        have hk0 : k ≤ 9 := hk
        by_cases hc : x.toNat < 128
        · by_cases h0 : 0 < k ∧ x.toNat = 0
          · have HE : Hid (readNum (some l) = (0, none)) := Lib.hid (by
              have : numR 10 0 l = none := by rw [HM.out.2, HD.out]; exact numR_zero hk h0.1 h0.2
              simp only [readNum, this])
            obtain ⟨h0a, h0b⟩ := h0
            have z0 : ((x.toNat : Int) == 0) = true := by rw [h0b]; rfl
            have z1 : decide ((1 : Int) < (x.toNat : Int)) = false := by rw [h0b]; rfl
            have z2 : decide (1 < x.toNat) = false := by rw [h0b]; rfl
            clear g5 g6 g7 hb hb9 h0b
            by_cases hk9 : k = 9
            · have v1 : ((k : Int) == 9) = true := by rw [hk9]; rfl
              clear hk9
              go_wp2
              go_ret
              exact ⟨by rw [HE.out]; rfl, by rw [HE.out]; exact ⟨l, X3.out⟩, X4.out⟩
            · have v1 : ((k : Int) == 9) = false := by simp; omega
              clear hk9
              go_wp2
              go_ret
              exact ⟨by rw [HE.out]; rfl, by rw [HE.out]; exact ⟨l, X3.out⟩, X4.out⟩
          · have HE : Hid (readNum (some l) = (m', some (l.drop (k + 1)))) := Lib.hid (by
              have : numR 10 0 l = some (m', l.drop (k + 1)) := by rw [HM.out.2, HD.out, g5]; exact numR_end hk hc hb9 (by omega)
              simp only [readNum, this])
            clear g5 g6 g7
            by_cases hk9 : k = 9
            · have v1 : ((k : Int) == 9) = true := by rw [hk9]; rfl
              have hx1 : x.toNat = 1 := by have := hb9 hk9; omega
              have v2 : decide ((1 : Int) < (x.toNat : Int)) = false := by rw [hx1]; rfl
              have v3 : decide (1 < x.toNat) = false := by rw [hx1]; rfl
              have v4 : ((x.toNat : Int) == 0) = false := by rw [hx1]; rfl
              clear hb hb9 h0 hk9 hx1
              by_cases hcc : c = k + 1
              · have E := Lib.hid (IsM.step (B := B) (s := true) (k := k + 1) (a := some ⟨b, off, none⟩) (a' := some ⟨b, off, none⟩) (c' := 0) HH.out (by rw [List.drop_of_length_le (by omega)]; exact bytesAt_nil w _) (.inr ⟨_, _, rfl⟩) (by simp; omega) (fun h => by simp at h; omega))
                have hz : (l.drop (k + 1)).length = 0 := by simp; omega
                rw [hz] at E
                have hll : l.length = k + 1 := by omega
                subst hcc
                rw [hll] at c0
                clear hz hll
                go_wp2
                go_ret
                exact ⟨by rw [HE.out]; rfl, by rw [HE.out]; exact E.out.1, E.out.2⟩
              · have E := Lib.hid (IsM.step (B := B) (s := true) (k := k + 1) (a := some ⟨b, off, none⟩) (a' := some ⟨b, off + (k + 1), none⟩) (c' := c - (k + 1)) HH.out (bytesAt_drop HB.out) (.inr ⟨_, _, rfl⟩) (by simp; omega) (fun h b' o' e => HP.out (by simp at h; omega) b' off (by injection e with e; injection e with e _ _; rw [e])))
                rw [List.length_drop] at E
                go_wp2
                go_ret
                exact ⟨by rw [HE.out]; rfl, by rw [HE.out]; exact E.out.1, E.out.2⟩
            · have v1 : ((k : Int) == 9) = false := by simp; omega
              clear hb hb9 hk9
              by_cases hz : x.toNat = 0
              · have hk0' : k = 0 := by omega
                have v2 : ((x.toNat : Int) == 0) = true := by rw [hz]; rfl
                have v3 : decide (0 < k) = false := by rw [hk0']; rfl
                clear h0 hk0' hz
                by_cases hcc : c = k + 1
                · have E := Lib.hid (IsM.step (B := B) (s := true) (k := k + 1) (a := some ⟨b, off, none⟩) (a' := some ⟨b, off, none⟩) (c' := 0) HH.out (by rw [List.drop_of_length_le (by omega)]; exact bytesAt_nil w _) (.inr ⟨_, _, rfl⟩) (by simp; omega) (fun h => by simp at h; omega))
                  have hz : (l.drop (k + 1)).length = 0 := by simp; omega
                  rw [hz] at E
                  have hll : l.length = k + 1 := by omega
                  subst hcc
                  rw [hll] at c0
                  clear hz hll
                  go_wp2
                  go_ret
                  exact ⟨by rw [HE.out]; rfl, by rw [HE.out]; exact E.out.1, E.out.2⟩
                · have E := Lib.hid (IsM.step (B := B) (s := true) (k := k + 1) (a := some ⟨b, off, none⟩) (a' := some ⟨b, off + (k + 1), none⟩) (c' := c - (k + 1)) HH.out (bytesAt_drop HB.out) (.inr ⟨_, _, rfl⟩) (by simp; omega) (fun h b' o' e => HP.out (by simp at h; omega) b' off (by injection e with e; injection e with e _ _; rw [e])))
                  rw [List.length_drop] at E
                  go_wp2
                  go_ret
                  exact ⟨by rw [HE.out]; rfl, by rw [HE.out]; exact E.out.1, E.out.2⟩
              · have v2 : ((x.toNat : Int) == 0) = false := by simpa using hz
                clear h0 hz
                by_cases hcc : c = k + 1
                · have E := Lib.hid (IsM.step (B := B) (s := true) (k := k + 1) (a := some ⟨b, off, none⟩) (a' := some ⟨b, off, none⟩) (c' := 0) HH.out (by rw [List.drop_of_length_le (by omega)]; exact bytesAt_nil w _) (.inr ⟨_, _, rfl⟩) (by simp; omega) (fun h => by simp at h; omega))
                  have hz : (l.drop (k + 1)).length = 0 := by simp; omega
                  rw [hz] at E
                  have hll : l.length = k + 1 := by omega
                  subst hcc
                  rw [hll] at c0
                  clear hz hll
                  go_wp2
                  go_ret
                  exact ⟨by rw [HE.out]; rfl, by rw [HE.out]; exact E.out.1, E.out.2⟩
                · have E := Lib.hid (IsM.step (B := B) (s := true) (k := k + 1) (a := some ⟨b, off, none⟩) (a' := some ⟨b, off + (k + 1), none⟩) (c' := c - (k + 1)) HH.out (bytesAt_drop HB.out) (.inr ⟨_, _, rfl⟩) (by simp; omega) (fun h b' o' e => HP.out (by simp at h; omega) b' off (by injection e with e; injection e with e _ _; rw [e])))
                  rw [List.length_drop] at E
                  go_wp2
                  go_ret
                  exact ⟨by rw [HE.out]; rfl, by rw [HE.out]; exact E.out.1, E.out.2⟩
        · have hk8 : (k : Int) < 9 := by omega
          have v1 : ((k : Int) == 9) = false := by simp; omega
          have HE : Hid (m' < 2 ^ (7 * (k + 1)) ∧ numR 10 0 l = numR (10 - (k + 1)) m' (l.drop (k + 1))) := Lib.hid ⟨g6, by rw [g5, HM.out.2, HD.out]; exact numR_more (by omega) (by omega)⟩
          clear g5 g6 g7 hb hb9
          go_wp2
          go_round
          case rel => exact ⟨k + 1, m', by omega, by go_num, by congr 1 <;> omega, rfl, by omega, HE⟩
          case measure => simp [intOf]; omega
end Go.Proofs.YtekdkaiammebnaaDoor
