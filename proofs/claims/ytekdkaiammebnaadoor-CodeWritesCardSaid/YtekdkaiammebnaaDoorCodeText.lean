/-
  A length and a text read, inside a Reader.
-/
import Derived.Test.YtekdkaiammebnaaDoorCodeNum
namespace Go.Proofs.YtekdkaiammebnaaDoor
open Go.RowKit CodeMath

def CountPost (F : Nat → Prop) (p : Nat) (r : Option (Nat × List UInt8)) (w : World) (e : Ending) (w' : World) : Prop :=
  (match r with
    | some (n, t) => e = .returned (.int .i64 n) ∧ IsR F p t false w' ∧ n ≤ t.length
    | none => e = .panicked [{ v := .iface 71 (.agg #[]), recovered := false }] ∧ ∃ l f, IsR F p l f w') ∧ Spares (fun b => b = p) w w'

set_option maxHeartbeats 400000 in
theorem count_any (F : Nat → Prop) (p : Nat) (l : List UInt8) (w : World) (h : IsR F p l false w) (hl : l.length ≤ 140737488355328) :
    Calls Tryd.prog 38 #[.pointer (some ⟨p, 0, none⟩)] w (CountPost F p (countR l) w) := by
  have H := Lib.hid h
  clear h
  obtain ⟨r, hr⟩ : ∃ r, numR 10 0 l = r := ⟨_, rfl⟩
  have HR := Lib.hid hr
  cases r with
  | none =>
    have HE : Hid (countR l = none) := Lib.hid (by unfold countR; rw [hr])
    clear hr
    go_enter Tryd.func38, Tryd.ntmps38
    go_wp2_with fail
    refine (num_any F p l _ H.out hl).mono ?_
    rintro e w1 ⟨h1, hs1⟩
    rw [HR.out] at h1
    obtain ⟨rfl, hf⟩ := h1
    go_wp2
    exact ⟨rfl, by rw [HE.out]; exact ⟨rfl, hf⟩, hs1⟩
  | some r =>
    obtain ⟨n, t⟩ := r
    have htl := numR_len hr
    by_cases hn : n ≤ t.length
    · have HE : Hid (countR l = some (n, t)) := Lib.hid (by unfold countR; rw [hr]; exact if_pos hn)
      clear hr
      go_enter Tryd.func38, Tryd.ntmps38
      go_wp2_with fail
      refine (num_any F p l _ H.out hl).mono ?_
      rintro e w1 ⟨h1, hs1⟩
      rw [HR.out] at h1
      obtain ⟨rfl, h1⟩ := h1
      have H1 := Lib.hid h1
      have HS := Lib.hid hs1
      obtain ⟨_, _, a, c, h3, _⟩ := h1
      have c0 : w1.cell? ⟨p, 0, none⟩ = some (.slice a t.length c) := by rw [Lib.cell_of_heap h3]; rfl
      clear hs1 h3
      go_wp2
      go_ret
      exact ⟨by rw [HE.out]; exact ⟨rfl, H1.out, hn⟩, HS.out⟩
    · have HE : Hid (countR l = none) := Lib.hid (by unfold countR; rw [hr]; exact if_neg hn)
      clear hr
      go_enter Tryd.func38, Tryd.ntmps38
      go_wp2_with fail
      refine (num_any F p l _ H.out hl).mono ?_
      rintro e w1 ⟨h1, hs1⟩
      rw [HR.out] at h1
      obtain ⟨rfl, h1⟩ := h1
      have H1 := Lib.hid h1
      have HS := Lib.hid hs1
      obtain ⟨_, _, a, c, h3, _⟩ := h1
      have c0 : w1.cell? ⟨p, 0, none⟩ = some (.slice a t.length c) := by rw [Lib.cell_of_heap h3]; rfl
      clear hs1 h3
      go_wp2
      exact ⟨rfl, by rw [HE.out]; exact ⟨rfl, _, _, H1.out⟩, HS.out⟩

def TextPost (F : Nat → Prop) (p : Nat) (r : Option (List UInt8 × List UInt8)) (w : World) (e : Ending) (w' : World) : Prop :=
  (match r with
    | some (x, t) => (∃ a c, e = .returned (.slice a x.length c) ∧ BytesAt w' a x ∧ (a = none → c = 0) ∧ ∀ b off, a = some ⟨b, off, none⟩ → F b ∧ b ≠ p) ∧ IsR F p t false w'
    | none => e = .panicked [{ v := .iface 71 (.agg #[]), recovered := false }] ∧ ∃ l f, IsR F p l f w') ∧ Spares (fun b => b = p) w w'

set_option maxHeartbeats 1000000 in
theorem text_any (F : Nat → Prop) (p : Nat) (l : List UInt8) (w : World) (h : IsR F p l false w) (hl : l.length ≤ 140737488355328) :
    Calls Tryd.prog 36 #[.pointer (some ⟨p, 0, none⟩)] w (TextPost F p (textR l) w) := by
  have H := Lib.hid h
  clear h
  obtain ⟨r, hr⟩ : ∃ r, countR l = r := ⟨_, rfl⟩
  have HR := Lib.hid hr
  cases r with
  | none =>
    have HE : Hid (textR l = none) := Lib.hid (by unfold textR; rw [hr])
    clear hr
    go_enter Tryd.func36, Tryd.ntmps36
    go_wp2_with fail
    refine (count_any F p l _ H.out hl).mono ?_
    rintro e w1 ⟨h1, hs1⟩
    rw [HR.out] at h1
    obtain ⟨rfl, hf⟩ := h1
    go_wp2
    exact ⟨rfl, by rw [HE.out]; exact ⟨rfl, hf⟩, hs1⟩
  | some r =>
    obtain ⟨n, t⟩ := r
    have htl : t.length ≤ l.length := by
      unfold countR at hr
      cases hq : numR 10 0 l with
      | none => rw [hq] at hr; cases hr
      | some q =>
        obtain ⟨m, u⟩ := q
        rw [hq] at hr
        simp only at hr
        split at hr
        · injection hr with hr
          injection hr with _ hr
          subst hr
          exact Nat.le_of_lt (numR_len hq)
        · cases hr
    have HE : Hid (textR l = some (t.take n, t.drop n)) := Lib.hid (by unfold textR; rw [hr])
    clear hr
    go_enter Tryd.func36, Tryd.ntmps36
    go_wp2_with fail
    refine (count_any F p l _ H.out hl).mono ?_
    rintro e w1 ⟨h1, hs1⟩
    rw [HR.out] at h1
    obtain ⟨rfl, h1, hn⟩ := h1
    have HS := Lib.hid hs1
    obtain ⟨h1, h2, a, c, h3, h4, h5, h6, h7⟩ := h1
    have c0 : w1.cell? ⟨p, 0, none⟩ = some (.slice a t.length c) := by rw [Lib.cell_of_heap h3]; rfl
    have fz : w1.frozen? ⟨p, 0, none⟩ = false := Lib.frozen_of_heap h3 0
    have HH := Lib.hid h3
    have HA := Lib.hid h4
    have H1 := Lib.hid h1
    have H2 := Lib.hid h2
    have H5 := Lib.hid h5
    have H7 := Lib.hid h7
    have hlt : (t.take n).length = n := by simp; omega
    have HL := Lib.hid hlt
    have hld : (t.drop n).length = t.length - n := by simp
    have HD := Lib.hid hld
    clear hs1 h1 h2 h3 h4 h5 h7 hlt hld
    rcases H5.out with ⟨rfl, rfl⟩ | ⟨b, off, rfl⟩
    · obtain rfl : t = [] := List.eq_nil_of_length_eq_zero (by omega)
      obtain rfl : n = 0 := by simpa using hn
      go_wp2
      go_ret
      have E := Lib.hid (IsR.step (k := 0) (l := []) (a := none) (a' := none) (c := 0) (c' := 0) (f := false) H1.out H2.out HH.out (bytesAt_nil w1 _) (.inl ⟨rfl, rfl⟩) (Nat.le_refl _) H7.out)
      exact ⟨by rw [HE.out]; exact ⟨⟨none, 0, rfl, bytesAt_nil _ _, fun _ => rfl, H7.out⟩, E.out.1⟩, HS.out.trans E.out.2⟩
    · have h7' := H7.out b off rfl
      have hbt : ∀ b' off', some (⟨b, off, none⟩ : Addr) = some ⟨b', off', none⟩ → F b' ∧ b' ≠ p := H7.out
      by_cases hc : c = n
      · subst hc
        obtain hte : t.length = c := by omega
        have E := Lib.hid (IsR.step (k := c) (l := t) (a := some ⟨b, off, none⟩) (a' := some ⟨b, off, none⟩) (c := c) (c' := 0) (f := false) H1.out H2.out HH.out (by rw [List.drop_of_length_le (by omega)]; exact bytesAt_nil w1 _) (.inr ⟨_, _, rfl⟩) (by simp; omega) H7.out)
        rw [HD.out, hte, Nat.sub_self] at E
        have HB : Hid (BytesAt (w1.setCell ⟨p, 0, none⟩ (.slice (some ⟨b, off, none⟩) 0 0)) (some ⟨b, off, none⟩) (t.take c)) := Lib.hid ((bytesAt_take c HA.out).spares E.out.2 (fun b' o' e => (H7.out b' o' e).2))
        clear hte h7' hbt
        go_wp2
        go_ret
        exact ⟨by rw [HE.out]; exact ⟨⟨some ⟨b, off, none⟩, c, by rw [HL.out]; rfl, HB.out, (fun e => by cases e), H7.out⟩, E.out.1⟩, HS.out.trans E.out.2⟩
      · have E := Lib.hid (IsR.step (k := n) (l := t) (a := some ⟨b, off, none⟩) (a' := some ⟨b, off + n, none⟩) (c := c) (c' := c - n) (f := false) H1.out H2.out HH.out (bytesAt_drop HA.out) (.inr ⟨_, _, rfl⟩) (by simp; omega) (fun b' o' e => H7.out b' off (by injection e with e; injection e with e _ _; rw [e])))
        rw [HD.out] at E
        have HB : Hid (BytesAt (w1.setCell ⟨p, 0, none⟩ (.slice (some ⟨b, off + n, none⟩) (t.length - n) (c - n))) (some ⟨b, off, none⟩) (t.take n)) := Lib.hid ((bytesAt_take n HA.out).spares E.out.2 (fun b' o' e => (H7.out b' o' e).2))
        clear h7' hbt
        go_wp2
        go_ret
        exact ⟨by rw [HE.out]; exact ⟨⟨some ⟨b, off, none⟩, c, by rw [HL.out]; rfl, HB.out, (fun e => by cases e), H7.out⟩, E.out.1⟩, HS.out.trans E.out.2⟩

theorem num_failed (F : Nat → Prop) (p : Nat) (l : List UInt8) (w : World) (h : IsR F p l true w) :
    Calls Tryd.prog 34 #[.pointer (some ⟨p, 0, none⟩)] w (Fell w) := by
  have H := Lib.hid h
  clear h
  go_enter Tryd.func34, Tryd.ntmps34
  go_wp2
  go_loopw [6] (fun i wr => i = .int .i64 0 ∧ wr = w) (fun i _ => 10 - (intOf i).toNat)
  case atStart => exact ⟨rfl, rfl⟩
  case round =>
    obtain ⟨rfl, rfl⟩ := hrel
    go_wp2_with fail
    refine (next_failed F p l _ H.out).mono ?_
    rintro e w1 ⟨rfl, rfl⟩
    go_wp2
    exact ⟨rfl, rfl, rfl⟩
theorem count_failed (F : Nat → Prop) (p : Nat) (l : List UInt8) (w : World) (h : IsR F p l true w) :
    Calls Tryd.prog 38 #[.pointer (some ⟨p, 0, none⟩)] w (Fell w) := by
  have H := Lib.hid h
  clear h
  go_enter Tryd.func38, Tryd.ntmps38
  go_wp2_with fail
  refine (num_failed F p l _ H.out).mono ?_
  rintro e w1 ⟨rfl, rfl⟩
  go_wp2
  exact ⟨rfl, rfl, rfl⟩
theorem text_failed (F : Nat → Prop) (p : Nat) (l : List UInt8) (w : World) (h : IsR F p l true w) :
    Calls Tryd.prog 36 #[.pointer (some ⟨p, 0, none⟩)] w (Fell w) := by
  have H := Lib.hid h
  clear h
  go_enter Tryd.func36, Tryd.ntmps36
  go_wp2_with fail
  refine (count_failed F p l _ H.out).mono ?_
  rintro e w1 ⟨rfl, rfl⟩
  go_wp2
  exact ⟨rfl, rfl, rfl⟩
end Go.Proofs.YtekdkaiammebnaaDoor
