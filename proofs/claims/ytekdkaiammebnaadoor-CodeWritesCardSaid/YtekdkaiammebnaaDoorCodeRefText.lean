/-
  The reference's Reader: texts.
-/
import Derived.Test.YtekdkaiammebnaaDoorCodeRefRead
namespace Go.Proofs.YtekdkaiammebnaaDoor
open Go.RowKit CodeMath

theorem mNum_any (B p : Nat) (s : Option (List UInt8)) (w : World) (h : IsMS B p s w) (hl : ∀ l, s = some l → l.length ≤ 140737488355328) :
    Calls Tryd.prog 25 #[.pointer (some ⟨p, 0, none⟩)] w (MNumbered B p (readNum s) w) := by
  cases s with
  | some l => exact mNum_good B p l w h (hl l rfl)
  | none => obtain ⟨l, h⟩ := h; exact mNum_bad B p l w h

def MTexted (B p : Nat) (r : List UInt8 × Option (List UInt8)) (w : World) (e : Ending) (w' : World) : Prop :=
  (∃ a c, e = .returned (.slice a r.1.length c) ∧ BytesAt w' a r.1 ∧ (a = none → c = 0) ∧ ∀ b off, a = some ⟨b, off, none⟩ → w.heap.size ≤ b ∧ b < w'.heap.size) ∧ IsMS B p r.2 w' ∧ Spares (fun b => b = p) w w'

theorem readText_num {s : Option (List UInt8)} {n : Nat} (h : readNum s = (n, none)) : readText s = ([], none) := by
  cases s with
  | none => rfl
  | some l =>
    simp only [readNum, readText, textR, countR] at h ⊢
    cases hq : numR 10 0 l with
    | none => rfl
    | some q => rw [hq] at h; injection h with _ h; cases h
theorem readText_long {s : Option (List UInt8)} {n : Nat} {t : List UInt8} (h : readNum s = (n, some t)) (hn : ¬ n ≤ t.length) : readText s = ([], none) := by
  cases s with
  | none => cases h
  | some l =>
    simp only [readNum, readText, textR, countR] at h ⊢
    cases hq : numR 10 0 l with
    | none => rfl
    | some q =>
      rw [hq] at h
      injection h with h1 h2
      injection h2 with h2
      subst h1; subst h2
      simp only
      rw [if_neg hn]
theorem readText_good {s : Option (List UInt8)} {n : Nat} {t : List UInt8} (h : readNum s = (n, some t)) (hn : n ≤ t.length) : readText s = (t.take n, some (t.drop n)) := by
  cases s with
  | none => cases h
  | some l =>
    simp only [readNum, readText, textR, countR] at h ⊢
    cases hq : numR 10 0 l with
    | none => rw [hq] at h; injection h with _ h; cases h
    | some q =>
      rw [hq] at h
      injection h with h1 h2
      injection h2 with h2
      subst h1; subst h2
      simp only
      rw [if_pos hn]
theorem readNum_len {s : Option (List UInt8)} {n : Nat} {t : List UInt8} (h : readNum s = (n, some t)) : ∃ l, s = some l ∧ t.length < l.length := by
  cases s with
  | none => cases h
  | some l =>
    refine ⟨l, rfl, ?_⟩
    simp only [readNum] at h
    cases hq : numR 10 0 l with
    | none => rw [hq] at h; injection h with _ h; cases h
    | some q =>
      rw [hq] at h
      injection h with h1 h2
      injection h2 with h2
      subst h2
      exact numR_len hq

set_option maxRecDepth 100000 in
set_option maxHeartbeats 2000000 in
theorem mText_any (B p : Nat) (s : Option (List UInt8)) (w : World) (h : IsMS B p s w) (hl : ∀ l, s = some l → l.length ≤ 140737488351232) :
    Calls Tryd.prog 26 #[.pointer (some ⟨p, 0, none⟩)] w (MTexted B p (readText s) w) := by
  have H := Lib.hid h
  have HL : Hid (∀ l, s = some l → l.length ≤ 140737488355328) := Lib.hid (fun l e => Nat.le_trans (hl l e) (by omega))
  obtain ⟨⟨n, r⟩, hr⟩ : ∃ r, readNum s = r := ⟨_, rfl⟩
  have HR := Lib.hid hr
  cases r with
  | none =>
    have HE := Lib.hid (readText_num hr)
    clear h hl hr
    go_enter Tryd.func26, Tryd.ntmps26
    go_wp2_with fail
    refine (mNum_any B p s w H.out HL.out).mono ?_
    rw [HR.out]
    rintro e w1 ⟨rfl, ⟨l1, h1⟩, hs1⟩
    obtain ⟨x1, x2, x3, x4⟩ := h1.fail
    have X3 := Lib.hid x3
    have X4 := Lib.hid (hs1.trans x4)
    clear h1 hs1 x3 x4
    go_wp2
    go_ret
    rw [HE.out]
    exact ⟨⟨none, 0, rfl, bytesAt_nil _ _, fun _ => rfl, fun _ _ e => by cases e⟩, ⟨l1, X3.out⟩, X4.out⟩
  | some t =>
    obtain ⟨l, hs, hlt⟩ := readNum_len hr
    have htl : t.length ≤ 140737488351232 := by have := hl l hs; omega
    by_cases hn : n ≤ t.length
    · have HE := Lib.hid (readText_good hr hn)
      have hlk : (t.take n).length = n := by simp; omega
      have HLK := Lib.hid hlk
      have hld : (t.drop n).length = t.length - n := by simp
      have HLD := Lib.hid hld
      clear h hl hr hs hlt hlk hld
      go_enter Tryd.func26, Tryd.ntmps26
      go_wp2_with fail
      refine (mNum_any B p s w H.out HL.out).mono ?_
      rw [HR.out]
      rintro e w1 ⟨rfl, h1, hs1⟩
      have HS1 := Lib.hid hs1
      have hx1 := h1.fail.1
      obtain ⟨a, c, h1, h2, h3, h4, h5⟩ := h1
      have hform := h3 (.inl rfl)
      have c0 : w1.cell? ⟨p, 0, none⟩ = some (.slice a t.length c) := by rw [Lib.cell_of_heap h1]; rfl
      have hplt : p < w1.heap.size := (Array.getElem?_eq_some_iff.1 h1).1
      have HH := Lib.hid h1
      have HB := Lib.hid h2
      have HP := Lib.hid h5
      clear hs1 h1 h2 h3 h5
      rcases hform with ⟨rfl, rfl⟩ | ⟨b, off, rfl⟩
      · obtain rfl : t = [] := List.eq_nil_of_length_eq_zero (by omega)
        obtain rfl : n = 0 := by simpa using hn
        have fz : w1.frozen? ⟨p, 0, none⟩ = false := Lib.frozen_of_heap HH.out 0
        go_wp2_with (at_builtin; refine wpList_append_bytes rfl _ _ rfl _ [] rfl (ownBytes_nil w1) none 0 [] rfl (bytesAt_nil _ _) (fun _ => rfl) (by simp) ?_)
        intro ao c' w2 ho hg hf
        have hs12 : Spares nowhere w1 w2 := (Spares.refl _ _).grown hg (fun k e => by cases e)
        have hh2 := hs12.heap HH.out (fun h => h)
        have c2 : w2.cell? ⟨p, 0, none⟩ = some (.slice none 0 0) := by rw [Lib.cell_of_heap hh2]; rfl
        have fz : w2.frozen? ⟨p, 0, none⟩ = false := Lib.frozen_of_heap hh2 0
        have HO := Lib.hid ho
        have hfar : ∀ b off, ao = some ⟨b, off, none⟩ → w1.heap.size ≤ b ∧ b < w2.heap.size := by
          intro b off e
          exact ⟨(hf b (by rw [e]; rfl)).elim (fun e => by cases e) id, ho.lt b (by rw [e]; rfl)⟩
        have HFAR := Lib.hid hfar
        have HS2 := Lib.hid (HS1.out.trans' hs12 (fun _ h => by cases h))
        have HH2 := Lib.hid hh2
        have hsz := HS1.out.size
        have E : Hid (IsM B true p [] false (w2.setCell ⟨p, 0, none⟩ (.slice none 0 0)) ∧ Spares (fun b => b = p) w2 (w2.setCell ⟨p, 0, none⟩ (.slice none 0 0))) := Lib.hid (IsM.step (B := B) (s := true) (k := 0) (l := []) (a' := none) (c' := 0) HH2.out (bytesAt_nil w2 _) (.inl ⟨rfl, rfl⟩) (Nat.le_refl _) (fun h => absurd h (Nat.lt_irrefl _)))
        clear ho hg hf hs12 hh2 hfar
        go_wp2
        go_ret
        rw [HE.out]
        exact ⟨⟨ao, c', by rfl, HO.out.bytes.1.spares E.out.2 (fun b' o' e => by have := HFAR.out b' o' e; omega), HO.out.bytes.2, fun b' o' e => by have := HFAR.out b' o' e; have := E.out.2.size; omega⟩, E.out.1.unsure, HS2.out.trans E.out.2⟩
      · go_wp2_with (at_builtin; refine wpList_append_bytes rfl _ _ rfl _ [] rfl (ownBytes_nil w1) (some ⟨b, off, none⟩) c (t.take n) (by rw [HLK.out]; rfl) (bytesAt_take n HB.out) (fun e => by cases e) (by rw [HLK.out]; simp; omega) ?_)
        intro ao c' w2 ho hg hf
        have hs12 : Spares nowhere w1 w2 := (Spares.refl _ _).grown hg (fun k e => by cases e)
        have hh2 := hs12.heap HH.out (fun h => h)
        have c2 : w2.cell? ⟨p, 0, none⟩ = some (.slice (some ⟨b, off, none⟩) t.length c) := by rw [Lib.cell_of_heap hh2]; rfl
        have fz : w2.frozen? ⟨p, 0, none⟩ = false := Lib.frozen_of_heap hh2 0
        have HO := Lib.hid ho
        have hfar : ∀ b off, ao = some ⟨b, off, none⟩ → w1.heap.size ≤ b ∧ b < w2.heap.size := by
          intro b off e
          exact ⟨(hf b (by rw [e]; rfl)).elim (fun e => by cases e) id, ho.lt b (by rw [e]; rfl)⟩
        have HFAR := Lib.hid hfar
        have HS2 := Lib.hid (HS1.out.trans' hs12 (fun _ h => by cases h))
        have HH2 := Lib.hid hh2
        have hsz := HS1.out.size
        by_cases hc : c = n
        · have E := Lib.hid (IsM.step (B := B) (s := true) (k := n) (l := t) (a' := some ⟨b, off, none⟩) (c' := 0) HH2.out (by rw [List.drop_of_length_le (by omega)]; exact bytesAt_nil w2 _) (.inr ⟨_, _, rfl⟩) (by simp; omega) (fun h => by simp at h; omega))
          have htn : t.length = n := by omega
          rw [HLD.out, htn, Nat.sub_self] at E
          subst hc
          clear ho hg hf hs12 hh2 hfar htn
          go_wp2
          go_ret
          rw [HE.out]
          exact ⟨⟨ao, c', by rw [HLK.out]; rfl, HO.out.bytes.1.spares E.out.2 (fun b' o' e => by have := HFAR.out b' o' e; omega), HO.out.bytes.2, fun b' o' e => by have := HFAR.out b' o' e; have := E.out.2.size; omega⟩, E.out.1.unsure, HS2.out.trans E.out.2⟩
        · have E := Lib.hid (IsM.step (B := B) (s := true) (k := n) (l := t) (a' := some ⟨b, off + n, none⟩) (c' := c - n) HH2.out (bytesAt_drop (HB.out.spares hs12 (fun _ _ _ h => h))) (.inr ⟨_, _, rfl⟩) (by simp; omega) (fun h b' o' e => HP.out (by simp at h; omega) b' off (by injection e with e; injection e with e _ _; rw [e])))
          rw [HLD.out] at E
          clear ho hg hf hs12 hh2 hfar
          go_wp2
          go_ret
          rw [HE.out]
          exact ⟨⟨ao, c', by rw [HLK.out]; rfl, HO.out.bytes.1.spares E.out.2 (fun b' o' e => by have := HFAR.out b' o' e; omega), HO.out.bytes.2, fun b' o' e => by have := HFAR.out b' o' e; have := E.out.2.size; omega⟩, E.out.1.unsure, HS2.out.trans E.out.2⟩
    · have HE := Lib.hid (readText_long hr hn)
      clear h hl hr hs hlt
      go_enter Tryd.func26, Tryd.ntmps26
      go_wp2_with fail
      refine (mNum_any B p s w H.out HL.out).mono ?_
      rw [HR.out]
      rintro e w1 ⟨rfl, h1, hs1⟩
      obtain ⟨x1, x2, x3, x4⟩ := h1.unsure.fail
      have X3 := Lib.hid x3
      have X4 := Lib.hid (hs1.trans x4)
      obtain ⟨a, c, h1, _⟩ := h1
      have c0 : w1.cell? ⟨p, 0, none⟩ = some (.slice a t.length c) := by rw [Lib.cell_of_heap h1]; rfl
      clear h1 hs1 x3 x4
      go_wp2
      go_ret
      rw [HE.out]
      exact ⟨⟨none, 0, rfl, bytesAt_nil _ _, fun _ => rfl, fun _ _ e => by cases e⟩, ⟨t, X3.out⟩, X4.out⟩
end Go.Proofs.YtekdkaiammebnaaDoor
