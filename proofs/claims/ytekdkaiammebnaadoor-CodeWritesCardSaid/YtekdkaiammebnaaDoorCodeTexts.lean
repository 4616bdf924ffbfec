/-
  Texts written and read.
-/
import Derived.Test.YtekdkaiammebnaaDoorCodeHelp
namespace Go.Proofs.YtekdkaiammebnaaDoor
open Go.RowKit CodeMath

set_option maxRecDepth 100000 in
set_option maxHeartbeats 400000 in
theorem wText_any (F : Nat → Prop) (p : Nat) (d l : List UInt8) (a : Option Addr) (c : Nat) (w : World) (h : IsW F p d w) (hat : BytesAt w a l) (hnil : a = none → c = 0) (hsrc : 0 < l.length → ∀ b off, a = some ⟨b, off, none⟩ → ¬ F b)
    (hd : d.length ≤ 10000000000000) (hl : l.length ≤ 10000000000000) :
    Calls Tryd.prog 13 #[.pointer (some ⟨p, 0, none⟩), .slice a l.length c] w (WPost F p (d ++ textF l) w) := by
  have H := Lib.hid h
  have HA := Lib.hid hat
  have HN := Lib.hid hnil
  have HSRC := Lib.hid hsrc
  have hnl := numF_len l.length
  have HE : Hid (d ++ textF l = d ++ numF l.length ++ l) := Lib.hid (by unfold textF; rw [List.append_assoc])
  clear h hat hnil hsrc
  go_enter Tryd.func13, Tryd.ntmps13
  go_wp2_with fail
  refine (wNum_any F p d l.length w H.out (by unfold U64; omega) (by omega)).mono ?_
  rintro e w1 ⟨rfl, F1, hw1, hm1⟩
  have HM1 := Lib.hid hm1
  obtain ⟨h1, h2, v, h3, h4, h5⟩ := hw1
  have hcell : w1.cell? ⟨p, 0, none⟩ = some v := by rw [Lib.cell_of_heap h3]; rfl
  have H1 := Lib.hid h1
  have H2 := Lib.hid h2
  have H3 := Lib.hid h3
  have H4 := Lib.hid h4
  have H5 := Lib.hid h5
  have hln : (d ++ numF l.length).length ≤ 10000000000010 := by rw [List.length_append]; omega
  obtain ⟨d1, hd1⟩ : ∃ d1, d ++ numF l.length = d1 := ⟨_, rfl⟩
  rw [hd1] at H4 HE hln
  clear hm1 h1 h2 h3 h4 h5 hd1
  go_wp2_with (at_builtin; refine wpList_append_bytes rfl _ _ rfl _ d1 rfl H4.out a c l rfl (HA.out.spares' HM1.out.1 HSRC.out) HN.out ?c1 ?_)
  case c1 => omega
  intro ao c' w2 ho hg hf
  obtain ⟨hp1, F2, hW2, hM2⟩ := IsW.put H1.out H2.out H3.out H4.out H5.out ho hg hf
  have hfz : w2.frozen? ⟨p, 0, none⟩ = false := Lib.frozen_of_heap hp1 0
  have hc1 : w2.cell? ⟨p, 0, none⟩ = some v := by rw [Lib.cell_of_heap hp1]; rfl
  have HW2 := Lib.hid hW2
  have HM2 := Lib.hid hM2
  clear ho hg hf hW2 hM2 hp1
  go_wp2
  go_end0
  exact ⟨rfl, F2, by rw [HE.out]; exact HW2.out, HM1.out.trans HM2.out⟩

def Texted (F : Nat → Prop) (p : Nat) (r : List UInt8 × Option (List UInt8)) (w : World) (e : Ending) (w' : World) : Prop :=
  (∃ a c, e = .returned (.slice a r.1.length c) ∧ BytesAt w' a r.1 ∧ (a = none → c = 0) ∧ ∀ b off, a = some ⟨b, off, none⟩ → w.heap.size ≤ b ∧ b < w'.heap.size) ∧ IsRS F p r.2 w' ∧ Spares (fun b => b = p) w w'

set_option maxRecDepth 100000 in
set_option maxHeartbeats 1000000 in
theorem rText_some (F : Nat → Prop) (p : Nat) (l : List UInt8) (w : World) (h : IsR F p l false w) (hl : l.length ≤ 140737488355328) :
    Calls Tryd.prog 21 #[.pointer (some ⟨p, 0, none⟩)] w (Texted F p (readText (some l)) w) := by
  have H := Lib.hid ((h.alloc (.cells #[.pointer (some ⟨p, 0, none⟩)] 40)).alloc (.cells #[.slice none 0 0] 27))
  have hp : p < w.heap.size := h.2.1 p h.1
  have HF2 := Lib.hid h.2.1
  have hmf : ∀ (fn : Fn) (first cap : Array Value) (w : World), (Instr.makeFunc fn first cap).run Tryd.prog w = .ok (.func fn first cap) w := fun _ _ _ _ => rfl
  clear h
  go_enter_defers Tryd.func21, Tryd.ntmps21
  go_wp2_with fail
  refine (text_any F p l _ H.out hl).mono ?_
  rintro e w1 ⟨h1, hs1⟩
  obtain ⟨e1, e2⟩ := box_cells w 40 27 (.pointer (some ⟨p, 0, none⟩)) (.slice none 0 0) _ _ rfl rfl
  replace e1 := hs1.heap e1 (by omega)
  replace e2 := hs1.heap e2 (by omega)
  have hsz1 : w.heap.size + 2 ≤ w1.heap.size := by have := hs1.size; simpa using this
  have HS : Hid (Spares (fun b => b = p) w w1) := Lib.hid (((Spares.refl _ w).alloc _).alloc _ |>.trans hs1)
  clear hs1
  obtain ⟨r, hr⟩ : ∃ r, textR l = r := ⟨_, rfl⟩
  rw [hr] at h1
  cases r with
  | none =>
    obtain ⟨rfl, l', f', h1⟩ := h1
    have HE : Hid (readText (some l) = ([], none)) := Lib.hid (by simp only [readText, hr])
    obtain ⟨x1, x2, x3⟩ := h1.fail
    have c1 : w1.cell? ⟨w.heap.size, 0, none⟩ = some (.pointer (some ⟨p, 0, none⟩)) := by rw [Lib.cell_of_heap e1]; rfl
    have c2 : w1.cell? ⟨w.heap.size + 1, 0, none⟩ = some (.slice none 0 0) := by rw [Lib.cell_of_heap e2]; rfl
    have f2 : w1.frozen? ⟨w.heap.size + 1, 0, none⟩ = false := Lib.frozen_of_heap e2 0
    have E2 := Lib.hid e2
    have X3 := Lib.hid x3
    have hpn : ¬ w.heap.size + 1 = p := by omega
    clear h1 hr x3 e1 e2
    go_wp2
    refine leaves_cons (f := 35) (args := #[.pointer (some ⟨w.heap.size, 0, none⟩), .pointer (some ⟨w.heap.size + 1, 0, none⟩)]) (by simp) (by simp [go_sem]) ?_
    refine (textCatch_panicking p w.heap.size (w.heap.size + 1) 71 _ f' _ [] _ c1 x1 x2 c2 f2 hpn).mono ?_
    rintro e u' w'' ⟨rfl, rfl, rfl⟩
    have hsp : Spares (fun b => b = p) w1 (w1.setCell ⟨p, 1, none⟩ (.bool true)) := Spares.setCell (F := fun b => b = p) (Spares.refl _ w1) (p := ⟨p, 1, none⟩) (.inl rfl) _
    have d2 := one_set (hsp.heap E2.out (by omega)) (.slice none 0 0)
    simp [Leaves, settle, results, Tryd.results21, go_sem, d2]
    have hs3 : Spares (fun b => b = w.heap.size + 1) (w1.setCell ⟨p, 1, none⟩ (.bool true)) ((w1.setCell ⟨p, 1, none⟩ (.bool true)).setCell ⟨w.heap.size + 1, 0, none⟩ (.slice none 0 0)) := Spares.setCell (F := fun b => b = w.heap.size + 1) (Spares.refl _ _) (p := ⟨w.heap.size + 1, 0, none⟩) (.inl rfl) _
    rw [HE.out]
    exact ⟨⟨none, 0, rfl, bytesAt_nil _ _, fun _ => rfl, fun _ _ e => by cases e⟩, ⟨l', X3.out.spares hs3 (fun k hk e => absurd (HF2.out k hk) (by omega))⟩, (HS.out.trans hsp).trans' hs3 (fun b hb => .inr (by omega))⟩
  | some r =>
    obtain ⟨x, t⟩ := r
    obtain ⟨⟨a, c, rfl, hxa, hxn, hxf⟩, h1⟩ := h1
    have HE : Hid (readText (some l) = (x, some t)) := Lib.hid (by simp only [readText, hr])
    have hxl : x.length ≤ 140737488355328 := by
      unfold textR at hr
      cases hq : countR l with
      | none => rw [hq] at hr; cases hr
      | some q =>
        obtain ⟨m, u⟩ := q
        rw [hq] at hr
        injection hr with hr
        injection hr with hr _
        have hul : u.length ≤ l.length := by
          unfold countR at hq
          cases hz : numR 10 0 l with
          | none => rw [hz] at hq; cases hq
          | some z =>
            obtain ⟨m', u'⟩ := z
            rw [hz] at hq
            simp only at hq
            split at hq
            · injection hq with hq
              injection hq with _ hq
              subst hq
              exact Nat.le_of_lt (numR_len hz)
            · cases hq
        rw [← hr, List.length_take]
        omega
    have H1 := Lib.hid h1
    have E1 := Lib.hid e1
    have E2 := Lib.hid e2
    have HXA := Lib.hid hxa
    have HXN := Lib.hid hxn
    clear h1 hr e1 e2 hxa hxn hxf
    go_wp2_with fail
    refine (clone_any x a c w1 HXA.out HXN.out hxl).mono ?_
    rintro e w2 ⟨a2, c2, rfl, ho2, hs2, hf2⟩
    have E3 := Lib.hid (hs2.heap E2.out (fun h => h))
    have c2' : w2.cell? ⟨w.heap.size + 1, 0, none⟩ = some (.slice none 0 0) := by rw [Lib.cell_of_heap E3.out]; rfl
    have f2 : w2.frozen? ⟨w.heap.size + 1, 0, none⟩ = false := Lib.frozen_of_heap E3.out 0
    have HO := Lib.hid ho2
    have HF := Lib.hid hf2
    have HS2 := Lib.hid (HS.out.trans' hs2 (fun _ h => by cases h))
    have H2 := Lib.hid (H1.out.spares hs2 (fun _ _ h => h))
    have hsz2 := hs2.size
    clear ho2 hf2 hs2
    go_wp2
    refine leaves_cons (f := 35) (args := #[.pointer (some ⟨w.heap.size, 0, none⟩), .pointer (some ⟨w.heap.size + 1, 0, none⟩)]) (by simp) (by simp [go_sem]) ?_
    refine (textCatch_idle w.heap.size (w.heap.size + 1) _).mono ?_
    rintro e u' w'' ⟨rfl, rfl, rfl⟩
    have d2 := one_set E3.out (.slice a2 x.length c2)
    have hs3 : Spares (fun b => b = w.heap.size + 1) w2 (w2.setCell ⟨w.heap.size + 1, 0, none⟩ (.slice a2 x.length c2)) := Spares.setCell (F := fun b => b = w.heap.size + 1) (Spares.refl _ _) (p := ⟨w.heap.size + 1, 0, none⟩) (.inl rfl) _
    simp [Leaves, settle, results, Tryd.results21, go_sem, d2]
    rw [HE.out]
    have hsz3 := hs3.size
    have hfar : ∀ b off, a2 = some ⟨b, off, none⟩ → w1.heap.size ≤ b ∧ b < w2.heap.size := by
      intro b off e
      exact ⟨HF.out b (by rw [e]; rfl), HO.out.lt b (by rw [e]; rfl)⟩
    exact ⟨⟨a2, c2, rfl, HO.out.bytes.1.spares hs3 (fun b off e => by have := hfar b off e; omega), HO.out.bytes.2, fun b off e => by have := hfar b off e; omega⟩, H2.out.spares hs3 (fun k hk e => absurd (HF2.out k hk) (by omega)), HS2.out.trans' hs3 (fun b hb => .inr (by omega))⟩
set_option maxRecDepth 100000 in
set_option maxHeartbeats 1000000 in
theorem rText_none (F : Nat → Prop) (p : Nat) (l : List UInt8) (w : World) (h : IsR F p l true w) :
    Calls Tryd.prog 21 #[.pointer (some ⟨p, 0, none⟩)] w (Texted F p (readText none) w) := by
  have h' := (h.alloc (.cells #[.pointer (some ⟨p, 0, none⟩)] 40)).alloc (.cells #[.slice none 0 0] 27)
  have H := Lib.hid h'
  have hp : p < w.heap.size := h.2.1 p h.1
  have HF2 := Lib.hid h.2.1
  obtain ⟨x1, x2, x3⟩ := h'.fail
  have X3 := Lib.hid x3
  obtain ⟨e1, e2⟩ := box_cells w 40 27 (.pointer (some ⟨p, 0, none⟩)) (.slice none 0 0) _ _ rfl rfl
  have E1 := Lib.hid e1
  have E2 := Lib.hid e2
  have X1 := Lib.hid x1
  have X2 := Lib.hid x2
  have hmf : ∀ (fn : Fn) (first cap : Array Value) (w : World), (Instr.makeFunc fn first cap).run Tryd.prog w = .ok (.func fn first cap) w := fun _ _ _ _ => rfl
  clear h h' x1 x2 x3 e1 e2
  go_enter_defers Tryd.func21, Tryd.ntmps21
  go_wp2_with fail
  refine (text_failed F p l _ H.out).mono ?_
  rintro e w1 ⟨rfl, hw⟩
  have c1 : w1.cell? ⟨w.heap.size, 0, none⟩ = some (.pointer (some ⟨p, 0, none⟩)) := by rw [← hw, Lib.cell_of_heap E1.out]; rfl
  have c2 : w1.cell? ⟨w.heap.size + 1, 0, none⟩ = some (.slice none 0 0) := by rw [← hw, Lib.cell_of_heap E2.out]; rfl
  have f2 : w1.frozen? ⟨w.heap.size + 1, 0, none⟩ = false := by rw [← hw]; exact Lib.frozen_of_heap E2.out 0
  have x1 : w1.cell? ⟨p, 1, none⟩ = some (.bool true) := by rw [← hw]; exact X1.out
  have x2 : w1.frozen? ⟨p, 1, none⟩ = false := by rw [← hw]; exact X2.out
  have HS : Hid (Spares (fun b => b = p) w w1) := Lib.hid (by rw [← hw]; exact ((Spares.refl _ w).alloc _).alloc _)
  have X4 : Hid (IsR F p l true (w1.setCell ⟨p, 1, none⟩ (.bool true))) := Lib.hid (by rw [← hw]; exact X3.out)
  have E3 : Hid (w1.heap[w.heap.size + 1]? = some (.cells #[.slice none 0 0] 27 (0, 0))) := Lib.hid (by rw [← hw]; exact E2.out)
  have hpn : ¬ w.heap.size + 1 = p := by omega
  clear hw
  go_wp2
  refine leaves_cons (f := 35) (args := #[.pointer (some ⟨w.heap.size, 0, none⟩), .pointer (some ⟨w.heap.size + 1, 0, none⟩)]) (by simp) (by simp [go_sem]) ?_
  refine (textCatch_panicking p w.heap.size (w.heap.size + 1) 71 _ true _ [] _ c1 x1 x2 c2 f2 hpn).mono ?_
  rintro e u' w'' ⟨rfl, rfl, rfl⟩
  have hsp : Spares (fun b => b = p) w1 (w1.setCell ⟨p, 1, none⟩ (.bool true)) := Spares.setCell (F := fun b => b = p) (Spares.refl _ w1) (p := ⟨p, 1, none⟩) (.inl rfl) _
  have d2 := one_set (hsp.heap E3.out (by omega)) (.slice none 0 0)
  simp [Leaves, settle, results, Tryd.results21, go_sem, d2]
  have hs3 : Spares (fun b => b = w.heap.size + 1) (w1.setCell ⟨p, 1, none⟩ (.bool true)) ((w1.setCell ⟨p, 1, none⟩ (.bool true)).setCell ⟨w.heap.size + 1, 0, none⟩ (.slice none 0 0)) := Spares.setCell (F := fun b => b = w.heap.size + 1) (Spares.refl _ _) (p := ⟨w.heap.size + 1, 0, none⟩) (.inl rfl) _
  exact ⟨⟨none, 0, rfl, bytesAt_nil _ _, fun _ => rfl, fun _ _ e => by cases e⟩, ⟨l, X4.out.spares hs3 (fun k hk e => absurd (HF2.out k hk) (by omega))⟩, (HS.out.trans hsp).trans' hs3 (fun b hb => .inr (by omega))⟩
theorem rText_any (F : Nat → Prop) (p : Nat) (s : Option (List UInt8)) (w : World) (h : IsRS F p s w) (hl : ∀ l, s = some l → l.length ≤ 140737488355328) :
    Calls Tryd.prog 21 #[.pointer (some ⟨p, 0, none⟩)] w (Texted F p (readText s) w) := by
  cases s with
  | some l => exact rText_some F p l w h (hl l rfl)
  | none => obtain ⟨l, h⟩ := h; exact rText_none F p l w h
end Go.Proofs.YtekdkaiammebnaaDoor
