/-
  Package code's Reader: lists of fields.
-/
import Derived.Test.YtekdkaiammebnaaDoorCodeRefFields
import Derived.Deep.RegionHeld3
import Derived.Deep.AppendLies
import Derived.Deep.RegionWith
import Derived.Deep.RegionLaw
import Derived.OwnWalk
namespace Go.Proofs.YtekdkaiammebnaaDoor
open Go.RowKit CodeMath

/-- Behind k fields read: what the call's own boxes hold. -/
structure PRead (w0 : World) (F : Nat → Prop) (p : Nat) (n : Nat) (t : List UInt8) (k : Nat) (wr : World) (tk : List UInt8) (v : Value) (fs : Fs) : Prop where
  state : IsR F p tk false wr
  box1 : wr.heap[w0.heap.size]? = some (.cells #[.pointer (some ⟨p, 0, none⟩)] 40 (0, 0))
  box2 : wr.heap[w0.heap.size + 1]? = some (.cells #[v] 29 (0, 0))
  own : OwnFields wr v fs
  len : fs.length = k
  since : Spares (fun b => b = p) w0 wr
  apart : ∀ g, v.ownBlock = some g → w0.heap.size + 2 ≤ g
  rest : iterF n (some t) [] = iterF (n - k) (some tk) fs
  small : tk.length ≤ t.length
  bound : ∀ b, F b → b < w0.heap.size

def Listed (F : Nat → Prop) (p : Nat) (r : Fs × Option (List UInt8)) (w : World) (e : Ending) (w' : World) : Prop :=
  (∃ a c, e = .returned (.slice a r.1.length c) ∧ FieldsAt w' a r.1 ∧ ∀ b off, a = some ⟨b, off, none⟩ → w.heap.size ≤ b ∧ b < w'.heap.size) ∧ IsRS F p r.2 w' ∧ Spares (fun b => b = p) w w'

theorem countR_of {l : List UInt8} {n : Nat} {t : List UInt8} (h : countR l = some (n, t)) : readNum (some l) = (n, some t) ∧ n ≤ t.length := by
  simp only [countR] at h
  cases hq : numR 10 0 l with
  | none => rw [hq] at h; cases h
  | some q =>
    obtain ⟨m, u⟩ := q
    rw [hq] at h
    simp only at h
    split at h
    · rename_i hm
      injection h with h
      injection h with h1 h2
      subst h1; subst h2
      exact ⟨by simp only [readNum, hq], hm⟩
    · cases h
theorem countR_no {l : List UInt8} (h : countR l = none) : readFields (some l) = ([], none) := by
  simp only [countR] at h
  cases hq : numR 10 0 l with
  | none => exact readFields_num (n := 0) (by simp only [readNum, hq])
  | some q =>
    obtain ⟨m, u⟩ := q
    rw [hq] at h
    simp only at h
    split at h
    · cases h
    · rename_i hm
      exact readFields_long (n := m) (t := u) (by simp only [readNum, hq]) hm
theorem readText_of {l x t : List UInt8} (h : textR l = some (x, t)) : readText (some l) = (x, some t) := by simp only [readText, h]
theorem readText_no {l : List UInt8} (h : textR l = none) : readText (some l) = ([], none) := by simp only [readText, h]
theorem stepF_no1 {l : List UInt8} (h : textR l = none) : (stepF (some l)).2 = none := by
  simp only [stepF, readText_no h]; rfl
theorem stepF_no2 {l x t : List UInt8} (h : textR l = some (x, t)) (h2 : textR t = none) : (stepF (some l)).2 = none := by
  simp only [stepF, readText_of h, readText_no h2]
theorem stepF_yes {l x t y u : List UInt8} (h : textR l = some (x, t)) (h2 : textR t = some (y, u)) : stepF (some l) = ((mk x, mk y), some u) := by
  simp only [stepF, readText_of h, readText_of h2]
theorem textR_len {l x t : List UInt8} (h : textR l = some (x, t)) : t.length < l.length := by
  obtain ⟨l', e, h1, _⟩ := readText_len (readText_of h)
  injection e with e
  subst e
  exact h1

theorem leaves_congr {P : Program} {fn : Func} {t t' : Array Value} {R : Ending → World → Prop} (h : results fn t = results fn t') : ∀ ds u w, Leaves P fn t R ds u w → Leaves P fn t' R ds u w
  | [], .returning, w, hl => by
    obtain ⟨v, h1, h2⟩ := hl
    exact ⟨v, by rw [← h]; exact h1, h2⟩
  | [], .panicking _, _, hl => hl
  | [], .run, _, hl => hl
  | d :: ds, u, w, hl => by
    obtain ⟨hne, fv, cap, f, args, h1, h2, h3⟩ := hl
    refine ⟨hne, fv, cap, f, args, h1, h2, h3.mono ?_⟩
    intro e u' w' hr
    cases e with
    | returned v => exact leaves_congr h ds _ _ hr
    | panicked c => exact leaves_congr h ds _ _ hr
    | outgrown => exact hr
theorem panic_put {R : Ending → World → Prop} (d : Nat) (hd : d ≠ 2) (v : Value) (c : List PanicEntry) (a : Act) (w : World) (h : bodyPostD Tryd.prog Tryd.f23 R (.panic c) (a.put (some d) v) w) : bodyPostD Tryd.prog Tryd.f23 R (.panic c) a w := by
  refine leaves_congr ?_ _ _ _ h
  have e : (a.put (some d) v).tmps[2]?.getD undef = a.tmps[2]?.getD undef := by
    simp only [Act.put, Array.getElem?_setIfInBounds, if_neg hd]
  simp only [results, Tryd.results23]
  simp [e]
theorem pread_next {w wr w2 w3 w4 : World} {F : Nat → Prop} {p n k gg cap : Nat} {t tk x t1 y t2 : List UInt8} {v : Value} {fs : Fs} (HK : PRead w F p n t k wr tk v fs) (hlt : k < n) (hr1 : textR tk = some (x, t1)) (hr2 : textR t1 = some (y, t2))
    (hs2 : Spares (fun b => b = p) wr w2) (hst3 : IsR F p t2 false w3) (hs3 : Spares (fun b => b = p) w2.drew w3)
    (hv4 : w4.ownsRow 0 63 2 (.slice (some ⟨gg, 0, none⟩) (fs.length + 1) cap) (fs.length + 1) (fieldCells fs ++ [.string (mk x), .string (mk y)]))
    (sp4 : Spares (fun g => v.ownBlock = some g) w3 w4) (hat : v.ownBlock = some gg ∨ gg = w3.heap.size + 1)
    (b14 : w4.heap[w.heap.size]? = some (.cells #[.pointer (some ⟨p, 0, none⟩)] 40 (0, 0))) (b24 : w4.heap[w.heap.size + 1]? = some (.cells #[v] 29 (0, 0))) :
    PRead w F p n t (k + 1) (w4.setCell ⟨w.heap.size + 1, 0, none⟩ (.slice (some ⟨gg, 0, none⟩) (fs.length + 1) cap)) t2 (.slice (some ⟨gg, 0, none⟩) (fs.length + 1) cap) (fs ++ [(mk x, mk y)]) := by
  have hsp : Spares (fun b => b = w.heap.size + 1) w4 (w4.setCell ⟨w.heap.size + 1, 0, none⟩ (.slice (some ⟨gg, 0, none⟩) (fs.length + 1) cap)) := Spares.setCell (F := fun b => b = w.heap.size + 1) (Spares.refl _ _) (p := ⟨w.heap.size + 1, 0, none⟩) (.inl rfl) _
  have hszr := HK.since.size
  have hsz2 := hs2.size
  have hsz3 : w2.heap.size ≤ w3.heap.size := hs3.size
  have hwr : w.heap.size + 1 < wr.heap.size := (Array.getElem?_eq_some_iff.1 HK.box2).1
  have hgg : w.heap.size + 2 ≤ gg := hat.elim (HK.apart gg) (fun e => by omega)
  have hr : Spares (fun b => b = p) wr w3 := (hs2.drew).trans hs3
  refine ⟨?_, ?_, ?_, ?_, ?_, ?_, ?_, ?_, ?_, HK.bound⟩
  · refine (hst3.spares sp4 (fun g hF hg => ?_)).spares hsp (fun g hF hg => ?_)
    · have := HK.bound g hF
      have := HK.apart g hg
      omega
    · have := HK.bound g hF
      omega
  · exact hsp.heap b14 (by omega)
  · exact heap_set b24 0 _
  · have h5 : OwnFields w4 (.slice (some ⟨gg, 0, none⟩) (fs.length + 1) cap) (fs ++ [(mk x, mk y)]) := by
      unfold OwnFields
      rw [List.length_append, fieldCells_snoc]
      exact hv4
    exact hsp.own h5 (fun g hg e => by simp only [Value.ownBlock, Option.some.injEq] at hg; omega)
  · simp [HK.len]
  · exact ((HK.since.trans hr).trans' sp4 (fun g hg => .inr (by have := HK.apart g hg; omega))).trans' hsp (fun g hg => .inr (by omega))
  · intro g hg
    simp only [Value.ownBlock, Option.some.injEq] at hg
    omega
  · rw [HK.rest, show n - k = (n - (k + 1)) + 1 by omega]
    show iterF (n - (k + 1)) (stepF (some tk)).2 (fs ++ [(stepF (some tk)).1]) = _
    rw [stepF_yes hr1 hr2]
  · have := textR_len hr1
    have := textR_len hr2
    have := HK.small
    omega

theorem fields_door {w wz : World} {F : Nat → Prop} {p : Nat} {l3 : List UInt8} {f3 : Bool} {v : Value} (T : Array Value) (hT : T[2]?.getD undef = .pointer (some ⟨w.heap.size + 1, 0, none⟩)) (h3 : IsR F p l3 f3 wz) (hs : Spares (fun b => b = p) w wz) (hp : p < w.heap.size) (hF : ∀ k, F k → k < w.heap.size)
    (b1 : wz.heap[w.heap.size]? = some (.cells #[.pointer (some ⟨p, 0, none⟩)] 40 (0, 0))) (b2 : wz.heap[w.heap.size + 1]? = some (.cells #[v] 29 (0, 0))) :
    Leaves Tryd.prog Tryd.f23 T (Listed F p ([], none) w) [{ target := Target.fn (Fn.func 37) #[.pointer (some ⟨w.heap.size, 0, none⟩), .pointer (some ⟨w.heap.size + 1, 0, none⟩)], args := #[] }] (.panicking [{ v := .iface 71 (.agg #[]), recovered := false }]) wz := by
  obtain ⟨x1, x2, x3⟩ := h3.fail
  have c1 : wz.cell? ⟨w.heap.size, 0, none⟩ = some (.pointer (some ⟨p, 0, none⟩)) := by rw [Lib.cell_of_heap b1]; rfl
  have c2 : wz.cell? ⟨w.heap.size + 1, 0, none⟩ = some v := by rw [Lib.cell_of_heap b2]; rfl
  have f2 : wz.frozen? ⟨w.heap.size + 1, 0, none⟩ = false := Lib.frozen_of_heap b2 0
  refine leaves_cons (f := 37) (args := #[.pointer (some ⟨w.heap.size, 0, none⟩), .pointer (some ⟨w.heap.size + 1, 0, none⟩)]) (by simp) (by simp [go_sem]) ?_
  refine (fieldsCatch_panicking p w.heap.size (w.heap.size + 1) 71 _ f3 _ [] _ c1 x1 x2 c2 f2 (by omega)).mono ?_
  rintro e u' w'' ⟨rfl, rfl, rfl⟩
  have hsp : Spares (fun b => b = p) wz (wz.setCell ⟨p, 1, none⟩ (.bool true)) := Spares.setCell (F := fun b => b = p) (Spares.refl _ wz) (p := ⟨p, 1, none⟩) (.inl rfl) _
  have d2 := one_set (hsp.heap b2 (by omega)) (.slice none 0 0)
  simp [Leaves, settle, results, Tryd.results23, go_sem, d2, hT]
  have hs3 : Spares (fun b => b = w.heap.size + 1) (wz.setCell ⟨p, 1, none⟩ (.bool true)) ((wz.setCell ⟨p, 1, none⟩ (.bool true)).setCell ⟨w.heap.size + 1, 0, none⟩ (.slice none 0 0)) := Spares.setCell (F := fun b => b = w.heap.size + 1) (Spares.refl _ _) (p := ⟨w.heap.size + 1, 0, none⟩) (.inl rfl) _
  exact ⟨⟨none, 0, rfl, fieldsAt_nil _ _, fun _ _ e => by cases e⟩, ⟨l3, x3.spares hs3 (fun k hk e => absurd (hF k hk) (by omega))⟩, (hs.trans hsp).trans' hs3 (fun b hb => .inr (by omega))⟩

set_option maxRecDepth 100000 in
set_option maxHeartbeats 4000000 in
theorem rFields_some (F : Nat → Prop) (p : Nat) (l : List UInt8) (w : World) (h : IsR F p l false w) (hl : l.length ≤ 1000000) :
    Calls Tryd.prog 23 #[.pointer (some ⟨p, 0, none⟩)] w (Listed F p (readFields (some l)) w) := by
  have H := Lib.hid ((h.alloc (.cells #[.pointer (some ⟨p, 0, none⟩)] 40)).alloc (.cells #[.slice none 0 0] 29))
  have hp : p < w.heap.size := h.2.1 p h.1
  have HF2 := Lib.hid h.2.1
  have hmf : ∀ (fn : Fn) (first cap : Array Value) (w : World), (Instr.makeFunc fn first cap).run Tryd.prog w = .ok (.func fn first cap) w := fun _ _ _ _ => rfl
  obtain ⟨i0, hi, hz0, hz1, hz2⟩ := info_parts fieldInfo
  clear h
  go_enter_defers Tryd.func23, Tryd.ntmps23
  go_wp2_with fail
  refine (count_any F p l _ H.out (by omega)).mono ?_
  rintro e w1 ⟨h1, hs1⟩
  obtain ⟨e1, e2⟩ := box_cells w 40 29 (.pointer (some ⟨p, 0, none⟩)) (.slice none 0 0) _ _ rfl rfl
  replace e1 := hs1.heap e1 (by omega)
  replace e2 := hs1.heap e2 (by omega)
  have hs0 : Spares (fun b => b = p) w w1 := ((Spares.refl _ w).alloc _).alloc _ |>.trans hs1
  have HS : Hid (Spares (fun b => b = p) w w1) := Lib.hid hs0
  clear hs1
  obtain ⟨r, hr⟩ : ∃ r, countR l = r := ⟨_, rfl⟩
  rw [hr] at h1
  cases r with
  | none =>
    obtain ⟨rfl, l', f', h1⟩ := h1
    have HE := Lib.hid (countR_no hr)
    have hd := fields_door (w := w) (wz := w1) (F := F) (p := p) (l3 := l') (f3 := f') (v := .slice none 0 0)
    have HD := Lib.hid (fun T hT => hd T hT h1 HS.out hp HF2.out e1 e2)
    clear hd h1 hr e1 e2 hs0
    go_wp2
    rw [HE.out]
    exact HD.out _ rfl
  | some r =>
    obtain ⟨n, t⟩ := r
    obtain ⟨rfl, h1, hnt⟩ := h1
    obtain ⟨hrn, _⟩ := countR_of hr
    obtain ⟨l2, el2, htl2⟩ := readNum_len hrn
    have htl : t.length ≤ 1000000 := by injection el2 with el2; subst el2; omega
    have HEG := Lib.hid (fun fs t' => readFields_good (fs := fs) (t' := t') hrn hnt)
    have HEB := Lib.hid (fun fs => readFields_bad (fs := fs) hrn hnt)
    have HP0 : Hid (PRead w F p n t 0 w1 t (.slice none 0 0) []) := Lib.hid ⟨h1, e1, e2, ownFields_nil _, rfl, hs0, (fun g hg => by cases hg), rfl, Nat.le_refl _, HF2.out⟩
    clear h1 hr hrn el2 htl2 e1 e2 hs0
    go_wp2
    go_loopw [7] (fun i wr => ∃ (k : Nat) (tk : List UInt8) (v : Value) (fs : Fs), k ≤ n ∧ i = .int .i64 k ∧ Hid (PRead w F p n t k wr tk v fs)) (fun i _ => n - (intOf i).toNat)
    case atStart => exact ⟨0, t, _, [], by omega, rfl, HP0⟩
    case round =>
      obtain ⟨k, tk, v, fs, hk, rfl, HK⟩ := hrel
      have c1 : wr.cell? ⟨w.heap.size, 0, none⟩ = some (.pointer (some ⟨p, 0, none⟩)) := by rw [Lib.cell_of_heap HK.out.box1]; rfl
      have c2 : wr.cell? ⟨w.heap.size + 1, 0, none⟩ = some v := by rw [Lib.cell_of_heap HK.out.box2]; rfl
      have f2 : wr.frozen? ⟨w.heap.size + 1, 0, none⟩ = false := Lib.frozen_of_heap HK.out.box2 0
      have htk : tk.length ≤ 140737488355328 := by have := HK.out.small; omega
      by_cases hlt : k < n
      · obtain ⟨r1, hr1⟩ : ∃ r, textR tk = r := ⟨_, rfl⟩
        cases r1 with
        | none =>
          have HR1 := Lib.hid hr1
          have HE : Hid (readFields (some l) = ([], none)) := Lib.hid (by
            have hq : iterF n (some t) [] = ((iterF n (some t) []).1, none) := by
              have h0 : (iterF n (some t) []).2 = none := by
                rw [HK.out.rest, show n - k = (n - (k + 1)) + 1 by omega]
                show (iterF (n - (k + 1)) (stepF (some tk)).2 _).2 = none
                rw [stepF_no1 hr1]
                exact iterF_none _ _
              rw [← h0]
            exact HEB.out _ hq)
          clear hr1
          go_wp2_with fail
          refine (text_any F p tk _ HK.out.state htk).mono ?_
          rintro e w2 ⟨h2, hs2⟩
          rw [HR1.out] at h2
          obtain ⟨rfl, l3, f3, h2⟩ := h2
          have hszr := HK.out.since.size
          have hd := fields_door (w := w) (wz := w2) (F := F) (p := p) (l3 := l3) (f3 := f3) (v := v)
          have HD := Lib.hid (fun T hT => hd T hT h2 (HK.out.since.trans hs2) hp HF2.out (hs2.heap HK.out.box1 (by omega)) (hs2.heap HK.out.box2 (by omega)))
          clear hd h2 hs2 c1 c2 f2
          go_wp2
          rw [HE.out]
          exact HD.out _ rfl
        | some r1 =>
          obtain ⟨x, t1⟩ := r1
          have ht1 := textR_len hr1
          obtain ⟨r2, hr2⟩ : ∃ r, textR t1 = r := ⟨_, rfl⟩
          have HR1 := Lib.hid hr1
          have HR2 := Lib.hid hr2
          cases r2 with
          | none =>
            clear hr1 hr2
            go_wp2_with fail
            refine (text_any F p tk _ HK.out.state htk).mono ?_
            rintro e w2 ⟨h2, hs2⟩
            rw [HR1.out] at h2
            obtain ⟨⟨a2, cc2, rfl, hb2, _, _⟩, hst2⟩ := h2
            have q1 := conv_bytes hb2 cc2
            have HST2 := Lib.hid hst2
            have HS2 := Lib.hid hs2
            have hszr := HK.out.since.size
            have b1 := hs2.heap HK.out.box1 (by omega)
            have b2 := hs2.heap HK.out.box2 (by omega)
            have d1 : w2.cell? ⟨w.heap.size, 0, none⟩ = some (.pointer (some ⟨p, 0, none⟩)) := by rw [Lib.cell_of_heap b1]; rfl
            have d2 : w2.cell? ⟨w.heap.size + 1, 0, none⟩ = some v := by rw [Lib.cell_of_heap b2]; rfl
            have B1 := Lib.hid b1
            have B2 := Lib.hid b2
            have ht1l : t1.length ≤ 140737488355328 := by omega
            clear hst2 hs2 hb2 b1 b2 c1 c2 f2
            go_wp2_with fail
            refine wp_region_any (by kernel_rfl) ?_
            change wpAny _ _ _ _ _ _ _ (World.drew _)
            have d1' : w2.drew.cell? ⟨w.heap.size, 0, none⟩ = some (.pointer (some ⟨p, 0, none⟩)) := d1
            have d2' : w2.drew.cell? ⟨w.heap.size + 1, 0, none⟩ = some v := d2
            have HST3 : Hid (IsR F p t1 false w2.drew) := Lib.hid (HST2.out.spares (G := nowhere) ((Spares.refl _ _).drew) (fun _ _ h => h))
            clear d1 d2
            obtain ⟨wd, hwd⟩ : ∃ wd, w2.drew = wd := ⟨_, rfl⟩
            rw [hwd] at d1' d2' HST3 ⊢
            refine wpAny_take (i := 1) (v := .string ⟨x.toArray⟩) rfl (by kernel_rfl) (by kernel_rfl) (by kernel_rfl) (fun c a w h => panic_put 13 (by decide) _ c a w h) (Or.inl ⟨by rfl, ?_⟩) ?_
            · intro w
              go_simp
            have HIT : Hid (readFields (some l) = ([], none)) := Lib.hid (by
              have hq : iterF n (some t) [] = ((iterF n (some t) []).1, none) := by
                have h0 : (iterF n (some t) []).2 = none := by
                  rw [HK.out.rest, show n - k = (n - (k + 1)) + 1 by omega]
                  show (iterF (n - (k + 1)) (stepF (some tk)).2 _).2 = none
                  rw [stepF_no2 HR1.out HR2.out]
                  exact iterF_none _ _
                rw [← h0]
              exact HEB.out _ hq)
            have HDOOR : Hid (∀ T : Array Value, T[2]?.getD undef = .pointer (some ⟨w.heap.size + 1, 0, none⟩) → ∀ w3 l3 f3, IsR F p l3 f3 w3 → Spares (fun b => b = p) wd w3 →
                Leaves Tryd.prog Tryd.f23 T (Listed F p (readFields (some l)) w) [{ target := Target.fn (Fn.func 37) #[.pointer (some ⟨w.heap.size, 0, none⟩), .pointer (some ⟨w.heap.size + 1, 0, none⟩)], args := #[] }] (.panicking [{ v := .iface 71 (.agg #[]), recovered := false }]) w3) := Lib.hid (by
              intro T hT w3 l3 f3 h3 hs3
              rw [HIT.out]
              have hs23 : Spares (fun b => b = p) w2 w3 := by
                have h0 : Spares (fun b => b = p) w2 wd := by rw [← hwd]; exact (Spares.refl _ _).drew
                exact h0.trans hs3
              exact fields_door T hT h3 ((HK.out.since.trans HS2.out).trans hs23) hp HF2.out (hs23.heap B1.out (by omega)) (hs23.heap B2.out (by omega)))
            clear hwd
            refine wpAny_ready (rs := [0, 2]) (by kernel_rfl) (by simp) ?_
            refine AllReady.cons rfl (fun K hK => ?_) (AllReady.cons rfl (fun K hK => ?_) AllReady.nil)
            · go_simp
              refine hK _ _ ?_
              clear hK K
              refine wpAny_ready (rs := [2]) (by kernel_rfl) (by simp) ?_
              refine AllReady.cons rfl (fun K hK => ?_) AllReady.nil
              go_simp
              refine hK _ _ ?_
              clear hK K
              refine wpAny_ready (rs := [3]) (by kernel_rfl) (by simp) ?_
              refine AllReady.cons rfl (fun K hK => ?_) AllReady.nil
              go_simp
              go_wp2_with (go_at_call 36; refine (text_any F p t1 _ HST3.out ht1l).mono ?_; rintro e w3 ⟨h3, hs3⟩; rw [HR2.out] at h3; obtain ⟨rfl, l3, f3, h3⟩ := h3)
              exact HDOOR.out _ rfl w3 l3 f3 h3 hs3
            · go_simp
              refine hK _ _ ?_
              clear hK K
              refine wpAny_ready (rs := [0, 3]) (by kernel_rfl) (by simp) ?_
              refine AllReady.cons rfl (fun K hK => ?_) (AllReady.cons rfl (fun K hK => ?_) AllReady.nil)
              · go_simp
                refine hK _ _ ?_
                clear hK K
                refine wpAny_ready (rs := [3]) (by kernel_rfl) (by simp) ?_
                refine AllReady.cons rfl (fun K hK => ?_) AllReady.nil
                go_simp
                go_wp2_with (go_at_call 36; refine (text_any F p t1 _ HST3.out ht1l).mono ?_; rintro e w3 ⟨h3, hs3⟩; rw [HR2.out] at h3; obtain ⟨rfl, l3, f3, h3⟩ := h3)
                exact HDOOR.out _ rfl w3 l3 f3 h3 hs3
              · go_simp
                go_wp2_with (go_at_call 36; refine (text_any F p t1 _ HST3.out ht1l).mono ?_; rintro e w3 ⟨h3, hs3⟩; rw [HR2.out] at h3; obtain ⟨rfl, l3, f3, h3⟩ := h3)
                exact HDOOR.out _ rfl w3 l3 f3 h3 hs3
          | some r2 =>
            obtain ⟨y, t2⟩ := r2
            have ht2 := textR_len hr2
            clear hr1 hr2
            go_wp2_with fail
            refine (text_any F p tk _ HK.out.state htk).mono ?_
            rintro e w2 ⟨h2, hs2⟩
            rw [HR1.out] at h2
            obtain ⟨⟨a2, cc2, rfl, hb2, _, _⟩, hst2⟩ := h2
            have q1 := conv_bytes hb2 cc2
            have HST2 := Lib.hid hst2
            have HS2 := Lib.hid hs2
            have hszr := HK.out.since.size
            have b1 := hs2.heap HK.out.box1 (by omega)
            have b2 := hs2.heap HK.out.box2 (by omega)
            have d1 : w2.cell? ⟨w.heap.size, 0, none⟩ = some (.pointer (some ⟨p, 0, none⟩)) := by rw [Lib.cell_of_heap b1]; rfl
            have d2 : w2.cell? ⟨w.heap.size + 1, 0, none⟩ = some v := by rw [Lib.cell_of_heap b2]; rfl
            have B1 := Lib.hid b1
            have B2 := Lib.hid b2
            clear hst2 hs2 hb2 b1 b2 c1 c2 f2
            have hv2 : OwnFields w2 v fs := HS2.out.own HK.out.own (fun g hg e => by have := HK.out.apart g hg; omega)
            have HV2 := Lib.hid hv2
            have hvb1 : v.ownBlock ≠ some w.heap.size := fun e => by have := HK.out.apart _ e; omega
            have hvb2 : v.ownBlock ≠ some (w.heap.size + 1) := fun e => by have := HK.out.apart _ e; omega
            have hsz2 : w.heap.size + 1 < w2.heap.size := cellOf_lt d2
            have hle1 : fs.length + 1 ≤ maxLen := by rw [HK.out.len]; unfold maxLen; omega
            have hle2 : (fs.length + 1) * 32 ≤ 140737488355328 := by rw [HK.out.len]; omega
            have hap : ∀ g, v.ownBlock = some g → ¬ g = p := fun g hg e => by have := HK.out.apart g hg; omega
            have HL1 := Lib.hid hle1
            have HL2 := Lib.hid hle2
            have HAP := Lib.hid hap
            have ht1l : t1.length ≤ 140737488355328 := by omega
            clear hv2 hle1 hle2 hap
            go_wp2_with fail
            refine wp_region_noPanic ?_
            go_region_law
              (first
                | (go_simp
                   go_at_call 36
                   refine (text_any F p t1 _ (HST2.out.spares (G := nowhere) ((Spares.refl _ _).drew) (fun _ _ h => h)) ht1l).mono ?_
                   rintro e w3 ⟨h3, hs3⟩
                   rw [HR2.out] at h3
                   obtain ⟨⟨a3, cc3, rfl, hb3, _, _⟩, hst3⟩ := h3
                   have q2 := conv_bytes hb3 cc3
                   have b13 := Lib.hid (hs3.heap B1.out (by omega))
                   have b23 := Lib.hid (hs3.heap B2.out (by omega))
                   have d13 : w3.cell? ⟨w.heap.size, 0, none⟩ = some (.pointer (some ⟨p, 0, none⟩)) := by rw [Lib.cell_of_heap b13.out]; rfl
                   have d23 : w3.cell? ⟨w.heap.size + 1, 0, none⟩ = some v := by rw [Lib.cell_of_heap b23.out]; rfl
                   have hsz3 : w.heap.size + 1 < w3.heap.size := cellOf_lt d23)
                | (refine step_append_lies _ (by rfl) _ _ _ (by rfl) 0 63 i0 _ 2 32 Tryd.underlying29 hi hz0 hz1 hz2 rfl (by decide) v fs.length (fieldCells fs) (by rfl)
                     (Spares.own (F := fun b => b = p) (hs3.alloc (.cells #[.string (mk x), .string (mk y)] 63)) HV2.out HAP.out)
                     ⟨w3.heap.size, 0, none⟩ 1 1 [.string (mk x), .string (mk y)] (by rfl) (by rfl) (fieldCell_new w3 _ _) (by simp [Value.oneCell']) Nat.one_pos HL1.out HL2.out (Nat.zero_le _) (w3.heap.size + 1) (by simp) ?_
                   intro gg cap w4 hv4 hg4 hat4 hlt4
                   have sp4 := Lib.hid ((Spares.refl (fun g => v.ownBlock = some g) w3).alloc (.cells #[.string (mk x), .string (mk y)] 63) |>.grown hg4 (fun g hg => .inl hg))
                   have b14 := Lib.hid (sp4.out.heap b13.out hvb1)
                   have b24 := Lib.hid (sp4.out.heap b23.out hvb2)
                   have d14 : w4.cell? ⟨w.heap.size, 0, none⟩ = some (.pointer (some ⟨p, 0, none⟩)) := by rw [Lib.cell_of_heap b14.out]; rfl
                   have d24 : w4.cell? ⟨w.heap.size + 1, 0, none⟩ = some v := by rw [Lib.cell_of_heap b24.out]; rfl
                   have f24 : w4.frozen? ⟨w.heap.size + 1, 0, none⟩ = false := Lib.frozen_of_heap b24.out 0))
            all_goals
              refine NoPanic.normal ?_
              have HN := Lib.hid (pread_next HK.out hlt HR1.out HR2.out HS2.out hst3 hs3 hv4 sp4.out hat4 b14.out b24.out)
              clear hst3 hs3 hv4 sp4 hat4 b14 b24 hg4 hlt4 d13 d23 d14 d24 f24 hsz3 q2 hb3
              go_wp2
              go_roundw
              case rel => exact ⟨k + 1, t2, _, fs ++ [(mk x, mk y)], by omega, by go_num, HN⟩
              case measure => simp [intOf]; omega
      · obtain rfl : k = n := by omega
        have HE : Hid (readFields (some l) = (fs, some tk)) := Lib.hid (HEG.out fs tk (by rw [HK.out.rest, Nat.sub_self]; rfl))
        obtain ⟨av, cv, rfl, hfa⟩ := HK.out.own.shape
        have HFA := Lib.hid hfa
        clear hfa
        go_wp2
        refine leaves_cons (f := 37) (args := #[.pointer (some ⟨w.heap.size, 0, none⟩), .pointer (some ⟨w.heap.size + 1, 0, none⟩)]) (by simp) (by simp [go_sem]) ?_
        refine (fieldsCatch_idle w.heap.size (w.heap.size + 1) _).mono ?_
        rintro e u' w'' ⟨rfl, rfl, rfl⟩
        have d2 := one_set HK.out.box2 (.slice av fs.length cv)
        have hs3 : Spares (fun b => b = w.heap.size + 1) wr (wr.setCell ⟨w.heap.size + 1, 0, none⟩ (.slice av fs.length cv)) := Spares.setCell (F := fun b => b = w.heap.size + 1) (Spares.refl _ _) (p := ⟨w.heap.size + 1, 0, none⟩) (.inl rfl) _
        have hap : ∀ b off, av = some ⟨b, off, none⟩ → w.heap.size + 2 ≤ b ∧ b < wr.heap.size := by
          intro b off e
          exact ⟨HK.out.apart b (by rw [e]; rfl), HK.out.own.lt b (by rw [e]; rfl)⟩
        simp [Leaves, settle, results, Tryd.results23, go_sem, d2]
        rw [HE.out]
        have hszf := hs3.size
        exact ⟨⟨av, cv, rfl, HFA.out.spares hs3 (fun _ b off e => by have := hap b off e; omega), fun b off e => by have := hap b off e; omega⟩, HK.out.state.spares hs3 (fun g hF e => by have := HF2.out g hF; omega), HK.out.since.trans' hs3 (fun b hb => .inr (by omega))⟩
end Go.Proofs.YtekdkaiammebnaaDoor
