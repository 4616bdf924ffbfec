/-
  The reference's Reader: lists of fields.
-/
import Derived.Test.YtekdkaiammebnaaDoorCodeRefText
import Derived.Test.YtekdkaiammebnaaDoorCodeFieldsMath
import Derived.Test.YtekdkaiammebnaaDoorFieldRows
namespace Go.Proofs.YtekdkaiammebnaaDoor
open Go.RowKit CodeMath

/-- Behind k fields read. -/
structure MRead (w0 : World) (B p : Nat) (n : Nat) (t : List UInt8) (k : Nat) (v : Value) (wr : World) (s : Option (List UInt8)) (fs : Fs) : Prop where
  state : IsMS B p s wr
  own : OwnFields wr v fs
  len : fs.length = k
  since : Spares (fun b => b = p) w0 wr
  apart : ∀ g, v.ownBlock = some g → w0.heap.size ≤ g
  rest : iterF n (some t) [] = iterF (n - k) s fs
  small : ∀ l, s = some l → l.length ≤ t.length

def MListed (B p : Nat) (r : Fs × Option (List UInt8)) (w : World) (e : Ending) (w' : World) : Prop :=
  (∃ a c, e = .returned (.slice a r.1.length c) ∧ FieldsAt w' a r.1 ∧ ∀ b off, a = some ⟨b, off, none⟩ → w.heap.size ≤ b ∧ b < w'.heap.size) ∧ IsMS B p r.2 w' ∧ Spares (fun b => b = p) w w'
theorem listed_none (B p : Nat) {w w' : World} (h1 : IsMS B p none w') (h2 : Spares (fun b => b = p) w w') : MListed B p ([], none) w (.returned (.slice none 0 0)) w' :=
  ⟨⟨none, 0, rfl, fieldsAt_nil _ _, fun _ _ e => by cases e⟩, h1, h2⟩
theorem IsMS.bad {B : Nat} {p : Nat} {s : Option (List UInt8)} {w : World} (h : IsMS B p s w) : w.cell? ⟨p, 1, none⟩ = some (.bool s.isNone) := by
  cases s with
  | some l => exact (IsM.fail h).1
  | none => obtain ⟨l, h⟩ := h; exact h.fail.1
theorem IsMS.lt {B : Nat} {p : Nat} {s : Option (List UInt8)} {w : World} (h : IsMS B p s w) : p < w.heap.size := cellOf_lt h.bad

set_option maxRecDepth 100000 in
set_option maxHeartbeats 2000000 in
theorem mFields_any (B p : Nat) (s : Option (List UInt8)) (w : World) (h : IsMS B p s w) (hl : ∀ l, s = some l → l.length ≤ 1000000) (hB : B ≤ w.heap.size) :
    Calls Tryd.prog 27 #[.pointer (some ⟨p, 0, none⟩)] w (MListed B p (readFields s) w) := by
  have H := Lib.hid h
  have HL : Hid (∀ l, s = some l → l.length ≤ 140737488355328) := Lib.hid (fun l e => Nat.le_trans (hl l e) (by omega))
  obtain ⟨⟨n, r⟩, hr⟩ : ∃ r, readNum s = r := ⟨_, rfl⟩
  have HR := Lib.hid hr
  cases r with
  | none =>
    have HE := Lib.hid (readFields_num hr)
    clear h hl hr
    go_enter Tryd.func27, Tryd.ntmps27
    go_wp2_with fail
    refine (mNum_any B p s w H.out HL.out).mono ?_
    rw [HR.out]
    rintro e w1 ⟨rfl, ⟨l1, h1⟩, hs1⟩
    obtain ⟨x1, x2, x3, x4⟩ := h1.fail
    have X3 := Lib.hid x3
    have X4 := Lib.hid (hs1.trans x4)
    clear h1 hs1 x3 x4
    go_wp2
    go_ret
    rw [HE.out]
    exact listed_none B p ⟨l1, X3.out⟩ X4.out
  | some t =>
    obtain ⟨l, hs, hlt⟩ := readNum_len hr
    have htl : t.length ≤ 1000000 := by have := hl l hs; omega
    by_cases hn : n ≤ t.length
    · have HSM : Hid (∀ l, some t = some l → l.length ≤ t.length) := Lib.hid (fun l e => by injection e with e; rw [e]; exact Nat.le_refl _)
      have HEG := Lib.hid (fun fs t' => readFields_good (fs := fs) (t' := t') hr hn)
      have HEB := Lib.hid (fun fs => readFields_bad (fs := fs) hr hn)
      obtain ⟨i0, hi, hz0, hz1, hz2⟩ := info_parts fieldInfo
      have hgt : decide ((t.length : Int) < (n : Int)) = false := by simp; omega
      have hgt' : decide (t.length < n) = false := by simp; omega
      clear h hl hr hs hlt
      go_enter Tryd.func27, Tryd.ntmps27
      go_wp2_with fail
      refine (mNum_any B p s w H.out HL.out).mono ?_
      rw [HR.out]
      rintro e w1 ⟨rfl, h1, hs1⟩
      have h1' : IsM B true p t false w1 := h1
      have hx1 := h1'.fail.1
      have HM1 := Lib.hid h1'.unsure
      have HS1 := Lib.hid hs1
      have c0 : ∃ a c, w1.cell? ⟨p, 0, none⟩ = some (.slice a t.length c) := by
        obtain ⟨a, c, h2, _⟩ := h1'
        exact ⟨a, c, by rw [Lib.cell_of_heap h2]; rfl⟩
      obtain ⟨a, c, c0⟩ := c0
      clear h1 h1' hs1
      go_wp2
      go_loopw [4, 5] (fun v' i wr => ∃ (k : Nat) (v : Value) (st : Option (List UInt8)) (fs : Fs), k ≤ n ∧ i = .int .u64 k ∧ v = v' ∧ Hid (MRead w1 B p n t k v wr st fs)) (fun _ i _ => n - (intOf i).toNat)
      case atStart => exact ⟨0, _, some t, [], by omega, rfl, rfl, Lib.hid ⟨HM1.out, ownFields_nil _, rfl, Spares.refl _ _, (fun g hg => by cases hg), rfl, HSM.out⟩⟩
      case round =>
        obtain ⟨k, v, st, fs, hk, rfl, rfl, HK⟩ := hrel
        have hbad := HK.out.state.bad
        cases st with
        | none =>
          replace hbad : wr.cell? ⟨p, 1, none⟩ = some (.bool true) := hbad
          have hnone : (iterF n (some t) []).2 = none := by rw [HK.out.rest]; exact iterF_none _ _
          have HE : Hid (readFields s = ([], none)) := Lib.hid (HEB.out (iterF n (some t) []).1 (by rw [← hnone]))
          have HF : Hid (MListed B p (readFields s) w (.returned (.slice none 0 0)) wr) := Lib.hid (by rw [HE.out]; exact listed_none B p HK.out.state (HS1.out.trans HK.out.since))
          clear hnone
          by_cases hlt : k < n
          · go_wp2
            go_ret
            exact HF.out
          · obtain rfl : k = n := by omega
            go_wp2
            go_ret
            exact HF.out
        | some tk =>
          replace hbad : wr.cell? ⟨p, 1, none⟩ = some (.bool false) := hbad
          by_cases hlt : k < n
          · have hsz := stepF_le (some tk) 1000000 (fun l e => Nat.le_trans (HK.out.small l e) htl)
            have hle1 := readText_le (some tk) t.length HK.out.small
            have hle2 := readText_le (readText (some tk)).2 t.length hle1.1
            have HST : Hid (iterF n (some t) [] = iterF (n - (k + 1)) (stepF (some tk)).2 (fs ++ [(stepF (some tk)).1])) := Lib.hid (by
              rw [HK.out.rest, show n - k = (n - (k + 1)) + 1 by omega]; rfl)
            obtain ⟨⟨x, s1⟩, hx⟩ : ∃ r, readText (some tk) = r := ⟨_, rfl⟩
            obtain ⟨⟨y, s2⟩, hy⟩ : ∃ r, readText s1 = r := ⟨_, rfl⟩
            have hstep : stepF (some tk) = ((mk x, mk y), s2) := by simp only [stepF, hx, hy]
            rw [hx] at hle1 hle2
            rw [hy] at hle2
            rw [hstep] at HST hsz
            have HX := Lib.hid hx
            have HY := Lib.hid hy
            have HL1 : Hid (∀ l, some tk = some l → l.length ≤ 140737488351232) := Lib.hid (fun l e => by have := HK.out.small l e; omega)
            have HL2 : Hid (∀ l, s1 = some l → l.length ≤ 140737488351232) := Lib.hid (fun l e => by have := hle1.1 l e; omega)
            have HLE := Lib.hid hle2.1
            clear hstep hx hy hle1 hle2 hsz
            go_wp2_with fail
            refine (mText_any B p (some tk) _ HK.out.state HL1.out).mono ?_
            rw [HX.out]
            rintro e w2 ⟨⟨a2, c2, rfl, hx2, _, hf2⟩, hm2, hs2⟩
            have HM2 := Lib.hid hm2
            have HS2 := Lib.hid hs2
            have HX2 := Lib.hid hx2
            have HF2 := Lib.hid hf2
            clear hm2 hs2 hx2 hf2
            go_wp2_with fail
            refine (mText_any B p s1 _ HM2.out HL2.out).mono ?_
            rw [HY.out]
            rintro e w3 ⟨⟨a3, c3, rfl, hx3, _, hf3⟩, hm3, hs3⟩
            have hplt := HK.out.state.lt
            have hxw3 : BytesAt w3 a2 x := HX2.out.spares hs3 (fun b off e => by have := HF2.out b off e; omega)
            have q1 := conv_bytes hxw3 c2
            have q2 := conv_bytes hx3 c3
            have HM3 := Lib.hid hm3
            have hs13 : Spares (fun b => b = p) wr w3 := HS2.out.trans hs3
            have HS3 := Lib.hid hs13
            have hap : ∀ g, v.ownBlock = some g → g ≠ p := by
              intro g hg e
              have h1 := HK.out.apart g hg
              have h2 := HM1.out.fail.1
              have := cellOf_lt h2
              omega
            have HV3 : Hid (OwnFields (w3.alloc (.cells #[.string (mk x), .string (mk y)] 63)) v fs) := Lib.hid (Spares.own (F := nowhere) ((Spares.refl _ _).alloc _) (hs13.own HK.out.own (fun g hg e => hap g hg e)) (fun _ _ h => h))
            have HLEN := HK.out.len
            clear hm3 hs3 hx3 hf3 hxw3 hs13
            go_wp2_with (at_builtin; refine wpList_append_fresh rfl _ _ 29 rfl 63 i0 _ 2 32 Tryd.underlying29 hi hz0 hz1 hz2 rfl (by decide) v _ _ rfl HV3.out ⟨w3.heap.size, 0, none⟩ 1 1 [.string (mk x), .string (mk y)] rfl rfl (fieldCell_new w3 _ _) (by simp [Value.oneCell']) ?c2 ?c3 ?_)
            case c2 => rw [HLEN]; unfold maxLen; omega
            case c3 => rw [HLEN]; omega
            intro v' w4 hv4 hg4 hf4
            have HK' : Hid (MRead w1 B p n t (k + 1) v' w4 s2 (fs ++ [(mk x, mk y)])) := Lib.hid (by
              have hsa : Spares nowhere w3 (w3.alloc (.cells #[.string (mk x), .string (mk y)] 63)) := (Spares.refl _ _).alloc _
              have hs4 : Spares (fun g => v.ownBlock = some g) (w3.alloc (.cells #[.string (mk x), .string (mk y)] 63)) w4 := (Spares.refl _ _).grown hg4 (fun g hg => .inl hg)
              refine ⟨?_, ?_, ?_, ?_, ?_, HST.out, HLE.out⟩
              · refine (IsMS.spares HM3.out hsa (fun h => h) (fun _ _ _ _ h => h)).spares hs4 (fun h => hap p h rfl) (fun b _ hb _ h => ?_)
                have h1 := HK.out.apart b h
                have h2 := HS1.out.size
                omega
              · unfold OwnFields
                rw [List.length_append, fieldCells_snoc, HLEN]
                exact hv4
              · simp [HLEN]
              · exact ((HK.out.since.trans HS3.out).trans' hsa (fun _ h => by cases h)).trans' hs4 (fun g hg => .inr (HK.out.apart g hg))
              · intro g hg
                rcases hf4 g hg with h | h
                · exact HK.out.apart g h
                · have := HK.out.since.size
                  have := HS3.out.size
                  omega)
            clear hv4 hg4 hf4 HLEN hap q1 q2
            go_wp2
            go_roundw
            case rel => exact ⟨k + 1, v', s2, fs ++ [(mk x, mk y)], by omega, by go_num, rfl, HK'⟩
            case measure => simp [intOf]; omega
          · obtain rfl : k = n := by omega
            have HE : Hid (readFields s = (fs, some tk)) := Lib.hid (HEG.out fs tk (by rw [HK.out.rest, Nat.sub_self]; rfl))
            obtain ⟨av, cv, hv, hfa⟩ := HK.out.own.shape
            have HF : Hid (MListed B p (readFields s) w (.returned v) wr) := Lib.hid (by
              rw [HE.out]
              refine ⟨⟨av, cv, by rw [hv], hfa, fun b off e => ?_⟩, HK.out.state, HS1.out.trans HK.out.since⟩
              subst e
              subst hv
              exact ⟨Nat.le_trans HS1.out.size (HK.out.apart b rfl), HK.out.own.lt b rfl⟩)
            clear hv hfa
            go_wp2
            go_ret
            exact HF.out
    · have HE := Lib.hid (readFields_long hr hn)
      clear h hl hr hs hlt
      go_enter Tryd.func27, Tryd.ntmps27
      go_wp2_with fail
      refine (mNum_any B p s w H.out HL.out).mono ?_
      rw [HR.out]
      rintro e w1 ⟨rfl, h1, hs1⟩
      obtain ⟨x1, x2, x3, x4⟩ := h1.unsure.fail
      have X3 := Lib.hid x3
      have X4 := Lib.hid (hs1.trans x4)
      obtain ⟨a, c, h1, _⟩ := h1
      have c0 : w1.cell? ⟨p, 0, none⟩ = some (.slice a t.length c) := by rw [Lib.cell_of_heap h1]; rfl
      clear h1 hs1 x3 x4
      go_wp2
      go_ret
      rw [HE.out]
      exact listed_none B p ⟨t, X3.out⟩ X4.out
end Go.Proofs.YtekdkaiammebnaaDoor
