/-
  CodeReads.
-/
import Derived.Test.YtekdkaiammebnaaDoorCodeFieldsAny
namespace Go.Proofs.YtekdkaiammebnaaDoor
open Go.RowKit CodeMath CrcMath

theorem readFields_le (s : Option (List UInt8)) (B : Nat) (h : ∀ l, s = some l → l.length ≤ B) : ∀ t, (readFields s).2 = some t → t.length ≤ B := by
  intro t e
  obtain ⟨⟨n, r⟩, hr⟩ : ∃ r, readNum s = r := ⟨_, rfl⟩
  cases r with
  | none => rw [readFields_num hr] at e; cases e
  | some u =>
    by_cases hn : n ≤ u.length
    · obtain ⟨l, hs, hlt⟩ := readNum_len hr
      have hu : u.length ≤ B := by have := h l hs; omega
      have hi : ∀ (k : Nat) (st : Option (List UInt8)) (fs : Fs), (∀ l, st = some l → l.length ≤ B) → ∀ t, (iterF k st fs).2 = some t → t.length ≤ B := by
        intro k
        induction k with
        | zero => intro st fs h1 t e; exact h1 t e
        | succ k ih => intro st fs h1 t e; exact ih _ _ (stepF_le st B h1).1 t e
      obtain ⟨⟨fs, r2⟩, h2⟩ : ∃ r, iterF n (some u) [] = r := ⟨_, rfl⟩
      cases r2 with
      | none => rw [readFields_bad hr hn h2] at e; cases e
      | some t' =>
        rw [readFields_good hr hn h2] at e
        injection e with e
        subst e
        exact hi n (some u) [] (fun l e => by injection e with e; subst e; exact hu) t' (by rw [h2])
    · rw [readFields_long hr hn] at e; cases e

theorem readFields_count (s : Option (List UInt8)) (B : Nat) (h : ∀ l, s = some l → l.length ≤ B) : (readFields s).1.length ≤ B := by
  obtain ⟨⟨n, r⟩, hr⟩ : ∃ r, readNum s = r := ⟨_, rfl⟩
  cases r with
  | none => rw [readFields_num hr]; exact Nat.zero_le _
  | some u =>
    by_cases hn : n ≤ u.length
    · obtain ⟨l, hs, hlt⟩ := readNum_len hr
      have hu : u.length ≤ B := by have := h l hs; omega
      have hi : ∀ (k : Nat) (st : Option (List UInt8)) (fs : Fs), (iterF k st fs).1.length = fs.length + k := by
        intro k
        induction k with
        | zero => intro st fs; rfl
        | succ k ih => intro st fs; rw [iterF, ih]; simp; omega
      obtain ⟨⟨fs, r2⟩, h2⟩ : ∃ r, iterF n (some u) [] = r := ⟨_, rfl⟩
      cases r2 with
      | none => rw [readFields_bad hr hn h2]; exact Nat.zero_le _
      | some t' =>
        rw [readFields_good hr hn h2]
        have := hi n (some u) []
        rw [h2] at this
        simp at this
        simp only
        omega
    · rw [readFields_long hr hn]; exact Nat.zero_le _

/-- Both Readers stand alike. -/
structure Both (w0 : World) (F : Nat → Prop) (p pm : Nat) (s : Option (List UInt8)) (wr : World) : Prop where
  prog : IsRS F p s wr
  ref : IsMS w0.heap.size pm s wr
  since : Spares nowhere w0 wr
  small : ∀ l, s = some l → l.length ≤ 1000

theorem IsMS.of {B p : Nat} {s : Option (List UInt8)} {w : World} (h : match s with | some t => IsM B true p t false w | none => ∃ l, IsM B false p l true w) : IsMS B p s w := by
  cases s with
  | some t => exact IsM.unsure h
  | none => exact h

set_option maxRecDepth 100000 in
set_option maxHeartbeats 4000000 in
theorem reads_any (l how : List UInt8) (a ah : Option Addr) (c ch : Nat) (w : World) (hT : Steps w) (hin : BytesAt w a l) (hnil : a = none → c = 0) (hhow : BytesAt w ah how) (hlm : l.length ≤ maxLen) (hhm : how.length ≤ maxLen) (hcap : l.length ≤ c) (hform : 0 < l.length → Formed a c) :
    Calls Tryd.prog 4 #[.slice a l.length c, .slice ah how.length ch] w (Knows w) := by
  unfold maxLen at hlm hhm
  have HT := Lib.hid hT
  have HIN := Lib.hid hin
  have HNIL := Lib.hid hnil
  have HHOW := Lib.hid hhow
  have HFORM := Lib.hid hform
  have HCAP := Lib.hid hcap
  clear hT hin hnil hhow hform hcap
  by_cases h1 : (1000 : Int) < (l.length : Int)
  · go_enter Tryd.func4, Tryd.ntmps4
    go_wp2_with fail
    refine (known_any _ HT.out).mono ?_
    rintro e w1 ⟨rfl, hs1⟩
    go_wp2
    go_ret
    exact ⟨rfl, hs1⟩
  have t1 : decide ((1000 : Int) < (l.length : Int)) = false := by simpa using h1
  have hl1 : l.length ≤ 1000 := by omega
  by_cases h2 : (50 : Int) < (how.length : Int)
  · clear h1
    go_enter Tryd.func4, Tryd.ntmps4
    go_wp2_with fail
    refine (known_any _ HT.out).mono ?_
    rintro e w1 ⟨rfl, hs1⟩
    go_wp2
    go_ret
    exact ⟨rfl, hs1⟩
  have t2 : decide ((50 : Int) < (how.length : Int)) = false := by simpa using h2
  clear h1 h2
  go_enter Tryd.func4, Tryd.ntmps4
  go_wp2_with fail
  refine (known_any _ HT.out).mono ?_
  rintro e w1 ⟨rfl, hs1⟩
  have HS1 := Lib.hid hs1
  clear hs1
  go_wp2_with fail
  refine (newReader_any l a c w1 (HIN.out.stay HS1.out (fun _ _ h => h)) HNIL.out (by omega)).mono ?_
  rintro e w2 ⟨p, F, rfl, hr2, hs2, hf2⟩
  have HR2 := Lib.hid hr2
  have HS2 := Lib.hid (HS1.out.trans hs2)
  have HF2 := Lib.hid (show ∀ k, F k → w.heap.size ≤ k ∧ k < w2.heap.size from fun k hk => ⟨Nat.le_trans HS1.out.size (hf2 k hk), hr2.2.1 k hk⟩)
  clear hr2 hs2 hf2
  obtain ⟨pm, hpm⟩ : ∃ pm, w2.heap.size = pm := ⟨_, rfl⟩
  have HB0 : Hid (Both w F p pm (some l) (w2.alloc (.cells #[.slice a l.length c, .bool false] 49))) := Lib.hid (by
    refine ⟨HR2.out.alloc _, ⟨a, c, by rw [← hpm]; exact heap_alloc_new w2 _, (HIN.out.stay HS2.out (fun _ _ h => h)).stay ((Spares.refl nowhere _).alloc _) (fun _ _ h => h), fun h => HFORM.out (h.elim (fun e => by cases e) id), HCAP.out, fun hl b off e => ?_⟩, HS2.out.alloc _, fun l' e => by injection e with e; rw [← e]; exact hl1⟩
    obtain ⟨b', off', e', hlt⟩ := HIN.out.lt hl
    rw [e] at e'
    injection e' with e'
    injection e' with e' _ _
    have := HS2.out.size
    omega)
  have hpp : w.heap.size ≤ p ∧ p < pm := by have := HF2.out p HR2.out.1; omega
  have hwpm : w.heap.size ≤ pm := by omega
  have HFP : Hid (∀ k, F k → k < pm) := Lib.hid (fun k hk => by have := HF2.out k hk; omega)
  go_wp2_with fail
  clear hpm
  go_loopw [7] (fun i wr => ∃ (k : Nat) (s : Option (List UInt8)), k ≤ how.length ∧ i = .int .i64 k ∧ Hid (Both w F p pm s wr)) (fun i _ => how.length - (intOf i).toNat)
  case atStart => exact ⟨0, some l, by omega, rfl, HB0⟩
  case round =>
    obtain ⟨k, s, hk, rfl, HB⟩ := hrel
    have HL9 : Hid (∀ l, s = some l → l.length ≤ 140737488351232) := Lib.hid (fun l e => by have := HB.out.small l e; omega)
    have HL8 : Hid (∀ l, s = some l → l.length ≤ 140737488355328) := Lib.hid (fun l e => by have := HB.out.small l e; omega)
    have HL6 : Hid (∀ l, s = some l → l.length ≤ 1000000) := Lib.hid (fun l e => by have := HB.out.small l e; omega)
    by_cases hlt : k < how.length
    · obtain ⟨b, off, rfl, hc⟩ := HHOW.out k hlt
      have x0 := (HB.out.since.cell (p := ⟨b, off + k, none⟩) (cell_lt hc) (fun h => h)).trans hc
      obtain ⟨x, hx⟩ : ∃ x, how[k] = x := ⟨_, rfl⟩
      rw [hx] at x0
      have hx256 := x.toNat_lt
      clear hc hx
      -- what an operation on one Reader leaves of the other
      have HKP : Hid (∀ wa wb, Spares (fun b => b = p) wa wb → IsMS w.heap.size pm s wa → IsMS w.heap.size pm s wb) := Lib.hid (fun wa wb h1 h2 => h2.spares h1 (by omega) (fun b _ hb _ => by omega))
      have HKM : Hid (∀ s' wa wb, Spares (fun b => b = pm) wa wb → IsRS F p s' wa → IsRS F p s' wb) := Lib.hid (fun s' wa wb h1 h2 => h2.spares h1 (fun g hF => by have := HFP.out g hF; omega))
      have HSN : Hid (∀ wb q, w.heap.size ≤ q → ∀ wa, Spares nowhere w wa → Spares (fun b => b = q) wa wb → Spares nowhere w wb) := Lib.hid (fun wb q hq wa h1 h2 => h1.trans' h2 (fun b hb => .inr (by omega)))
      rcases (show x.toNat % 3 = 0 ∨ x.toNat % 3 = 1 ∨ x.toNat % 3 = 2 by omega) with h3 | h3 | h3
      · have g3 : (x.toNat : Int) % 3 = 0 := by omega
        clear h3
        have hle := readNum_le s 1000 HB.out.small
        obtain ⟨⟨N, s1⟩, hr⟩ : ∃ r, readNum s = r := ⟨_, rfl⟩
        have HR := Lib.hid hr
        rw [hr] at hle
        have HLE := Lib.hid hle
        have hNN : ((N : Int) != (N : Int)) = false := by simp
        clear hr hle
        go_wp2_with fail
        refine (rNum_any F p s _ HB.out.prog HL8.out).mono ?_
        rw [HR.out]
        rintro e w3 ⟨rfl, h3, hs3⟩
        have H3 := Lib.hid h3
        have HS3 := Lib.hid hs3
        have HM3 := Lib.hid (HKP.out _ _ hs3 HB.out.ref)
        clear h3 hs3
        go_wp2_with fail
        refine (mNum_any w.heap.size pm s _ HM3.out HL8.out).mono ?_
        rw [HR.out]
        rintro e w4 ⟨rfl, h4, hs4⟩
        have HB' : Hid (Both w F p pm s1 w4) := Lib.hid ⟨HKM.out _ _ _ hs4 H3.out, IsMS.of h4, HSN.out _ pm hwpm _ (HSN.out _ p hpp.1 _ HB.out.since HS3.out) hs4, HLE.out⟩
        clear h4 hs4
        go_wp2
        go_roundw
        case rel => exact ⟨k + 1, s1, by omega, by go_num, HB'⟩
        case measure => simp [intOf]; omega
      · have g3 : (x.toNat : Int) % 3 = 1 := by omega
        clear h3
        have hle := (readText_le s 1000 HB.out.small).1
        obtain ⟨⟨T, s1⟩, hr⟩ : ∃ r, readText s = r := ⟨_, rfl⟩
        have HR := Lib.hid hr
        rw [hr] at hle
        have HLE := Lib.hid hle
        clear hr hle
        go_wp2_with fail
        refine (rText_any F p s _ HB.out.prog HL8.out).mono ?_
        rw [HR.out]
        rintro e w3 ⟨⟨a3, c3, rfl, hx3, hn3, hf3⟩, h3, hs3⟩
        have H3 := Lib.hid h3
        have HS3 := Lib.hid hs3
        have HX3 := Lib.hid hx3
        have HF3 := Lib.hid hf3
        have HM3 := Lib.hid (HKP.out _ _ hs3 HB.out.ref)
        have hpmlt := HB.out.ref.lt
        clear h3 hs3 hx3 hn3 hf3
        go_wp2_with fail
        refine (mText_any w.heap.size pm s _ HM3.out HL9.out).mono ?_
        rw [HR.out]
        rintro e w4 ⟨⟨a4, c4, rfl, hx4, hn4, hf4⟩, h4, hs4⟩
        have HB' : Hid (Both w F p pm s1 w4) := Lib.hid ⟨HKM.out _ _ _ hs4 H3.out, h4, HSN.out _ pm hwpm _ (HSN.out _ p hpp.1 _ HB.out.since HS3.out) hs4, HLE.out⟩
        have HX3' := Lib.hid (HX3.out.spares hs4 (fun b o e => by have := HF3.out b o e; omega))
        have HX4 := Lib.hid hx4
        clear h4 hs4 hx4 hn4 hf4
        go_wp2_with fail
        refine (bytes_any T T a3 a4 c3 c4 w4 HX3'.out HX4.out).mono ?_
        rintro e w5 ⟨rfl, rfl⟩
        rw [show (T == T) = true by simp]
        go_wp2
        go_roundw
        case rel => exact ⟨k + 1, s1, by omega, by go_num, HB'⟩
        case measure => simp [intOf]; omega
      · have g3 : (x.toNat : Int) % 3 = 2 := by omega
        clear h3
        have hle := readFields_le s 1000 HB.out.small
        have hfl := readFields_count s 1000 HB.out.small
        obtain ⟨⟨fs, s1⟩, hr⟩ : ∃ r, readFields s = r := ⟨_, rfl⟩
        have HR := Lib.hid hr
        rw [hr] at hle hfl
        have HLE := Lib.hid hle
        replace hfl : fs.length ≤ 1000 := hfl
        clear hr hle
        go_wp2_with fail
        refine (rFields_any F p s _ HB.out.prog HL6.out).mono ?_
        rw [HR.out]
        rintro e w3 ⟨⟨a3, c3, rfl, hx3, hf3⟩, h3, hs3⟩
        have H3 := Lib.hid h3
        have HS3 := Lib.hid hs3
        have HX3 := Lib.hid hx3
        have HF3 := Lib.hid hf3
        have HM3 := Lib.hid (HKP.out _ _ hs3 HB.out.ref)
        have hpmlt := HB.out.ref.lt
        clear h3 hs3 hx3 hf3
        go_wp2_with fail
        refine (mFields_any w.heap.size pm s _ HM3.out HL6.out (Nat.le_trans HB.out.since.size HS3.out.size)).mono ?_
        rw [HR.out]
        rintro e w4 ⟨⟨a4, c4, rfl, hx4, hf4⟩, h4, hs4⟩
        have HB' : Hid (Both w F p pm s1 w4) := Lib.hid ⟨HKM.out _ _ _ hs4 H3.out, h4, HSN.out _ pm hwpm _ (HSN.out _ p hpp.1 _ HB.out.since HS3.out) hs4, HLE.out⟩
        have HX3' := Lib.hid (HX3.out.spares hs4 (fun _ b o e => by have := HF3.out b o e; omega))
        have HX4 := Lib.hid hx4
        clear h4 hs4 hx4 hf4
        go_wp2_with fail
        refine (fields_same fs a3 a4 c3 c4 w4 HX3'.out HX4.out (by omega)).mono ?_
        rintro e w5 ⟨rfl, m5, rfl⟩
        have HB5 : Hid (Both w F p pm s1 (w4.drewN m5)) := Lib.hid (by
          have hd : Spares nowhere w4 (w4.drewN m5) := (Spares.refl _ _).drewN m5
          exact ⟨HB'.out.prog.spares hd (fun _ _ h => h), HB'.out.ref.spares hd (fun h => h) (fun _ _ _ _ h => h), HB'.out.since.trans hd, HLE.out⟩)
        go_wp2
        go_roundw
        case rel => exact ⟨k + 1, s1, by omega, by go_num, HB5⟩
        case measure => simp [intOf]; omega
    · have hbad := HB.out.ref.bad
      have HP := Lib.hid (fun (n : Nat) => (done_any F p s (wr.drewN n) (HB.out.prog.spares (G := nowhere) ((Spares.refl _ _).drewN n) (fun _ _ h => h)) HL8.out).mono (fun (e : Ending) (w' : World) h => (⟨h.1, h.2.symm⟩ : e = .returned (.int .i64 (doneF s : Nat)) ∧ w' = wr.drewN n)))
      have HS := Lib.hid HB.out.since
      cases s with
      | none =>
        replace hbad : wr.cell? ⟨pm, 1, none⟩ = some (.bool true) := hbad
        rw [show doneF none = 20 from rfl] at HP
        go_wp2_with fail
        go_quiet ((go_at_call 24; exact Calls.quiet_of_same (HP.out _)))
        go_wp2
        go_ret
        exact ⟨rfl, HS.out.trans ((Spares.refl _ _).drewN _)⟩
      | some t =>
        replace hbad : wr.cell? ⟨pm, 1, none⟩ = some (.bool false) := hbad
        obtain ⟨a5, c5, h5, _⟩ := HB.out.ref
        have c0 : wr.cell? ⟨pm, 0, none⟩ = some (.slice a5 t.length c5) := by rw [Lib.cell_of_heap h5]; rfl
        clear h5
        cases t with
        | nil =>
          replace c0 : wr.cell? ⟨pm, 0, none⟩ = some (.slice a5 0 c5) := c0
          rw [show doneF (some []) = 0 from rfl] at HP
          go_wp2_with fail
          go_quiet ((go_at_call 24; exact Calls.quiet_of_same (HP.out _)))
          go_wp2
          go_ret
          exact ⟨rfl, HS.out.trans ((Spares.refl _ _).drewN _)⟩
        | cons y t =>
          replace c0 : wr.cell? ⟨pm, 0, none⟩ = some (.slice a5 (t.length + 1) c5) := c0
          have z0 : ((t.length : Int) + 1 == 0) = false := by simp; omega
          rw [show doneF (some (y :: t)) = 20 from rfl] at HP
          go_wp2_with fail
          go_quiet ((go_at_call 24; exact Calls.quiet_of_same (HP.out _)))
          go_wp2
          go_ret
          exact ⟨rfl, HS.out.trans ((Spares.refl _ _).drewN _)⟩
theorem reads_of (l how : List UInt8) (a ah : Option Addr) (c ch : Nat) (w : World) (hT : Steps w) (hin : BytesAt w a l) (hnil : a = none → c = 0) (hhow : BytesAt w ah how) (hlm : l.length ≤ maxLen) (hhm : how.length ≤ maxLen) (hcap : l.length ≤ c) :
    Calls Tryd.prog 4 #[.slice a l.length c, .slice ah how.length ch] w (Knows w) :=
  reads_any l how a ah c ch w hT hin hnil hhow hlm hhm hcap (fun h => .inr (by obtain ⟨b, off, e, _⟩ := hin.lt h; exact ⟨b, off, e⟩))
end Go.Proofs.YtekdkaiammebnaaDoor
