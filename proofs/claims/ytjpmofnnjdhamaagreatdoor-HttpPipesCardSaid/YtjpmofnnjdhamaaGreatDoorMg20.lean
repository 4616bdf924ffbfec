/-
  The body as its fields frame it.
  http.Request, http.Response: the closures that recover.
  http.Request: where it stands.
  http.Request: its walk.
  A response's first line.
  http.Response: where it stands.
  http.Response: its walk.
  Messages held against one another.
-/
import Derived.Deep.MidRow
import Derived.Test.YtjpmofnnjdhamaaGreatDoorMg3
import Derived.Test.YtjpmofnnjdhamaaGreatDoorMg7
import Derived.Test.YtjpmofnnjdhamaaGreatDoorMg10
import Derived.Test.YtjpmofnnjdhamaaGreatDoorMg18
import Derived.Test.YtjpmofnnjdhamaaGreatDoorMg19
import Derived.Test.YtjpmofnnjdhamaaGreatDoorMg26
namespace Go.Proofs.YtjpmofnnjdhamaaGreatDoor
open Go.RowKit HeadMath NormMath NormS HeadS ChunkMath HttpMath

theorem lineG_err : ∀ (s acc : Bs) (e : Nat), lineG acc s = .error e → e ≠ 0
  | [], acc, e, h => by rw [lineG] at h; cases h; decide
  | c :: s, acc, e, h => by
    rw [lineG] at h
    by_cases h1 : c = 13
    · rw [if_pos h1] at h
      cases s with
      | nil => cases h; decide
      | cons d s =>
        rw [crF] at h
        by_cases h2 : d = 10
        · rw [if_pos h2] at h; cases h
        · rw [if_neg h2] at h; cases h; decide
    · rw [if_neg h1] at h
      by_cases h2 : c = 10 ∨ 1024 ≤ acc.length
      · rw [if_pos h2] at h; cases h; decide
      · rw [if_neg h2] at h; exact lineG_err s _ e h
theorem trailG_err {F : Bs → Bool} : ∀ (f n : Nat) (s : Bs) (e : Nat), trailG F f n s = .error e → e ≠ 0
  | 0, n, s, e, h => by rw [trailG] at h; cases h; decide
  | f + 1, n, s, e, h => by
    rw [trailG] at h
    cases hl : lineF s with
    | error x => rw [hl] at h; cases h; exact lineG_err _ _ _ hl
    | ok tr =>
      obtain ⟨t, r⟩ := tr
      rw [hl] at h
      simp only at h
      by_cases h1 : t = []
      · rw [if_pos h1] at h; cases h
      · rw [if_neg h1] at h
        by_cases h2 : F t = false ∨ n = 100
        · rw [if_pos h2] at h; cases h; decide
        · rw [if_neg h2] at h; exact trailG_err f _ _ e h
theorem wantF_err {c : UInt8} {s : Bs} {e : Nat} (h : wantF c s = .error e) : e ≠ 0 := by
  cases s with
  | nil => cases h; decide
  | cons d s =>
    rw [wantF] at h
    by_cases h2 : d = c
    · rw [if_pos h2] at h; cases h
    · rw [if_neg h2] at h; cases h; decide
theorem chunkG_err {F : Bs → Bool} : ∀ (f : Nat) (body s : Bs) (e : Nat), chunkG F f body s = .error e → e ≠ 0
  | 0, body, s, e, h => by rw [chunkG] at h; cases h; decide
  | f + 1, body, s, e, h => by
    cases hl : lineF s with
    | error x => rw [chunkG_line hl] at h; cases h; exact lineG_err _ _ _ hl
    | ok tr =>
      obtain ⟨t, r⟩ := tr
      cases hn : lengthF t with
      | none => rw [chunkG_none hl hn] at h; cases h; decide
      | some n =>
        by_cases h0 : n = 0
        · subst h0
          rw [chunkG_zero hl hn] at h
          cases ht : trailG F (r.length + 1) 0 r with
          | error x => rw [ht] at h; cases h; exact trailG_err _ _ _ _ ht
          | ok x => rw [ht] at h; cases h
        · by_cases h1 : 65536 < body.length + n
          · rw [chunkG_long hl hn h0 h1] at h; cases h; decide
          · by_cases h2 : r.length < n
            · rw [chunkG_short hl hn h0 h1 h2] at h; cases h; decide
            · rw [chunkG_more hl hn h0 h1 h2] at h
              cases w1 : wantF 13 (r.drop n) with
              | error x => rw [restG_one w1] at h; cases h; exact wantF_err w1
              | ok r2 =>
                cases w2 : wantF 10 r2 with
                | error x => rw [restG_two w1 w2] at h; cases h; exact wantF_err w2
                | ok r3 => rw [restG_ok w1 w2] at h; exact chunkG_err f _ _ e h
theorem openF_err {F : Bs → Bool} {b : Bs} {e : Nat} (h : openF F b = .error e) : e ≠ 0 := chunkG_err _ _ _ _ h

theorem chunkG_most {F : Bs → Bool} : ∀ (f : Nat) (body s b r : Bs), chunkG F f body s = .ok (b, r) → body.length ≤ 65536 → b.length ≤ 65536
  | 0, body, s, b, r, h, _ => by rw [chunkG] at h; cases h
  | f + 1, body, s, b, r, h, hb => by
    cases hl : lineF s with
    | error x => rw [chunkG_line hl] at h; cases h
    | ok tr =>
      obtain ⟨t, q⟩ := tr
      cases hn : lengthF t with
      | none => rw [chunkG_none hl hn] at h; cases h
      | some n =>
        by_cases h0 : n = 0
        · subst h0
          rw [chunkG_zero hl hn] at h
          cases ht : trailG F (q.length + 1) 0 q with
          | error x => rw [ht] at h; cases h
          | ok x => rw [ht] at h; cases h; exact hb
        · by_cases h1 : 65536 < body.length + n
          · rw [chunkG_long hl hn h0 h1] at h; cases h
          · by_cases h2 : q.length < n
            · rw [chunkG_short hl hn h0 h1 h2] at h; cases h
            · rw [chunkG_more hl hn h0 h1 h2] at h
              cases w1 : wantF 13 (q.drop n) with
              | error x => rw [restG_one w1] at h; cases h
              | ok r2 =>
                cases w2 : wantF 10 r2 with
                | error x => rw [restG_two w1 w2] at h; cases h
                | ok r3 =>
                  rw [restG_ok w1 w2] at h
                  exact chunkG_most f _ _ _ _ h (by rw [List.length_append, List.length_take]; omega)
/-- What is framed is no more than there is. -/
theorem framedF_len {fs : Fs} {rest body : Bs} {n : Nat} (h : framedF fs rest = .ok (body, n)) : body.length ≤ 65536 ∧ n ≤ rest.length := by
  unfold framedF at h
  by_cases h0 : (allF nTE fs).length = 0
  · rw [if_pos h0] at h
    cases hs : sizeF fs with
    | error x => rw [hs] at h; cases h
    | ok k =>
      rw [hs] at h
      change (if 65536 < k then _ else if rest.length < k then _ else _) = _ at h
      by_cases h1 : 65536 < k
      · rw [if_pos h1] at h; cases h
      · rw [if_neg h1] at h
        by_cases h2 : rest.length < k
        · rw [if_pos h2] at h; cases h
        · rw [if_neg h2] at h
          cases h
          rw [List.length_take]
          omega
  · rw [if_neg h0] at h
    by_cases h1 : onlyF (allF nTE fs) = true ∧ getF nCL fs = none
    · rw [if_pos h1] at h
      unfold chunkF at h
      cases ho : openF fieldB rest with
      | error x => rw [ho] at h; cases h
      | ok bs =>
        obtain ⟨bd, s⟩ := bs
        rw [ho] at h
        cases h
        exact ⟨chunkG_most _ _ _ _ _ ho (by simp), Nat.sub_le _ _⟩
    · rw [if_neg h1] at h; cases h
theorem FieldsIn.quiet {w w' : World} {B B' : Nat} {a : Option Addr} {l : Fs} (h : FieldsIn B w a l) (hB : B ≤ w.heap.size) (hs : Spares nowhere w w') (hB' : B ≤ B') : FieldsIn B' w' a l := by
  intro j hj
  obtain ⟨b, off, e, hb, h1, h2⟩ := h j hj
  exact ⟨b, off, e, by omega, (hs.cell (p := ⟨b, off + j * 2, none⟩) (by show b < _; omega) (fun h => h)).trans h1, (hs.cell (p := ⟨b, off + j * 2 + 1, none⟩) (by show b < _; omega) (fun h => h)).trans h2⟩
def FewH (l : Fs) : Prop := l.length ≤ 100 ∧ ∀ j (h : j < l.length), l[j].1.size ≤ 1000000 ∧ l[j].2.size ≤ 1000000
theorem FewH.small {l : Fs} (h : FewH l) : SmallF l := fun j hj => by have := h.2 j hj; omega
def FramePost (r : Except Nat (Bs × Nat)) (w : World) (e : Ending) (w' : World) : Prop := match r with
  | .error n => FellH n w e w'
  | .ok (body, n) => ∃ a c, e = .returned (.tuple #[.slice a body.length c, .int .i64 n]) ∧ BytesAt w' a body ∧ (a = none → c = 0) ∧ body.length ≤ c ∧ Spares nowhere w w'
theorem framePost_err {r : Except Nat (Bs × Nat)} {n : Nat} {w w' : World} {e : Ending} (h : r = .error n) (he : e = FaultH n) (hs : Spares nowhere w w') : FramePost r w e w' := by subst h; exact ⟨he, hs⟩
theorem framePost_ok {r : Except Nat (Bs × Nat)} {body : Bs} {n : Nat} {w w' : World} {e : Ending} {a : Option Addr} {c : Nat} (h : r = .ok (body, n)) (he : e = .returned (.tuple #[.slice a body.length c, .int .i64 n])) (hb : BytesAt w' a body) (h1 : a = none → c = 0) (h2 : body.length ≤ c) (hs : Spares nowhere w w') : FramePost r w e w' := by subst h; exact ⟨a, c, he, hb, h1, h2, hs⟩
theorem bytesAt_take {w : World} {a : Option Addr} {b : Bs} (h : BytesAt w a b) (n : Nat) : BytesAt w a (b.take n) := by
  intro j hj
  have hj2 : j < b.length := by rw [List.length_take] at hj; omega
  obtain ⟨x, o, e, hc⟩ := h j hj2
  exact ⟨x, o, e, by rw [hc, List.getElem_take]⟩
set_option maxRecDepth 100000 in
set_option maxHeartbeats 8000000 in
theorem framed_any (l : Fs) (rest : Bs) (a ar : Option Addr) (cap k cr n : Nat) (w : World) (hk : k = l.length) (hn : n = rest.length) (hin : FieldsIn w.heap.size w a l) (hf : FewH l) (hat : BytesAt w ar rest) (hcr : rest.length ≤ cr) (hnil : ar = none → cr = 0) (hz : rest.length ≤ 1000000) :
    Calls Tryz.prog 46 #[.slice a k cap, .slice ar n cr] w (FramePost (framedF l rest) w) := by
  subst hk
  have c1 : ∀ k w, Calls Tryz.prog 41 #[.bool true, .int .i64 k] w fun e w' => e = .returned (.tuple #[]) ∧ w' = w := demand_yes
  have c2 : ∀ (k : Nat) w, Calls Tryz.prog 41 #[.bool false, .int .i64 k] w fun e w' => e = FaultH k ∧ w' = w := demand_no
  unfold FaultH at c2
  have cA := all_any l nTE a cap w hin hf.small (by have := hf.1; omega) (by decide)
  unfold nTE at cA
  have HX : Hid (∀ w1, Spares nowhere w w1 → Calls Tryz.prog 51 #[.slice a l.length cap, .string nCL] w1 (HasPost (getF nCL l).isSome w1)) := Lib.hid (fun w1 hs => has_any l nCL a cap l.length w1 rfl (FieldsIn.quiet hin (Nat.le_refl _) hs hs.size) hf.small (by have := hf.1; omega) (by decide))
  have HL : Hid (∀ w1, Spares nowhere w w1 → Calls Tryz.prog 76 #[.slice a l.length cap] w1 (NumPost (sizeF l) w1)) := Lib.hid (fun w1 hs => length_any' l a cap l.length w1 rfl (FieldsIn.quiet hin (Nat.le_refl _) hs hs.size) hf.small (by have := hf.1; omega) (fun j h => (hf.2 j h).2))
  have HO : Hid (∀ w1, Spares nowhere w w1 → Calls Tryz.prog 75 #[.slice ar n cr] w1 (OpenPost rest (openF fieldB rest) w1)) := Lib.hid (fun w1 hs => by
    subst hn
    exact open_any ar cr rest w1 (hat.spares' hs (fun _ _ _ _ h => h)) hcr (by omega))
  have hal := allF_len nTE l
  have hl1 := hf.1
  have HAS := Lib.hid (allF_size (n := nTE) (c := 1000000) (fun j h => (hf.2 j h).2))
  obtain ⟨R, hR⟩ : ∃ R, framedF l rest = R := ⟨_, rfl⟩
  rw [hR]
  have HR : Hid ((if (allF nTE l).length = 0 then lengthR (sizeF l) rest else if onlyF (allF nTE l) = true ∧ getF nCL l = none then chunkF rest else .error 94) = R) := Lib.hid hR
  obtain ⟨A, hA⟩ : ∃ A, allF nTE l = A := ⟨_, rfl⟩
  have hA' : allF ⟨#[84, 114, 97, 110, 115, 102, 101, 114, 45, 69, 110, 99, 111, 100, 105, 110, 103]⟩ l = A := hA
  rw [hA'] at cA
  rw [hA] at hal HAS HR
  have HAT := Lib.hid hat
  have HN := Lib.hid hn
  have HNIL := Lib.hid hnil
  have hcr2 : n ≤ cr := by omega
  have hz2 : n ≤ 1000000 := by omega
  obtain ⟨m, hm⟩ : ∃ m, l.length = m := ⟨_, rfl⟩
  rw [hm] at cA HX HL ⊢
  clear hin hf hat hnil hR hA hA' hn hcr hz hl1 hm
  go_enter Tryz.func46, Tryz.ntmps46
  go_wp2_with fail
  refine cA.mono ?_
  rintro _ w1 ⟨v, rfl, hown, hb⟩
  have HS1 : Hid (Spares nowhere w w1) := Lib.hid (Below.spares (F := nowhere) hb (fun k hk => .inr hk))
  obtain ⟨a1, cap1, rfl, hc⟩ := rowS_shape hown
  have HC := Lib.hid hc
  clear cA hb hc hown
  cases A with
  | nil =>
    have HF : Hid (lengthR (sizeF l) rest = R) := Lib.hid HR.out
    have cL := HL.out w1 HS1.out
    obtain ⟨S, hS⟩ : ∃ S, sizeF l = S := ⟨_, rfl⟩
    rw [hS] at cL HF
    clear hS HR
    cases S with
    | error x =>
      unfold NumPost FellH FaultH at cL
      simp only at cL
      go_wp2_with fail
      refine cL.mono ?_
      rintro _ w2 ⟨rfl, hs2⟩
      go_wp2
      exact ⟨rfl, framePost_err (n := x) HF.out.symm rfl (HS1.out.trans hs2)⟩
    | ok x =>
      unfold NumPost at cL
      simp only at cL
      go_wp2_with fail
      refine cL.mono ?_
      rintro _ w2 ⟨rfl, hs2⟩
      have HS2 := Lib.hid (HS1.out.trans hs2)
      clear hs2 cL HS1
      by_cases hx : 65536 < x
      · have d1 : decide ((x : Int) ≤ 65536) = false := by simp; omega
        have HF2 : Hid (R = .error 93) := Lib.hid (by rw [← HF.out]; show (if 65536 < x then _ else _) = _; rw [if_pos hx])
        go_wp2_with fail
        refine (c2 93 _).mono ?_
        rintro _ w3 ⟨rfl, hw⟩
        replace hw := hw.symm
        subst hw
        go_wp2
        exact ⟨rfl, framePost_err HF2.out rfl HS2.out⟩
      · have d1 : decide ((x : Int) ≤ 65536) = true := by simp; omega
        by_cases hy : n < x
        · have d2 : decide (x ≤ n) = false := by simp; omega
          have HF2 : Hid (R = .error 92) := Lib.hid (by rw [← HF.out]; show (if 65536 < x then _ else if rest.length < x then _ else _) = _; rw [if_neg hx, if_pos (by rw [← HN.out]; exact hy)])
          go_wp2_with fail
          refine (c1 93 _).mono ?_
          rintro _ w3 ⟨rfl, hw⟩
          replace hw := hw.symm
          subst hw
          go_wp2_with fail
          refine (c2 92 _).mono ?_
          rintro _ w3 ⟨rfl, hw⟩
          replace hw := hw.symm
          subst hw
          go_wp2
          exact ⟨rfl, framePost_err HF2.out rfl HS2.out⟩
        · have d2 : decide (x ≤ n) = true := by simp; omega
          have HF2 : Hid (R = .ok (rest.take x, x)) := Lib.hid (by rw [← HF.out]; show (if 65536 < x then _ else if rest.length < x then _ else _) = _; rw [if_neg hx, if_neg (by rw [← HN.out]; exact hy)])
          have j1 : (x : Int) ≤ (cr : Int) := by omega
          go_wp2_with fail
          refine (c1 93 _).mono ?_
          rintro _ w3 ⟨rfl, hw⟩
          replace hw := hw.symm
          subst hw
          go_wp2_with fail
          refine (c1 92 _).mono ?_
          rintro _ w3 ⟨rfl, hw⟩
          replace hw := hw.symm
          subst hw
          go_wp2
          go_ret2
          have e1 : (rest.take x).length = x := by rw [List.length_take, ← HN.out]; omega
          refine framePost_ok (a := ar) (c := cr) HF2.out (by rw [e1]; rfl) (bytesAt_take (HAT.out.spares' HS2.out (fun _ _ _ _ h => h)) x) HNIL.out (by omega) HS2.out
  | cons x r =>
    obtain ⟨g, e, hg, x0⟩ := HC.out 0 (by simp)
    subst e
    rw [List.getElem_cons_zero] at x0
    cases r with
    | cons y r =>
      have HF2 : Hid (R = .error 94) := Lib.hid (by rw [← HR.out]; rfl)
      obtain ⟨q, hq⟩ : ∃ q, (x :: y :: r).length = q := ⟨_, rfl⟩
      have q1 : 2 ≤ q := by rw [← hq]; simp
      have q2 : ((q : Int) == 1) = false := beq_eq_false_iff_ne.2 (by omega)
      have q3 : (0 : Int) < (q : Int) := by omega
      rw [hq]
      clear hq
      go_wp2_with fail
      refine (c2 94 _).mono ?_
      rintro _ w3 ⟨rfl, hw⟩
      replace hw := hw.symm
      subst hw
      go_wp2
      exact ⟨rfl, framePost_err HF2.out rfl HS1.out⟩
    | nil =>
      have hxs : x.size ≤ 140737488351232 := by have := HAS.out x (by simp); omega
      have cM := fun w => same_any x chunkedB w hxs (by decide)
      unfold DrewPost chunkedB at cM
      have HON : Hid (onlyF [x] = sameF x.data.toList chunkedB.data.toList) := Lib.hid rfl
      obtain ⟨sb, hsb⟩ : ∃ sb, sameF x.data.toList (⟨#[99, 104, 117, 110, 107, 101, 100]⟩ : ByteArray).data.toList = sb := ⟨_, rfl⟩
      rw [hsb] at cM
      have HSB : Hid (onlyF [x] = sb) := Lib.hid (HON.out.trans hsb)
      clear hsb
      have HR2 : Hid ((if onlyF [x] = true ∧ getF nCL l = none then chunkF rest else Except.error 94) = R) := Lib.hid HR.out
      simp only [List.length_cons, List.length_nil]
      cases sb with
      | false =>
        have HF2 : Hid (R = .error 94) := Lib.hid (by rw [← HR2.out, HSB.out]; rfl)
        go_wp2_with fail
        refine (cM _).mono ?_
        rintro _ w2 ⟨mm, rfl, hw2⟩
        have HS2 : Hid (Spares nowhere w w2) := Lib.hid (by rw [hw2]; exact HS1.out.drewN _)
        clear hw2
        go_wp2_with fail
        refine (c2 94 _).mono ?_
        rintro _ w3 ⟨rfl, hw⟩
        replace hw := hw.symm
        subst hw
        go_wp2
        exact ⟨rfl, framePost_err HF2.out rfl HS2.out⟩
      | true =>
        obtain ⟨o, ho⟩ : ∃ o, getF nCL l = o := ⟨_, rfl⟩
        rw [ho] at HX HR2
        rw [HSB.out] at HR2
        clear ho HR
        unfold nCL HasPost at HX
        go_wp2_with fail
        refine (cM _).mono ?_
        rintro _ w2 ⟨mm, rfl, hw2⟩
        have HS2 : Hid (Spares nowhere w w2) := Lib.hid (by rw [hw2]; exact HS1.out.drewN _)
        clear hw2 cM
        have cH := HX.out w2 HS2.out
        cases o with
        | some z =>
          have HF2 : Hid (R = .error 94) := Lib.hid (by rw [← HR2.out]; simp)
          simp only [Option.isSome_some] at cH
          go_wp2_with fail
          refine cH.mono ?_
          rintro _ w3 ⟨rfl, hs3⟩
          go_wp2_with fail
          refine (c2 94 _).mono ?_
          rintro _ w4 ⟨rfl, hw⟩
          replace hw := hw.symm
          subst hw
          go_wp2
          exact ⟨rfl, framePost_err HF2.out rfl (HS2.out.trans hs3)⟩
        | none =>
          have HF2 : Hid (R = chunkF rest) := Lib.hid (by rw [← HR2.out]; simp)
          simp only [Option.isSome_none] at cH
          go_wp2_with fail
          refine cH.mono ?_
          rintro _ w3 ⟨rfl, hs3⟩
          have HS3 := Lib.hid (HS2.out.trans hs3)
          clear hs3 cH
          go_wp2_with fail
          refine (c1 94 _).mono ?_
          rintro _ w4 ⟨rfl, hw⟩
          replace hw := hw.symm
          subst hw
          have cO := HO.out w3 HS3.out
          cases hO : openF fieldB rest with
          | error x =>
            rw [hO] at cO
            unfold OpenPost at cO
            simp only at cO
            have HF3 : Hid (R = .error x) := Lib.hid (by rw [HF2.out]; unfold chunkF; rw [hO])
            have d3 : ((x : Int) == 0) = false := beq_eq_false_iff_ne.2 (by have := openF_err hO; omega)
            clear hO
            go_wp2_with fail
            refine cO.mono ?_
            rintro _ w5 ⟨rfl, hs5⟩
            go_wp2_with fail
            refine (c2 x _).mono ?_
            rintro _ w4 ⟨rfl, hw⟩
            replace hw := hw.symm
            subst hw
            go_wp2
            exact ⟨rfl, framePost_err HF3.out rfl (HS3.out.trans hs5)⟩
          | ok bs =>
            obtain ⟨body, s⟩ := bs
            rw [hO] at cO
            unfold OpenPost at cO
            simp only at cO
            have HF3 : Hid (R = .ok (body, rest.length - s.length)) := Lib.hid (by rw [HF2.out]; unfold chunkF; rw [hO])
            clear hO
            go_wp2_with fail
            refine cO.mono ?_
            rintro _ w5 ⟨⟨v, rfl, hrow⟩, hs5⟩
            obtain ⟨a5, c5, rfl, hb5, hn5, hl5⟩ := hrow.shape
            have HB5 := Lib.hid hb5
            have HN5 := Lib.hid hn5
            have HS5 := Lib.hid (HS3.out.trans hs5)
            clear hrow hb5 hn5 hs5 cO
            go_wp2_with fail
            refine (c1 0 _).mono ?_
            rintro _ w4 ⟨rfl, hw⟩
            replace hw := hw.symm
            subst hw
            go_wp2
            go_ret2
            exact framePost_ok (a := a5) (c := c5) HF3.out rfl HB5.out HN5.out hl5 HS5.out
end Go.Proofs.YtjpmofnnjdhamaaGreatDoor
namespace Go.Proofs.YtjpmofnnjdhamaaGreatDoor
open Go.RowKit HeadMath NormMath NormS HeadS ChunkMath HttpMath

theorem assertH_nil (w : World) : (Instr.typeAssert Value.nilIface 20 70 true).run Tryz.prog w = .ok (.tuple #[.agg #[.int .i64 0], .bool false]) w := by kernel_rfl
theorem assertH_fault (n : Int) (w : World) : (Instr.typeAssert (.iface 70 (.agg #[.int .i64 n])) 20 70 true).run Tryz.prog w = .ok (.tuple #[.agg #[.int .i64 n], .bool true]) w := by kernel_rfl
set_option maxHeartbeats 1000000 in
theorem catchQ_idle (p q r : Nat) (w : World) :
    CallsD Tryz.prog 38 #[.pointer (some ⟨p, 0, none⟩), .pointer (some ⟨q, 0, none⟩), .pointer (some ⟨r, 0, none⟩)] .returning w fun e u' w' => e = .returned (.tuple #[]) ∧ u' = .returning ∧ Spares nowhere w w' := by
  refine callsD_of_wpS Tryz.func38 rfl fun c₀ cs hu => ?_
  apply wpS_seq
  apply wpS_region
  simp [wpOpsS, go_sem, recoverD, hu, assertH_nil, Tryz.ntmps38, Exit.thenS]
  apply wpS_seq
  apply wpS_region
  simp [wpOpsS, go_sem, Exit.thenS]
  refine wpS_cond (t := false) (by simp [Act.eval, Array.replicate]) ?_
  simp only [Bool.false_eq_true, if_false]
  refine wpS_of_wp (wp_skip ?_)
  have hsp := (Spares.refl nowhere w).alloc (.cells #[.int .i64 0] 70)
  cases c₀
  simp_all [bodyPostS, results, Tryz.results38]
theorem catchR_idle (p q : Nat) (w : World) :
    CallsD Tryz.prog 49 #[.pointer (some ⟨p, 0, none⟩), .pointer (some ⟨q, 0, none⟩)] .returning w fun e u' w' => e = .returned (.tuple #[]) ∧ u' = .returning ∧ Spares nowhere w w' := by
  refine callsD_of_wpS Tryz.func49 rfl fun c₀ cs hu => ?_
  apply wpS_seq
  apply wpS_region
  simp [wpOpsS, go_sem, recoverD, hu, assertH_nil, Tryz.ntmps49, Exit.thenS]
  apply wpS_seq
  apply wpS_region
  simp [wpOpsS, go_sem, Exit.thenS]
  refine wpS_cond (t := false) (by simp [Act.eval, Array.replicate]) ?_
  simp only [Bool.false_eq_true, if_false]
  refine wpS_of_wp (wp_skip ?_)
  have hsp := (Spares.refl nowhere w).alloc (.cells #[.int .i64 0] 70)
  cases c₀
  simp_all [bodyPostS, results, Tryz.results49]
def zeroQ : Array Value := #[.string ⟨#[]⟩, .string ⟨#[]⟩, .slice none 0 0, .slice none 0 0]
def zeroR : Array Value := #[.int .i64 0, .string ⟨#[]⟩, .slice none 0 0, .slice none 0 0]
/-- Four cells stored at once. -/
theorem set_four {u : World} {b : Nat} {x y z v : Value} {t : TypeId} (h : u.heap[b]? = some (.cells #[x, y, z, v] t (0, 0))) (x' y' z' v' : Value) :
    ((((u.setCell ⟨b, 0, none⟩ x').setCell ⟨b, 1, none⟩ y').setCell ⟨b, 2, none⟩ z').setCell ⟨b, 3, none⟩ v').heap[b]? = some (.cells #[x', y', z', v'] t (0, 0)) := by
  simp [World.setCell, Array.getElem?_modify, h]
theorem set_other {u : World} {b k o : Nat} {y : Value} {ob : Option Obj} (hn : k ≠ b) (h : u.heap[k]? = ob) : (u.setCell ⟨b, o, none⟩ y).heap[k]? = ob := (Below.heap_setCell u ⟨b, o, none⟩ y k hn).trans h
set_option maxHeartbeats 4000000 in
theorem catchQ_panicking (p q r : Nat) (n : Int) (older : List PanicEntry) (w : World) (x0 x1 x2 x3 y z : Value) (h1 : ¬ q = p) (h2 : ¬ r = p) (h3 : ¬ r = q)
    (hp : w.heap[p]? = some (.cells #[x0, x1, x2, x3] 25 (0, 0))) (hq : w.heap[q]? = some (.cells #[y] 3 (0, 0))) (hr : w.heap[r]? = some (.cells #[z] 36 (0, 0))) :
    CallsD Tryz.prog 38 #[.pointer (some ⟨p, 0, none⟩), .pointer (some ⟨q, 0, none⟩), .pointer (some ⟨r, 0, none⟩)] (.panicking ({ v := .iface 70 (.agg #[.int .i64 n]), recovered := false } :: older)) w fun e u' w' =>
      e = .returned (.tuple #[]) ∧ u' = .panicking ({ v := .iface 70 (.agg #[.int .i64 n]), recovered := true } :: older) ∧
      w'.heap[p]? = some (.cells zeroQ 25 (0, 0)) ∧ w'.heap[q]? = some (.cells #[.int .i64 0] 3 (0, 0)) ∧ w'.heap[r]? = some (.cells #[.int .i64 n] 36 (0, 0)) ∧ Spares (fun k => k = p ∨ k = q ∨ k = r) w w' := by
  have hsp := (Spares.refl nowhere w).alloc (.cells #[.int .i64 n] 70)
  have hlp : p < w.heap.size := (Array.getElem?_eq_some_iff.1 hp).1
  have hlq : q < w.heap.size := (Array.getElem?_eq_some_iff.1 hq).1
  have hlr : r < w.heap.size := (Array.getElem?_eq_some_iff.1 hr).1
  have hf0 := heap_alloc_new w (.cells #[.int .i64 n] 70)
  obtain ⟨v1, hv1⟩ : ∃ v1, w.alloc (.cells #[.int .i64 n] 70) = v1 := ⟨_, rfl⟩
  rw [hv1] at hsp hf0
  obtain ⟨g, hg⟩ : ∃ g, w.heap.size = g := ⟨_, rfl⟩
  rw [hg] at hf0 hlp hlq hlr
  have f0 : ∀ {u : World} {b : Nat} {C : Array Value} {t : TypeId}, u.heap[b]? = some (.cells C t (0, 0)) → ∀ i, u.frozen? ⟨b, i, none⟩ = false := fun h i => Lib.frozen_of_heap h i
  have c0 : ∀ {u : World} {b : Nat} {x : Value} {t : TypeId}, u.heap[b]? = some (.cells #[x] t (0, 0)) → u.cell? ⟨b, 0, none⟩ = some x := fun h => (Lib.cell_of_heap h 0).trans rfl
  have P0 := hsp.heap hp (fun h => h)
  have Q0 := hsp.heap hq (fun h => h)
  have R0 := hsp.heap hr (fun h => h)
  obtain ⟨v2, hv2⟩ : ∃ v2, (((v1.setCell ⟨p, 0, none⟩ (.string ⟨#[]⟩)).setCell ⟨p, 1, none⟩ (.string ⟨#[]⟩)).setCell ⟨p, 2, none⟩ (.slice none 0 0)).setCell ⟨p, 3, none⟩ (.slice none 0 0) = v2 := ⟨_, rfl⟩
  have P1 : v2.heap[p]? = some (.cells zeroQ 25 (0, 0)) := by rw [← hv2]; exact set_four P0 _ _ _ _
  have Q1 : v2.heap[q]? = some (.cells #[y] 3 (0, 0)) := by rw [← hv2]; exact set_other h1 (set_other h1 (set_other h1 (set_other h1 Q0)))
  have R1 : v2.heap[r]? = some (.cells #[z] 36 (0, 0)) := by rw [← hv2]; exact set_other h2 (set_other h2 (set_other h2 (set_other h2 R0)))
  have H1 : (v1.setCell ⟨p, 0, none⟩ (.string ⟨#[]⟩)).heap[p]? = some (.cells #[.string ⟨#[]⟩, x1, x2, x3] 25 (0, 0)) := by simp [World.setCell, Array.getElem?_modify, P0]
  have H2 : ((v1.setCell ⟨p, 0, none⟩ (.string ⟨#[]⟩)).setCell ⟨p, 1, none⟩ (.string ⟨#[]⟩)).heap[p]? = some (.cells #[.string ⟨#[]⟩, .string ⟨#[]⟩, x2, x3] 25 (0, 0)) := by
    generalize v1.setCell ⟨p, 0, none⟩ (.string ⟨#[]⟩) = u at H1 ⊢
    simp [World.setCell, Array.getElem?_modify, H1]
  have H3 : (((v1.setCell ⟨p, 0, none⟩ (.string ⟨#[]⟩)).setCell ⟨p, 1, none⟩ (.string ⟨#[]⟩)).setCell ⟨p, 2, none⟩ (.slice none 0 0)).heap[p]? = some (.cells #[.string ⟨#[]⟩, .string ⟨#[]⟩, .slice none 0 0, x3] 25 (0, 0)) := by
    generalize (v1.setCell ⟨p, 0, none⟩ (.string ⟨#[]⟩)).setCell ⟨p, 1, none⟩ (.string ⟨#[]⟩) = u at H2 ⊢
    simp [World.setCell, Array.getElem?_modify, H2]
  have a4 := c0 hf0
  have F2 : v2.heap[g]? = some (.cells #[.int .i64 n] 70 (0, 0)) := by
    have hn : g ≠ p := by omega
    rw [← hv2]; exact set_other hn (set_other hn (set_other hn (set_other hn hf0)))
  have a5 := c0 F2
  have a6 := c0 (set_other (b := q) (o := 0) (y := .int .i64 0) (show g ≠ q by omega) F2)
  have d0 : v1.cell? ⟨p, 0, none⟩ = some x0 := (Lib.cell_of_heap P0 0).trans rfl
  have d1 := (Lib.cell_of_heap H1 1).trans (show _ = some x1 from rfl)
  have d2 := (Lib.cell_of_heap H2 2).trans (show _ = some x2 from rfl)
  have d3 := (Lib.cell_of_heap H3 3).trans (show _ = some x3 from rfl)
  have d4 := c0 Q1
  have b1 := f0 P0 0
  have b2 := f0 H1 1
  have b3 := f0 H2 2
  have b4 := f0 H3 3
  have b5 := f0 Q1 0
  have Q2 : (v2.setCell ⟨q, 0, none⟩ (.int .i64 0)).heap[q]? = some (.cells #[.int .i64 0] 3 (0, 0)) := by simp [World.setCell, Array.getElem?_modify, Q1]
  have R2 := set_other (b := q) (o := 0) (y := .int .i64 0) h3 R1
  have P2 := set_other (k := p) (b := q) (o := 0) (y := .int .i64 0) (fun e => h1 e.symm) P1
  have b6 := f0 R2 0
  have d5 := c0 R2
  obtain ⟨v3, hv3⟩ : ∃ v3, (v2.setCell ⟨q, 0, none⟩ (.int .i64 0)).setCell ⟨r, 0, none⟩ (.int .i64 n) = v3 := ⟨_, rfl⟩
  have HQ3 : Hid (v3.heap[q]? = some (.cells #[.int .i64 0] 3 (0, 0))) := Lib.hid (by rw [← hv3]; exact set_other (fun e => h3 e.symm) Q2)
  have HP3 : Hid (v3.heap[p]? = some (.cells zeroQ 25 (0, 0))) := Lib.hid (by rw [← hv3]; exact set_other (fun e => h2 e.symm) P2)
  have HR3 : Hid (v3.heap[r]? = some (.cells #[.int .i64 n] 36 (0, 0))) := Lib.hid (by
    rw [← hv3]
    generalize v2.setCell ⟨q, 0, none⟩ (.int .i64 0) = u at R2 ⊢
    simp [World.setCell, Array.getElem?_modify, R2])
  have HS3 : Hid (Spares (fun k => k = p ∨ k = q ∨ k = r) w v3) := Lib.hid (by
    rw [← hv3, ← hv2]
    exact ((((((hsp.mono (F' := fun k => k = p ∨ k = q ∨ k = r) (fun _ h => by cases h)).setCell (p := ⟨p, 0, none⟩) (.inl (.inl rfl)) _).setCell (p := ⟨p, 1, none⟩) (.inl (.inl rfl)) _).setCell (p := ⟨p, 2, none⟩) (.inl (.inl rfl)) _).setCell (p := ⟨p, 3, none⟩) (.inl (.inl rfl)) _).setCell (p := ⟨q, 0, none⟩) (.inl (.inr (.inl rfl))) _).setCell (p := ⟨r, 0, none⟩) (.inl (.inr (.inr rfl))) _)
  clear P0 Q0 R0 H1 H2 H3 P1 Q1 R1 P2 Q2 R2 hf0 f0 c0 hp hq hr hsp hlp hlq hlr F2
  refine callsD_of_wpS Tryz.func38 rfl fun c₀ cs hu => ?_
  apply wpS_seq
  apply wpS_region
  simp [wpOpsS, go_sem, recoverD, hu, assertH_fault, Tryz.ntmps38, Exit.thenS]
  apply wpS_seq
  apply wpS_region
  simp [wpOpsS, go_sem, Exit.thenS]
  refine wpS_cond (t := true) (by simp [Act.eval, Array.replicate]) ?_
  simp only [if_true]
  refine wpS_of_wp ?_
  rw [hv1, hg]
  go_region
  all_goals
    simp [bodyPostS, results, Tryz.results38]
    exact ⟨HP3.out, HQ3.out, HR3.out, HS3.out.drew⟩
set_option maxHeartbeats 4000000 in
theorem catchR_panicking (p r : Nat) (n : Int) (older : List PanicEntry) (w : World) (x0 x1 x2 x3 z : Value) (h2 : ¬ r = p)
    (hp : w.heap[p]? = some (.cells #[x0, x1, x2, x3] 27 (0, 0))) (hr : w.heap[r]? = some (.cells #[z] 36 (0, 0))) :
    CallsD Tryz.prog 49 #[.pointer (some ⟨p, 0, none⟩), .pointer (some ⟨r, 0, none⟩)] (.panicking ({ v := .iface 70 (.agg #[.int .i64 n]), recovered := false } :: older)) w fun e u' w' =>
      e = .returned (.tuple #[]) ∧ u' = .panicking ({ v := .iface 70 (.agg #[.int .i64 n]), recovered := true } :: older) ∧
      w'.heap[p]? = some (.cells zeroR 27 (0, 0)) ∧ w'.heap[r]? = some (.cells #[.int .i64 n] 36 (0, 0)) ∧ Spares (fun k => k = p ∨ k = r) w w' := by
  have hsp := (Spares.refl nowhere w).alloc (.cells #[.int .i64 n] 70)
  have hlp : p < w.heap.size := (Array.getElem?_eq_some_iff.1 hp).1
  have hlr : r < w.heap.size := (Array.getElem?_eq_some_iff.1 hr).1
  have hf0 := heap_alloc_new w (.cells #[.int .i64 n] 70)
  obtain ⟨v1, hv1⟩ : ∃ v1, w.alloc (.cells #[.int .i64 n] 70) = v1 := ⟨_, rfl⟩
  rw [hv1] at hsp hf0
  obtain ⟨g, hg⟩ : ∃ g, w.heap.size = g := ⟨_, rfl⟩
  rw [hg] at hf0 hlp hlr
  have f0 : ∀ {u : World} {b : Nat} {C : Array Value} {t : TypeId}, u.heap[b]? = some (.cells C t (0, 0)) → ∀ i, u.frozen? ⟨b, i, none⟩ = false := fun h i => Lib.frozen_of_heap h i
  have c0 : ∀ {u : World} {b : Nat} {x : Value} {t : TypeId}, u.heap[b]? = some (.cells #[x] t (0, 0)) → u.cell? ⟨b, 0, none⟩ = some x := fun h => (Lib.cell_of_heap h 0).trans rfl
  have P0 := hsp.heap hp (fun h => h)
  have R0 := hsp.heap hr (fun h => h)
  obtain ⟨v2, hv2⟩ : ∃ v2, (((v1.setCell ⟨p, 0, none⟩ (.int .i64 0)).setCell ⟨p, 1, none⟩ (.string ⟨#[]⟩)).setCell ⟨p, 2, none⟩ (.slice none 0 0)).setCell ⟨p, 3, none⟩ (.slice none 0 0) = v2 := ⟨_, rfl⟩
  have P1 : v2.heap[p]? = some (.cells zeroR 27 (0, 0)) := by rw [← hv2]; exact set_four P0 _ _ _ _
  have R1 : v2.heap[r]? = some (.cells #[z] 36 (0, 0)) := by rw [← hv2]; exact set_other h2 (set_other h2 (set_other h2 (set_other h2 R0)))
  have H1 : (v1.setCell ⟨p, 0, none⟩ (.int .i64 0)).heap[p]? = some (.cells #[.int .i64 0, x1, x2, x3] 27 (0, 0)) := by simp [World.setCell, Array.getElem?_modify, P0]
  have H2 : ((v1.setCell ⟨p, 0, none⟩ (.int .i64 0)).setCell ⟨p, 1, none⟩ (.string ⟨#[]⟩)).heap[p]? = some (.cells #[.int .i64 0, .string ⟨#[]⟩, x2, x3] 27 (0, 0)) := by
    generalize v1.setCell ⟨p, 0, none⟩ (.int .i64 0) = u at H1 ⊢
    simp [World.setCell, Array.getElem?_modify, H1]
  have H3 : (((v1.setCell ⟨p, 0, none⟩ (.int .i64 0)).setCell ⟨p, 1, none⟩ (.string ⟨#[]⟩)).setCell ⟨p, 2, none⟩ (.slice none 0 0)).heap[p]? = some (.cells #[.int .i64 0, .string ⟨#[]⟩, .slice none 0 0, x3] 27 (0, 0)) := by
    generalize (v1.setCell ⟨p, 0, none⟩ (.int .i64 0)).setCell ⟨p, 1, none⟩ (.string ⟨#[]⟩) = u at H2 ⊢
    simp [World.setCell, Array.getElem?_modify, H2]
  have a4 := c0 hf0
  have F2 : v2.heap[g]? = some (.cells #[.int .i64 n] 70 (0, 0)) := by
    have hn : g ≠ p := by omega
    rw [← hv2]; exact set_other hn (set_other hn (set_other hn (set_other hn hf0)))
  have a5 := c0 F2
  have d0 : v1.cell? ⟨p, 0, none⟩ = some x0 := (Lib.cell_of_heap P0 0).trans rfl
  have d1 := (Lib.cell_of_heap H1 1).trans (show _ = some x1 from rfl)
  have d2 := (Lib.cell_of_heap H2 2).trans (show _ = some x2 from rfl)
  have d3 := (Lib.cell_of_heap H3 3).trans (show _ = some x3 from rfl)
  have b1 := f0 P0 0
  have b2 := f0 H1 1
  have b3 := f0 H2 2
  have b4 := f0 H3 3
  have b6 := f0 R1 0
  have d5 := c0 R1
  obtain ⟨v3, hv3⟩ : ∃ v3, v2.setCell ⟨r, 0, none⟩ (.int .i64 n) = v3 := ⟨_, rfl⟩
  have HP3 : Hid (v3.heap[p]? = some (.cells zeroR 27 (0, 0))) := Lib.hid (by rw [← hv3]; exact set_other (fun e => h2 e.symm) P1)
  have HR3 : Hid (v3.heap[r]? = some (.cells #[.int .i64 n] 36 (0, 0))) := Lib.hid (by
    rw [← hv3]
    simp [World.setCell, Array.getElem?_modify, R1])
  have HS3 : Hid (Spares (fun k => k = p ∨ k = r) w v3) := Lib.hid (by
    rw [← hv3, ← hv2]
    exact (((((hsp.mono (F' := fun k => k = p ∨ k = r) (fun _ h => by cases h)).setCell (p := ⟨p, 0, none⟩) (.inl (.inl rfl)) _).setCell (p := ⟨p, 1, none⟩) (.inl (.inl rfl)) _).setCell (p := ⟨p, 2, none⟩) (.inl (.inl rfl)) _).setCell (p := ⟨p, 3, none⟩) (.inl (.inl rfl)) _).setCell (p := ⟨r, 0, none⟩) (.inl (.inr rfl)) _)
  clear P0 R0 H1 H2 H3 P1 R1 hf0 f0 c0 hp hr hsp hlp hlr F2
  refine callsD_of_wpS Tryz.func49 rfl fun c₀ cs hu => ?_
  apply wpS_seq
  apply wpS_region
  simp [wpOpsS, go_sem, recoverD, hu, assertH_fault, Tryz.ntmps49, Exit.thenS]
  apply wpS_seq
  apply wpS_region
  simp [wpOpsS, go_sem, Exit.thenS]
  refine wpS_cond (t := true) (by simp [Act.eval, Array.replicate]) ?_
  simp only [if_true]
  refine wpS_of_wp ?_
  rw [hv1, hg]
  go_region
  all_goals
    simp [bodyPostS, results, Tryz.results49]
    exact ⟨HP3.out, HR3.out, HS3.out.drew⟩
end Go.Proofs.YtjpmofnnjdhamaaGreatDoor
namespace Go.Proofs.YtjpmofnnjdhamaaGreatDoor
open Go.RowKit HeadMath NormMath NormS HeadS ChunkMath HttpMath

/-- Four cells stored one behind another: what each store meets. -/
theorem store_four {u : World} {b : Nat} {x y z v : Value} {t : TypeId} (h : u.heap[b]? = some (.cells #[x, y, z, v] t (0, 0))) (x' y' z' : Value) :
    (u.cell? ⟨b, 0, none⟩ = some x ∧ u.frozen? ⟨b, 0, none⟩ = false) ∧ ((u.setCell ⟨b, 0, none⟩ x').cell? ⟨b, 1, none⟩ = some y ∧ (u.setCell ⟨b, 0, none⟩ x').frozen? ⟨b, 1, none⟩ = false) ∧
    (((u.setCell ⟨b, 0, none⟩ x').setCell ⟨b, 1, none⟩ y').cell? ⟨b, 2, none⟩ = some z ∧ ((u.setCell ⟨b, 0, none⟩ x').setCell ⟨b, 1, none⟩ y').frozen? ⟨b, 2, none⟩ = false) ∧
    ((((u.setCell ⟨b, 0, none⟩ x').setCell ⟨b, 1, none⟩ y').setCell ⟨b, 2, none⟩ z').cell? ⟨b, 3, none⟩ = some v ∧ (((u.setCell ⟨b, 0, none⟩ x').setCell ⟨b, 1, none⟩ y').setCell ⟨b, 2, none⟩ z').frozen? ⟨b, 3, none⟩ = false) := by
  have H1 : (u.setCell ⟨b, 0, none⟩ x').heap[b]? = some (.cells #[x', y, z, v] t (0, 0)) := by simp [World.setCell, Array.getElem?_modify, h]
  have H2 : ((u.setCell ⟨b, 0, none⟩ x').setCell ⟨b, 1, none⟩ y').heap[b]? = some (.cells #[x', y', z, v] t (0, 0)) := by
    generalize u.setCell ⟨b, 0, none⟩ x' = q at H1 ⊢
    simp [World.setCell, Array.getElem?_modify, H1]
  have H3 : (((u.setCell ⟨b, 0, none⟩ x').setCell ⟨b, 1, none⟩ y').setCell ⟨b, 2, none⟩ z').heap[b]? = some (.cells #[x', y', z', v] t (0, 0)) := by
    generalize (u.setCell ⟨b, 0, none⟩ x').setCell ⟨b, 1, none⟩ y' = q at H2 ⊢
    simp [World.setCell, Array.getElem?_modify, H2]
  exact ⟨⟨(Lib.cell_of_heap h 0).trans rfl, Lib.frozen_of_heap h 0⟩, ⟨(Lib.cell_of_heap H1 1).trans rfl, Lib.frozen_of_heap H1 1⟩, ⟨(Lib.cell_of_heap H2 2).trans rfl, Lib.frozen_of_heap H2 2⟩, ⟨(Lib.cell_of_heap H3 3).trans rfl, Lib.frozen_of_heap H3 3⟩⟩
theorem set_at {u : World} {b i : Nat} {C : Array Value} {t : TypeId} (h : u.heap[b]? = some (.cells C t (0, 0))) (y : Value) : (u.setCell ⟨b, i, none⟩ y).heap[b]? = some (.cells (C.setIfInBounds i y) t (0, 0)) := by
  simp [World.setCell, Array.getElem?_modify, h]
structure ReqAt (w : World) (x0 x1 x2 x3 : Value) (wr : World) : Prop where
  b0 : wr.heap[w.heap.size]? = some (.cells #[x0, x1, x2, x3] 25 (0, 0))
  b1 : wr.heap[w.heap.size + 1]? = some (.cells #[.int .i64 0] 3 (0, 0))
  b2 : wr.heap[w.heap.size + 2]? = some (.cells #[.int .i64 0] 36 (0, 0))
  sp : Spares nowhere w wr
theorem ReqAt.quiet {w wr w' : World} {x0 x1 x2 x3 : Value} (h : ReqAt w x0 x1 x2 x3 wr) (hs : Spares nowhere wr w') : ReqAt w x0 x1 x2 x3 w' :=
  ⟨hs.heap h.b0 (fun h => h), hs.heap h.b1 (fun h => h), hs.heap h.b2 (fun h => h), h.sp.trans hs⟩
theorem ReqAt.lt {w wr : World} {x0 x1 x2 x3 : Value} (h : ReqAt w x0 x1 x2 x3 wr) : w.heap.size + 2 < wr.heap.size := (Array.getElem?_eq_some_iff.1 h.b2).1
theorem ReqAt.set {w wr : World} {x0 x1 x2 x3 : Value} (h : ReqAt w x0 x1 x2 x3 wr) (i : Nat) (y y0 y1 y2 y3 : Value) (hi : #[x0, x1, x2, x3].setIfInBounds i y = #[y0, y1, y2, y3]) : ReqAt w y0 y1 y2 y3 (wr.setCell ⟨w.heap.size, i, none⟩ y) :=
  ⟨by rw [set_at h.b0, hi], set_other (by omega) h.b1, set_other (by omega) h.b2, h.sp.trans' (Spares.setCell (F := fun k => k = w.heap.size) (Spares.refl _ wr) (p := ⟨w.heap.size, i, none⟩) (.inl rfl) _) (fun k hk => .inr (by omega))⟩
theorem ReqAt.cell {w wr : World} {x0 x1 x2 x3 : Value} (h : ReqAt w x0 x1 x2 x3 wr) : wr.cell? ⟨w.heap.size, 0, none⟩ = some x0 ∧ wr.cell? ⟨w.heap.size, 1, none⟩ = some x1 ∧ wr.cell? ⟨w.heap.size, 2, none⟩ = some x2 ∧ wr.cell? ⟨w.heap.size, 3, none⟩ = some x3 :=
  ⟨(Lib.cell_of_heap h.b0 0).trans rfl, (Lib.cell_of_heap h.b0 1).trans rfl, (Lib.cell_of_heap h.b0 2).trans rfl, (Lib.cell_of_heap h.b0 3).trans rfl⟩
theorem ReqAt.fz {w wr : World} {x0 x1 x2 x3 : Value} (h : ReqAt w x0 x1 x2 x3 wr) (i : Nat) : wr.frozen? ⟨w.heap.size, i, none⟩ = false := Lib.frozen_of_heap h.b0 i
def reqV (m t : Bs) (vf vb : Value) : Value := .agg #[.string (ba m), .string (ba t), vf, vb]
def ReqPost (r : Except Nat Req) (w : World) (e : Ending) (w' : World) : Prop := (match r with
  | .error n => e = .returned (.tuple #[.agg zeroQ, .int .i64 0, .int .i64 n])
  | .ok (m, t, fs, body, n) => ∃ vf vb, e = .returned (.tuple #[reqV m t vf vb, .int .i64 n, .int .i64 0]) ∧ w'.ownsRow w.heap.size 59 2 vf fs.length (fieldCells fs) ∧ Row8 w.heap.size w' vb body) ∧ Spares nowhere w w'
theorem results_req {w : World} {p q r : Nat} {x0 x1 x2 x3 : Value} {y z : Value} (tmps : Array Value) (h2 : tmps.getD 2 undef = .pointer (some ⟨p, 0, none⟩)) (h3 : tmps.getD 3 undef = .pointer (some ⟨q, 0, none⟩)) (h4 : tmps.getD 4 undef = .pointer (some ⟨r, 0, none⟩))
    (hp : w.heap[p]? = some (.cells #[x0, x1, x2, x3] 25 (0, 0))) (hq : w.heap[q]? = some (.cells #[y] 3 (0, 0))) (hr : w.heap[r]? = some (.cells #[z] 36 (0, 0))) :
    (results Tryz.f19 tmps).run Tryz.prog w = .ok (.tuple #[.agg #[x0, x1, x2, x3], y, z]) w := by
  have h2' : tmps[2]?.getD undef = .pointer (some ⟨p, 0, none⟩) := by simpa using h2
  have h3' : tmps[3]?.getD undef = .pointer (some ⟨q, 0, none⟩) := by simpa using h3
  have h4' : tmps[4]?.getD undef = .pointer (some ⟨r, 0, none⟩) := by simpa using h4
  have c2 : w.cell? ⟨q, 0, none⟩ = some y := by rw [Lib.cell_of_heap hq]; rfl
  have c3 : w.cell? ⟨r, 0, none⟩ = some z := by rw [Lib.cell_of_heap hr]; rfl
  have d0 : w.cell? ⟨p, 0, none⟩ = some x0 := (Lib.cell_of_heap hp 0).trans rfl
  have d1 : w.cell? ⟨p, 1, none⟩ = some x1 := (Lib.cell_of_heap hp 1).trans rfl
  have d2 : w.cell? ⟨p, 2, none⟩ = some x2 := (Lib.cell_of_heap hp 2).trans rfl
  have d3 : w.cell? ⟨p, 3, none⟩ = some x3 := (Lib.cell_of_heap hp 3).trans rfl
  simp [results, Tryz.results19, h2', h3', h4', asAddr, go_sem, c2, c3, d0, d1, d2, d3]
def DoorsQ (w : World) : List Deferred := [{ target := .fn (.func 38) #[.pointer (some ⟨w.heap.size, 0, none⟩), .pointer (some ⟨w.heap.size + 1, 0, none⟩), .pointer (some ⟨w.heap.size + 2, 0, none⟩)], args := #[] }]
theorem req_fell {w w5 : World} {R : Except Nat Req} {n : Nat} {x0 x1 x2 x3 : Value} (tmps : Array Value) (hR : R = .error n) (h2 : tmps.getD 2 undef = .pointer (some ⟨w.heap.size, 0, none⟩)) (h3 : tmps.getD 3 undef = .pointer (some ⟨w.heap.size + 1, 0, none⟩)) (h4 : tmps.getD 4 undef = .pointer (some ⟨w.heap.size + 2, 0, none⟩))
    (h : ReqAt w x0 x1 x2 x3 w5) :
    Leaves Tryz.prog Tryz.f19 tmps (ReqPost R w) (DoorsQ w) (.panicking [{ v := .iface 70 (.agg #[.int .i64 n]), recovered := false }]) w5 := by
  unfold DoorsQ
  refine leaves_cons (f := 38) (args := #[.pointer (some ⟨w.heap.size, 0, none⟩), .pointer (some ⟨w.heap.size + 1, 0, none⟩), .pointer (some ⟨w.heap.size + 2, 0, none⟩)]) (by simp) (by simp [go_sem]) ?_
  refine (catchQ_panicking w.heap.size (w.heap.size + 1) (w.heap.size + 2) n [] w5 x0 x1 x2 x3 _ _ (by omega) (by omega) (by omega) h.b0 h.b1 h.b2).mono ?_
  rintro e u' w6 ⟨rfl, rfl, r0, r1, r2, hs6⟩
  refine ⟨_, results_req _ h2 h3 h4 r0 r1 r2, ?_⟩
  subst hR
  exact ⟨rfl, h.sp.trans' hs6 (fun k hk => .inr (by omega))⟩
theorem req_done {w w5 : World} {R : Except Nat Req} {n : Nat} {m t : Bs} {fs : Fs} {body : Bs} {vf vb : Value} (tmps : Array Value) (hR : R = .ok (m, t, fs, body, n)) (h2 : tmps.getD 2 undef = .pointer (some ⟨w.heap.size, 0, none⟩)) (h3 : tmps.getD 3 undef = .pointer (some ⟨w.heap.size + 1, 0, none⟩)) (h4 : tmps.getD 4 undef = .pointer (some ⟨w.heap.size + 2, 0, none⟩))
    (b0 : w5.heap[w.heap.size]? = some (.cells #[.string (ba m), .string (ba t), vf, vb] 25 (0, 0))) (b1 : w5.heap[w.heap.size + 1]? = some (.cells #[.int .i64 n] 3 (0, 0))) (b2 : w5.heap[w.heap.size + 2]? = some (.cells #[.int .i64 0] 36 (0, 0)))
    (hf : w5.ownsRow w.heap.size 59 2 vf fs.length (fieldCells fs)) (hb : Row8 w.heap.size w5 vb body) (hs : Spares nowhere w w5) :
    Leaves Tryz.prog Tryz.f19 tmps (ReqPost R w) (DoorsQ w) .returning w5 := by
  unfold DoorsQ
  refine leaves_cons (f := 38) (args := #[.pointer (some ⟨w.heap.size, 0, none⟩), .pointer (some ⟨w.heap.size + 1, 0, none⟩), .pointer (some ⟨w.heap.size + 2, 0, none⟩)]) (by simp) (by simp [go_sem]) ?_
  refine (catchQ_idle w.heap.size (w.heap.size + 1) (w.heap.size + 2) w5).mono ?_
  rintro e u' w6 ⟨rfl, rfl, hs6⟩
  refine ⟨_, results_req _ h2 h3 h4 (hs6.heap b0 (fun h => h)) (hs6.heap b1 (fun h => h)) (hs6.heap b2 (fun h => h)), ?_⟩
  subst hR
  exact ⟨⟨vf, vb, rfl, hs6.own hf (fun _ _ h => h), hb.spares hs6 (fun _ _ h => h)⟩, hs.trans hs6⟩
end Go.Proofs.YtjpmofnnjdhamaaGreatDoor
namespace Go.Proofs.YtjpmofnnjdhamaaGreatDoor
open Go.RowKit HeadMath NormMath NormS HeadS ChunkMath HttpMath

theorem cuts_lines {b : Bs} {ls : List Bs} {rest : Bs} (h : headF b = .ok (ls, rest)) : ls ≠ [] ∧ ls.length ≤ b.length + 1 ∧ (∀ l ∈ ls, l.length ≤ b.length) ∧ rest.length + 4 ≤ b.length := by
  unfold headF at h
  by_cases hm : headAt b < 0
  · rw [if_pos hm] at h; cases h
  · rw [if_neg hm] at h
    obtain ⟨e, he⟩ : ∃ e : Nat, headAt b = e := ⟨(headAt b).toNat, by omega⟩
    have hr := headAt_room he
    rw [he] at h
    simp only [Int.toNat_natCast] at h
    by_cases hb : (cuts crlf2 (b.take e)).all bareL = true
    · rw [if_pos hb] at h
      injection h with h
      injection h with h1 h2
      subst h1; subst h2
      have hl : (b.take e).length ≤ b.length := by rw [List.length_take]; omega
      refine ⟨cuts_ne _ _, ?_, fun l hl2 => ?_, by rw [List.length_drop]; omega⟩
      · have := cuts_len crlf2 (by decide) _ (b.take e) (Nat.le_refl _); omega
      · have := cuts_mem crlf2 (by decide) _ (b.take e) (Nat.le_refl _) l hl2; omega
    · rw [if_neg hb] at h; cases h
theorem strCells_ba (L : List Bs) (j : Nat) (h : j < L.length) : ((L.map ba).map Value.string).toArray[j]? = some (.string (ba L[j])) := by simp [h]
/-- A row of fields of the call's own. -/
theorem rowF_shape {B : Nat} {w : World} {v : Value} {fs : Fs} (h : w.ownsRow B 59 2 v fs.length (fieldCells fs)) : ∃ a1 cap1, v = .slice a1 fs.length cap1 ∧ FieldsIn w.heap.size w a1 fs := by
  have h' := h
  rcases h.2 with ⟨hv, h0⟩ | ⟨g, c, cur, hv, _⟩
  · exact ⟨none, 0, by rw [hv, h0], fun j hj => by omega⟩
  · rw [hv] at h'
    exact ⟨_, c, hv, fieldsIn_own h'⟩
theorem fieldOf_size {s : ByteArray} {f : ByteArray × ByteArray} {c : Nat} (h : fieldOf s = some f) (hs : s.size ≤ c) : f.1.size ≤ c ∧ f.2.size ≤ c := by
  unfold fieldOf at h
  by_cases h1 : colonAt s < 0
  · rw [if_pos h1] at h; cases h
  · rw [if_neg h1] at h
    split at h
    · injection h with h
      subst h
      have e1 : ∀ a b, (s.extract a b).size ≤ s.size := fun a b => by
        rw [← size_list, Lib.extract_data, List.length_take, List.length_drop, size_list]; omega
      constructor
      · exact Nat.le_trans (e1 _ _) hs
      · exact trimSize (Nat.le_trans (e1 _ _) hs)
    · cases h
theorem parseF_few {c : Nat} : ∀ {L : List ByteArray} {fs : Fs}, parseF L = some fs → (∀ s ∈ L, s.size ≤ c) → ∀ f ∈ fs, f.1.size ≤ c ∧ f.2.size ≤ c
  | [], fs, h, _ => by cases h; simp
  | s :: L, fs, h, hs => by
    rw [parseF] at h
    cases h1 : fieldOf s with
    | none => rw [h1] at h; cases h
    | some f =>
      rw [h1] at h
      simp only at h
      cases h2 : parseF L with
      | none => rw [h2] at h; cases h
      | some gs =>
        rw [h2] at h
        cases h
        intro x hx
        rcases List.mem_cons.1 hx with rfl | hx
        · exact fieldOf_size h1 (hs s (by simp))
        · exact parseF_few h2 (fun y hy => hs y (by simp [hy])) x hx
theorem fieldsF_few {ls : List Bs} {fs : Fs} (h : fieldsF ls = .ok fs) (hs : ∀ l ∈ ls, l.length ≤ 1000000) : FewH fs := by
  unfold fieldsF at h
  by_cases h1 : 100 < ls.length
  · rw [if_pos h1] at h; cases h
  · rw [if_neg h1] at h
    cases h2 : parseF (ls.map ba) with
    | none => rw [h2] at h; cases h
    | some gs =>
      rw [h2] at h
      cases h
      refine ⟨?_, fun j hj => parseF_few h2 (fun s hs' => ?_) _ (List.getElem_mem hj)⟩
      · have := parseF_len h2
        rw [List.length_map] at this
        omega
      · obtain ⟨l, hl, rfl⟩ := List.mem_map.1 hs'
        rw [ba_size]; exact hs l hl
theorem firstL_len {L : List Bs} (h : L.length ≠ 3) : firstL L = none := by
  match L, h with
  | [], _ => rfl
  | [_], _ => rfl
  | [_, _], _ => rfl
  | [_, _, _], h => exact absurd rfl h
  | _ :: _ :: _ :: _ :: _, _ => rfl
theorem list_three {α : Type} {L : List α} (h : L.length = 3) : ∃ m t v, L = [m, t, v] := by
  match L, h with
  | [m, t, v], _ => exact ⟨m, t, v, rfl⟩
theorem own_set {u : World} {B b i : Nat} {v y : Value} {e : TypeId} {size n : Nat} {xs : List Value} (h : u.ownsRow B e size v n xs) (hb : b < B) : (u.setCell ⟨b, i, none⟩ y).ownsRow B e size v n xs :=
  (Spares.setCell (F := fun k => k = b) (Spares.refl _ u) (p := ⟨b, i, none⟩) (.inl rfl) y).own h (fun g hg => by have := (World.ownsRow.lt h g hg).1; omega)
set_option maxRecDepth 100000 in
set_option maxHeartbeats 8000000 in
theorem request_any (b : Bs) (a : Option Addr) (c n : Nat) (w : World) (hn : n = b.length) (hat : BytesAt w a b) (hcap : b.length ≤ c) (hnil : a = none → c = 0) (hz : b.length ≤ 1000000) (hM : MaxL w) :
    Calls Tryz.prog 19 #[.slice a n c] w (ReqPost (requestF b) w) := by
  have c1 : ∀ k w, Calls Tryz.prog 41 #[.bool true, .int .i64 k] w fun e w' => e = .returned (.tuple #[]) ∧ w' = w := demand_yes
  have c2 : ∀ (k : Nat) w, Calls Tryz.prog 41 #[.bool false, .int .i64 k] w fun e w' => e = FaultH k ∧ w' = w := demand_no
  unfold FaultH at c2
  obtain ⟨v3, hv3⟩ : ∃ v3, ((w.alloc (.cells #[.string ⟨#[]⟩, .string ⟨#[]⟩, .slice none 0 0, .slice none 0 0] 25)).alloc (.cells #[.int .i64 0] 3)).alloc (.cells #[.int .i64 0] 36) = v3 := ⟨_, rfl⟩
  have hs3 : Spares nowhere w v3 := by rw [← hv3]; exact (((Spares.refl _ _).alloc _).alloc _).alloc _
  have hRA : ReqAt w (.string ⟨#[]⟩) (.string ⟨#[]⟩) (.slice none 0 0) (.slice none 0 0) v3 := by
    refine ⟨?_, ?_, ?_, hs3⟩
    · rw [← hv3, Below.heap_alloc _ _ _ (by simp; try omega), Below.heap_alloc _ _ _ (by simp)]; exact heap_alloc_new w _
    · rw [← hv3, Below.heap_alloc _ _ _ (by simp)]
      simpa using heap_alloc_new (w.alloc (.cells #[.string ⟨#[]⟩, .string ⟨#[]⟩, .slice none 0 0, .slice none 0 0] 25)) (.cells #[.int .i64 0] 3)
    · rw [← hv3]
      simpa using heap_alloc_new ((w.alloc (.cells #[.string ⟨#[]⟩, .string ⟨#[]⟩, .slice none 0 0, .slice none 0 0] 25)).alloc (.cells #[.int .i64 0] 3)) (.cells #[.int .i64 0] 36)
  have cH := head_any b a c n v3 hn (hat.spares' hs3 (fun _ _ _ _ h => h)) hcap hnil hz (hM.spares hs3)
  obtain ⟨R, hR⟩ : ∃ R, requestF b = R := ⟨_, rfl⟩
  rw [hR]
  have HR : Hid (reqR b (headF b) = R) := Lib.hid hR
  have HRA := Lib.hid hRA
  have HV3 := Lib.hid hv3
  have HM := Lib.hid hM
  have HN := Lib.hid hn
  have HLOW : Hid (∀ x o, a = some ⟨x, o, none⟩ → 0 < b.length → x < w.heap.size) := Lib.hid (fun x o e h0 => by
    obtain ⟨y, z, e2, hcell⟩ := hat 0 h0
    subst e2
    injection e with e
    injection e with e1 e2
    subst e1
    rcases Nat.lt_or_ge y w.heap.size with h | h
    · exact h
    · simp [World.cell?, Array.getElem?_eq_none h] at hcell)
  have hmf : ∀ (fn : Fn) (first cap : Array Value) (w : World), (Instr.makeFunc fn first cap).run Tryz.prog w = .ok (.func fn first cap) w := fun _ _ _ _ => rfl
  have hz2 : n ≤ 1000000 := by omega
  clear hv3 hs3 hRA hR hM hn hat hcap hnil hz
  cases hH : headF b with
  | error x =>
    rw [hH] at cH HR
    have HF : Hid (R = .error x) := Lib.hid HR.out.symm
    unfold SplitPost FellH FaultH at cH
    simp only at cH
    clear hH
    go_enter_defers Tryz.func19, Tryz.ntmps19
    go_wp2_with fail
    rw [show w.heap.size + 1 + 1 = w.heap.size + 2 from rfl, HV3.out]
    refine cH.mono ?_
    rintro _ w1 ⟨rfl, hs1⟩
    go_wp2
    exact req_fell (n := x) _ HF.out rfl rfl rfl (HRA.out.quiet hs1)
  | ok lr =>
    obtain ⟨ls, rest⟩ := lr
    obtain ⟨hne, hl1, hl2, hl3⟩ := cuts_lines hH
    rw [← HN.out] at hl1 hl2 hl3
    rw [hH] at cH HR
    cases ls with
    | nil => exact absurd rfl hne
    | cons l0 ls =>
      have HRL : Hid (reqL b l0 ls rest = R) := Lib.hid HR.out
      unfold SplitPost at cH
      simp only at cH
      obtain ⟨q, hq⟩ : ∃ q, (l0 :: ls).length = q := ⟨_, rfl⟩
      have HQ : Hid (ls.length + 1 = q) := Lib.hid (by rw [← hq]; rfl)
      have hq1 : 1 ≤ q := by rw [← HQ.out]; omega
      have hq2 : q ≤ 1000001 := by rw [← hq]; omega
      have hl0 : l0.length ≤ 1000000 := by have := hl2 l0 (by simp); omega
      have HL2 : Hid (∀ l ∈ ls, l.length ≤ 1000000) := Lib.hid (fun l hl => by have := hl2 l (by simp [hl]); omega)
      obtain ⟨rl, hrl⟩ : ∃ rl, rest.length = rl := ⟨_, rfl⟩
      have HRLN := Lib.hid hrl
      have hrl2 : rl + 4 ≤ n := by rw [← hrl]; exact hl3
      rw [hq, hrl] at cH
      clear hq hrl hH hl1 hl2 hl3 hne HR
      go_enter_defers Tryz.func19, Tryz.ntmps19
      go_wp2_with fail
      rw [show w.heap.size + 1 + 1 = w.heap.size + 2 from rfl, HV3.out]
      refine cH.mono ?_
      rintro _ w1 ⟨g, ax, ao, ao', c', hg3, rfl, rfl, hin1, hat1, hc1, hs1⟩
      have hg2 : w.heap.size + 2 < g := Nat.lt_of_lt_of_le HRA.out.lt hg3
      have hax := HLOW.out ax ao rfl (by rw [← HN.out]; omega)
      have HRA1 := Lib.hid (HRA.out.quiet hs1)
      have HIN1 := Lib.hid hin1
      have HAT1 := Lib.hid hat1
      obtain ⟨_, _, e1, hg1, x0⟩ := HIN1.out 0 (by simp)
      injection e1 with e1
      injection e1 with e1 e2
      subst e1; subst e2
      rw [Nat.zero_add] at x0
      have x0' : w1.cell? ⟨g, 0, none⟩ = some (.string (ba l0)) := x0
      clear x0 hin1 hat1 hs1 cH HRA hg3
      obtain ⟨L, hL⟩ : ∃ L, cuts [32] l0 = L := ⟨_, rfl⟩
      have cS := split_blank (ba l0) w1 (by rw [ba_size]; exact hl0) (HM.out.spares HRA1.out.sp) L (by rw [ba_data]; exact hL)
      have HRL2 : Hid ((match firstL L with
        | none => .error 95
        | some (m, t) => reqH m t b rest (fieldsF ls)) = R) := Lib.hid (by rw [← hL]; exact HRL.out)
      have hLl : L.length ≤ 1000001 := by rw [← hL]; have := cuts_len [32] (by decide) _ l0 (Nat.le_refl _); omega
      have HLM : Hid (∀ x ∈ L, x.length ≤ 1000000) := Lib.hid (fun x hx => by rw [← hL] at hx; have := cuts_mem [32] (by decide) _ l0 (Nat.le_refl _) x hx; omega)
      obtain ⟨S0, hS0⟩ : ∃ S0, ba l0 = S0 := ⟨_, rfl⟩
      rw [hS0] at cS x0'
      obtain ⟨k, hk⟩ : ∃ k, L.length = k := ⟨_, rfl⟩
      rw [hk] at cS hLl
      have HK := Lib.hid hk
      clear hL HRL hS0 hk
      go_wp2_with fail
      refine cS.mono ?_
      rintro _ w2 ⟨rfl, hw2⟩
      have hs2 : Spares nowhere w1 w2 := by rw [hw2]; exact (Spares.refl _ _).alloc _
      have HB2 : Hid (w2.heap[w1.heap.size]? = some (.cells ((L.map ba).map Value.string).toArray 9 (0, 0))) := Lib.hid (by rw [hw2]; exact heap_alloc_new _ _)
      obtain ⟨g2, hgg⟩ : ∃ g2, w1.heap.size = g2 := ⟨_, rfl⟩
      rw [hgg] at HB2 hg1 ⊢
      have hpg : w.heap.size ≠ g2 := by have := HRA1.out.lt; omega
      have HRA2 := Lib.hid (HRA1.out.quiet hs2)
      have HIN2 : Hid (StrsIn w2.heap.size w2 (some ⟨g, 0, none⟩) ((l0 :: ls).map ba)) := Lib.hid (StrsIn.quiet HIN1.out (Nat.le_refl _) hs2 hs2.size)
      have HAT2 := Lib.hid (HAT1.out.spares' hs2 (fun _ _ _ _ h => h))
      clear hw2 hs2 cS x0' HIN1 HAT1 HRA1 hgg
      by_cases hk3 : k = 3
      · subst hk3
        obtain ⟨m, t, v, rfl⟩ := list_three HK.out
        have HRL3 : Hid ((match (if (tokenF m && targetF t && v == http11) = true then some (m, t) else none) with
          | none => .error 95
          | some (m, t) => reqH m t b rest (fieldsF ls)) = R) := HRL2
        obtain ⟨M, hM⟩ : ∃ M, ba m = M := ⟨_, rfl⟩
        obtain ⟨T, hT⟩ : ∃ T, ba t = T := ⟨_, rfl⟩
        obtain ⟨V, hV⟩ : ∃ V, ba v = V := ⟨_, rfl⟩
        have HB3 : Hid (w2.heap[g2]? = some (.cells #[.string M, .string T, .string V] 9 (0, 0))) := Lib.hid (by rw [← hM, ← hT, ← hV]; exact HB2.out)
        have HMM := Lib.hid hM
        have HTT := Lib.hid hT
        have hMs : M.size ≤ 1000000 := by rw [← hM, ba_size]; exact HLM.out m (by simp)
        have hTs : T.size ≤ 1000000 := by rw [← hT, ba_size]; exact HLM.out t (by simp)
        have cTok := fun w => token_any M w (by omega)
        have cTgt := fun w => target_any T w hTs
        have e1 : M.data.toList = m := by rw [← hM, ba_data]
        have e2 : T.data.toList = t := by rw [← hT, ba_data]
        rw [e1] at cTok
        rw [e2] at cTgt
        have HVV : Hid ((V.toList == [72, 84, 84, 80, 47, 49, 46, 49]) = (v == http11)) := Lib.hid (by rw [← hV, Lib.toList_data, ba_data]; rfl)
        have x0 : w2.cell? ⟨g2, 0, none⟩ = some (.string M) := (Lib.cell_of_heap HB3.out 0).trans rfl
        have x1 : w2.cell? ⟨g2, 1, none⟩ = some (.string T) := (Lib.cell_of_heap HB3.out 1).trans rfl
        obtain ⟨y0, y1, y2, y3⟩ := HRA2.out.cell
        have f0 := HRA2.out.fz 0
        have HRA3 := Lib.hid (HRA2.out.set 0 (.string M) _ _ _ _ rfl)
        obtain ⟨_, z1, _, _⟩ := HRA3.out.cell
        have f1 := HRA3.out.fz 1
        have HRA4 := Lib.hid (HRA3.out.set 1 (.string T) _ _ _ _ rfl)
        have hgp : g2 ≠ w.heap.size := fun e => hpg e.symm
        have HB4 := Lib.hid (set_other (o := 0) (y := .string M) hgp HB3.out)
        have x2 : (w2.setCell ⟨w.heap.size, 0, none⟩ (.string M)).cell? ⟨g2, 1, none⟩ = some (.string T) := (Lib.cell_of_heap HB4.out 1).trans rfl
        have x2' : (w2.setCell ⟨w.heap.size, 0, none⟩ (.string M)).cell? ⟨g2, 0, none⟩ = some (.string M) := (Lib.cell_of_heap HB4.out 0).trans rfl
        have HB5 := Lib.hid (set_other (o := 1) (y := .string T) hgp HB4.out)
        clear hM hT hV e1 e2 HRL2 HLM HB2 y0 y1 y2 y3 z1
        obtain ⟨y0, y1, _, _⟩ := HRA2.out.cell
        obtain ⟨_, z1, _, _⟩ := HRA3.out.cell
        go_wp2_with fail
        refine (c1 95 _).mono ?_
        rintro _ w4 ⟨rfl, hw⟩
        replace hw := hw.symm
        subst hw
        go_wp2
        go_region
        obtain ⟨w5, hw5⟩ : ∃ w5, ((w2.setCell ⟨w.heap.size, 0, none⟩ (.string M)).setCell ⟨w.heap.size, 1, none⟩ (.string T)).drew = w5 := ⟨_, rfl⟩
        rw [hw5]
        have HRA5 : Hid (ReqAt w (.string M) (.string T) (.slice none 0 0) (.slice none 0 0) w5) := Lib.hid (by rw [← hw5]; exact HRA4.out.quiet ((Spares.refl _ _).drew))
        have hsp5 : Spares (fun k => k = w.heap.size) w2 w5 := by
          rw [← hw5]
          exact ((Spares.setCell (F := fun k => k = w.heap.size) (Spares.refl _ w2) (p := ⟨w.heap.size, 0, none⟩) (.inl rfl) _).setCell (p := ⟨w.heap.size, 1, none⟩) (.inl rfl) _).drew
        have HSP5 := Lib.hid hsp5
        have z2 : w5.cell? ⟨g2, 2, none⟩ = some (.string V) := by rw [← hw5]; exact (Lib.cell_of_heap HB5.out 2).trans rfl
        clear x0 x1 x2 x2' y0 y1 z1 f0 f1 HRA3 HRA4 HRA2 HB3 HB4 HB5 hw5 hsp5
        obtain ⟨y0, y1, _, _⟩ := HRA5.out.cell
        cases hk1 : tokenF m with
        | false =>
          rw [hk1] at cTok HRL3
          have HF : Hid (R = .error 95) := Lib.hid HRL3.out.symm
          clear hk1
          go_wp2_with fail
          refine (cTok _).mono ?_
          rintro _ w4 ⟨rfl, hw⟩
          subst hw
          go_wp2_with fail
          refine (c2 95 _).mono ?_
          rintro _ w4 ⟨rfl, hw⟩
          replace hw := hw.symm
          subst hw
          go_wp2
          exact req_fell (n := 95) _ HF.out rfl rfl rfl HRA5.out
        | true =>
          rw [hk1] at cTok HRL3
          clear hk1
          cases hk2 : targetF t with
          | false =>
            rw [hk2] at cTgt HRL3
            have HF : Hid (R = .error 95) := Lib.hid HRL3.out.symm
            clear hk2
            go_wp2_with fail
            refine (cTok _).mono ?_
            rintro _ w4 ⟨rfl, hw⟩
            subst hw
            go_wp2_with fail
            refine (cTgt _).mono ?_
            rintro _ w4 ⟨rfl, hw⟩
            replace hw := hw.symm
            subst hw
            go_wp2_with fail
            refine (c2 95 _).mono ?_
            rintro _ w4 ⟨rfl, hw⟩
            replace hw := hw.symm
            subst hw
            go_wp2
            exact req_fell (n := 95) _ HF.out rfl rfl rfl HRA5.out
          | true =>
            rw [hk2] at cTgt HRL3
            clear hk2
            cases hk3 : v == http11 with
            | false =>
              rw [hk3] at HVV HRL3
              have HF : Hid (R = .error 95) := Lib.hid HRL3.out.symm
              have d1 := HVV.out
              clear hk3
              go_wp2_with fail
              refine (cTok _).mono ?_
              rintro _ w4 ⟨rfl, hw⟩
              subst hw
              go_wp2_with fail
              refine (cTgt _).mono ?_
              rintro _ w4 ⟨rfl, hw⟩
              replace hw := hw.symm
              subst hw
              go_wp2_with fail
              refine (c2 95 _).mono ?_
              rintro _ w4 ⟨rfl, hw⟩
              replace hw := hw.symm
              subst hw
              go_wp2
              exact req_fell (n := 95) _ HF.out rfl rfl rfl HRA5.out
            | true =>
              rw [hk3] at HVV HRL3
              have HF : Hid (reqH m t b rest (fieldsF ls) = R) := Lib.hid HRL3.out
              have d1 := HVV.out
              clear hk3 HRL3
              go_wp2_with fail
              refine (cTok _).mono ?_
              rintro _ w4 ⟨rfl, hw⟩
              subst hw
              go_wp2_with fail
              refine (cTgt _).mono ?_
              rintro _ w4 ⟨rfl, hw⟩
              replace hw := hw.symm
              subst hw
              go_wp2_with fail
              refine (c1 95 _).mono ?_
              rintro _ w4 ⟨rfl, hw⟩
              replace hw := hw.symm
              subst hw
              clear d1 z2 cTok cTgt HVV y0 y1
              have HATK : Hid (∀ wx, Spares (fun k => k = w.heap.size) w2 wx → BytesAt wx (some ⟨ax, ao', none⟩) rest) := Lib.hid (fun wx hs => HAT2.out.spares' hs (fun _ x o e he => by
                injection e with e
                injection e with e1 e2
                omega))
              have HFL : Hid (∀ (ga : Addr) (kx : Nat), (ga = ⟨g, 1, none⟩ ∨ kx = 0) → kx = ls.length → ∀ cx, Calls Tryz.prog 44 #[.slice (some ga) kx cx] w5 (FieldsPost (fieldsF ls) w5)) := Lib.hid (fun ga kx hga hkx cx => by
                have hlsl : ls.length ≤ 1000000 := by have := HQ.out; omega
                refine fields_any ls (some ga) cx kx w5 hkx ?_ HL2.out hlsl
                intro j hj
                have hj2 : j < ls.length := by simpa using hj
                rcases hga with rfl | h0
                · obtain ⟨x, o, e, hb, hc⟩ := HIN2.out (j + 1) (by simp; omega)
                  injection e with e
                  injection e with e1 e2
                  subst e1; subst e2
                  refine ⟨g, 1, rfl, Nat.lt_of_lt_of_le hb HSP5.out.size, ?_⟩
                  rw [HSP5.out.cell (p := ⟨g, 1 + j, none⟩) hb (by show ¬ g = w.heap.size; omega), show 1 + j = 0 + (j + 1) by omega, hc]
                  simp
                · omega)
              cases hFR : fieldsF ls with
              | error x =>
                rw [hFR] at HFL HF
                have HF2 : Hid (R = .error x) := Lib.hid HF.out.symm
                unfold FieldsPost FellH FaultH at HFL
                simp only at HFL
                clear hFR HF
                go_wp2_with fail
                all_goals
                  refine (HFL.out _ _ (by first | exact .inl rfl | exact .inr rfl) (by have := HQ.out; omega) _).mono ?_
                  rintro _ w6 ⟨rfl, hs6⟩
                  go_wp2
                  exact req_fell (n := x) _ HF2.out rfl rfl rfl (HRA5.out.quiet hs6)
              | ok fs =>
                rw [hFR] at HFL HF
                have HFW := Lib.hid (fieldsF_few hFR HL2.out)
                have HF2 : Hid ((if (allF nHost fs).length = 1 then reqB m t fs b rest (framedF fs rest) else .error 90) = R) := Lib.hid HF.out
                unfold FieldsPost at HFL
                simp only at HFL
                obtain ⟨k, hk⟩ : ∃ k, fs.length = k := ⟨_, rfl⟩
                rw [hk] at HFL
                have HK2 := Lib.hid hk
                have hk100 : k ≤ 100 := by rw [← hk]; exact HFW.out.1
                clear hFR HF hk HIN2
                go_wp2_with fail
                all_goals
                  refine (HFL.out _ _ (by first | exact .inl rfl | exact .inr rfl) (by have := HQ.out; omega) _).mono ?_
                  rintro _ w6 ⟨vf, rfl, hown6, hs6⟩
                  have HRA6 := Lib.hid (HRA5.out.quiet hs6)
                  obtain ⟨_, _, y2, _⟩ := HRA6.out.cell
                  have f2 := HRA6.out.fz 2
                  have HSP6 := Lib.hid (HSP5.out.trans (hs6.mono (fun _ h => by cases h)))
                  have hlow : w.heap.size < w5.heap.size := by have := HRA5.out.lt; omega
                  have HL5 := Lib.hid HRA5.out.lt
                  obtain ⟨v7, hv7⟩ : ∃ v7, w6.setCell ⟨w.heap.size, 2, none⟩ vf = v7 := ⟨_, rfl⟩
                  have hown7 : v7.ownsRow w5.heap.size 59 2 vf fs.length (fieldCells fs) := by rw [← hv7, HK2.out]; exact own_set hown6 hlow
                  have HOW7 := Lib.hid hown7
                  have HRA7 : Hid (ReqAt w (.string M) (.string T) vf (.slice none 0 0) v7) := Lib.hid (by rw [← hv7]; exact HRA6.out.set 2 vf _ _ _ _ rfl)
                  have HSP7 : Hid (Spares (fun k => k = w.heap.size) w2 v7) := Lib.hid (by rw [← hv7]; exact HSP6.out.setCell (p := ⟨w.heap.size, 2, none⟩) (.inl rfl) _)
                  obtain ⟨fa, fc, hvf, hfi⟩ := rowF_shape hown7
                  have HFI := Lib.hid hfi
                  rw [HK2.out] at hvf
                  subst hvf
                  obtain ⟨_, _, u2, _⟩ := HRA7.out.cell
                  have cA := all_any fs nHost fa fc v7 hfi HFW.out.small (by have := HFW.out.1; omega) (by decide)
                  rw [HK2.out] at cA
                  unfold nHost at cA
                  obtain ⟨A, hA⟩ : ∃ A, allF nHost fs = A := ⟨_, rfl⟩
                  have hA' : allF ⟨#[72, 111, 115, 116]⟩ fs = A := hA
                  have HF3 : Hid ((if A.length = 1 then reqB m t fs b rest (framedF fs rest) else .error 90) = R) := Lib.hid (by rw [← hA]; exact HF2.out)
                  have hAl : A.length ≤ 100 := by rw [← hA]; have := allF_len nHost fs; rw [HK2.out] at this; omega
                  rw [hA'] at cA
                  clear hown6 hs6 hA hA' hfi hown7 HRA5 HRA6
                  go_wp2_with fail
                  try rw [hv7]
                  refine cA.mono ?_
                  rintro _ w8 ⟨va, rfl, hownA, hbA⟩
                  have hs8 : Spares nowhere v7 w8 := Below.spares (F := nowhere) hbA (fun k hk => .inr hk)
                  have HRA8 := Lib.hid (HRA7.out.quiet hs8)
                  have HSP8 := Lib.hid (HSP7.out.trans (hs8.mono (fun _ h => by cases h)))
                  have HFI8 : Hid (FieldsIn w8.heap.size w8 fa fs) := Lib.hid (FieldsIn.quiet HFI.out (Nat.le_refl _) hs8 hs8.size)
                  have HOW8 := Lib.hid (hs8.own HOW7.out (fun _ _ h => h))
                  obtain ⟨a1, cap1, rfl, _⟩ := rowS_shape hownA
                  obtain ⟨_, _, u3, _⟩ := HRA8.out.cell
                  clear hownA hbA hs8 cA y2 f2 u2 hv7 HRA7 HSP7 HOW7 HFI
                  obtain ⟨al, hal⟩ : ∃ al, A.length = al := ⟨_, rfl⟩
                  rw [hal] at HF3 hAl
                  rw [hal]
                  clear hal
                  by_cases h1 : al = 1
                  · have d1 : ((al : Int) == 1) = true := by rw [h1]; rfl
                    have HF4 : Hid (reqB m t fs b rest (framedF fs rest) = R) := Lib.hid (by rw [← HF3.out, if_pos h1])
                    have cF := framed_any fs rest fa (some ⟨ax, ao', none⟩) fc k c' rl w8 HK2.out.symm HRLN.out.symm HFI8.out HFW.out (HATK.out w8 HSP8.out) (by rw [HRLN.out]; exact hc1) (fun e => by cases e) (by rw [HRLN.out]; omega)
                    clear h1 HF3
                    cases hfr : framedF fs rest with
                    | error x =>
                      rw [hfr] at cF HF4
                      have HF5 : Hid (R = .error x) := Lib.hid HF4.out.symm
                      unfold FramePost FellH FaultH at cF
                      simp only at cF
                      clear hfr HF4
                      go_wp2_with fail
                      refine (c1 90 _).mono ?_
                      rintro _ w4 ⟨rfl, hw⟩
                      replace hw := hw.symm
                      subst hw
                      go_wp2_with fail
                      refine cF.mono ?_
                      rintro _ w9 ⟨rfl, hs9⟩
                      go_wp2
                      exact req_fell (n := x) _ HF5.out rfl rfl rfl (HRA8.out.quiet hs9)
                    | ok bn =>
                      obtain ⟨body, nn⟩ := bn
                      have hfl := framedF_len hfr
                      rw [hfr] at cF HF4
                      have HF5 : Hid (R = .ok (m, t, fs, body, n - rl + nn)) := Lib.hid (by rw [← HF4.out]; show Except.ok _ = _; rw [HN.out, HRLN.out])
                      unfold FramePost at cF
                      simp only at cF
                      have hnn : nn ≤ rl := by rw [← HRLN.out]; exact hfl.2
                      have hbl := hfl.1
                      clear hfr HF4 hfl
                      go_wp2_with fail
                      refine (c1 90 _).mono ?_
                      rintro _ w4 ⟨rfl, hw⟩
                      replace hw := hw.symm
                      subst hw
                      go_wp2_with fail
                      refine cF.mono ?_
                      rintro _ w9 ⟨ab, cb, rfl, hb9, hn9, hl9, hs9⟩
                      have HRA9 := Lib.hid (HRA8.out.quiet hs9)
                      have HOW9 := Lib.hid (hs9.own HOW8.out (fun _ _ h => h))
                      have cC := copy_any body ab cb body.length w9 rfl hb9 hn9 (by omega)
                      clear hb9 hn9 hs9 cF HOW8 HRA8 HSP8 HFI8 u3 d1
                      go_wp2_with fail
                      refine cC.mono ?_
                      rintro _ w10 ⟨vb, rfl, hrow, hs10⟩
                      obtain ⟨ab', cb', hvb, _, _, _⟩ := hrow.shape
                      obtain ⟨bl, hbl2⟩ : ∃ bl, body.length = bl := ⟨_, rfl⟩
                      rw [hbl2] at hvb
                      have HBL := Lib.hid hbl2
                      clear hbl2
                      subst hvb
                      have HRA10 := Lib.hid (HRA9.out.quiet hs10)
                      have hOW10 := hs10.own HOW9.out (fun _ _ h => h)
                      obtain ⟨_, _, _, y3⟩ := HRA10.out.cell
                      have f3 := HRA10.out.fz 3
                      have hlow9 : w.heap.size < w9.heap.size := by have := HRA9.out.lt; omega
                      obtain ⟨v11, hv11⟩ : ∃ v11, w10.setCell ⟨w.heap.size, 3, none⟩ (.slice ab' bl cb') = v11 := ⟨_, rfl⟩
                      have hRA11 : ReqAt w (.string M) (.string T) (.slice fa k fc) (.slice ab' bl cb') v11 := by rw [← hv11]; exact HRA10.out.set 3 (.slice ab' bl cb') _ _ _ _ rfl
                      have hOW11 : v11.ownsRow w5.heap.size 59 2 (.slice fa k fc) fs.length (fieldCells fs) := by rw [← hv11]; exact own_set hOW10 hlow
                      have hrow11 : Row8 w9.heap.size v11 (.slice ab' bl cb') body := by rw [← hv11]; exact own_set hrow hlow9
                      obtain ⟨t0, t1, t2, t3⟩ := hRA11.cell
                      obtain ⟨⟨_, s0⟩, ⟨s1, s1'⟩, ⟨s2, s2'⟩, ⟨s3, s3'⟩⟩ := store_four hRA11.b0 (.string M) (.string T) (.slice fa k fc)
                      obtain ⟨v12, hv12⟩ : ∃ v12, (((v11.setCell ⟨w.heap.size, 0, none⟩ (.string M)).setCell ⟨w.heap.size, 1, none⟩ (.string T)).setCell ⟨w.heap.size, 2, none⟩ (.slice fa k fc)).setCell ⟨w.heap.size, 3, none⟩ (.slice ab' bl cb') = v12 := ⟨_, rfl⟩
                      have h12 : ReqAt w (.string M) (.string T) (.slice fa k fc) (.slice ab' bl cb') v12 := by
                        rw [← hv12]
                        exact (((hRA11.set 0 (.string M) _ _ _ _ rfl).set 1 (.string T) _ _ _ _ rfl).set 2 (.slice fa k fc) _ _ _ _ rfl).set 3 (.slice ab' bl cb') _ _ _ _ rfl
                      have r1 : v12.cell? ⟨w.heap.size + 1, 0, none⟩ = some (.int .i64 0) := (Lib.cell_of_heap h12.b1 0).trans rfl
                      have r1' : v12.frozen? ⟨w.heap.size + 1, 0, none⟩ = false := Lib.frozen_of_heap h12.b1 0
                      have hOW12 : v12.ownsRow w5.heap.size 59 2 (.slice fa k fc) fs.length (fieldCells fs) := by rw [← hv12]; exact own_set (own_set (own_set (own_set hOW11 hlow) hlow) hlow) hlow
                      have hrow12 : Row8 w9.heap.size v12 (.slice ab' bl cb') body := by rw [← hv12]; exact own_set (own_set (own_set (own_set hrow11 hlow9) hlow9) hlow9) hlow9
                      obtain ⟨z, hz⟩ : ∃ z : Int, (n : Int) - (rl : Int) + (nn : Int) = z := ⟨_, rfl⟩
                      have HZ : Hid (z = ((n - rl + nn : Nat) : Int)) := Lib.hid (by omega)
                      have B13 := set_at (i := 0) h12.b1 (.int .i64 z)
                      have E13 := set_other (b := w.heap.size + 1) (o := 0) (y := .int .i64 z) (show w.heap.size + 2 ≠ w.heap.size + 1 by omega) h12.b2
                      have r2 : (v12.setCell ⟨w.heap.size + 1, 0, none⟩ (.int .i64 z)).cell? ⟨w.heap.size + 2, 0, none⟩ = some (.int .i64 0) := (Lib.cell_of_heap E13 0).trans rfl
                      have r2' : (v12.setCell ⟨w.heap.size + 1, 0, none⟩ (.int .i64 z)).frozen? ⟨w.heap.size + 2, 0, none⟩ = false := Lib.frozen_of_heap E13 0
                      obtain ⟨v14, hv14⟩ : ∃ v14, (v12.setCell ⟨w.heap.size + 1, 0, none⟩ (.int .i64 z)).setCell ⟨w.heap.size + 2, 0, none⟩ (.int .i64 0) = v14 := ⟨_, rfl⟩
                      have HS14 : Hid (Spares (fun k => k = w.heap.size + 1 ∨ k = w.heap.size + 2) v12 v14) := Lib.hid (by
                        rw [← hv14]
                        exact (Spares.setCell (F := fun k => k = w.heap.size + 1 ∨ k = w.heap.size + 2) (Spares.refl _ v12) (p := ⟨w.heap.size + 1, 0, none⟩) (.inl (.inl rfl)) _).setCell (p := ⟨w.heap.size + 2, 0, none⟩) (.inl (.inr rfl)) _)
                      have HB0 : Hid (v14.heap[w.heap.size]? = some (.cells #[.string (ba m), .string (ba t), .slice fa k fc, .slice ab' bl cb'] 25 (0, 0))) := Lib.hid (by
                        rw [HMM.out, HTT.out]
                        exact HS14.out.heap h12.b0 (by omega))
                      have HB1 : Hid (v14.heap[w.heap.size + 1]? = some (.cells #[.int .i64 ((n - rl + nn : Nat) : Int)] 3 (0, 0))) := Lib.hid (by
                        rw [← hv14, ← HZ.out]
                        exact set_other (by omega) B13)
                      have HB2 : Hid (v14.heap[w.heap.size + 2]? = some (.cells #[.int .i64 0] 36 (0, 0))) := Lib.hid (by
                        rw [← hv14]
                        exact set_at (i := 0) E13 (.int .i64 0))
                      have hlt12 := h12.lt
                      have hl5 : w.heap.size + 2 < w5.heap.size := by
                        have := HL5.out
                        omega
                      have hl9 : w.heap.size + 2 < w9.heap.size := HRA9.out.lt
                      have HOF : Hid (v14.ownsRow w.heap.size 59 2 (.slice fa k fc) fs.length (fieldCells fs)) := Lib.hid (ownsRow_base (HS14.out.own hOW12 (fun gg hgg => by have := (World.ownsRow.lt hOW12 gg hgg).1; omega)) (by omega))
                      have HOB : Hid (Row8 w.heap.size v14 (.slice ab' bl cb') body) := Lib.hid (ownsRow_base (HS14.out.own hrow12 (fun gg hgg => by have := (World.ownsRow.lt hrow12 gg hgg).1; omega)) (by omega))
                      have HSS : Hid (Spares nowhere w v14) := Lib.hid (h12.sp.trans' HS14.out (fun k hk => .inr (by omega)))
                      clear hs10 hrow hOW10 hRA11 hOW11 hrow11 h12 hOW12 hrow12 B13 E13 hlt12 hl5 hl9 HRA10 HRA9 HOW9 cC
                      go_wp2
                      exact req_done _ HF5.out rfl rfl rfl HB0.out HB1.out HB2.out HOF.out HOB.out HSS.out
                  · have d1 : ((al : Int) == 1) = false := beq_eq_false_iff_ne.2 (by omega)
                    have HF4 : Hid (R = .error 90) := Lib.hid (by rw [← HF3.out, if_neg h1])
                    go_wp2_with fail
                    refine (c2 90 _).mono ?_
                    rintro _ w4 ⟨rfl, hw⟩
                    replace hw := hw.symm
                    subst hw
                    go_wp2
                    exact req_fell (n := 90) _ HF4.out rfl rfl rfl HRA8.out
      · have HF : Hid (R = .error 95) := Lib.hid (by
          rw [← HRL2.out, firstL_len (by rw [HK.out]; exact hk3)])
        have d1 : ((k : Int) == 3) = false := beq_eq_false_iff_ne.2 (by omega)
        go_wp2_with fail
        refine (c2 95 _).mono ?_
        rintro _ w4 ⟨rfl, hw⟩
        replace hw := hw.symm
        subst hw
        go_wp2
        exact req_fell (n := 95) _ HF.out rfl rfl rfl HRA2.out
end Go.Proofs.YtjpmofnnjdhamaaGreatDoor
namespace Go.Proofs.YtjpmofnnjdhamaaGreatDoor
open Go.RowKit HeadMath NormMath NormS HeadS ChunkMath HttpMath

def verB : ByteArray := ⟨#[72, 84, 84, 80, 47, 49, 46, 49, 32]⟩
def cutVer (s : ByteArray) : Value := if (http11 ++ [32]).isPrefixOf s.data.toList = true then .tuple #[.string (s.extract 9 s.size), .bool true] else .tuple #[.string s, .bool false]
theorem cutVer_lite (s : ByteArray) (w : World) (hs : s.size ≤ 1000000) : Calls Tryz.prog 111 #[.string s, .string ⟨#[72, 84, 84, 80, 47, 49, 46, 49, 32]⟩] w fun e w' => e = .returned (cutVer s) ∧ w' = w := by
  have cH := Tryz.stringslite_HasPrefix s ⟨#[72, 84, 84, 80, 47, 49, 46, 49, 32]⟩ w
  have hp : Lib.hasPrefix s.data.toList (⟨#[72, 84, 84, 80, 47, 49, 46, 49, 32]⟩ : ByteArray).data.toList = (http11 ++ [32]).isPrefixOf s.data.toList := rfl
  rw [hp] at cH
  have hz : (⟨#[72, 84, 84, 80, 47, 49, 46, 49, 32]⟩ : ByteArray).size = 9 := rfl
  cases h : (http11 ++ [32]).isPrefixOf s.data.toList with
  | true =>
    rw [h] at cH
    have h0 : 9 ≤ s.size := by
      have := (List.isPrefixOf_iff_prefix.1 h).length_le
      rw [size_list] at this
      exact this
    have HV : Hid (cutVer s = .tuple #[.string (s.extract 9 s.size), .bool true]) := Lib.hid (if_pos h)
    clear hp h
    go_enter Tryz.func111, Tryz.ntmps111
    go_wp2_with fail
    refine cH.mono ?_
    rintro e w1 ⟨rfl, hw⟩
    replace hw := hw.symm
    subst hw
    go_wp2
    go_ret2
    exact ⟨by rw [HV.out]; rfl, rfl⟩
  | false =>
    rw [h] at cH
    have HV : Hid (cutVer s = .tuple #[.string s, .bool false]) := Lib.hid (if_neg (by rw [h]; decide))
    clear hp h
    go_enter Tryz.func111, Tryz.ntmps111
    go_wp2_with fail
    refine cH.mono ?_
    rintro e w1 ⟨rfl, hw⟩
    replace hw := hw.symm
    subst hw
    go_wp2
    go_ret2
    exact ⟨by rw [HV.out]; rfl, rfl⟩
theorem cutVer_any (s : ByteArray) (w : World) (hs : s.size ≤ 1000000) (b : Bool) (rest : ByteArray) (hv : cutVer s = .tuple #[.string rest, .bool b]) : Calls Tryz.prog 77 #[.string s, .string ⟨#[72, 84, 84, 80, 47, 49, 46, 49, 32]⟩] w fun e w' => e = .returned (.tuple #[.string rest, .bool b]) ∧ w' = w := by
  have c := cutVer_lite s w hs
  rw [hv] at c
  clear hv
  go_enter Tryz.func77, Tryz.ntmps77
  go_wp2_with fail
  refine c.mono ?_
  rintro e w1 ⟨rfl, hw⟩
  replace hw := hw.symm
  subst hw
  go_wp2
  go_ret2
  exact ⟨rfl, rfl⟩
theorem cut_blank (s : ByteArray) (w : World) (hs : s.size ≤ 1000000) (hM : MaxL w) : Calls Tryz.prog 78 #[.string s, .string ⟨#[32]⟩] w fun e w' => ∃ b, e = .returned (.tuple #[.string (ba (codeOf s.data.toList)), .string (ba (reasonOf s.data.toList)), .bool b]) ∧ Spares nowhere w w' := by
  obtain ⟨m, hm⟩ := hM
  refine (Tryz.strings_Cut s ⟨#[32]⟩ m w (by omega) hm).mono ?_
  rintro e w' ⟨rfl, q, rfl⟩
  have hi : Lib.index s.data.toList (⟨#[32]⟩ : ByteArray).data.toList = Lib.indexByte s.data.toList 32 := Lib.index_one _ _
  unfold Lib.cut codeOf reasonOf
  rw [hi]
  by_cases h : 0 ≤ Lib.indexByte s.data.toList 32
  · rw [if_pos h, if_neg (by omega), if_neg (by omega)]
    exact ⟨_, rfl, (Spares.refl _ _).drewN q⟩
  · rw [if_neg h, if_pos (by omega), if_pos (by omega)]
    exact ⟨_, rfl, (Spares.refl _ _).drewN q⟩
def StatusPost (r : Option (Nat × Bs)) (w : World) (e : Ending) (w' : World) : Prop := match r with
  | none => FellH 95 w e w'
  | some (n, reason) => e = .returned (.tuple #[.int .i64 n, .string (ba reason)]) ∧ Spares nowhere w w'
theorem codeF_num {code reason : Bs} (h : DateMath.numF code 3 = none) : codeF code reason = none := by unfold codeF; rw [h]
theorem codeF_bad {code reason : Bs} {n : Nat} (h : DateMath.numF code 3 = some n) (hb : ¬ (code.length = 3 ∧ 200 ≤ n ∧ n ≤ 599 ∧ reason.all textB = true)) : codeF code reason = none := by unfold codeF; rw [h]; exact if_neg hb
theorem codeF_ok {code reason : Bs} {n : Nat} (h : DateMath.numF code 3 = some n) (hb : code.length = 3 ∧ 200 ≤ n ∧ n ≤ 599 ∧ reason.all textB = true) : codeF code reason = some (n, reason) := by unfold codeF; rw [h]; exact if_pos hb
theorem codeOf_len (r : Bs) : (codeOf r).length ≤ r.length := by unfold codeOf; split <;> simp <;> omega
theorem reasonOf_len (r : Bs) : (reasonOf r).length ≤ r.length := by unfold reasonOf; split <;> simp <;> omega
set_option maxRecDepth 100000 in
set_option maxHeartbeats 4000000 in
theorem status_any (s : ByteArray) (w : World) (hs : s.size ≤ 1000000) (hM : MaxL w) : Calls Tryz.prog 50 #[.string s] w (StatusPost (statusF s.data.toList) w) := by
  have c1 : ∀ k w, Calls Tryz.prog 41 #[.bool true, .int .i64 k] w fun e w' => e = .returned (.tuple #[]) ∧ w' = w := demand_yes
  have c2 : ∀ (k : Nat) w, Calls Tryz.prog 41 #[.bool false, .int .i64 k] w fun e w' => e = FaultH k ∧ w' = w := demand_no
  unfold FaultH at c2
  obtain ⟨R, hR⟩ : ∃ R, statusF s.data.toList = R := ⟨_, rfl⟩
  rw [hR]
  have HR := Lib.hid hR
  cases hv : (http11 ++ [32]).isPrefixOf s.data.toList with
  | false =>
    have HF : Hid (R = none) := Lib.hid (by rw [← hR]; unfold statusF; rw [hv]; rfl)
    have cP := cutVer_any s w hs false s (by unfold cutVer; rw [hv]; rfl)
    clear hR hv
    go_enter Tryz.func50, Tryz.ntmps50
    go_wp2_with fail
    refine cP.mono ?_
    rintro _ w1 ⟨rfl, hw⟩
    replace hw := hw.symm
    subst hw
    go_wp2_with fail
    refine (c2 95 _).mono ?_
    rintro _ w4 ⟨rfl, hw⟩
    replace hw := hw.symm
    subst hw
    go_wp2
    rw [HF.out]
    exact ⟨rfl, rfl, Spares.refl _ _⟩
  | true =>
    have cP := cutVer_any s w hs true (s.extract 9 s.size) (by unfold cutVer; rw [hv]; rfl)
    obtain ⟨t, ht⟩ : ∃ t, s.extract 9 s.size = t := ⟨_, rfl⟩
    have h9 : 9 ≤ s.size := by
      have := (List.isPrefixOf_iff_prefix.1 hv).length_le
      rw [size_list] at this
      exact this
    have htl : t.data.toList = s.data.toList.drop 9 := by
      rw [← ht, Lib.extract_data, List.take_of_length_le (by rw [List.length_drop, size_list]; omega)]
    have hts : t.size ≤ 1000000 := by
      rw [← size_list, htl, List.length_drop, size_list]; omega
    have HF : Hid (R = codeF (codeOf t.data.toList) (reasonOf t.data.toList)) := Lib.hid (by rw [← hR]; unfold statusF; rw [if_pos hv, htl])
    rw [ht] at cP
    have cC := cut_blank t w hts hM
    have hc1 := codeOf_len t.data.toList
    have hc2 := reasonOf_len t.data.toList
    rw [size_list] at hc1 hc2
    obtain ⟨code, hcode⟩ : ∃ code, codeOf t.data.toList = code := ⟨_, rfl⟩
    obtain ⟨reason, hreason⟩ : ∃ reason, reasonOf t.data.toList = reason := ⟨_, rfl⟩
    rw [hcode] at HF cC hc1
    rw [hreason] at HF cC hc2
    obtain ⟨C, hC⟩ : ∃ C, ba code = C := ⟨_, rfl⟩
    obtain ⟨N, hN⟩ : ∃ N, ba reason = N := ⟨_, rfl⟩
    have hCs : C.size = code.length := by rw [← hC, ba_size]
    have hNs : N.size = reason.length := by rw [← hN, ba_size]
    have HCd : Hid (C.data.toList = code) := Lib.hid (by rw [← hC, ba_data])
    have HNd : Hid (N.data.toList = reason) := Lib.hid (by rw [← hN, ba_data])
    have cD := fun w => numberD_any C 3 w (by decide) (by omega)
    rw [HCd.out] at cD
    rw [hC, hN] at cC
    have HBA : Hid (ba reason = N) := Lib.hid hN
    obtain ⟨o, ho⟩ : ∃ o, DateMath.numF code 3 = o := ⟨_, rfl⟩
    rw [ho] at cD
    have HO := Lib.hid ho
    unfold numV at cD
    have HCS := Lib.hid hCs
    have HNS := Lib.hid hNs
    have hNz : N.size ≤ 1000000 := by omega
    clear hR hv ht htl hcode hreason hC hN ho hM hCs hNs hc1 hc2 hts HR
    go_enter Tryz.func50, Tryz.ntmps50
    go_wp2_with fail
    refine cP.mono ?_
    rintro _ w1 ⟨rfl, hw⟩
    replace hw := hw.symm
    subst hw
    go_wp2_with fail
    refine (c1 95 _).mono ?_
    rintro _ w4 ⟨rfl, hw⟩
    replace hw := hw.symm
    subst hw
    go_wp2_with fail
    refine cC.mono ?_
    rintro _ w2 ⟨bb, rfl, hs2⟩
    have HS := Lib.hid hs2
    clear hs2 cC cP
    go_wp2_with fail
    refine (cD _).mono ?_
    rintro _ w3 ⟨rfl, hw⟩
    replace hw := hw.symm
    subst hw
    clear cD
    by_cases hgood : o.isSome = true ∧ C.size = 3 ∧ 200 ≤ o.getD 0 ∧ o.getD 0 ≤ 599
    · obtain ⟨g1, g2, g3, g4⟩ := hgood
      obtain ⟨n, rfl⟩ := Option.isSome_iff_exists.1 g1
      simp only [Option.getD_some] at g3 g4
      simp only [Option.getD_some, Option.isSome_some]
      have d1 : ((C.size : Int) == 3) = true := by rw [g2]; rfl
      have d2 : decide ((200 : Int) ≤ (n : Int)) = true := by simp; omega
      have d3 : decide ((n : Int) ≤ 599) = true := by simp; omega
      have G2 := Lib.hid g2
      clear g1 g2
      go_wp2_with fail
      refine (c1 95 _).mono ?_
      rintro _ w4 ⟨rfl, hw⟩
      replace hw := hw.symm
      subst hw
      go_wp2
      go_loopw [47] (fun i wr => ∃ k : Nat, k ≤ N.size ∧ i = .int .i64 k ∧ wr = w2 ∧ Hid ((reason.take k).all textB = true)) (fun i _ => N.size - (intOf i).toNat)
      case atStart => exact ⟨0, Nat.zero_le _, rfl, rfl, Lib.hid rfl⟩
      case round =>
        obtain ⟨k, hk, rfl, rfl, HA⟩ := hrel
        by_cases hlt : k < N.size
        · obtain ⟨x, hx⟩ : ∃ x : UInt8, N[k]'hlt = x := ⟨_, rfl⟩
          have hkr : k < reason.length := by rw [← HNS.out]; exact hlt
          have HX : Hid (reason[k] = x) := Lib.hid (by
            have := HNd.out
            subst this
            exact hx)
          have i1 : (k : Int) < (N.size : Int) := by omega
          have HA1 : Hid (textB x = true → (reason.take (k + 1)).all textB = true) := Lib.hid (fun hb => by
            rw [List.take_succ_eq_append_getElem hkr, List.all_append, HA.out, HX.out]
            simp [hb])
          have HB1 : Hid (textB x = false → R = none) := Lib.hid (fun hb => by
            rw [HF.out]
            refine codeF_bad HO.out (fun h => ?_)
            have := List.all_eq_true.1 h.2.2.2 reason[k] (List.getElem_mem _)
            rw [HX.out, hb] at this
            cases this)
          by_cases h9 : x = 9
          · have HA1 := Lib.hid (HA1.out (by rw [h9]; rfl))
            have q9 : ((x.toNat : Int) == 9) = true := by rw [h9]; rfl
            clear h9 HB1
            go_wp2_with fail
            refine (c1 95 _).mono ?_
            rintro _ w4 ⟨rfl, hw⟩
            replace hw := hw.symm
            subst hw
            go_wp2
            go_roundw
            case rel => exact ⟨k + 1, by omega, by go_num, trivial, HA1⟩
            case measure => simp [intOf]; omega
          · have q9 : ((x.toNat : Int) == 9) = false := (u8_beq_lit x 9 (by omega)).trans (by simpa using h9)
            by_cases h32 : (x.toNat : Int) < 32
            · have q32 : decide ((32 : Int) ≤ (x.toNat : Int)) = false := decide_eq_false (by omega)
              have HF2 := Lib.hid (HB1.out (by unfold textB; rw [show (x == 9) = false from by simpa using h9, decide_eq_true (by omega : x.toNat < 32)]; rfl))
              clear h9 HB1 HA1 h32
              go_wp2_with fail
              refine (c2 95 _).mono ?_
              rintro _ w4 ⟨rfl, hw⟩
              replace hw := hw.symm
              subst hw
              go_wp2
              rw [HF2.out]
              exact ⟨rfl, rfl, HS.out⟩
            · have q32 : decide ((32 : Int) ≤ (x.toNat : Int)) = true := decide_eq_true (by omega)
              by_cases h127 : x = 127
              · have q127 : ((x.toNat : Int) != 127) = false := by rw [h127]; rfl
                have HF2 := Lib.hid (HB1.out (by rw [h127]; rfl))
                clear h9 HB1 HA1 h32 h127
                go_wp2_with fail
                refine (c2 95 _).mono ?_
                rintro _ w4 ⟨rfl, hw⟩
                replace hw := hw.symm
                subst hw
                go_wp2
                rw [HF2.out]
                exact ⟨rfl, rfl, HS.out⟩
              · have q127 : ((x.toNat : Int) != 127) = true := by
                  have q : ((x.toNat : Int) == 127) = false := (u8_beq_lit x 127 (by omega)).trans (by simpa using h127)
                  unfold bne; rw [q]; rfl
                have HA1 := Lib.hid (HA1.out (by
                  unfold textB
                  rw [show (x == 9) = false from by simpa using h9, decide_eq_false (by omega : ¬ x.toNat < 32), show (x == 127) = false from by simpa using h127]; rfl))
                clear h9 HB1 h32 h127
                go_wp2_with fail
                refine (c1 95 _).mono ?_
                rintro _ w4 ⟨rfl, hw⟩
                replace hw := hw.symm
                subst hw
                go_wp2
                go_roundw
                case rel => exact ⟨k + 1, by omega, by go_num, trivial, HA1⟩
                case measure => simp [intOf]; omega
        · have hall : reason.all textB = true := by
            have := HA.out
            rwa [List.take_of_length_le (by rw [← HNS.out]; omega)] at this
          have HF2 : Hid (R = some (n, reason)) := Lib.hid (by
            rw [HF.out]
            exact codeF_ok HO.out ⟨by rw [← HCS.out, G2.out], g3, g4, hall⟩)
          have i1 : ¬ (k : Int) < (N.size : Int) := by omega
          clear hall
          go_wp2
          go_ret2
          rw [HF2.out]
          exact ⟨by rw [HBA.out]; rfl, HS.out⟩
    · have HF2 : Hid (R = none) := Lib.hid (by
        rw [HF.out]
        cases o with
        | none => exact codeF_num HO.out
        | some n =>
          refine codeF_bad HO.out (fun h => hgood ⟨rfl, by rw [HCS.out]; exact h.1, h.2.1, h.2.2.1⟩))
      clear HF
      cases o with
      | none =>
        clear hgood
        simp only [Option.getD_none, Option.isSome_none]
        go_wp2_with fail
        refine (c2 95 _).mono ?_
        rintro _ w4 ⟨rfl, hw⟩
        replace hw := hw.symm
        subst hw
        go_wp2
        rw [HF2.out]
        exact ⟨rfl, rfl, HS.out⟩
      | some n =>
        simp only [Option.getD_some, Option.isSome_some]
        simp only [Option.getD_some, Option.isSome_some, true_and] at hgood
        by_cases g2 : C.size = 3
        · have d1 : ((C.size : Int) == 3) = true := by rw [g2]; rfl
          by_cases g3 : 200 ≤ n
          · have d2 : decide ((200 : Int) ≤ (n : Int)) = true := by simp; omega
            have d3 : decide ((n : Int) ≤ 599) = false := by simp; omega
            clear hgood
            go_wp2_with fail
            refine (c2 95 _).mono ?_
            rintro _ w4 ⟨rfl, hw⟩
            replace hw := hw.symm
            subst hw
            go_wp2
            rw [HF2.out]
            exact ⟨rfl, rfl, HS.out⟩
          · have d2 : decide ((200 : Int) ≤ (n : Int)) = false := by simp; omega
            clear hgood
            go_wp2_with fail
            refine (c2 95 _).mono ?_
            rintro _ w4 ⟨rfl, hw⟩
            replace hw := hw.symm
            subst hw
            go_wp2
            rw [HF2.out]
            exact ⟨rfl, rfl, HS.out⟩
        · have d1 : ((C.size : Int) == 3) = false := beq_eq_false_iff_ne.2 (by omega)
          clear hgood
          go_wp2_with fail
          refine (c2 95 _).mono ?_
          rintro _ w4 ⟨rfl, hw⟩
          replace hw := hw.symm
          subst hw
          go_wp2
          rw [HF2.out]
          exact ⟨rfl, rfl, HS.out⟩
end Go.Proofs.YtjpmofnnjdhamaaGreatDoor
namespace Go.Proofs.YtjpmofnnjdhamaaGreatDoor
open Go.RowKit HeadMath NormMath NormS HeadS ChunkMath HttpMath

structure RspAt (w : World) (x0 x1 x2 x3 : Value) (wr : World) : Prop where
  b0 : wr.heap[w.heap.size]? = some (.cells #[x0, x1, x2, x3] 27 (0, 0))
  b1 : wr.heap[w.heap.size + 1]? = some (.cells #[.int .i64 0] 36 (0, 0))
  sp : Spares nowhere w wr
theorem RspAt.quiet {w wr w' : World} {x0 x1 x2 x3 : Value} (h : RspAt w x0 x1 x2 x3 wr) (hs : Spares nowhere wr w') : RspAt w x0 x1 x2 x3 w' :=
  ⟨hs.heap h.b0 (fun h => h), hs.heap h.b1 (fun h => h), h.sp.trans hs⟩
theorem RspAt.lt {w wr : World} {x0 x1 x2 x3 : Value} (h : RspAt w x0 x1 x2 x3 wr) : w.heap.size + 1 < wr.heap.size := (Array.getElem?_eq_some_iff.1 h.b1).1
theorem RspAt.set {w wr : World} {x0 x1 x2 x3 : Value} (h : RspAt w x0 x1 x2 x3 wr) (i : Nat) (y y0 y1 y2 y3 : Value) (hi : #[x0, x1, x2, x3].setIfInBounds i y = #[y0, y1, y2, y3]) : RspAt w y0 y1 y2 y3 (wr.setCell ⟨w.heap.size, i, none⟩ y) :=
  ⟨by rw [set_at h.b0, hi], set_other (by omega) h.b1, h.sp.trans' (Spares.setCell (F := fun k => k = w.heap.size) (Spares.refl _ wr) (p := ⟨w.heap.size, i, none⟩) (.inl rfl) _) (fun k hk => .inr (by omega))⟩
theorem RspAt.cell {w wr : World} {x0 x1 x2 x3 : Value} (h : RspAt w x0 x1 x2 x3 wr) : wr.cell? ⟨w.heap.size, 0, none⟩ = some x0 ∧ wr.cell? ⟨w.heap.size, 1, none⟩ = some x1 ∧ wr.cell? ⟨w.heap.size, 2, none⟩ = some x2 ∧ wr.cell? ⟨w.heap.size, 3, none⟩ = some x3 :=
  ⟨(Lib.cell_of_heap h.b0 0).trans rfl, (Lib.cell_of_heap h.b0 1).trans rfl, (Lib.cell_of_heap h.b0 2).trans rfl, (Lib.cell_of_heap h.b0 3).trans rfl⟩
theorem RspAt.fz {w wr : World} {x0 x1 x2 x3 : Value} (h : RspAt w x0 x1 x2 x3 wr) (i : Nat) : wr.frozen? ⟨w.heap.size, i, none⟩ = false := Lib.frozen_of_heap h.b0 i
/-- The result is stored onto itself, and its error. -/
structure LastR (w v : World) (x0 x1 x2 x3 : Value) (v12 v14 : World) : Prop where
  chain : (((v.setCell ⟨w.heap.size, 0, none⟩ x0).setCell ⟨w.heap.size, 1, none⟩ x1).setCell ⟨w.heap.size, 2, none⟩ x2).setCell ⟨w.heap.size, 3, none⟩ x3 = v12
  last : v12.setCell ⟨w.heap.size + 1, 0, none⟩ (.int .i64 0) = v14
  c0 : v.cell? ⟨w.heap.size, 0, none⟩ = some x0 ∧ v.cell? ⟨w.heap.size, 1, none⟩ = some x1 ∧ v.cell? ⟨w.heap.size, 2, none⟩ = some x2 ∧ v.cell? ⟨w.heap.size, 3, none⟩ = some x3
  s : (v.cell? ⟨w.heap.size, 0, none⟩ = some x0 ∧ v.frozen? ⟨w.heap.size, 0, none⟩ = false) ∧ ((v.setCell ⟨w.heap.size, 0, none⟩ x0).cell? ⟨w.heap.size, 1, none⟩ = some x1 ∧ (v.setCell ⟨w.heap.size, 0, none⟩ x0).frozen? ⟨w.heap.size, 1, none⟩ = false) ∧
    (((v.setCell ⟨w.heap.size, 0, none⟩ x0).setCell ⟨w.heap.size, 1, none⟩ x1).cell? ⟨w.heap.size, 2, none⟩ = some x2 ∧ ((v.setCell ⟨w.heap.size, 0, none⟩ x0).setCell ⟨w.heap.size, 1, none⟩ x1).frozen? ⟨w.heap.size, 2, none⟩ = false) ∧
    ((((v.setCell ⟨w.heap.size, 0, none⟩ x0).setCell ⟨w.heap.size, 1, none⟩ x1).setCell ⟨w.heap.size, 2, none⟩ x2).cell? ⟨w.heap.size, 3, none⟩ = some x3 ∧ (((v.setCell ⟨w.heap.size, 0, none⟩ x0).setCell ⟨w.heap.size, 1, none⟩ x1).setCell ⟨w.heap.size, 2, none⟩ x2).frozen? ⟨w.heap.size, 3, none⟩ = false)
  r : v12.cell? ⟨w.heap.size + 1, 0, none⟩ = some (.int .i64 0) ∧ v12.frozen? ⟨w.heap.size + 1, 0, none⟩ = false
  h0 : v14.heap[w.heap.size]? = some (.cells #[x0, x1, x2, x3] 27 (0, 0))
  h1 : v14.heap[w.heap.size + 1]? = some (.cells #[.int .i64 0] 36 (0, 0))
  sp : Spares (fun k => k = w.heap.size ∨ k = w.heap.size + 1) v v14
theorem rsp_last {w v : World} {x0 x1 x2 x3 : Value} (h : RspAt w x0 x1 x2 x3 v) : ∃ v12 v14, LastR w v x0 x1 x2 x3 v12 v14 := by
  have h12 := (((h.set 0 x0 _ _ _ _ rfl).set 1 x1 _ _ _ _ rfl).set 2 x2 _ _ _ _ rfl).set 3 x3 _ _ _ _ rfl
  refine ⟨_, _, rfl, rfl, h.cell, store_four h.b0 x0 x1 x2, ⟨(Lib.cell_of_heap h12.b1 0).trans rfl, Lib.frozen_of_heap h12.b1 0⟩, ?_, set_at (i := 0) h12.b1 _, ?_⟩
  · exact set_other (by omega) h12.b0
  · exact (((((Spares.refl (fun k => k = w.heap.size ∨ k = w.heap.size + 1) v).setCell (p := ⟨w.heap.size, 0, none⟩) (.inl (.inl rfl)) _).setCell (p := ⟨w.heap.size, 1, none⟩) (.inl (.inl rfl)) _).setCell (p := ⟨w.heap.size, 2, none⟩) (.inl (.inl rfl)) _).setCell (p := ⟨w.heap.size, 3, none⟩) (.inl (.inl rfl)) _).setCell (p := ⟨w.heap.size + 1, 0, none⟩) (.inl (.inr rfl)) _
def rspV (n : Nat) (reason : Bs) (vf vb : Value) : Value := .agg #[.int .i64 n, .string (ba reason), vf, vb]
def RspPost (r : Except Nat Rsp) (w : World) (e : Ending) (w' : World) : Prop := (match r with
  | .error n => e = .returned (.tuple #[.agg zeroR, .int .i64 n])
  | .ok (n, reason, fs, body) => ∃ vf vb, e = .returned (.tuple #[rspV n reason vf vb, .int .i64 0]) ∧ w'.ownsRow w.heap.size 59 2 vf fs.length (fieldCells fs) ∧ Row8 w.heap.size w' vb body) ∧ Spares nowhere w w'
theorem results_rsp {w : World} {p r : Nat} {x0 x1 x2 x3 : Value} {z : Value} (tmps : Array Value) (h2 : tmps.getD 4 undef = .pointer (some ⟨p, 0, none⟩)) (h4 : tmps.getD 5 undef = .pointer (some ⟨r, 0, none⟩))
    (hp : w.heap[p]? = some (.cells #[x0, x1, x2, x3] 27 (0, 0))) (hr : w.heap[r]? = some (.cells #[z] 36 (0, 0))) :
    (results Tryz.f22 tmps).run Tryz.prog w = .ok (.tuple #[.agg #[x0, x1, x2, x3], z]) w := by
  have h2' : tmps[4]?.getD undef = .pointer (some ⟨p, 0, none⟩) := by simpa using h2
  have h4' : tmps[5]?.getD undef = .pointer (some ⟨r, 0, none⟩) := by simpa using h4
  have c3 : w.cell? ⟨r, 0, none⟩ = some z := by rw [Lib.cell_of_heap hr]; rfl
  have d0 : w.cell? ⟨p, 0, none⟩ = some x0 := (Lib.cell_of_heap hp 0).trans rfl
  have d1 : w.cell? ⟨p, 1, none⟩ = some x1 := (Lib.cell_of_heap hp 1).trans rfl
  have d2 : w.cell? ⟨p, 2, none⟩ = some x2 := (Lib.cell_of_heap hp 2).trans rfl
  have d3 : w.cell? ⟨p, 3, none⟩ = some x3 := (Lib.cell_of_heap hp 3).trans rfl
  simp [results, Tryz.results22, h2', h4', asAddr, go_sem, c3, d0, d1, d2, d3]
def DoorsR (w : World) : List Deferred := [{ target := .fn (.func 49) #[.pointer (some ⟨w.heap.size, 0, none⟩), .pointer (some ⟨w.heap.size + 1, 0, none⟩)], args := #[] }]
theorem rsp_fell {w w5 : World} {R : Except Nat Rsp} {n : Nat} {x0 x1 x2 x3 : Value} (tmps : Array Value) (hR : R = .error n) (h2 : tmps.getD 4 undef = .pointer (some ⟨w.heap.size, 0, none⟩)) (h4 : tmps.getD 5 undef = .pointer (some ⟨w.heap.size + 1, 0, none⟩))
    (h : RspAt w x0 x1 x2 x3 w5) :
    Leaves Tryz.prog Tryz.f22 tmps (RspPost R w) (DoorsR w) (.panicking [{ v := .iface 70 (.agg #[.int .i64 n]), recovered := false }]) w5 := by
  unfold DoorsR
  refine leaves_cons (f := 49) (args := #[.pointer (some ⟨w.heap.size, 0, none⟩), .pointer (some ⟨w.heap.size + 1, 0, none⟩)]) (by simp) (by simp [go_sem]) ?_
  refine (catchR_panicking w.heap.size (w.heap.size + 1) n [] w5 x0 x1 x2 x3 _ (by omega) h.b0 h.b1).mono ?_
  rintro e u' w6 ⟨rfl, rfl, r0, r2, hs6⟩
  refine ⟨_, results_rsp _ h2 h4 r0 r2, ?_⟩
  subst hR
  exact ⟨rfl, h.sp.trans' hs6 (fun k hk => .inr (by omega))⟩
theorem rsp_done {w v v12 w5 : World} {R : Except Nat Rsp} {n : Nat} {reason : Bs} {S : ByteArray} {fs : Fs} {body : Bs} {vf vb : Value} {B C : Nat} (tmps : Array Value) (hR : R = .ok (n, reason, fs, body)) (h2 : tmps.getD 4 undef = .pointer (some ⟨w.heap.size, 0, none⟩)) (h4 : tmps.getD 5 undef = .pointer (some ⟨w.heap.size + 1, 0, none⟩))
    (h : LastR w v (.int .i64 n) (.string S) vf vb v12 w5) (hS : ba reason = S)
    (hf : v.ownsRow B 59 2 vf fs.length (fieldCells fs)) (hB : w.heap.size + 1 < B) (hb : Row8 C v vb body) (hC : w.heap.size + 1 < C) (hs : Spares nowhere w v) :
    Leaves Tryz.prog Tryz.f22 tmps (RspPost R w) (DoorsR w) .returning w5 := by
  have hf5 : w5.ownsRow w.heap.size 59 2 vf fs.length (fieldCells fs) := ownsRow_base (h.sp.own hf (fun g hg => by have := (World.ownsRow.lt hf g hg).1; omega)) (by omega)
  have hb5 : Row8 w.heap.size w5 vb body := ownsRow_base (h.sp.own hb (fun g hg => by have := (World.ownsRow.lt hb g hg).1; omega)) (by omega)
  have hs5 : Spares nowhere w w5 := hs.trans' h.sp (fun k hk => .inr (by omega))
  unfold DoorsR
  refine leaves_cons (f := 49) (args := #[.pointer (some ⟨w.heap.size, 0, none⟩), .pointer (some ⟨w.heap.size + 1, 0, none⟩)]) (by simp) (by simp [go_sem]) ?_
  refine (catchR_idle w.heap.size (w.heap.size + 1) w5).mono ?_
  rintro e u' w6 ⟨rfl, rfl, hs6⟩
  refine ⟨_, results_rsp _ h2 h4 (hs6.heap h.h0 (fun h => h)) (hs6.heap h.h1 (fun h => h)), ?_⟩
  subst hR
  subst hS
  exact ⟨⟨vf, vb, rfl, hs6.own hf5 (fun _ _ h => h), hb5.spares hs6 (fun _ _ h => h)⟩, hs5.trans hs6⟩
end Go.Proofs.YtjpmofnnjdhamaaGreatDoor
namespace Go.Proofs.YtjpmofnnjdhamaaGreatDoor
open Go.RowKit HeadMath NormMath NormS HeadS ChunkMath HttpMath

set_option maxRecDepth 100000 in
set_option maxHeartbeats 16000000 in
theorem response_any (b : Bs) (method : ByteArray) (a : Option Addr) (c n : Nat) (w : World) (hn : n = b.length) (hat : BytesAt w a b) (hcap : b.length ≤ c) (hnil : a = none → c = 0) (hz : b.length ≤ 1000000) (hM : MaxL w) :
    Calls Tryz.prog 22 #[.slice a n c, .string method] w (RspPost (responseF b method) w) := by
  have c1 : ∀ k w, Calls Tryz.prog 41 #[.bool true, .int .i64 k] w fun e w' => e = .returned (.tuple #[]) ∧ w' = w := demand_yes
  have c2 : ∀ (k : Nat) w, Calls Tryz.prog 41 #[.bool false, .int .i64 k] w fun e w' => e = FaultH k ∧ w' = w := demand_no
  unfold FaultH at c2
  obtain ⟨v3, hv3⟩ : ∃ v3, (w.alloc (.cells #[.int .i64 0, .string ⟨#[]⟩, .slice none 0 0, .slice none 0 0] 27)).alloc (.cells #[.int .i64 0] 36) = v3 := ⟨_, rfl⟩
  have hs3 : Spares nowhere w v3 := by rw [← hv3]; exact ((Spares.refl _ _).alloc _).alloc _
  have hRA : RspAt w (.int .i64 0) (.string ⟨#[]⟩) (.slice none 0 0) (.slice none 0 0) v3 := by
    refine ⟨?_, ?_, hs3⟩
    · rw [← hv3, Below.heap_alloc _ _ _ (by simp)]; exact heap_alloc_new w _
    · rw [← hv3]
      simpa using heap_alloc_new (w.alloc (.cells #[.int .i64 0, .string ⟨#[]⟩, .slice none 0 0, .slice none 0 0] 27)) (.cells #[.int .i64 0] 36)
  have cH := head_any b a c n v3 hn (hat.spares' hs3 (fun _ _ _ _ h => h)) hcap hnil hz (hM.spares hs3)
  obtain ⟨R, hR⟩ : ∃ R, responseF b method = R := ⟨_, rfl⟩
  rw [hR]
  have HR : Hid (rspR method (headF b) = R) := Lib.hid hR
  have HRA := Lib.hid hRA
  have HV3 := Lib.hid hv3
  have HM := Lib.hid hM
  have HN := Lib.hid hn
  have HLOW : Hid (∀ x o, a = some ⟨x, o, none⟩ → 0 < b.length → x < w.heap.size) := Lib.hid (fun x o e h0 => by
    obtain ⟨y, z, e2, hcell⟩ := hat 0 h0
    subst e2
    injection e with e
    injection e with e1 e2
    subst e1
    rcases Nat.lt_or_ge y w.heap.size with h | h
    · exact h
    · simp [World.cell?, Array.getElem?_eq_none h] at hcell)
  have hmf : ∀ (fn : Fn) (first cap : Array Value) (w : World), (Instr.makeFunc fn first cap).run Tryz.prog w = .ok (.func fn first cap) w := fun _ _ _ _ => rfl
  have hz2 : n ≤ 1000000 := by omega
  clear hv3 hs3 hRA hR hM hn hat hcap hnil hz
  cases hH : headF b with
  | error x =>
    rw [hH] at cH HR
    have HF : Hid (R = .error x) := Lib.hid HR.out.symm
    unfold SplitPost FellH FaultH at cH
    simp only at cH
    clear hH
    go_enter_defers Tryz.func22, Tryz.ntmps22
    go_wp2_with fail
    rw [HV3.out]
    refine cH.mono ?_
    rintro _ w1 ⟨rfl, hs1⟩
    go_wp2
    exact rsp_fell (n := x) _ HF.out rfl rfl (HRA.out.quiet hs1)
  | ok lr =>
    obtain ⟨ls, rest⟩ := lr
    obtain ⟨hne, hl1, hl2, hl3⟩ := cuts_lines hH
    rw [← HN.out] at hl1 hl2 hl3
    rw [hH] at cH HR
    cases ls with
    | nil => exact absurd rfl hne
    | cons l0 ls =>
      have HRL : Hid (rspL method l0 ls rest = R) := Lib.hid HR.out
      unfold SplitPost at cH
      simp only at cH
      obtain ⟨q, hq⟩ : ∃ q, (l0 :: ls).length = q := ⟨_, rfl⟩
      have HQ : Hid (ls.length + 1 = q) := Lib.hid (by rw [← hq]; rfl)
      have hq1 : 1 ≤ q := by rw [← HQ.out]; omega
      have hq2 : q ≤ 1000001 := by rw [← hq]; omega
      have hl0 : l0.length ≤ 1000000 := by have := hl2 l0 (by simp); omega
      have HL2 : Hid (∀ l ∈ ls, l.length ≤ 1000000) := Lib.hid (fun l hl => by have := hl2 l (by simp [hl]); omega)
      obtain ⟨rl, hrl⟩ : ∃ rl, rest.length = rl := ⟨_, rfl⟩
      have HRLN := Lib.hid hrl
      have hrl2 : rl + 4 ≤ n := by rw [← hrl]; exact hl3
      rw [hq, hrl] at cH
      clear hq hrl hH hl1 hl2 hl3 hne HR
      go_enter_defers Tryz.func22, Tryz.ntmps22
      go_wp2_with fail
      rw [HV3.out]
      refine cH.mono ?_
      rintro _ w2 ⟨g, ax, ao, ao', c', hg3, rfl, rfl, hin1, hat1, hc1, hs1⟩
      have hg2 : w.heap.size + 1 < g := Nat.lt_of_lt_of_le HRA.out.lt hg3
      have hax := HLOW.out ax ao rfl (by rw [← HN.out]; omega)
      have HRA2 := Lib.hid (HRA.out.quiet hs1)
      have HIN2 := Lib.hid hin1
      have HAT2 := Lib.hid hat1
      obtain ⟨_, _, e1, hg1, x0⟩ := HIN2.out 0 (by simp)
      injection e1 with e1
      injection e1 with e1 e2
      subst e1; subst e2
      rw [Nat.zero_add] at x0
      have x0' : w2.cell? ⟨g, 0, none⟩ = some (.string (ba l0)) := x0
      clear x0 hin1 hat1 hs1 cH HRA hg3
      have cS := status_any (ba l0) w2 (by rw [ba_size]; exact hl0) (HM.out.spares HRA2.out.sp)
      rw [ba_data] at cS
      obtain ⟨S0, hS0⟩ : ∃ S0, ba l0 = S0 := ⟨_, rfl⟩
      rw [hS0] at cS x0'
      clear hS0
      cases hst : statusF l0 with
      | none =>
        have HF : Hid (R = .error 95) := Lib.hid (by rw [← HRL.out]; unfold rspL; rw [hst])
        rw [hst] at cS
        unfold StatusPost FellH FaultH at cS
        simp only at cS
        clear hst
        go_wp2_with fail
        refine cS.mono ?_
        rintro _ w3 ⟨rfl, hs3⟩
        go_wp2
        exact rsp_fell (n := 95) _ HF.out rfl rfl (HRA2.out.quiet hs3)
      | some sr =>
        obtain ⟨st, reason⟩ := sr
        have HF : Hid (rspH st reason method rest (fieldsF ls) = R) := Lib.hid (by rw [← HRL.out]; unfold rspL; rw [hst])
        rw [hst] at cS
        unfold StatusPost at cS
        simp only at cS
        obtain ⟨S, hS⟩ : ∃ S, ba reason = S := ⟨_, rfl⟩
        rw [hS] at cS
        have HSS := Lib.hid hS
        clear hst hS HRL
        go_wp2_with fail
        refine cS.mono ?_
        rintro _ w3 ⟨rfl, hs3⟩
        have HRA3 := Lib.hid (HRA2.out.quiet hs3)
        have hin3 : StrsIn w3.heap.size w3 (some ⟨g, 0, none⟩) ((l0 :: ls).map ba) := StrsIn.quiet HIN2.out (Nat.le_refl _) hs3 hs3.size
        have HIN3 := Lib.hid hin3
        have HAT3 := Lib.hid (HAT2.out.spares' hs3 (fun _ _ _ _ h => h))
        have hg33 := Nat.lt_of_lt_of_le hg1 hs3.size
        obtain ⟨y0, _, _, _⟩ := HRA3.out.cell
        have f0 := HRA3.out.fz 0
        have HRA4 := Lib.hid (HRA3.out.set 0 (.int .i64 st) _ _ _ _ rfl)
        obtain ⟨_, y1, _, _⟩ := HRA4.out.cell
        have f1 := HRA4.out.fz 1
        obtain ⟨w5, hw5⟩ : ∃ w5, (w3.setCell ⟨w.heap.size, 0, none⟩ (.int .i64 st)).setCell ⟨w.heap.size, 1, none⟩ (.string S) = w5 := ⟨_, rfl⟩
        have HRA5 : Hid (RspAt w (.int .i64 st) (.string S) (.slice none 0 0) (.slice none 0 0) w5) := Lib.hid (by rw [← hw5]; exact HRA4.out.set 1 (.string S) _ _ _ _ rfl)
        have HSP5 : Hid (Spares (fun k => k = w.heap.size) w3 w5) := Lib.hid (by
          rw [← hw5]
          exact (Spares.setCell (F := fun k => k = w.heap.size) (Spares.refl _ w3) (p := ⟨w.heap.size, 0, none⟩) (.inl rfl) _).setCell (p := ⟨w.heap.size, 1, none⟩) (.inl rfl) _)
        have HATK : Hid (∀ wx, Spares (fun k => k = w.heap.size) w3 wx → BytesAt wx (some ⟨ax, ao', none⟩) rest) := Lib.hid (fun wx hs => HAT3.out.spares' hs (fun _ x o e he => by
          injection e with e
          injection e with e1 e2
          omega))
        have HFL : Hid (∀ (ga : Addr) (kx : Nat), (ga = ⟨g, 1, none⟩ ∨ kx = 0) → kx = ls.length → ∀ cx, Calls Tryz.prog 44 #[.slice (some ga) kx cx] w5 (FieldsPost (fieldsF ls) w5)) := Lib.hid (fun ga kx hga hkx cx => by
          have hlsl : ls.length ≤ 1000000 := by have := HQ.out; omega
          refine fields_any ls (some ga) cx kx w5 hkx ?_ HL2.out hlsl
          intro j hj
          have hj2 : j < ls.length := by simpa using hj
          rcases hga with rfl | h0
          · obtain ⟨x, o, e, hb, hc⟩ := HIN3.out (j + 1) (by simp; omega)
            injection e with e
            injection e with e1 e2
            subst e1; subst e2
            refine ⟨g, 1, rfl, Nat.lt_of_lt_of_le hb HSP5.out.size, ?_⟩
            rw [HSP5.out.cell (p := ⟨g, 1 + j, none⟩) hb (by show ¬ g = w.heap.size; omega), show 1 + j = 0 + (j + 1) by omega, hc]
            simp
          · omega)
        clear x0' hs3 hin3 cS HRA2 HIN2 HAT2 HRA3 HRA4
        cases hFR : fieldsF ls with
        | error x =>
          rw [hFR] at HFL HF
          have HF2 : Hid (R = .error x) := Lib.hid HF.out.symm
          unfold FieldsPost FellH FaultH at HFL
          simp only at HFL
          clear hFR HF
          go_wp2_with fail
          all_goals
            try rw [hw5]
            refine (HFL.out _ _ (by first | exact .inl rfl | exact .inr rfl) (by have := HQ.out; omega) _).mono ?_
            rintro _ w6 ⟨rfl, hs6⟩
            go_wp2
            exact rsp_fell (n := x) _ HF2.out rfl rfl (HRA5.out.quiet hs6)
        | ok fs =>
          rw [hFR] at HFL HF
          have HFW := Lib.hid (fieldsF_few hFR HL2.out)
          have HF2 : Hid ((if bodilessF st method = true then .ok (st, reason, fs, []) else rspB st reason fs (rspW fs rest)) = R) := Lib.hid HF.out
          unfold FieldsPost at HFL
          simp only at HFL
          obtain ⟨k, hk⟩ : ∃ k, fs.length = k := ⟨_, rfl⟩
          rw [hk] at HFL
          have HK2 := Lib.hid hk
          have hk100 : k ≤ 100 := by rw [← hk]; exact HFW.out.1
          clear hFR HF hk
          go_wp2_with fail
          all_goals
            try rw [hw5]
            refine (HFL.out _ _ (by first | exact .inl rfl | exact .inr rfl) (by have := HQ.out; omega) _).mono ?_
            rintro _ w6 ⟨vf, rfl, hown6, hs6⟩
            have HRA6 := Lib.hid (HRA5.out.quiet hs6)
            obtain ⟨_, _, y2, _⟩ := HRA6.out.cell
            have f2 := HRA6.out.fz 2
            have HSP6 := Lib.hid (HSP5.out.trans (hs6.mono (fun _ h => by cases h)))
            have HL5 := Lib.hid HRA5.out.lt
            have hlow : w.heap.size < w5.heap.size := by have := HL5.out; omega
            obtain ⟨v7, hv7⟩ : ∃ v7, w6.setCell ⟨w.heap.size, 2, none⟩ vf = v7 := ⟨_, rfl⟩
            have hown7 : v7.ownsRow w5.heap.size 59 2 vf fs.length (fieldCells fs) := by rw [← hv7, HK2.out]; exact own_set hown6 hlow
            have HOW7 := Lib.hid hown7
            have HRA7 : Hid (RspAt w (.int .i64 st) (.string S) vf (.slice none 0 0) v7) := Lib.hid (by rw [← hv7]; exact HRA6.out.set 2 vf _ _ _ _ rfl)
            have HSP7 : Hid (Spares (fun k => k = w.heap.size) w3 v7) := Lib.hid (by rw [← hv7]; exact HSP6.out.setCell (p := ⟨w.heap.size, 2, none⟩) (.inl rfl) _)
            obtain ⟨fa, fc, hvf, hfi⟩ := rowF_shape hown7
            have HFI := Lib.hid hfi
            rw [HK2.out] at hvf
            subst hvf
            obtain ⟨u0, _, u2, _⟩ := HRA7.out.cell
            have cB := fun w => bodiless_any st method w
            obtain ⟨bl, hbl⟩ : ∃ bl, bodilessF st method = bl := ⟨_, rfl⟩
            rw [hbl] at cB
            have HF3 : Hid ((if bl = true then .ok (st, reason, fs, []) else rspB st reason fs (rspW fs rest)) = R) := Lib.hid (by rw [← hbl]; exact HF2.out)
            clear hown6 hs6 hfi hown7 HRA5 HRA6 hbl HF2
            cases bl with
            | true =>
              have HF4 : Hid (R = .ok (st, reason, fs, [])) := Lib.hid (by rw [← HF3.out, if_pos rfl])
              go_wp2_with fail
              try rw [hv7]
              refine (cB _).mono ?_
              rintro _ w8 ⟨rfl, hw⟩
              replace hw := hw.symm
              subst hw
              obtain ⟨v12, v14, hL⟩ := rsp_last HRA7.out
              have HLS := Lib.hid hL
              obtain ⟨k1, k2, ⟨k3, k4, k5, k6⟩, ⟨⟨_, k7⟩, ⟨k8, k9⟩, ⟨k10, k11⟩, ⟨k12, k13⟩⟩, ⟨k14, k15⟩, _, _, _⟩ := hL
              clear y0 y1 y2 f0 f1 f2 u0 u2 hv7 hw5 cB
              go_wp2
              exact rsp_done _ HF4.out rfl rfl HLS.out HSS.out HOW7.out HL5.out (row8_nil (w5.heap.size) _) HL5.out HRA7.out.sp
            | false =>
              have HF4 : Hid (rspB st reason fs (rspW fs rest) = R) := Lib.hid (by rw [← HF3.out, if_neg (by decide)])
              have cT := has_any fs nTE fa fc k v7 HK2.out.symm HFI.out HFW.out.small (by have := HFW.out.1; omega) (by decide)
              unfold nTE at cT
              obtain ⟨o1, ho1⟩ : ∃ o1, getF nTE fs = o1 := ⟨_, rfl⟩
              have ho1' : getF ⟨#[84, 114, 97, 110, 115, 102, 101, 114, 45, 69, 110, 99, 111, 100, 105, 110, 103]⟩ fs = o1 := ho1
              rw [ho1'] at cT
              unfold HasPost at cT
              obtain ⟨o2, ho2⟩ : ∃ o2, getF nCL fs = o2 := ⟨_, rfl⟩
              have HF5 : Hid (rspB st reason fs (if o1 = none ∧ o2 = none then (if 65536 < rest.length then .error 93 else .ok (rest, rest.length)) else framedF fs rest) = R) := Lib.hid (by rw [← ho1, ← ho2]; exact HF4.out)
              have HCL : Hid (∀ wx, Spares nowhere v7 wx → Calls Tryz.prog 51 #[.slice fa k fc, .string nCL] wx (HasPost o2.isSome wx)) := Lib.hid (fun wx hs => by
                rw [← ho2]
                exact has_any fs nCL fa fc k wx HK2.out.symm (FieldsIn.quiet HFI.out (Nat.le_refl _) hs hs.size) HFW.out.small (by have := HFW.out.1; omega) (by decide))
              unfold nCL HasPost at HCL
              have HFM : Hid (∀ wx, Spares nowhere v7 wx → Calls Tryz.prog 46 #[.slice fa k fc, .slice (some ⟨ax, ao', none⟩) rl c'] wx (FramePost (framedF fs rest) wx)) := Lib.hid (fun wx hs => framed_any fs rest fa (some ⟨ax, ao', none⟩) fc k c' rl wx HK2.out.symm HRLN.out.symm (FieldsIn.quiet HFI.out (Nat.le_refl _) hs hs.size) HFW.out (HATK.out wx (HSP7.out.trans (hs.mono (fun _ h => by cases h)))) (by rw [HRLN.out]; exact hc1) (fun e => by cases e) (by rw [HRLN.out]; omega))
              clear ho1 ho1' ho2 HF3 HF4 HFI
              go_wp2_with fail
              try rw [hv7]
              refine (cB _).mono ?_
              rintro _ w8 ⟨rfl, hw⟩
              replace hw := hw.symm
              subst hw
              cases o1 with
              | some z1 =>
                have HF6 : Hid (rspB st reason fs (framedF fs rest) = R) := Lib.hid (by rw [← HF5.out, if_neg (by simp)])
                simp only [Option.isSome_some] at cT
                go_wp2_with fail
                refine cT.mono ?_
                rintro _ w8 ⟨rfl, hs8⟩
                have HS8 := Lib.hid hs8
                clear hs8 cT HF5
                have cF := HFM.out w8 HS8.out
                have HRA8 := Lib.hid (HRA7.out.quiet HS8.out)
                have HOW8 := Lib.hid (HS8.out.own HOW7.out (fun _ _ h => h))
                obtain ⟨_, _, u3, _⟩ := HRA8.out.cell
                cases hfr : framedF fs rest with
                | error x =>
                  rw [hfr] at cF HF6
                  have HF7 : Hid (R = .error x) := Lib.hid HF6.out.symm
                  unfold FramePost FellH FaultH at cF
                  simp only at cF
                  clear hfr
                  go_wp2_with fail
                  refine cF.mono ?_
                  rintro _ w9 ⟨rfl, hs9⟩
                  go_wp2
                  exact rsp_fell (n := x) _ HF7.out rfl rfl (HRA8.out.quiet hs9)
                | ok bn =>
                  obtain ⟨body, nn⟩ := bn
                  have hfl := framedF_len hfr
                  rw [hfr] at cF HF6
                  have HF9 : Hid (R = .ok (st, reason, fs, body)) := Lib.hid HF6.out.symm
                  unfold FramePost at cF
                  simp only at cF
                  obtain ⟨blen, hblen⟩ : ∃ blen, body.length = blen := ⟨_, rfl⟩
                  have HBLN := Lib.hid hblen
                  have hbl := hfl.1
                  rw [hblen] at cF hbl
                  have d3 : decide ((blen : Int) ≤ 65536) = true := by simp; omega
                  clear hfr HF6 hfl hblen
                  go_wp2_with fail
                  refine cF.mono ?_
                  rintro _ w9 ⟨ab, cb, rfl, hb9, hn9, hl9, hs9⟩
                  have HRA9 := Lib.hid (HRA8.out.quiet hs9)
                  have HOW9 := Lib.hid (hs9.own HOW8.out (fun _ _ h => h))
                  have HBY := Lib.hid hb9
                  have HNI := Lib.hid hn9
                  clear hb9 hn9 hl9 hs9 cF HOW8 HRA8 HS8 u3 HFM HCL
                  go_wp2_with fail
                  refine (c1 93 _).mono ?_
                  rintro _ w4 ⟨rfl, hw⟩
                  replace hw := hw.symm
                  subst hw
                  have cC := copy_any body ab cb blen w9 HBLN.out.symm HBY.out HNI.out (by rw [HBLN.out]; omega)
                  go_wp2_with fail
                  refine cC.mono ?_
                  rintro _ w10 ⟨vb, rfl, hrow, hs10⟩
                  obtain ⟨ab', cb', hvb, _, _, _⟩ := hrow.shape
                  rw [HBLN.out] at hvb
                  subst hvb
                  have HRA10 := Lib.hid (HRA9.out.quiet hs10)
                  have hOW10 := hs10.own HOW9.out (fun _ _ h => h)
                  obtain ⟨_, _, _, y3⟩ := HRA10.out.cell
                  have f3 := HRA10.out.fz 3
                  have hlow9 : w.heap.size < (w9).heap.size := by have := HRA9.out.lt; omega
                  have HL9 : Hid (w.heap.size + 1 < (w9).heap.size) := Lib.hid HRA9.out.lt
                  obtain ⟨v11, hv11⟩ : ∃ v11, w10.setCell ⟨w.heap.size, 3, none⟩ (.slice ab' blen cb') = v11 := ⟨_, rfl⟩
                  have hRA11 : RspAt w (.int .i64 st) (.string S) (.slice fa k fc) (.slice ab' blen cb') v11 := by rw [← hv11]; exact HRA10.out.set 3 (.slice ab' blen cb') _ _ _ _ rfl
                  have HOW11 : Hid (v11.ownsRow w5.heap.size 59 2 (.slice fa k fc) fs.length (fieldCells fs)) := Lib.hid (by rw [← hv11]; exact own_set hOW10 hlow)
                  have HROW11 : Hid (Row8 (w9).heap.size v11 (.slice ab' blen cb') body) := Lib.hid (by rw [← hv11]; exact own_set hrow hlow9)
                  have HSP11 := Lib.hid hRA11.sp
                  obtain ⟨v12, v14, hL⟩ := rsp_last hRA11
                  have HLS := Lib.hid hL
                  obtain ⟨k1, k2, ⟨k3, k4, k5, k6⟩, ⟨⟨_, k7⟩, ⟨k8, k9⟩, ⟨k10, k11⟩, ⟨k12, k13⟩⟩, ⟨k14, k15⟩, _, _, _⟩ := hL
                  clear hs10 hrow hOW10 hRA11 HRA9 HRA10 HOW9 cC
                  go_wp2
                  exact rsp_done _ HF9.out rfl rfl HLS.out HSS.out HOW11.out HL5.out HROW11.out HL9.out HSP11.out
              | none =>
                simp only [Option.isSome_none] at cT
                go_wp2_with fail
                refine cT.mono ?_
                rintro _ w8 ⟨rfl, hs8⟩
                have HS8 := Lib.hid hs8
                have cX := HCL.out w8 hs8
                obtain ⟨_, _, u4, _⟩ := (HRA7.out.quiet hs8).cell
                clear hs8 cT
                cases o2 with
                | some z2 =>
                  have HF6 : Hid (rspB st reason fs (framedF fs rest) = R) := Lib.hid (by rw [← HF5.out, if_neg (by simp)])
                  simp only [Option.isSome_some] at cX
                  go_wp2_with fail
                  refine cX.mono ?_
                  rintro _ w88 ⟨rfl, hs88⟩
                  replace HS8 := Lib.hid (HS8.out.trans hs88)
                  clear hs88 cX HF5
                  have cF := HFM.out w88 HS8.out
                  have HRA8 := Lib.hid (HRA7.out.quiet HS8.out)
                  have HOW8 := Lib.hid (HS8.out.own HOW7.out (fun _ _ h => h))
                  obtain ⟨_, _, u3, _⟩ := HRA8.out.cell
                  cases hfr : framedF fs rest with
                  | error x =>
                    rw [hfr] at cF HF6
                    have HF7 : Hid (R = .error x) := Lib.hid HF6.out.symm
                    unfold FramePost FellH FaultH at cF
                    simp only at cF
                    clear hfr
                    go_wp2_with fail
                    refine cF.mono ?_
                    rintro _ w9 ⟨rfl, hs9⟩
                    go_wp2
                    exact rsp_fell (n := x) _ HF7.out rfl rfl (HRA8.out.quiet hs9)
                  | ok bn =>
                    obtain ⟨body, nn⟩ := bn
                    have hfl := framedF_len hfr
                    rw [hfr] at cF HF6
                    have HF9 : Hid (R = .ok (st, reason, fs, body)) := Lib.hid HF6.out.symm
                    unfold FramePost at cF
                    simp only at cF
                    obtain ⟨blen, hblen⟩ : ∃ blen, body.length = blen := ⟨_, rfl⟩
                    have HBLN := Lib.hid hblen
                    have hbl := hfl.1
                    rw [hblen] at cF hbl
                    have d3 : decide ((blen : Int) ≤ 65536) = true := by simp; omega
                    clear hfr HF6 hfl hblen
                    go_wp2_with fail
                    refine cF.mono ?_
                    rintro _ w9 ⟨ab, cb, rfl, hb9, hn9, hl9, hs9⟩
                    have HRA9 := Lib.hid (HRA8.out.quiet hs9)
                    have HOW9 := Lib.hid (hs9.own HOW8.out (fun _ _ h => h))
                    have HBY := Lib.hid hb9
                    have HNI := Lib.hid hn9
                    clear hb9 hn9 hl9 hs9 cF HOW8 HRA8 HS8 u3 HFM HCL
                    go_wp2_with fail
                    refine (c1 93 _).mono ?_
                    rintro _ w4 ⟨rfl, hw⟩
                    replace hw := hw.symm
                    subst hw
                    have cC := copy_any body ab cb blen w9 HBLN.out.symm HBY.out HNI.out (by rw [HBLN.out]; omega)
                    go_wp2_with fail
                    refine cC.mono ?_
                    rintro _ w10 ⟨vb, rfl, hrow, hs10⟩
                    obtain ⟨ab', cb', hvb, _, _, _⟩ := hrow.shape
                    rw [HBLN.out] at hvb
                    subst hvb
                    have HRA10 := Lib.hid (HRA9.out.quiet hs10)
                    have hOW10 := hs10.own HOW9.out (fun _ _ h => h)
                    obtain ⟨_, _, _, y3⟩ := HRA10.out.cell
                    have f3 := HRA10.out.fz 3
                    have hlow9 : w.heap.size < (w9).heap.size := by have := HRA9.out.lt; omega
                    have HL9 : Hid (w.heap.size + 1 < (w9).heap.size) := Lib.hid HRA9.out.lt
                    obtain ⟨v11, hv11⟩ : ∃ v11, w10.setCell ⟨w.heap.size, 3, none⟩ (.slice ab' blen cb') = v11 := ⟨_, rfl⟩
                    have hRA11 : RspAt w (.int .i64 st) (.string S) (.slice fa k fc) (.slice ab' blen cb') v11 := by rw [← hv11]; exact HRA10.out.set 3 (.slice ab' blen cb') _ _ _ _ rfl
                    have HOW11 : Hid (v11.ownsRow w5.heap.size 59 2 (.slice fa k fc) fs.length (fieldCells fs)) := Lib.hid (by rw [← hv11]; exact own_set hOW10 hlow)
                    have HROW11 : Hid (Row8 (w9).heap.size v11 (.slice ab' blen cb') body) := Lib.hid (by rw [← hv11]; exact own_set hrow hlow9)
                    have HSP11 := Lib.hid hRA11.sp
                    obtain ⟨v12, v14, hL⟩ := rsp_last hRA11
                    have HLS := Lib.hid hL
                    obtain ⟨k1, k2, ⟨k3, k4, k5, k6⟩, ⟨⟨_, k7⟩, ⟨k8, k9⟩, ⟨k10, k11⟩, ⟨k12, k13⟩⟩, ⟨k14, k15⟩, _, _, _⟩ := hL
                    clear hs10 hrow hOW10 hRA11 HRA9 HRA10 HOW9 cC
                    go_wp2
                    exact rsp_done _ HF9.out rfl rfl HLS.out HSS.out HOW11.out HL5.out HROW11.out HL9.out HSP11.out
                | none =>
                  have HF6 : Hid (rspB st reason fs (if 65536 < rest.length then .error 93 else .ok (rest, rest.length)) = R) := Lib.hid (by rw [← HF5.out]; simp)
                  simp only [Option.isSome_none] at cX
                  go_wp2_with fail
                  refine cX.mono ?_
                  rintro _ w9 ⟨rfl, hs88⟩
                  replace HS8 := Lib.hid (HS8.out.trans hs88)
                  have HRA9 := Lib.hid (HRA7.out.quiet HS8.out)
                  have HOW9 := Lib.hid (HS8.out.own HOW7.out (fun _ _ h => h))
                  clear hs88 cX HF5 u4
                  by_cases hbig : 65536 < rl
                  · have d3 : decide ((rl : Int) ≤ 65536) = false := by simp; omega
                    have HF7 : Hid (R = .error 93) := Lib.hid (by rw [← HF6.out, if_pos (by rw [HRLN.out]; exact hbig)]; rfl)
                    go_wp2_with fail
                    refine (c2 93 _).mono ?_
                    rintro _ w4 ⟨rfl, hw⟩
                    replace hw := hw.symm
                    subst hw
                    go_wp2
                    exact rsp_fell (n := 93) _ HF7.out rfl rfl HRA9.out
                  · have d3 : decide ((rl : Int) ≤ 65536) = true := by simp; omega
                    have HF9 : Hid (R = .ok (st, reason, fs, rest)) := Lib.hid (by rw [← HF6.out, if_neg (by rw [HRLN.out]; exact hbig)]; rfl)
                    have HBY := Lib.hid (HATK.out w9 (HSP7.out.trans (HS8.out.mono (fun _ h => by cases h))))
                    have HNI : Hid ((some (⟨ax, ao', none⟩ : Addr)) = none → c' = 0) := Lib.hid (fun e => by cases e)
                    clear HFM HCL
                    go_wp2_with fail
                    refine (c1 93 _).mono ?_
                    rintro _ w4 ⟨rfl, hw⟩
                    replace hw := hw.symm
                    subst hw
                    have cC := copy_any rest (some ⟨ax, ao', none⟩) c' rl w9 HRLN.out.symm HBY.out HNI.out (by rw [HRLN.out]; omega)
                    go_wp2_with fail
                    refine cC.mono ?_
                    rintro _ w10 ⟨vb, rfl, hrow, hs10⟩
                    obtain ⟨ab', cb', hvb, _, _, _⟩ := hrow.shape
                    rw [HRLN.out] at hvb
                    subst hvb
                    have HRA10 := Lib.hid (HRA9.out.quiet hs10)
                    have hOW10 := hs10.own HOW9.out (fun _ _ h => h)
                    obtain ⟨_, _, _, y3⟩ := HRA10.out.cell
                    have f3 := HRA10.out.fz 3
                    have hlow9 : w.heap.size < (w9).heap.size := by have := HRA9.out.lt; omega
                    have HL9 : Hid (w.heap.size + 1 < (w9).heap.size) := Lib.hid HRA9.out.lt
                    obtain ⟨v11, hv11⟩ : ∃ v11, w10.setCell ⟨w.heap.size, 3, none⟩ (.slice ab' rl cb') = v11 := ⟨_, rfl⟩
                    have hRA11 : RspAt w (.int .i64 st) (.string S) (.slice fa k fc) (.slice ab' rl cb') v11 := by rw [← hv11]; exact HRA10.out.set 3 (.slice ab' rl cb') _ _ _ _ rfl
                    have HOW11 : Hid (v11.ownsRow w5.heap.size 59 2 (.slice fa k fc) fs.length (fieldCells fs)) := Lib.hid (by rw [← hv11]; exact own_set hOW10 hlow)
                    have HROW11 : Hid (Row8 (w9).heap.size v11 (.slice ab' rl cb') rest) := Lib.hid (by rw [← hv11]; exact own_set hrow hlow9)
                    have HSP11 := Lib.hid hRA11.sp
                    obtain ⟨v12, v14, hL⟩ := rsp_last hRA11
                    have HLS := Lib.hid hL
                    obtain ⟨k1, k2, ⟨k3, k4, k5, k6⟩, ⟨⟨_, k7⟩, ⟨k8, k9⟩, ⟨k10, k11⟩, ⟨k12, k13⟩⟩, ⟨k14, k15⟩, _, _, _⟩ := hL
                    clear hs10 hrow hOW10 hRA11 HRA9 HRA10 HOW9 cC
                    go_wp2
                    exact rsp_done _ HF9.out rfl rfl HLS.out HSS.out HOW11.out HL5.out HROW11.out HL9.out HSP11.out
end Go.Proofs.YtjpmofnnjdhamaaGreatDoor
namespace Go.Proofs.YtjpmofnnjdhamaaGreatDoor
open Go.RowKit HeadMath NormMath NormS HeadS ChunkMath HttpMath

def qM : Except Nat Req → ByteArray
  | .error _ => ⟨#[]⟩
  | .ok (m, _, _, _, _) => ba m
def qT : Except Nat Req → ByteArray
  | .error _ => ⟨#[]⟩
  | .ok (_, t, _, _, _) => ba t
def qF : Except Nat Req → Fs
  | .error _ => []
  | .ok (_, _, fs, _, _) => fs
def qB : Except Nat Req → Bs
  | .error _ => []
  | .ok (_, _, _, b, _) => b
def qN : Except Nat Req → Nat
  | .error _ => 0
  | .ok (_, _, _, _, n) => n
def qE : Except Nat Req → Nat
  | .error e => e
  | .ok _ => 0
def rN : Except Nat Rsp → Nat
  | .error _ => 0
  | .ok (n, _, _, _) => n
def rR : Except Nat Rsp → ByteArray
  | .error _ => ⟨#[]⟩
  | .ok (_, r, _, _) => ba r
def rF : Except Nat Rsp → Fs
  | .error _ => []
  | .ok (_, _, fs, _) => fs
def rB : Except Nat Rsp → Bs
  | .error _ => []
  | .ok (_, _, _, b) => b
def rE : Except Nat Rsp → Nat
  | .error e => e
  | .ok _ => 0
theorem req_shape {r : Except Nat Req} {w w' : World} {e : Ending} (h : ReqPost r w e w') : ∃ fa fc ab cb, e = .returned (.tuple #[.agg #[.string (qM r), .string (qT r), .slice fa (qF r).length fc, .slice ab (qB r).length cb], .int .i64 (qN r : Nat), .int .i64 (qE r : Nat)]) ∧ FieldsIn w'.heap.size w' fa (qF r) ∧ BytesAt w' ab (qB r) ∧ Spares nowhere w w' := by
  obtain ⟨h1, hs⟩ := h
  cases r with
  | error n => exact ⟨none, 0, none, 0, h1, fun j hj => absurd hj (Nat.not_lt_zero _), bytesAt_nil _ _, hs⟩
  | ok x =>
    obtain ⟨m, t, fs, body, n⟩ := x
    obtain ⟨vf, vb, he, hf, hb⟩ := h1
    obtain ⟨fa, fc, rfl, hfi⟩ := rowF_shape hf
    obtain ⟨ab, cb, rfl, hat, _, _⟩ := hb.shape
    exact ⟨fa, fc, ab, cb, he, hfi, hat, hs⟩
theorem rsp_shape {r : Except Nat Rsp} {w w' : World} {e : Ending} (h : RspPost r w e w') : ∃ fa fc ab cb, e = .returned (.tuple #[.agg #[.int .i64 (rN r : Nat), .string (rR r), .slice fa (rF r).length fc, .slice ab (rB r).length cb], .int .i64 (rE r : Nat)]) ∧ FieldsIn w'.heap.size w' fa (rF r) ∧ BytesAt w' ab (rB r) ∧ Spares nowhere w w' := by
  obtain ⟨h1, hs⟩ := h
  cases r with
  | error n => exact ⟨none, 0, none, 0, h1, fun j hj => absurd hj (Nat.not_lt_zero _), bytesAt_nil _ _, hs⟩
  | ok x =>
    obtain ⟨n, reason, fs, body⟩ := x
    obtain ⟨vf, vb, he, hf, hb⟩ := h1
    obtain ⟨fa, fc, rfl, hfi⟩ := rowF_shape hf
    obtain ⟨ab, cb, rfl, hat, _, _⟩ := hb.shape
    exact ⟨fa, fc, ab, cb, he, hfi, hat, hs⟩
def YesH (w : World) (e : Ending) (w' : World) : Prop := e = .returned (.bool true) ∧ Spares nowhere w w'
set_option maxRecDepth 100000 in
set_option maxHeartbeats 4000000 in
theorem helpReq_same (m t : ByteArray) (fs : Fs) (body : Bs) (fa fa' ab ab' : Option Addr) (fc fc' cb cb' fk bk : Nat) (w : World) (hfk : fs.length = fk) (hbk : body.length = bk) (h1 : FieldsIn w.heap.size w fa fs) (h2 : FieldsIn w.heap.size w fa' fs) (h3 : BytesAt w ab body) (h4 : BytesAt w ab' body) (hl : fs.length ≤ 1000000) :
    Calls Tryz.prog 21 #[.agg #[.string m, .string t, .slice fa fk fc, .slice ab bk cb], .agg #[.string m, .string t, .slice fa' fk fc', .slice ab' bk cb']] w (YesH w) := by
  have CF : Hid (∀ W, Spares nowhere w W → Calls Tryz.prog 48 #[.slice fa fk fc, .slice fa' fk fc'] W (Drew W (.bool true))) := Lib.hid (fun W hs => by
    rw [← hfk]
    exact fields_same fs fa fa' fc fc' W (FieldsIn.quiet h1 (Nat.le_refl _) hs hs.size) (FieldsIn.quiet h2 (Nat.le_refl _) hs hs.size) (by omega))
  have CB : Hid (∀ W, Spares nowhere w W → Calls Tryz.prog 12 #[.slice ab bk cb, .slice ab' bk cb'] W fun e w' => e = .returned (.bool true) ∧ W = w') := Lib.hid (fun W hs => by
    have h := bytes_any body body ab ab' cb cb' W (h3.spares' hs (fun _ _ _ _ h => h)) (h4.spares' hs (fun _ _ _ _ h => h))
    rw [hbk] at h
    simpa using h)
  unfold Drew at CF
  unfold YesH
  clear hfk hbk h1 h2 h3 h4 hl
  go_enter Tryz.func21, Tryz.ntmps21
  go_wp2_with fail
  refine (CF.out _ (((Spares.refl _ _).alloc _).alloc _)).mono ?_
  rintro _ w1 ⟨rfl, n, rfl⟩
  go_wp2_with fail
  refine (CB.out _ ((((Spares.refl _ _).alloc _).alloc _).drewN _)).mono ?_
  rintro _ w2 ⟨rfl, hw⟩
  subst hw
  go_wp2
  go_ret
  exact ⟨rfl, (((Spares.refl _ _).alloc _).alloc _).drewN _⟩
set_option maxRecDepth 100000 in
set_option maxHeartbeats 4000000 in
theorem helpRsp_same (st : Nat) (t : ByteArray) (fs : Fs) (body : Bs) (fa fa' ab ab' : Option Addr) (fc fc' cb cb' fk bk : Nat) (w : World) (hfk : fs.length = fk) (hbk : body.length = bk) (h1 : FieldsIn w.heap.size w fa fs) (h2 : FieldsIn w.heap.size w fa' fs) (h3 : BytesAt w ab body) (h4 : BytesAt w ab' body) (hl : fs.length ≤ 1000000) :
    Calls Tryz.prog 23 #[.agg #[.int .i64 st, .string t, .slice fa fk fc, .slice ab bk cb], .agg #[.int .i64 st, .string t, .slice fa' fk fc', .slice ab' bk cb']] w (YesH w) := by
  have CF : Hid (∀ W, Spares nowhere w W → Calls Tryz.prog 48 #[.slice fa fk fc, .slice fa' fk fc'] W (Drew W (.bool true))) := Lib.hid (fun W hs => by
    rw [← hfk]
    exact fields_same fs fa fa' fc fc' W (FieldsIn.quiet h1 (Nat.le_refl _) hs hs.size) (FieldsIn.quiet h2 (Nat.le_refl _) hs hs.size) (by omega))
  have CB : Hid (∀ W, Spares nowhere w W → Calls Tryz.prog 12 #[.slice ab bk cb, .slice ab' bk cb'] W fun e w' => e = .returned (.bool true) ∧ W = w') := Lib.hid (fun W hs => by
    have h := bytes_any body body ab ab' cb cb' W (h3.spares' hs (fun _ _ _ _ h => h)) (h4.spares' hs (fun _ _ _ _ h => h))
    rw [hbk] at h
    simpa using h)
  unfold Drew at CF
  unfold YesH
  clear hfk hbk h1 h2 h3 h4 hl
  go_enter Tryz.func23, Tryz.ntmps23
  go_wp2_with fail
  refine (CF.out _ (((Spares.refl _ _).alloc _).alloc _)).mono ?_
  rintro _ w1 ⟨rfl, n, rfl⟩
  go_wp2_with fail
  refine (CB.out _ ((((Spares.refl _ _).alloc _).alloc _).drewN _)).mono ?_
  rintro _ w2 ⟨rfl, hw⟩
  subst hw
  go_wp2
  go_ret
  exact ⟨rfl, (((Spares.refl _ _).alloc _).alloc _).drewN _⟩
end Go.Proofs.YtjpmofnnjdhamaaGreatDoor
