/-
  Messages: what is cut off, and what stands behind. Plain mathematics.
  ambryhelp.LightQ: a request that may be asked.
-/
import Derived.Test.YtjpmofnnjdhamaaGreatDoorMg10
import Derived.Test.YtjpmofnnjdhamaaGreatDoorMg20
namespace Go.Proofs.YtjpmofnnjdhamaaGreatDoor
open Go.RowKit HeadMath NormMath NormS HeadS ChunkMath HttpMath

theorem trailG_split {F : Bs → Bool} : ∀ (f n : Nat) (s r : Bs), trailG F f n s = .ok r → ∃ u, s = u ++ r ∧ ∀ k, k < u.length → ∀ f', trailG F f' n (s.take k) = .error 92
  | 0, n, s, r, h => by rw [trailG] at h; cases h
  | f + 1, n, s, r, h => by
    cases hl : lineF s with
    | error e => rw [trailG_line hl] at h; cases h
    | ok tr =>
      obtain ⟨t, r1⟩ := tr
      obtain ⟨u1, g1, g2, _, g4⟩ := lineG_split s [] t r1 hl
      have hcut : ∀ k, k < u1.length → ∀ f', trailG F f' n (s.take k) = .error 92 := fun k hk f' => by
        cases f' with
        | zero => rfl
        | succ f' => exact trailG_line ((g4 k).1 hk)
      by_cases ht : t = []
      · subst ht
        rw [trailG_end hl] at h
        injection h with h
        subst h
        exact ⟨u1, g1, hcut⟩
      · by_cases hb : F t = false ∨ n = 100
        · rw [trailG_bad hl ht hb] at h; cases h
        · rw [trailG_on hl ht hb] at h
          obtain ⟨u2, k1, k2⟩ := trailG_split f (n + 1) r1 r h
          refine ⟨u1 ++ u2, by rw [g1, k1, List.append_assoc], fun k hk f' => ?_⟩
          by_cases hlt : k < u1.length
          · exact hcut k hlt f'
          · cases f' with
            | zero => rfl
            | succ f' =>
              rw [trailG_on ((g4 k).2 (by omega)) ht hb]
              exact k2 (k - u1.length) (by rw [List.length_append] at hk; omega) f'
theorem wantF_ok {c : UInt8} {s r : Bs} (h : wantF c s = .ok r) : s = c :: r := by
  cases s with
  | nil => cases h
  | cons d t =>
    by_cases hd : d = c
    · subst hd; rw [wantF_yes] at h; injection h with h; subst h; rfl
    · rw [wantF_no hd] at h; cases h
/-- What is cut off within what was read isn't all there. -/
theorem chunkG_split {F : Bs → Bool} : ∀ (f : Nat) (body s b r : Bs), chunkG F f body s = .ok (b, r) → ∃ u, s = u ++ r ∧ ∀ k, k < u.length → ∀ f', chunkG F f' body (s.take k) = .error 92
  | 0, body, s, b, r, h => by rw [chunkG] at h; cases h
  | f + 1, body, s, b, r, h => by
    cases hl : lineF s with
    | error e => rw [chunkG_line hl] at h; cases h
    | ok tr =>
      obtain ⟨t, r1⟩ := tr
      obtain ⟨u1, g1, g2, _, g4⟩ := lineG_split s [] t r1 hl
      have hcut : ∀ k, k < u1.length → ∀ f', chunkG F f' body (s.take k) = .error 92 := fun k hk f' => by
        cases f' with
        | zero => rfl
        | succ f' => exact chunkG_line ((g4 k).1 hk)
      cases hn : lengthF t with
      | none => rw [chunkG_none hl hn] at h; cases h
      | some n =>
        by_cases h0 : n = 0
        · subst h0
          rw [chunkG_zero hl hn] at h
          cases ht : trailG F (r1.length + 1) 0 r1 with
          | error e => rw [ht] at h; cases h
          | ok r2 =>
            rw [ht] at h
            injection h with h
            injection h with h1 h2
            subst h1; subst h2
            obtain ⟨u2, k1, k2⟩ := trailG_split _ _ _ _ ht
            refine ⟨u1 ++ u2, by rw [g1, k1, List.append_assoc], fun k hk f' => ?_⟩
            by_cases hlt : k < u1.length
            · exact hcut k hlt f'
            · cases f' with
              | zero => rfl
              | succ f' =>
                rw [chunkG_zero ((g4 k).2 (by omega)) hn, k2 (k - u1.length) (by rw [List.length_append] at hk; omega)]
        · by_cases hbig : 65536 < body.length + n
          · rw [chunkG_long hl hn h0 hbig] at h; cases h
          · by_cases hsh : r1.length < n
            · rw [chunkG_short hl hn h0 hbig hsh] at h; cases h
            · rw [chunkG_more hl hn h0 hbig hsh] at h
              cases h13 : wantF 13 (r1.drop n) with
              | error e => rw [restG_one h13] at h; cases h
              | ok r2 =>
                cases h10 : wantF 10 r2 with
                | error e => rw [restG_two h13 h10] at h; cases h
                | ok r3 =>
                  rw [restG_ok h13 h10] at h
                  obtain ⟨u3, k1, k2⟩ := chunkG_split f _ _ _ _ h
                  have e1 := wantF_ok h13
                  have e2 := wantF_ok h10
                  subst e2
                  have e3 : r1 = r1.take n ++ 13 :: 10 :: r3 := by rw [← e1, List.take_append_drop]
                  have e4 : r1 = (r1.take n ++ 13 :: 10 :: u3) ++ r := e3.trans (by rw [k1]; simp)
                  refine ⟨u1 ++ (r1.take n ++ 13 :: 10 :: u3), by rw [g1, List.append_assoc]; exact congrArg (u1 ++ ·) e4, fun k hk f' => ?_⟩
                  by_cases hlt : k < u1.length
                  · exact hcut k hlt f'
                  · cases f' with
                    | zero => rfl
                    | succ f' =>
                      have hline := (g4 k).2 (by omega)
                      obtain ⟨j, hj⟩ : ∃ j, k - u1.length = j := ⟨_, rfl⟩
                      rw [hj] at hline
                      have htn : (r1.take n).length = n := by rw [List.length_take]; omega
                      simp only [List.length_append, List.length_cons] at hk
                      by_cases hjn : (r1.take j).length < n
                      · exact chunkG_short hline hn h0 hbig hjn
                      · have hjn' : n ≤ j := by rw [List.length_take] at hjn; omega
                        rw [chunkG_more hline hn h0 hbig hjn]
                        have hd : (r1.take j).drop n = (13 :: 10 :: r3).take (j - n) := by rw [List.drop_take, e1]
                        rw [hd]
                        match hm : j - n with
                        | 0 => exact restG_one rfl
                        | 1 => exact restG_two (r := []) (wantF_yes) rfl
                        | m + 2 =>
                          rw [List.take_succ_cons, List.take_succ_cons, restG_ok wantF_yes wantF_yes]
                          rw [List.take_take, Nat.min_eq_left hjn']
                          exact k2 m (by omega) f'
theorem open_cut {F : Bs → Bool} {s b r : Bs} (h : openF F s = .ok (b, r)) (k : Nat) (hk : k + r.length < s.length) : openF F (s.take k) = .error 92 := by
  obtain ⟨u, h1, h2⟩ := chunkG_split _ _ _ _ _ h
  have hl := congrArg List.length h1
  rw [List.length_append] at hl
  exact h2 k (by omega) _
theorem lineG_more : ∀ (s acc t r x : Bs), lineG acc s = .ok (t, r) → lineG acc (s ++ x) = .ok (t, r ++ x)
  | [], acc, t, r, x, h => by rw [lineG] at h; cases h
  | c :: s, acc, t, r, x, h => by
    by_cases h13 : c = 13
    · subst h13
      cases s with
      | nil => rw [lineG_cr] at h; cases h
      | cons d s =>
        by_cases h10 : d = 10
        · subst h10
          rw [lineG_end] at h
          injection h with h
          injection h with h1 h2
          subst h1; subst h2
          exact lineG_end
        · rw [lineG_bad h10] at h; cases h
    · by_cases hb : c = 10 ∨ 1024 ≤ acc.length
      · rw [lineG, if_neg h13, if_pos hb] at h; cases h
      · have hp : plainC c := ⟨h13, fun e => hb (.inl e)⟩
        have hl : acc.length < 1024 := by omega
        rw [lineG_plain hp hl] at h
        rw [List.cons_append, lineG_plain hp hl]
        exact lineG_more s _ t r x h
theorem trailG_more {F : Bs → Bool} (x : Bs) : ∀ (f n : Nat) (s r : Bs) (f' : Nat), f ≤ f' → trailG F f n s = .ok r → trailG F f' n (s ++ x) = .ok (r ++ x)
  | 0, n, s, r, f', _, h => by rw [trailG] at h; cases h
  | f + 1, n, s, r, f', hf, h => by
    obtain ⟨g, rfl⟩ : ∃ g, f' = g + 1 := ⟨f' - 1, by omega⟩
    cases hl : lineF s with
    | error e => rw [trailG_line hl] at h; cases h
    | ok tr =>
      obtain ⟨t, r1⟩ := tr
      have hl2 : lineF (s ++ x) = .ok (t, r1 ++ x) := lineG_more s [] t r1 x hl
      by_cases ht : t = []
      · subst ht
        rw [trailG_end hl] at h
        injection h with h
        subst h
        exact trailG_end hl2
      · by_cases hb : F t = false ∨ n = 100
        · rw [trailG_bad hl ht hb] at h; cases h
        · rw [trailG_on hl ht hb] at h
          rw [trailG_on hl2 ht hb]
          exact trailG_more x f (n + 1) r1 r g (by omega) h
theorem chunkG_morex {F : Bs → Bool} (x : Bs) : ∀ (f : Nat) (body s b r : Bs) (f' : Nat), f ≤ f' → chunkG F f body s = .ok (b, r) → chunkG F f' body (s ++ x) = .ok (b, r ++ x)
  | 0, body, s, b, r, f', _, h => by rw [chunkG] at h; cases h
  | f + 1, body, s, b, r, f', hf, h => by
    obtain ⟨g, rfl⟩ : ∃ g, f' = g + 1 := ⟨f' - 1, by omega⟩
    cases hl : lineF s with
    | error e => rw [chunkG_line hl] at h; cases h
    | ok tr =>
      obtain ⟨t, r1⟩ := tr
      have hl2 : lineF (s ++ x) = .ok (t, r1 ++ x) := lineG_more s [] t r1 x hl
      cases hn : lengthF t with
      | none => rw [chunkG_none hl hn] at h; cases h
      | some n =>
        by_cases h0 : n = 0
        · subst h0
          rw [chunkG_zero hl hn] at h
          rw [chunkG_zero hl2 hn]
          cases ht : trailG F (r1.length + 1) 0 r1 with
          | error e => rw [ht] at h; cases h
          | ok r2 =>
            rw [ht] at h
            injection h with h
            injection h with h1 h2
            subst h1; subst h2
            rw [trailG_more x _ _ _ _ ((r1 ++ x).length + 1) (by rw [List.length_append]; omega) ht]
        · by_cases hbig : 65536 < body.length + n
          · rw [chunkG_long hl hn h0 hbig] at h; cases h
          · by_cases hsh : r1.length < n
            · rw [chunkG_short hl hn h0 hbig hsh] at h; cases h
            · rw [chunkG_more hl hn h0 hbig hsh] at h
              rw [chunkG_more hl2 hn h0 hbig (by rw [List.length_append]; omega)]
              cases h13 : wantF 13 (r1.drop n) with
              | error e => rw [restG_one h13] at h; cases h
              | ok r2 =>
                cases h10 : wantF 10 r2 with
                | error e => rw [restG_two h13 h10] at h; cases h
                | ok r3 =>
                  rw [restG_ok h13 h10] at h
                  have e1 := wantF_ok h13
                  have e2 := wantF_ok h10
                  subst e2
                  have d1 : (r1 ++ x).drop n = 13 :: 10 :: (r3 ++ x) := by
                    rw [List.drop_append_of_le_length (by omega), e1]; rfl
                  have t1 : (r1 ++ x).take n = r1.take n := List.take_append_of_le_length (by omega)
                  rw [d1, t1, restG_ok wantF_yes wantF_yes]
                  exact chunkG_morex x f _ _ _ _ g (by omega) h
theorem open_more {F : Bs → Bool} {s b r : Bs} (h : openF F s = .ok (b, r)) (x : Bs) : openF F (s ++ x) = .ok (b, r ++ x) := by
  unfold openF at h ⊢
  exact chunkG_morex x _ _ _ _ _ _ (by rw [List.length_append]; omega) h
theorem chunkF_ok {rest body : Bs} {sz : Nat} (h : chunkF rest = .ok (body, sz)) : ∃ s, openF fieldB rest = .ok (body, s) ∧ sz = rest.length - s.length := by
  unfold chunkF at h
  cases ho : openF fieldB rest with
  | error e => rw [ho] at h; cases h
  | ok bs =>
    obtain ⟨b, s⟩ := bs
    rw [ho] at h
    injection h with h
    injection h with h1 h2
    subst h1
    exact ⟨s, rfl, h2.symm⟩
theorem lengthR_ok {r : Except Nat Nat} {rest body : Bs} {sz : Nat} (h : lengthR r rest = .ok (body, sz)) : r = .ok sz ∧ sz ≤ 65536 ∧ sz ≤ rest.length ∧ body = rest.take sz := by
  cases r with
  | error e => cases h
  | ok n =>
    unfold lengthR at h
    simp only at h
    split at h
    · cases h
    · split at h
      · cases h
      · injection h with h
        injection h with h1 h2
        subst h2
        exact ⟨rfl, by omega, by omega, h1.symm⟩
theorem framed_more {fs : Fs} {rest body : Bs} {sz : Nat} (h : framedF fs rest = .ok (body, sz)) (x : Bs) : framedF fs (rest ++ x) = .ok (body, sz) := by
  unfold framedF at h ⊢
  by_cases h1 : (allF nTE fs).length = 0
  · rw [if_pos h1] at h ⊢
    obtain ⟨a1, a2, a3, a4⟩ := lengthR_ok h
    rw [a1]
    unfold lengthR
    simp only
    rw [if_neg (by omega), if_neg (by rw [List.length_append]; omega), a4, List.take_append_of_le_length a3]
  · rw [if_neg h1] at h ⊢
    by_cases h2 : onlyF (allF nTE fs) = true ∧ getF nCL fs = none
    · rw [if_pos h2] at h ⊢
      obtain ⟨s, ho, hs⟩ := chunkF_ok h
      have := open_more ho x
      unfold chunkF
      rw [this]
      simp only [List.length_append]
      rw [hs]
      congr 2
      omega
    · rw [if_neg h2] at h; cases h
theorem framed_cut {fs : Fs} {rest body : Bs} (h : framedF fs rest = .ok (body, rest.length)) (j : Nat) (hj : j < rest.length) : framedF fs (rest.take j) = .error 92 := by
  unfold framedF at h ⊢
  by_cases h1 : (allF nTE fs).length = 0
  · rw [if_pos h1] at h ⊢
    obtain ⟨a1, a2, a3, a4⟩ := lengthR_ok h
    rw [a1]
    unfold lengthR
    simp only
    rw [if_neg (by omega), if_pos (by rw [List.length_take]; omega)]
  · rw [if_neg h1] at h ⊢
    by_cases h2 : onlyF (allF nTE fs) = true ∧ getF nCL fs = none
    · rw [if_pos h2] at h ⊢
      obtain ⟨s, ho, hs⟩ := chunkF_ok h
      have hs0 : s.length = 0 := by omega
      have := open_cut ho j (by omega)
      unfold chunkF
      rw [this]
    · rw [if_neg h2] at h; cases h
/-- What a request that was read is made of. -/
theorem request_parts {b m t body : Bs} {fs : Fs} {n : Nat} (h : requestF b = .ok (m, t, fs, body, n)) : ∃ l0 ls rest sz, headF b = .ok (l0 :: ls, rest) ∧ firstF l0 = some (m, t) ∧ fieldsF ls = .ok fs ∧ (allF nHost fs).length = 1 ∧ framedF fs rest = .ok (body, sz) ∧ n = b.length - rest.length + sz := by
  unfold requestF at h
  cases hH : headF b with
  | error e => rw [hH] at h; cases h
  | ok lr =>
    obtain ⟨ls, rest⟩ := lr
    rw [hH] at h
    cases ls with
    | nil => cases h
    | cons l0 ls =>
      replace h : reqL b l0 ls rest = .ok (m, t, fs, body, n) := h
      unfold reqL at h
      cases h1 : firstF l0 with
      | none => rw [h1] at h; cases h
      | some mt =>
        obtain ⟨m', t'⟩ := mt
        rw [h1] at h
        replace h : reqH m' t' b rest (fieldsF ls) = .ok (m, t, fs, body, n) := h
        cases h2 : fieldsF ls with
        | error e => rw [h2] at h; cases h
        | ok fs' =>
          rw [h2] at h
          replace h : (if (allF nHost fs').length = 1 then reqB m' t' fs' b rest (framedF fs' rest) else .error 90) = .ok (m, t, fs, body, n) := h
          split at h
          · rename_i h3
            cases h4 : framedF fs' rest with
            | error e => rw [h4] at h; cases h
            | ok bz =>
              obtain ⟨body', sz⟩ := bz
              rw [h4] at h
              injection h with h
              injection h with e1 h
              injection h with e2 h
              injection h with e3 h
              injection h with e4 e5
              subst e1; subst e2; subst e3; subst e4
              exact ⟨l0, ls, rest, sz, rfl, h1, h2, h3, h4, e5.symm⟩
          · cases h
theorem request_of {b m t rest : Bs} {l0 : Bs} {ls : List Bs} {fs : Fs} (hH : headF b = .ok (l0 :: ls, rest)) (h1 : firstF l0 = some (m, t)) (h2 : fieldsF ls = .ok fs) (h3 : (allF nHost fs).length = 1) : requestF b = reqB m t fs b rest (framedF fs rest) := by
  unfold requestF
  rw [hH]
  show reqL b l0 ls rest = _
  unfold reqL
  rw [h1, h2]
  show (if (allF nHost fs).length = 1 then reqB m t fs b rest (framedF fs rest) else .error 90) = _
  rw [if_pos h3]
/-- What stands behind a request says nothing. -/
theorem request_more {b m t body : Bs} {fs : Fs} {n : Nat} (h : requestF b = .ok (m, t, fs, body, n)) (x : Bs) : requestF (b ++ x) = .ok (m, t, fs, body, n) := by
  obtain ⟨l0, ls, rest, sz, hH, h1, h2, h3, h4, h5⟩ := request_parts h
  obtain ⟨p, hb, _, _, hp⟩ := headF_split hH
  have hH2 : headF (b ++ x) = .ok (l0 :: ls, rest ++ x) := by rw [hb, List.append_assoc]; exact hp _
  rw [request_of hH2 h1 h2 h3, framed_more h4 x]
  unfold reqB
  simp only [List.length_append]
  have := (cuts_lines hH).2.2.2
  rw [h5]
  congr 5
  omega
/-- A request that is cut off anywhere isn't all there yet. -/
theorem request_cut {b m t body : Bs} {fs : Fs} (h : requestF b = .ok (m, t, fs, body, b.length)) (k : Nat) (hk : k < b.length) : requestF (b.take k) = .error 92 := by
  obtain ⟨l0, ls, rest, sz, hH, h1, h2, h3, h4, h5⟩ := request_parts h
  have hl := (cuts_lines hH).2.2.2
  obtain rfl : sz = rest.length := by omega
  by_cases hc : k + rest.length < b.length
  · have := headF_cut hH k hc
    unfold requestF
    rw [this]
    rfl
  · obtain ⟨p, hb, _, _, hp⟩ := headF_split hH
    have hbl := congrArg List.length hb
    rw [List.length_append] at hbl
    have e : b.take k = p ++ rest.take (k - p.length) := by
      conv => lhs; rw [hb]
      rw [List.take_append, List.take_of_length_le (by omega)]
    have hH2 : headF (b.take k) = .ok (l0 :: ls, rest.take (k - p.length)) := by rw [e]; exact hp _
    rw [request_of hH2 h1 h2 h3, framed_cut h4 _ (by omega)]
    rfl
end Go.Proofs.YtjpmofnnjdhamaaGreatDoor
namespace Go.Proofs.YtjpmofnnjdhamaaGreatDoor
open Go.RowKit HeadMath NormMath NormS HeadS ChunkMath HttpMath

def fewF (fs : List (ByteArray × ByteArray)) : Prop := fs.length ≤ 15 ∧ ∀ j (h : j < fs.length), (fs[j]).1.size ≤ 300 ∧ (fs[j]).2.size ≤ 300
theorem fewF.small {fs : Fs} (h : fewF fs) : SmallF fs := fun j hj => by have := h.2 j hj; omega
def reqG (m t : ByteArray) (f b : Value) : Value := .agg #[.string m, .string t, f, b]
def rspG (n : Int) (r : ByteArray) (f b : Value) : Value := .agg #[.int .i64 n, .string r, f, b]
def LitQ (m t : ByteArray) (fs : List (ByteArray × ByteArray)) (bn : Nat) (w : World) (e : Ending) (w' : World) : Prop :=
  ∃ b, e = .returned (.bool b) ∧ Below w.heap.size w w' ∧ (b = true → m.size ≤ 100 ∧ t.size ≤ 300 ∧ fewF fs ∧ bn ≤ 1000)
set_option maxRecDepth 100000 in
set_option maxHeartbeats 4000000 in
theorem lightQ_any (m t : ByteArray) (fa : Option Addr) (fc : Nat) (fs : List (ByteArray × ByteArray)) (ba : Option Addr) (bn bc : Nat) (w : World)
    (hin : FieldsIn w.heap.size w fa fs) (hl : fs.length < 9223372036854775808) (hsz : ∀ j (h : j < fs.length), (fs[j]).1.size ≤ 9223372036854775807 ∧ (fs[j]).2.size ≤ 9223372036854775807) (hbn : bn < 9223372036854775808) (hm : m.size ≤ 9223372036854775807) (ht : t.size ≤ 9223372036854775807) :
    Calls Tryz.prog 10 #[reqG m t (.slice fa fs.length fc) (.slice ba bn bc)] w (LitQ m t fs bn w) := by
  obtain ⟨w0, hw0⟩ : ∃ w0, w.alloc (.cells #[.string m, .string t, .slice fa fs.length fc, .slice ba bn bc] 25) = w0 := ⟨_, rfl⟩
  have hs0 : Spares nowhere w w0 := by rw [← hw0]; exact (Spares.refl nowhere w).alloc _
  have hb0 : Below w.heap.size w w0 := hs0.below0
  have HIN : Hid (FieldsIn w0.heap.size w0 fa fs) := Lib.hid (FieldsIn.quiet hin (Nat.le_refl _) hs0 hs0.size)
  have HW0 := Lib.hid hw0
  have HB0 := Lib.hid hb0
  have HSZ := Lib.hid hsz
  have HL := Lib.hid hl
  clear hin hw0 hb0 hsz hs0 hl
  unfold reqG
  have hno : ∀ w', Below w.heap.size w w' → LitQ m t fs bn w (.returned (.bool false)) w' := fun _ h => ⟨false, rfl, h, fun h => by cases h⟩
  have HNO := Lib.hid hno
  clear hno
  by_cases h1 : m.size ≤ 100
  · by_cases h2 : t.size ≤ 300
    · have H12 := Lib.hid (And.intro h1 h2)
      go_enter Tryz.func10, Tryz.ntmps10
      go_wp2_with fail
      change Calls _ _ _ (w.alloc (.cells #[.string m, .string t, .slice fa fs.length fc, .slice ba bn bc] 25)) _
      rw [HW0.out]
      refine (HeadS.light_any fs fa fc fs.length 15 w0 HIN.out rfl HL.out (by decide) HSZ.out).mono ?_
      rintro e w1 ⟨b, rfl, rfl, hb⟩
      obtain ⟨b2, hb2⟩ : ∃ b2, b = b2 := ⟨_, rfl⟩
      have HFF : Hid (b2 = true → fewF fs) := Lib.hid (fun h => hb (hb2.trans h))
      have HB2 := Lib.hid hb2
      clear hb2
      clear hb
      have q3 : w1.cell? ⟨w.heap.size, 3, none⟩ = some (.slice ba bn bc) := by rw [← HW0.out]; simp [go_sem]
      cases b with
      | false =>
        clear q3
        go_wp2
        go_ret
        exact HNO.out _ HB0.out
      | true =>
        go_wp2
        go_ret
        exact ⟨_, rfl, HB0.out, fun h => ⟨H12.out.1, H12.out.2, HFF.out HB2.out.symm, by have := of_decide_eq_true h; omega⟩⟩
    · go_enter Tryz.func10, Tryz.ntmps10
      go_wp2
      go_ret
      exact HNO.out _ (by have := HB0.out; rw [← HW0.out] at this; exact this)
  · go_enter Tryz.func10, Tryz.ntmps10
    go_wp2
    go_ret
    exact HNO.out _ (by have := HB0.out; rw [← HW0.out] at this; exact this)
def LitR (_ : Int) (t : ByteArray) (fs : List (ByteArray × ByteArray)) (bn : Nat) (w : World) (e : Ending) (w' : World) : Prop :=
  ∃ b, e = .returned (.bool b) ∧ Below w.heap.size w w' ∧ (b = true → t.size ≤ 100 ∧ fewF fs ∧ bn ≤ 1000)
set_option maxRecDepth 100000 in
set_option maxHeartbeats 4000000 in
theorem lightR_any (n : Int) (t : ByteArray) (fa : Option Addr) (fc : Nat) (fs : List (ByteArray × ByteArray)) (ba : Option Addr) (bn bc : Nat) (w : World)
    (hin : FieldsIn w.heap.size w fa fs) (hl : fs.length < 9223372036854775808) (hsz : ∀ j (h : j < fs.length), (fs[j]).1.size ≤ 9223372036854775807 ∧ (fs[j]).2.size ≤ 9223372036854775807) (hbn : bn < 9223372036854775808) (ht : t.size ≤ 9223372036854775807) :
    Calls Tryz.prog 11 #[rspG n t (.slice fa fs.length fc) (.slice ba bn bc)] w (LitR n t fs bn w) := by
  obtain ⟨w0, hw0⟩ : ∃ w0, w.alloc (.cells #[.int .i64 n, .string t, .slice fa fs.length fc, .slice ba bn bc] 27) = w0 := ⟨_, rfl⟩
  have hs0 : Spares nowhere w w0 := by rw [← hw0]; exact (Spares.refl nowhere w).alloc _
  have hb0 : Below w.heap.size w w0 := hs0.below0
  have HIN : Hid (FieldsIn w0.heap.size w0 fa fs) := Lib.hid (FieldsIn.quiet hin (Nat.le_refl _) hs0 hs0.size)
  have HW0 := Lib.hid hw0
  have HB0 := Lib.hid hb0
  have HSZ := Lib.hid hsz
  have HL := Lib.hid hl
  clear hin hw0 hb0 hsz hs0 hl
  unfold rspG
  have hno : ∀ w', Below w.heap.size w w' → LitR n t fs bn w (.returned (.bool false)) w' := fun _ h => ⟨false, rfl, h, fun h => by cases h⟩
  have HNO := Lib.hid hno
  clear hno
  by_cases h2 : t.size ≤ 100
  · have H12 := Lib.hid h2
    go_enter Tryz.func11, Tryz.ntmps11
    go_wp2_with fail
    change Calls _ _ _ (w.alloc (.cells #[.int .i64 n, .string t, .slice fa fs.length fc, .slice ba bn bc] 27)) _
    rw [HW0.out]
    refine (HeadS.light_any fs fa fc fs.length 15 w0 HIN.out rfl HL.out (by decide) HSZ.out).mono ?_
    rintro e w1 ⟨b, rfl, rfl, hb⟩
    obtain ⟨b2, hb2⟩ : ∃ b2, b = b2 := ⟨_, rfl⟩
    have HFF : Hid (b2 = true → fewF fs) := Lib.hid (fun h => hb (hb2.trans h))
    have HB2 := Lib.hid hb2
    clear hb2
    clear hb
    have q3 : w1.cell? ⟨w.heap.size, 3, none⟩ = some (.slice ba bn bc) := by rw [← HW0.out]; simp [go_sem]
    cases b with
    | false =>
      clear q3
      go_wp2
      go_ret
      exact HNO.out _ HB0.out
    | true =>
      go_wp2
      go_ret
      exact ⟨_, rfl, HB0.out, fun h => ⟨H12.out, HFF.out HB2.out.symm, by have := of_decide_eq_true h; omega⟩⟩
  · go_enter Tryz.func11, Tryz.ntmps11
    go_wp2
    go_ret
    exact HNO.out _ (by have := HB0.out; rw [← HW0.out] at this; exact this)
end Go.Proofs.YtjpmofnnjdhamaaGreatDoor
