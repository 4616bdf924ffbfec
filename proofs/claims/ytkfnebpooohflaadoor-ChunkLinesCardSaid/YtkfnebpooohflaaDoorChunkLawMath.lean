/-
  Bodies in chunks, written and read: plain mathematics.
-/
import Derived.Test.YtkfnebpooohflaaDoorChunkOpen
import Derived.Test.YtkfnebpooohflaaDoorChunkReader
import Derived.Test.YtkfnebpooohflaaDoorChunkBytes
namespace Go.Proofs.YtkfnebpooohflaaDoor
open Go.RowKit HeadMath NormMath NormS HeadS ChunkMath

theorem hexD_of (k : Nat) (hk : k < 16) : hexB (hexD k) = true ∧ hexN (hexD k) = k ∧ plainC (hexD k) := by
  have H : ∀ k : Fin 16, hexB (hexD k.val) = true ∧ hexN (hexD k.val) = k.val ∧ (hexD k.val ≠ 13 ∧ hexD k.val ≠ 10) := by decide
  exact H ⟨k, hk⟩
theorem hexT_all (n : Nat) : ∀ c ∈ hexT n, hexB c = true ∧ plainC c := by
  induction n using Nat.strongRecOn with
  | _ n ih =>
    by_cases h : n < 16
    · rw [hexT_one h]
      intro c hc
      obtain rfl : c = hexD n := by simpa using hc
      have := hexD_of n h
      exact ⟨this.1, this.2.2⟩
    · rw [hexT_more h]
      intro c hc
      rcases List.mem_append.1 hc with hc | hc
      · exact ih (n / 16) (by omega) c hc
      · obtain rfl : c = hexD (n % 16) := by simpa using hc
        have := hexD_of (n % 16) (by omega)
        exact ⟨this.1, this.2.2⟩
theorem hexT_val (n : Nat) : valH (hexT n) = n := by
  induction n using Nat.strongRecOn with
  | _ n ih =>
    by_cases h : n < 16
    · rw [hexT_one h]
      have := (hexD_of n h).2.1
      show 16 * 0 + hexN (hexD n) = n
      omega
    · rw [hexT_more h, valH_snoc, ih (n / 16) (by omega), (hexD_of (n % 16) (by omega)).2.1]
      omega
theorem takeWhile_all {p : UInt8 → Bool} : ∀ {l : Bs}, (∀ c ∈ l, p c = true) → l.takeWhile p = l ∧ l.dropWhile p = []
  | [], _ => ⟨rfl, rfl⟩
  | c :: l, h => by
    have := takeWhile_all (l := l) (fun x hx => h x (by simp [hx]))
    simp only [List.takeWhile_cons, List.dropWhile_cons, h c (by simp), if_true]
    exact ⟨by rw [this.1], this.2⟩
theorem length_hexT (n : Nat) (hn : n < 4294967296) : lengthF (hexT n) = some n := by
  obtain ⟨h1, h2⟩ := takeWhile_all (p := hexB) (fun c hc => (hexT_all n c hc).1)
  have h3 := hexT_len 7 n (by rw [show (16 : Nat) ^ (7 + 1) = 4294967296 from by decide]; exact hn)
  have h4 := hexT_pos n
  unfold lengthF
  rw [h1, h2, if_neg (by omega), hexT_val]
  rfl
theorem line_hexT (n : Nat) (hn : n < 4294967296) (r : Bs) : lineF (hexT n ++ (crlf ++ r)) = .ok (hexT n, r) := by
  have h3 := hexT_len 7 n (by rw [show (16 : Nat) ^ (7 + 1) = 4294967296 from by decide]; exact hn)
  have := lineG_text (hexT n) [] r (fun c hc => (hexT_all n c hc).2) (by simp; omega)
  rwa [List.nil_append] at this
theorem chunkG_step {F : Bs → Bool} {f : Nat} {body d rest : Bs} (h0 : 0 < d.length) (hn : d.length < 4294967296) (hl : body.length + d.length ≤ 65536) : chunkG F (f + 1) body (hexT d.length ++ (crlf ++ (d ++ (crlf ++ rest)))) = chunkG F f (body ++ d) rest := by
  have h1 := line_hexT d.length hn (d ++ (crlf ++ rest))
  rw [chunkG_more h1 (length_hexT _ hn) (by omega) (by omega) (by simp), List.drop_left, List.take_left]
  exact restG_ok (show wantF 13 (13 :: 10 :: rest) = .ok (10 :: rest) from wantF_yes) (show wantF 10 (10 :: rest) = .ok rest from wantF_yes)
theorem chunkG_full {F : Bs → Bool} {f : Nat} {body d rest : Bs} (h0 : 0 < d.length) (hn : d.length < 4294967296) (hl : 65536 < body.length + d.length) : chunkG F (f + 1) body (hexT d.length ++ (crlf ++ (d ++ (crlf ++ rest)))) = .error 93 :=
  chunkG_long (line_hexT d.length hn (d ++ (crlf ++ rest))) (length_hexT _ hn) (by omega) hl
theorem chunkG_last {F : Bs → Bool} {f : Nat} {body rest : Bs} : chunkG F (f + 1) body (endB ++ rest) = .ok (body, rest) := by
  have h1 : lineF (endB ++ rest) = .ok ([48], 13 :: 10 :: rest) := rfl
  rw [chunkG_zero h1 (by rfl)]
  rw [trailG_end (show lineF (13 :: 10 :: rest) = .ok ([], rest) from rfl)]
/-- The chunks without the last one. -/
def preG (size : Nat) : Nat → Bs → Bs
  | 0, _ => []
  | f + 1, body => if body = [] then [] else hexT (min size body.length) ++ (crlf ++ (body.take size ++ (crlf ++ preG size f (body.drop size))))
theorem bytesG_pre (size : Nat) : ∀ (f : Nat) (body : Bs), bytesG size f body = preG size f body ++ endB
  | 0, _ => rfl
  | f + 1, body => by
    by_cases h : body = []
    · rw [bytesG, if_pos h, preG, if_pos h]; rfl
    · rw [bytesG, if_neg h, preG, if_neg h, bytesG_pre size f]
      simp only [List.append_assoc]
theorem preG_len (size : Nat) (hs : 1 ≤ size) : ∀ (f : Nat) (body : Bs), body.length ≤ f → body.length < 4294967296 → body.length ≤ (preG size f body).length ∧ (preG size f body).length ≤ 40 * body.length
  | 0, body, h, _ => by
    have : body = [] := List.eq_nil_of_length_eq_zero (by omega)
    rw [this]; simp [preG]
  | f + 1, body, h, hz => by
    by_cases hb : body = []
    · rw [hb]; simp [preG]
    · have hp := List.length_pos_iff.2 hb
      have h1 := preG_len size hs f (body.drop size) (by rw [List.length_drop]; omega) (by rw [List.length_drop]; omega)
      have h3 := hexT_len 7 (min size body.length) (by rw [show (16 : Nat) ^ (7 + 1) = 4294967296 from by decide]; omega)
      rw [preG, if_neg hb]
      simp only [List.length_append, List.length_take, List.length_drop] at h1 ⊢
      have h2 : crlf.length = 2 := rfl
      omega
/-- Chunks that fit, one behind another. -/
theorem pre_fits {F : Bs → Bool} (size : Nat) (hs : 1 ≤ size) (rest : Bs) : ∀ (g : Nat) (body acc : Bs) (f : Nat), body.length ≤ g → body.length ≤ f → acc.length + body.length ≤ 65536 → ∃ f', f - body.length ≤ f' ∧ chunkG F f acc (preG size g body ++ rest) = chunkG F f' (acc ++ body) rest
  | 0, body, acc, f, h, hf, _ => by
    have : body = [] := List.eq_nil_of_length_eq_zero (by omega)
    subst this
    exact ⟨f, by omega, by rw [List.append_nil]; rfl⟩
  | g + 1, body, acc, f, h, hf, hl => by
    by_cases hb : body = []
    · subst hb
      exact ⟨f, by omega, by rw [List.append_nil, preG, if_pos rfl]; rfl⟩
    · have hp := List.length_pos_iff.2 hb
      obtain ⟨f, rfl⟩ : ∃ k, f = k + 1 := ⟨f - 1, by omega⟩
      have htl : (body.take size).length = min size body.length := by rw [List.length_take]
      have hstep := chunkG_step (F := F) (f := f) (body := acc) (d := body.take size) (rest := preG size g (body.drop size) ++ rest) (by omega) (by omega) (by omega)
      rw [htl] at hstep
      obtain ⟨f', h1, h2⟩ := pre_fits size hs rest g (body.drop size) (acc ++ body.take size) f (by rw [List.length_drop]; omega) (by rw [List.length_drop]; omega) (by rw [List.length_append, List.length_drop]; omega)
      refine ⟨f', by rw [List.length_drop] at h1; omega, ?_⟩
      rw [preG, if_neg hb]
      simp only [List.append_assoc] at hstep h2 ⊢
      rw [hstep, h2, List.take_append_drop]
/-- Chunks that do not. -/
theorem pre_over {F : Bs → Bool} (size : Nat) (hs : 1 ≤ size) (rest : Bs) : ∀ (g : Nat) (body acc : Bs) (f : Nat), body.length ≤ g → body.length ≤ f → acc.length ≤ 65536 → body.length < 4294967296 → 65536 < acc.length + body.length → chunkG F f acc (preG size g body ++ rest) = .error 93
  | 0, body, acc, f, h, hf, h1, _, hl => by omega
  | g + 1, body, acc, f, h, hf, h1, hz, hl => by
    have hp : 0 < body.length := by omega
    have hb := List.length_pos_iff.1 hp
    obtain ⟨f, rfl⟩ : ∃ k, f = k + 1 := ⟨f - 1, by omega⟩
    have htl : (body.take size).length = min size body.length := by rw [List.length_take]
    rw [preG, if_neg hb]
    by_cases hfit : acc.length + min size body.length ≤ 65536
    · have hstep := chunkG_step (F := F) (f := f) (body := acc) (d := body.take size) (rest := preG size g (body.drop size) ++ rest) (by omega) (by omega) (by omega)
      rw [htl] at hstep
      have h2 := pre_over (F := F) size hs rest g (body.drop size) (acc ++ body.take size) f (by rw [List.length_drop]; omega) (by rw [List.length_drop]; omega) (by rw [List.length_append]; omega) (by rw [List.length_drop]; omega) (by rw [List.length_append, List.length_drop]; omega)
      simp only [List.append_assoc] at hstep ⊢
      rw [hstep, h2]
    · have hstep := chunkG_full (F := F) (f := f) (body := acc) (d := body.take size) (rest := preG size g (body.drop size) ++ rest) (by omega) (by omega) (by omega)
      rw [htl] at hstep
      simp only [List.append_assoc] at hstep ⊢
      exact hstep
theorem open_back {F : Bs → Bool} (size : Nat) (hs : 1 ≤ size) (body behind : Bs) (hl : body.length ≤ 65536) : openF F (bytesF size body ++ behind) = .ok (body, behind) := by
  have h0 := preG_len size hs body.length body (Nat.le_refl _) (by omega)
  unfold openF bytesF
  rw [bytesG_pre, List.append_assoc]
  obtain ⟨f', h1, h2⟩ := pre_fits (F := F) size hs (endB ++ behind) body.length body [] ((preG size body.length body ++ (endB ++ behind)).length + 1) (Nat.le_refl _) (by rw [List.length_append]; omega) (by simpa using hl)
  rw [h2]
  obtain ⟨k, rfl⟩ : ∃ k, f' = k + 1 := ⟨f' - 1, by rw [List.length_append] at h1; omega⟩
  rw [chunkG_last, List.nil_append]
theorem open_over {F : Bs → Bool} (size : Nat) (hs : 1 ≤ size) (body behind : Bs) (hl : 65536 < body.length) (hz : body.length < 4294967296) : openF F (bytesF size body ++ behind) = .error 93 := by
  have h0 := preG_len size hs body.length body (Nat.le_refl _) hz
  unfold openF bytesF
  rw [bytesG_pre, List.append_assoc]
  exact pre_over size hs (endB ++ behind) body.length body [] _ (Nat.le_refl _) (by rw [List.length_append]; omega) (by simp) hz (by simpa using hl)
theorem trailG_split {F : Bs → Bool} : ∀ (f n : Nat) (s r : Bs), trailG F f n s = .ok r → ∃ u, s = u ++ r ∧ ∀ k, k < u.length → ∀ f', trailG F f' n (s.take k) = .error 92
  | 0, n, s, r, h => by rw [trailG] at h; cases h
  | f + 1, n, s, r, h => by
    cases hl : lineF s with
    | error e => rw [trailG_line hl] at h; cases h
    | ok tr =>
      obtain ⟨t, r1⟩ := tr
      obtain ⟨u1, g1, g2, _, g4⟩ := lineG_split s [] t r1 hl
      have hcut : ∀ k, k < u1.length → ∀ f', trailG F f' n (s.take k) = .error 92 := fun k hk f' => by
        cases f' with
        | zero => rfl
        | succ f' => exact trailG_line ((g4 k).1 hk)
      by_cases ht : t = []
      · subst ht
        rw [trailG_end hl] at h
        injection h with h
        subst h
        exact ⟨u1, g1, hcut⟩
      · by_cases hb : F t = false ∨ n = 100
        · rw [trailG_bad hl ht hb] at h; cases h
        · rw [trailG_on hl ht hb] at h
          obtain ⟨u2, k1, k2⟩ := trailG_split f (n + 1) r1 r h
          refine ⟨u1 ++ u2, by rw [g1, k1, List.append_assoc], fun k hk f' => ?_⟩
          by_cases hlt : k < u1.length
          · exact hcut k hlt f'
          · cases f' with
            | zero => rfl
            | succ f' =>
              rw [trailG_on ((g4 k).2 (by omega)) ht hb]
              exact k2 (k - u1.length) (by rw [List.length_append] at hk; omega) f'
theorem wantF_ok {c : UInt8} {s r : Bs} (h : wantF c s = .ok r) : s = c :: r := by
  cases s with
  | nil => cases h
  | cons d t =>
    by_cases hd : d = c
    · subst hd; rw [wantF_yes] at h; injection h with h; subst h; rfl
    · rw [wantF_no hd] at h; cases h
/-- What is cut off within what was read isn't all there. -/
theorem chunkG_split {F : Bs → Bool} : ∀ (f : Nat) (body s b r : Bs), chunkG F f body s = .ok (b, r) → ∃ u, s = u ++ r ∧ ∀ k, k < u.length → ∀ f', chunkG F f' body (s.take k) = .error 92
  | 0, body, s, b, r, h => by rw [chunkG] at h; cases h
  | f + 1, body, s, b, r, h => by
    cases hl : lineF s with
    | error e => rw [chunkG_line hl] at h; cases h
    | ok tr =>
      obtain ⟨t, r1⟩ := tr
      obtain ⟨u1, g1, g2, _, g4⟩ := lineG_split s [] t r1 hl
      have hcut : ∀ k, k < u1.length → ∀ f', chunkG F f' body (s.take k) = .error 92 := fun k hk f' => by
        cases f' with
        | zero => rfl
        | succ f' => exact chunkG_line ((g4 k).1 hk)
      cases hn : lengthF t with
      | none => rw [chunkG_none hl hn] at h; cases h
      | some n =>
        by_cases h0 : n = 0
        · subst h0
          rw [chunkG_zero hl hn] at h
          cases ht : trailG F (r1.length + 1) 0 r1 with
          | error e => rw [ht] at h; cases h
          | ok r2 =>
            rw [ht] at h
            injection h with h
            injection h with h1 h2
            subst h1; subst h2
            obtain ⟨u2, k1, k2⟩ := trailG_split _ _ _ _ ht
            refine ⟨u1 ++ u2, by rw [g1, k1, List.append_assoc], fun k hk f' => ?_⟩
            by_cases hlt : k < u1.length
            · exact hcut k hlt f'
            · cases f' with
              | zero => rfl
              | succ f' =>
                rw [chunkG_zero ((g4 k).2 (by omega)) hn, k2 (k - u1.length) (by rw [List.length_append] at hk; omega)]
        · by_cases hbig : 65536 < body.length + n
          · rw [chunkG_long hl hn h0 hbig] at h; cases h
          · by_cases hsh : r1.length < n
            · rw [chunkG_short hl hn h0 hbig hsh] at h; cases h
            · rw [chunkG_more hl hn h0 hbig hsh] at h
              cases h13 : wantF 13 (r1.drop n) with
              | error e => rw [restG_one h13] at h; cases h
              | ok r2 =>
                cases h10 : wantF 10 r2 with
                | error e => rw [restG_two h13 h10] at h; cases h
                | ok r3 =>
                  rw [restG_ok h13 h10] at h
                  obtain ⟨u3, k1, k2⟩ := chunkG_split f _ _ _ _ h
                  have e1 := wantF_ok h13
                  have e2 := wantF_ok h10
                  subst e2
                  have e3 : r1 = r1.take n ++ 13 :: 10 :: r3 := by rw [← e1, List.take_append_drop]
                  have e4 : r1 = (r1.take n ++ 13 :: 10 :: u3) ++ r := e3.trans (by rw [k1]; simp)
                  refine ⟨u1 ++ (r1.take n ++ 13 :: 10 :: u3), by rw [g1, List.append_assoc]; exact congrArg (u1 ++ ·) e4, fun k hk f' => ?_⟩
                  by_cases hlt : k < u1.length
                  · exact hcut k hlt f'
                  · cases f' with
                    | zero => rfl
                    | succ f' =>
                      have hline := (g4 k).2 (by omega)
                      obtain ⟨j, hj⟩ : ∃ j, k - u1.length = j := ⟨_, rfl⟩
                      rw [hj] at hline
                      have htn : (r1.take n).length = n := by rw [List.length_take]; omega
                      simp only [List.length_append, List.length_cons] at hk
                      by_cases hjn : (r1.take j).length < n
                      · exact chunkG_short hline hn h0 hbig hjn
                      · have hjn' : n ≤ j := by rw [List.length_take] at hjn; omega
                        rw [chunkG_more hline hn h0 hbig hjn]
                        have hd : (r1.take j).drop n = (13 :: 10 :: r3).take (j - n) := by rw [List.drop_take, e1]
                        rw [hd]
                        match hm : j - n with
                        | 0 => exact restG_one rfl
                        | 1 => exact restG_two (r := []) (wantF_yes) rfl
                        | m + 2 =>
                          rw [List.take_succ_cons, List.take_succ_cons, restG_ok wantF_yes wantF_yes]
                          rw [List.take_take, Nat.min_eq_left hjn']
                          exact k2 m (by omega) f'
theorem open_cut {F : Bs → Bool} {s b r : Bs} (h : openF F s = .ok (b, r)) (k : Nat) (hk : k + r.length < s.length) : openF F (s.take k) = .error 92 := by
  obtain ⟨u, h1, h2⟩ := chunkG_split _ _ _ _ _ h
  have hl := congrArg List.length h1
  rw [List.length_append] at hl
  exact h2 k (by omega) _
end Go.Proofs.YtkfnebpooohflaaDoor
