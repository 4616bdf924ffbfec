/-
  Messages: what is read of them, as plain functions.
  http's small functions: demand, has, fields, isTarget, Bodiless.
  The reference's words: mathematics.
-/
import Derived.Test.YtjpmofnnjdhamaaGreatDoorShelf
import Derived.LoopTactic
import Derived.WalkSpells
import Derived.BigQuiet
import Derived.Test.YtjpmofnnjdhamaaGreatDoorMg1
import Derived.Test.YtjpmofnnjdhamaaGreatDoorMg6
import Derived.Test.YtjpmofnnjdhamaaGreatDoorMg8
import Derived.Test.YtjpmofnnjdhamaaGreatDoorMg10
import Derived.Test.YtjpmofnnjdhamaaGreatDoorMg14
namespace Go.Proofs.YtjpmofnnjdhamaaGreatDoor
open Go.RowKit HeadMath NormMath NormS HeadS ChunkMath HttpMath

def http11 : Bs := [72, 84, 84, 80, 47, 49, 46, 49]
def nHost : ByteArray := ⟨#[72, 111, 115, 116]⟩
def nTE : ByteArray := ⟨#[84, 114, 97, 110, 115, 102, 101, 114, 45, 69, 110, 99, 111, 100, 105, 110, 103]⟩
def nCL : ByteArray := ⟨#[67, 111, 110, 116, 101, 110, 116, 45, 76, 101, 110, 103, 116, 104]⟩
def chunkedB : ByteArray := ⟨#[99, 104, 117, 110, 107, 101, 100]⟩
def headM : ByteArray := ⟨#[72, 69, 65, 68]⟩
def targetB (c : UInt8) : Bool := decide (33 ≤ c.toNat ∧ c.toNat ≤ 126)
def targetF (t : Bs) : Bool := t.all targetB && [47].isPrefixOf t
def firstL (L : List Bs) : Option (Bs × Bs) := match L with
  | [m, t, v] => if (tokenF m && targetF t && v == http11) = true then some (m, t) else none
  | _ => none
/-- A request's first line. -/
def firstF (s : Bs) : Option (Bs × Bs) := firstL (cuts [32] s)
def codeOf (r : Bs) : Bs := if Lib.indexByte r 32 < 0 then r else r.take (Lib.indexByte r 32).toNat
def reasonOf (r : Bs) : Bs := if Lib.indexByte r 32 < 0 then [] else r.drop ((Lib.indexByte r 32).toNat + 1)
def codeF (code reason : Bs) : Option (Nat × Bs) := match DateMath.numF code 3 with
  | none => none
  | some n => if code.length = 3 ∧ 200 ≤ n ∧ n ≤ 599 ∧ reason.all textB = true then some (n, reason) else none
/-- A response's first line. -/
def statusF (s : Bs) : Option (Nat × Bs) := if (http11 ++ [32]).isPrefixOf s = true then codeF (codeOf (s.drop 9)) (reasonOf (s.drop 9)) else none
def fieldsF (ls : List Bs) : Except Nat Fs := if 100 < ls.length then .error 91 else match parseF (ls.map ba) with
  | none => .error 90
  | some fs => .ok fs
def sizeL (L : List ByteArray) : Except Nat Nat := match L with
  | [] => .ok 0
  | x :: r => if r.all (fun y => y.data.toList == x.data.toList) = true then (match DateMath.numF x.data.toList 18 with
    | none => .error 94
    | some n => .ok n) else .error 94
/-- The length that is said. -/
def sizeF (fs : Fs) : Except Nat Nat := sizeL (listF nCL fs)
def onlyF (L : List ByteArray) : Bool := match L with
  | [x] => sameF x.data.toList chunkedB.data.toList
  | _ => false
def chunkF (rest : Bs) : Except Nat (Bs × Nat) := match openF fieldB rest with
  | .error e => .error e
  | .ok (body, s) => .ok (body, rest.length - s.length)
def lengthR (r : Except Nat Nat) (rest : Bs) : Except Nat (Bs × Nat) := match r with
  | .error e => .error e
  | .ok n => if 65536 < n then .error 93 else if rest.length < n then .error 92 else .ok (rest.take n, n)
/-- The body as its fields frame it. -/
def framedF (fs : Fs) (rest : Bs) : Except Nat (Bs × Nat) :=
  if (allF nTE fs).length = 0 then lengthR (sizeF fs) rest
  else if onlyF (allF nTE fs) = true ∧ getF nCL fs = none then chunkF rest else .error 94
abbrev Req := Bs × Bs × Fs × Bs × Nat
def reqB (m t : Bs) (fs : Fs) (b rest : Bs) (r : Except Nat (Bs × Nat)) : Except Nat Req := match r with
  | .error e => .error e
  | .ok (body, n) => .ok (m, t, fs, body, b.length - rest.length + n)
def reqH (m t : Bs) (b rest : Bs) (r : Except Nat Fs) : Except Nat Req := match r with
  | .error e => .error e
  | .ok fs => if (allF nHost fs).length = 1 then reqB m t fs b rest (framedF fs rest) else .error 90
def reqL (b : Bs) (l0 : Bs) (ls : List Bs) (rest : Bs) : Except Nat Req := match firstF l0 with
  | none => .error 95
  | some (m, t) => reqH m t b rest (fieldsF ls)
def reqR (b : Bs) (r : Except Nat (List Bs × Bs)) : Except Nat Req := match r with
  | .error e => .error e
  | .ok ([], _) => .error 0
  | .ok (l0 :: ls, rest) => reqL b l0 ls rest
/-- A request. -/
def requestF (b : Bs) : Except Nat Req := reqR b (headF b)
def bodilessF (n : Int) (method : ByteArray) : Bool := method.data.toList == headM.data.toList || n == 204 || n == 304 || decide (n < 200)
abbrev Rsp := Nat × Bs × Fs × Bs
def rspB (n : Nat) (reason : Bs) (fs : Fs) (r : Except Nat (Bs × Nat)) : Except Nat Rsp := match r with
  | .error e => .error e
  | .ok (body, _) => .ok (n, reason, fs, body)
def rspW (fs : Fs) (rest : Bs) : Except Nat (Bs × Nat) :=
  if getF nTE fs = none ∧ getF nCL fs = none then (if 65536 < rest.length then .error 93 else .ok (rest, rest.length)) else framedF fs rest
def rspH (n : Nat) (reason : Bs) (method : ByteArray) (rest : Bs) (r : Except Nat Fs) : Except Nat Rsp := match r with
  | .error e => .error e
  | .ok fs => if bodilessF n method = true then .ok (n, reason, fs, []) else rspB n reason fs (rspW fs rest)
def rspL (method : ByteArray) (l0 : Bs) (ls : List Bs) (rest : Bs) : Except Nat Rsp := match statusF l0 with
  | none => .error 95
  | some (n, reason) => rspH n reason method rest (fieldsF ls)
def rspR (method : ByteArray) (r : Except Nat (List Bs × Bs)) : Except Nat Rsp := match r with
  | .error e => .error e
  | .ok ([], _) => .error 0
  | .ok (l0 :: ls, rest) => rspL method l0 ls rest
/-- A response. -/
def responseF (b : Bs) (method : ByteArray) : Except Nat Rsp := rspR method (headF b)
end Go.Proofs.YtjpmofnnjdhamaaGreatDoor
namespace Go.Proofs.YtjpmofnnjdhamaaGreatDoor
open Go.RowKit HeadMath NormMath NormS HeadS ChunkMath HttpMath

theorem strEq_yes {u v : ByteArray} (h : u = v) : (u.toList == v.toList) = true := by subst h; simp
theorem strEq_no {u v : ByteArray} (h : u ≠ v) : (u.toList == v.toList) = false := by
  rw [beq_eq_false_iff_ne, Lib.toList_data, Lib.toList_data]
  exact fun e => h (data_inj e)
def FaultH (n : Nat) : Ending := .panicked [{ v := .iface 70 (.agg #[.int .i64 n]), recovered := false }]
def FellH (n : Nat) (w : World) (e : Ending) (w' : World) : Prop := e = FaultH n ∧ Spares nowhere w w'
theorem demand_yes (k : Int) (w : World) : Calls Tryz.prog 41 #[.bool true, .int .i64 k] w fun e w' => e = .returned (.tuple #[]) ∧ w' = w := by
  go_enter Tryz.func41, Tryz.ntmps41
  go_wp2
  first | go_end0 | refine bodyPost_ret (results_none rfl _ _ _) rfl ?_
  exact ⟨rfl, rfl⟩
theorem demand_no (n : Nat) (w : World) : Calls Tryz.prog 41 #[.bool false, .int .i64 n] w fun e w' => e = FaultH n ∧ w' = w := by
  unfold FaultH
  go_enter Tryz.func41, Tryz.ntmps41
  go_wp2
  exact ⟨rfl, rfl, rfl⟩
def HasPost (v : Bool) (w : World) (e : Ending) (w' : World) : Prop := e = .returned (.bool v) ∧ Spares nowhere w w'
theorem has_any (l : Fs) (n : ByteArray) (a : Option Addr) (cap k : Nat) (w : World) (hk : k = l.length) (hin : FieldsIn w.heap.size w a l) (hsm : SmallF l) (hle : l.length ≤ 140737488351232) (hn : n.size ≤ 140737488351232) :
    Calls Tryz.prog 51 #[.slice a k cap, .string n] w (HasPost (getF n l).isSome w) := by
  subst hk
  have c := get_any l n a cap w hin hsm hle hn
  obtain ⟨m, hm⟩ : ∃ m, l.length = m := ⟨_, rfl⟩
  rw [hm] at c ⊢
  clear hin hsm hle hm
  go_enter Tryz.func51, Tryz.ntmps51
  go_wp2_with fail
  refine c.mono ?_
  rintro e w1 ⟨hb, h⟩
  have HS := Lib.hid (Below.spares (F := nowhere) hb (fun k hk => .inr hk))
  rcases h with ⟨h1, rfl⟩ | ⟨v, h1, rfl⟩
  · have H1 := Lib.hid h1
    clear h1 hb c
    go_wp2
    go_ret
    rw [H1.out]
    exact ⟨rfl, HS.out⟩
  · have H1 := Lib.hid h1
    clear h1 hb c
    go_wp2
    go_ret
    rw [H1.out]
    exact ⟨rfl, HS.out⟩
def FieldsPost (r : Except Nat Fs) (w : World) (e : Ending) (w' : World) : Prop := match r with
  | .error n => FellH n w e w'
  | .ok fs => ∃ v, e = .returned v ∧ w'.ownsRow w.heap.size 59 2 v fs.length (fieldCells fs) ∧ Spares nowhere w w'
theorem fields_any (ls : List Bs) (a : Option Addr) (cap k : Nat) (w : World) (hk : k = ls.length) (hin : StrsIn w.heap.size w a (ls.map ba)) (hsm : ∀ l ∈ ls, l.length ≤ 1000000) (hle : ls.length ≤ 1000000) :
    Calls Tryz.prog 44 #[.slice a k cap] w (FieldsPost (fieldsF ls) w) := by
  subst hk
  have hS : Small (ls.map ba) := by
    intro j hj
    rw [List.getElem_map, ba_size]
    exact Nat.le_trans (hsm _ (List.getElem_mem _)) (by omega)
  have c := parse_some (ls.map ba) a cap w hin hS (by rw [List.length_map]; omega)
  rw [List.length_map] at c
  obtain ⟨R, hR⟩ : ∃ R, fieldsF ls = R := ⟨_, rfl⟩
  rw [hR]
  have HR := Lib.hid hR
  obtain ⟨m, hm⟩ : ∃ m, ls.length = m := ⟨_, rfl⟩
  have HM := Lib.hid hm
  rw [hm] at c ⊢
  clear hin hsm hle hm hS hR
  go_enter Tryz.func44, Tryz.ntmps44
  go_wp2_with fail
  refine c.mono ?_
  rintro e w1 ⟨hb, h⟩
  have HS := Lib.hid (Below.spares (F := nowhere) hb (fun k hk => .inr hk))
  clear c hb
  rcases h with ⟨h1, rfl⟩ | ⟨h0, h1, rfl⟩ | ⟨h0, fs, v, h1, rfl, hown⟩
  · have HE : Hid (R = .error 91) := Lib.hid (by rw [← HR.out]; unfold fieldsF; rw [if_pos (by simpa using h1)])
    clear h1
    have cd := fun w => demand_no 91 w
    go_wp2_with fail
    refine (cd _).mono ?_
    rintro e w2 ⟨rfl, hw⟩
    replace hw := hw.symm
    subst hw
    unfold FaultH
    go_wp2
    rw [HE.out]
    exact ⟨rfl, rfl, HS.out⟩
  · have HE : Hid (R = .error 90) := Lib.hid (by rw [← HR.out]; unfold fieldsF; rw [if_neg (by simpa using h0), h1])
    clear h1 h0
    have cd := fun w => demand_no 90 w
    go_wp2_with fail
    refine (cd _).mono ?_
    rintro e w2 ⟨rfl, hw⟩
    replace hw := hw.symm
    subst hw
    unfold FaultH
    go_wp2
    rw [HE.out]
    exact ⟨rfl, rfl, HS.out⟩
  · have HE : Hid (R = .ok fs) := Lib.hid (by rw [← HR.out]; unfold fieldsF; rw [if_neg (by simpa using h0), h1])
    have HO := Lib.hid hown
    clear h1 h0 hown
    have cd := fun w => demand_yes 0 w
    go_wp2_with fail
    refine (cd _).mono ?_
    rintro e w2 ⟨rfl, hw⟩
    replace hw := hw.symm
    subst hw
    go_wp2
    go_ret
    rw [HE.out]
    exact ⟨_, rfl, HO.out, HS.out⟩
theorem bodiless_eq (n : Int) (method : ByteArray) : bodilessF n method = (method.toList == [72, 69, 65, 68] || (n == 204) || (n == 304) || decide (n < 200)) := by
  unfold bodilessF; rw [Lib.toList_data]; rfl
theorem bodiless_any (n : Int) (method : ByteArray) (w : World) : Calls Tryz.prog 17 #[.int .i64 n, .string method] w fun e w' => e = .returned (.bool (bodilessF n method)) ∧ w' = w := by
  have HB := Lib.hid (bodiless_eq n method)
  cases h1 : method.toList == [72, 69, 65, 68] with
  | true =>
    rw [h1] at HB
    go_enter Tryz.func17, Tryz.ntmps17
    go_wp2
    go_ret
    exact ⟨by rw [HB.out]; rfl, rfl⟩
  | false =>
    rw [h1] at HB
    cases h2 : n == 204 with
    | true =>
      rw [h2] at HB
      go_enter Tryz.func17, Tryz.ntmps17
      go_wp2
      go_ret
      exact ⟨by rw [HB.out]; rfl, rfl⟩
    | false =>
      rw [h2] at HB
      cases h3 : n == 304 with
      | true =>
        rw [h3] at HB
        go_enter Tryz.func17, Tryz.ntmps17
        go_wp2
        go_ret
        exact ⟨by rw [HB.out]; rfl, rfl⟩
      | false =>
        rw [h3] at HB
        go_enter Tryz.func17, Tryz.ntmps17
        go_wp2
        go_ret
        exact ⟨by rw [HB.out]; simp, rfl⟩
end Go.Proofs.YtjpmofnnjdhamaaGreatDoor
namespace Go.Proofs.YtjpmofnnjdhamaaGreatDoor.HttpMath
open Go Go.Proofs.YtjpmofnnjdhamaaGreatDoor HeadMath ChunkMath NormMath NormS HeadS

def wordsG : Nat → Bs → Bs → List Bs
  | _, acc, [] => [acc]
  | 0, acc, c :: t => [acc ++ (c :: t)]
  | k + 1, acc, c :: t => if c = 32 then acc :: wordsG k [] t else wordsG (k + 1) (acc ++ [c]) t
/-- A line at its first two spaces. -/
def wordsR (s : Bs) : List Bs := wordsG 2 [] s
theorem wordsG_nil (k : Nat) (acc : Bs) : wordsG k acc [] = [acc] := by cases k <;> rfl
theorem wordsG_0 (acc s : Bs) : wordsG 0 acc s = [acc ++ s] := by
  cases s with
  | nil => rw [wordsG_nil, List.append_nil]
  | cons c t => rfl
theorem wordsG_on {k : Nat} {acc t : Bs} {c : UInt8} (h : c ≠ 32) : wordsG (k + 1) acc (c :: t) = wordsG (k + 1) (acc ++ [c]) t := by rw [wordsG, if_neg h]
theorem wordsG_cut {k : Nat} {acc t : Bs} : wordsG (k + 1) acc (32 :: t) = acc :: wordsG k [] t := by rw [wordsG, if_pos rfl]
theorem accH_len (acc : Bs) {L : List Bs} (h : L ≠ []) : (accH acc L).length = L.length := by
  cases L with
  | nil => exact absurd rfl h
  | cons x r => rfl
theorem cuts_32 (t : Bs) : cuts [32] (32 :: t) = [] :: cuts [32] t := cuts_hit (by decide) (by simp [List.isPrefixOf])
theorem cuts_n32 {c : UInt8} (t : Bs) (h : c ≠ 32) : cuts [32] (c :: t) = consH c (cuts [32] t) := cuts_step (prefix_no h)
theorem words_cuts : ∀ (s acc : Bs) (k : Nat), ((accH acc (cuts [32] s)).length ≤ k + 1 ∧ wordsG k acc s = accH acc (cuts [32] s)) ∨ (k + 1 < (accH acc (cuts [32] s)).length ∧ (wordsG k acc s).length = k + 1 ∧ ∃ v, (wordsG k acc s).getLast? = some v ∧ (32 : UInt8) ∈ v)
  | [], acc, k => by
    refine .inl ?_
    rw [wordsG_nil, cuts_nil]
    simp [accH]
  | c :: t, acc, 0 => by
    by_cases h : c = 32
    · subst h
      refine .inr ?_
      rw [cuts_32, accH_hit, wordsG_0]
      have := List.length_pos_iff.2 (cuts_ne [32] t)
      refine ⟨by simp; omega, rfl, _, rfl, by simp⟩
    · rw [cuts_n32 t h, accH_cons, wordsG_0]
      have ih := words_cuts t (acc ++ [c]) 0
      rw [wordsG_0] at ih
      simpa using ih
  | c :: t, acc, k + 1 => by
    by_cases h : c = 32
    · subst h
      rw [cuts_32, accH_hit, wordsG_cut]
      have ih := words_cuts t [] k
      rw [accH_nil (cuts_ne _ _)] at ih
      rcases ih with ⟨h1, h2⟩ | ⟨h1, h2, v, h3, h4⟩
      · exact .inl ⟨by simp; omega, by rw [h2]⟩
      · refine .inr ⟨by simp; omega, by simp; omega, v, ?_, h4⟩
        rw [List.getLast?_cons, h3]; rfl
    · rw [cuts_n32 t h, accH_cons, wordsG_on h]
      exact words_cuts t (acc ++ [c]) (k + 1)
theorem first_words (s : Bs) : firstF s = firstL (wordsR s) := by
  unfold firstF wordsR
  have h := words_cuts s [] 2
  rw [accH_nil (cuts_ne _ _)] at h
  rcases h with ⟨_, h2⟩ | ⟨h1, h2, v, h3, h4⟩
  · rw [h2]
  · have e1 : firstL (cuts [32] s) = none := by
      match hc : cuts [32] s with
      | [] => rfl
      | [_] => rfl
      | [_, _] => rfl
      | [_, _, _] => rw [hc] at h1; simp at h1
      | _ :: _ :: _ :: _ :: _ => rfl
    rw [e1]
    match hw : wordsG 2 [] s with
    | [] => rfl
    | [_] => rfl
    | [_, _] => rfl
    | [a, b, u] =>
      rw [hw] at h3
      simp at h3
      subst h3
      show none = if (tokenF a && targetF b && u == http11) = true then some (a, b) else none
      rw [if_neg]
      intro h
      simp only [Bool.and_eq_true, beq_iff_eq] at h
      rw [h.2] at h4
      revert h4; decide
    | _ :: _ :: _ :: _ :: _ => rfl
theorem wordsG_len : ∀ (s acc : Bs) (k : Nat), (wordsG k acc s).length ≤ k + 1
  | [], acc, k => by rw [wordsG_nil]; simp
  | c :: t, acc, 0 => by rw [wordsG_0]; simp
  | c :: t, acc, k + 1 => by
    by_cases h : c = 32
    · subst h
      rw [wordsG_cut]
      have := wordsG_len t [] k
      simp; omega
    · rw [wordsG_on h]
      exact wordsG_len t _ (k + 1)
theorem wordsG_mem : ∀ (s acc : Bs) (k : Nat), ∀ x ∈ wordsG k acc s, x.length ≤ acc.length + s.length
  | [], acc, k => by rw [wordsG_nil]; simp
  | c :: t, acc, 0 => by rw [wordsG_0]; simp
  | c :: t, acc, k + 1 => by
    intro x hx
    by_cases h : c = 32
    · subst h
      rw [wordsG_cut] at hx
      rcases List.mem_cons.1 hx with rfl | hx
      · omega
      · have := wordsG_mem t [] k x hx
        simp at this ⊢; omega
    · rw [wordsG_on h] at hx
      have := wordsG_mem t _ (k + 1) x hx
      simp at this ⊢; omega
theorem wordsR_mem (s : Bs) : ∀ x ∈ wordsR s, x.length ≤ s.length := fun x hx => by
  have := wordsG_mem s [] 2 x hx
  simpa using this
/-- Where the words' scan is. -/
def WordAt (s : Bs) (D : List Bs) (f j : Nat) : Prop := f ≤ j ∧ j ≤ s.length ∧ D.length ≤ 2 ∧ wordsR s = D ++ wordsG (2 - D.length) ((s.drop f).take (j - f)) (s.drop j)
theorem word_start (s : Bs) : WordAt s [] 0 0 := ⟨Nat.le_refl _, Nat.zero_le _, by simp, by unfold wordsR; simp⟩
theorem word_step {s : Bs} {D : List Bs} {f j : Nat} {x : UInt8} (h : WordAt s D f j) (h2 : D.length < 2) (hx : s[j]? = some x) (hn : x ≠ 32) : WordAt s D f (j + 1) := by
  obtain ⟨h1, h3, h4, h5⟩ := h
  have hl : j < s.length := (List.getElem?_eq_some_iff.1 hx).1
  have hd : s.drop j = x :: s.drop (j + 1) := by rw [List.drop_eq_getElem_cons hl, (List.getElem?_eq_some_iff.1 hx).2]
  obtain ⟨m, hm⟩ : ∃ m, 2 - D.length = m + 1 := ⟨1 - D.length, by omega⟩
  rw [hd, hm, wordsG_on hn, ← take_more h1 hx, ← hm] at h5
  exact ⟨by omega, by omega, h4, h5⟩
theorem word_cut {s : Bs} {D : List Bs} {f j : Nat} (h : WordAt s D f j) (h2 : D.length < 2) (hx : s[j]? = some 32) : WordAt s (D ++ [(s.drop f).take (j - f)]) (j + 1) (j + 1) := by
  obtain ⟨h1, h3, h4, h5⟩ := h
  have hl : j < s.length := (List.getElem?_eq_some_iff.1 hx).1
  have hd : s.drop j = 32 :: s.drop (j + 1) := by rw [List.drop_eq_getElem_cons hl, (List.getElem?_eq_some_iff.1 hx).2]
  obtain ⟨m, hm⟩ : ∃ m, 2 - D.length = m + 1 := ⟨1 - D.length, by omega⟩
  rw [hd, hm, wordsG_cut] at h5
  refine ⟨Nat.le_refl _, by omega, by simp; omega, ?_⟩
  rw [h5, List.append_assoc, Nat.sub_self, List.take_zero, List.length_append, List.length_singleton]
  rw [show 2 - (D.length + 1) = m by omega]
  rfl
theorem word_end {s : Bs} {D : List Bs} {f j : Nat} (h : WordAt s D f j) (he : j = s.length ∨ D.length = 2) : wordsR s = D ++ [s.drop f] := by
  obtain ⟨h1, h3, h4, h5⟩ := h
  rw [h5]
  congr 1
  have e : (s.drop f).take (j - f) ++ s.drop j = s.drop f := by
    have : s.drop j = (s.drop f).drop (j - f) := by rw [List.drop_drop]; congr 1; omega
    rw [this, List.take_append_drop]
  rcases he with rfl | h2
  · rw [List.drop_length, wordsG_nil]
    rw [List.drop_length, List.append_nil] at e
    rw [e]
  · rw [h2, Nat.sub_self, wordsG_0, e]
end Go.Proofs.YtjpmofnnjdhamaaGreatDoor.HttpMath
