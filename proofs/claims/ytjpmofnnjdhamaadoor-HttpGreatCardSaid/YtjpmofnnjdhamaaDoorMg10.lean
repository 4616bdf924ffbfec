/-
  Messages: what is read of them, as plain functions.
  http's small functions: demand, has, fields, isTarget, Bodiless.
-/
import Derived.Test.YtjpmofnnjdhamaaDoorShelf
import Derived.LoopTactic
import Derived.WalkSpells
import Derived.BigQuiet
import Derived.Test.YtjpmofnnjdhamaaDoorMg1
import Derived.Test.YtjpmofnnjdhamaaDoorMg3
import Derived.Test.YtjpmofnnjdhamaaDoorMg4
import Derived.Test.YtjpmofnnjdhamaaDoorMg8
import Derived.Test.YtjpmofnnjdhamaaDoorMg9
namespace Go.Proofs.YtjpmofnnjdhamaaDoor
open Go.RowKit HeadMath NormMath NormS HeadS ChunkMath HttpMath

def http11 : Bs := [72, 84, 84, 80, 47, 49, 46, 49]
def nHost : ByteArray := ⟨#[72, 111, 115, 116]⟩
def nTE : ByteArray := ⟨#[84, 114, 97, 110, 115, 102, 101, 114, 45, 69, 110, 99, 111, 100, 105, 110, 103]⟩
def nCL : ByteArray := ⟨#[67, 111, 110, 116, 101, 110, 116, 45, 76, 101, 110, 103, 116, 104]⟩
def chunkedB : ByteArray := ⟨#[99, 104, 117, 110, 107, 101, 100]⟩
def headM : ByteArray := ⟨#[72, 69, 65, 68]⟩
def targetB (c : UInt8) : Bool := decide (33 ≤ c.toNat ∧ c.toNat ≤ 126)
def targetF (t : Bs) : Bool := t.all targetB && [47].isPrefixOf t
def firstL (L : List Bs) : Option (Bs × Bs) := match L with
  | [m, t, v] => if (tokenF m && targetF t && v == http11) = true then some (m, t) else none
  | _ => none
/-- A request's first line. -/
def firstF (s : Bs) : Option (Bs × Bs) := firstL (cuts [32] s)
def codeOf (r : Bs) : Bs := if Lib.indexByte r 32 < 0 then r else r.take (Lib.indexByte r 32).toNat
def reasonOf (r : Bs) : Bs := if Lib.indexByte r 32 < 0 then [] else r.drop ((Lib.indexByte r 32).toNat + 1)
def codeF (code reason : Bs) : Option (Nat × Bs) := match DateMath.numF code 3 with
  | none => none
  | some n => if code.length = 3 ∧ 200 ≤ n ∧ n ≤ 599 ∧ reason.all textB = true then some (n, reason) else none
/-- A response's first line. -/
def statusF (s : Bs) : Option (Nat × Bs) := if (http11 ++ [32]).isPrefixOf s = true then codeF (codeOf (s.drop 9)) (reasonOf (s.drop 9)) else none
def fieldsF (ls : List Bs) : Except Nat Fs := if 100 < ls.length then .error 91 else match parseF (ls.map ba) with
  | none => .error 90
  | some fs => .ok fs
def sizeL (L : List ByteArray) : Except Nat Nat := match L with
  | [] => .ok 0
  | x :: r => if r.all (fun y => y.data.toList == x.data.toList) = true then (match DateMath.numF x.data.toList 18 with
    | none => .error 94
    | some n => .ok n) else .error 94
/-- The length that is said. -/
def sizeF (fs : Fs) : Except Nat Nat := sizeL (listF nCL fs)
def onlyF (L : List ByteArray) : Bool := match L with
  | [x] => sameF x.data.toList chunkedB.data.toList
  | _ => false
def chunkF (rest : Bs) : Except Nat (Bs × Nat) := match openF fieldB rest with
  | .error e => .error e
  | .ok (body, s) => .ok (body, rest.length - s.length)
def lengthR (r : Except Nat Nat) (rest : Bs) : Except Nat (Bs × Nat) := match r with
  | .error e => .error e
  | .ok n => if 65536 < n then .error 93 else if rest.length < n then .error 92 else .ok (rest.take n, n)
/-- The body as its fields frame it. -/
def framedF (fs : Fs) (rest : Bs) : Except Nat (Bs × Nat) :=
  if (allF nTE fs).length = 0 then lengthR (sizeF fs) rest
  else if onlyF (allF nTE fs) = true ∧ getF nCL fs = none then chunkF rest else .error 94
abbrev Req := Bs × Bs × Fs × Bs × Nat
def reqB (m t : Bs) (fs : Fs) (b rest : Bs) (r : Except Nat (Bs × Nat)) : Except Nat Req := match r with
  | .error e => .error e
  | .ok (body, n) => .ok (m, t, fs, body, b.length - rest.length + n)
def reqH (m t : Bs) (b rest : Bs) (r : Except Nat Fs) : Except Nat Req := match r with
  | .error e => .error e
  | .ok fs => if (allF nHost fs).length = 1 then reqB m t fs b rest (framedF fs rest) else .error 90
def reqL (b : Bs) (l0 : Bs) (ls : List Bs) (rest : Bs) : Except Nat Req := match firstF l0 with
  | none => .error 95
  | some (m, t) => reqH m t b rest (fieldsF ls)
def reqR (b : Bs) (r : Except Nat (List Bs × Bs)) : Except Nat Req := match r with
  | .error e => .error e
  | .ok ([], _) => .error 0
  | .ok (l0 :: ls, rest) => reqL b l0 ls rest
/-- A request. -/
def requestF (b : Bs) : Except Nat Req := reqR b (headF b)
def bodilessF (n : Int) (method : ByteArray) : Bool := method.data.toList == headM.data.toList || n == 204 || n == 304 || decide (n < 200)
abbrev Rsp := Nat × Bs × Fs × Bs
def rspB (n : Nat) (reason : Bs) (fs : Fs) (r : Except Nat (Bs × Nat)) : Except Nat Rsp := match r with
  | .error e => .error e
  | .ok (body, _) => .ok (n, reason, fs, body)
def rspW (fs : Fs) (rest : Bs) : Except Nat (Bs × Nat) :=
  if getF nTE fs = none ∧ getF nCL fs = none then (if 65536 < rest.length then .error 93 else .ok (rest, rest.length)) else framedF fs rest
def rspH (n : Nat) (reason : Bs) (method : ByteArray) (rest : Bs) (r : Except Nat Fs) : Except Nat Rsp := match r with
  | .error e => .error e
  | .ok fs => if bodilessF n method = true then .ok (n, reason, fs, []) else rspB n reason fs (rspW fs rest)
def rspL (method : ByteArray) (l0 : Bs) (ls : List Bs) (rest : Bs) : Except Nat Rsp := match statusF l0 with
  | none => .error 95
  | some (n, reason) => rspH n reason method rest (fieldsF ls)
def rspR (method : ByteArray) (r : Except Nat (List Bs × Bs)) : Except Nat Rsp := match r with
  | .error e => .error e
  | .ok ([], _) => .error 0
  | .ok (l0 :: ls, rest) => rspL method l0 ls rest
/-- A response. -/
def responseF (b : Bs) (method : ByteArray) : Except Nat Rsp := rspR method (headF b)
end Go.Proofs.YtjpmofnnjdhamaaDoor
namespace Go.Proofs.YtjpmofnnjdhamaaDoor
open Go.RowKit HeadMath NormMath NormS HeadS ChunkMath HttpMath

theorem strEq_yes {u v : ByteArray} (h : u = v) : (u.toList == v.toList) = true := by subst h; simp
theorem strEq_no {u v : ByteArray} (h : u ≠ v) : (u.toList == v.toList) = false := by
  rw [beq_eq_false_iff_ne, Lib.toList_data, Lib.toList_data]
  exact fun e => h (data_inj e)
def FaultH (n : Nat) : Ending := .panicked [{ v := .iface 41 (.agg #[.int .i64 n]), recovered := false }]
def FellH (n : Nat) (w : World) (e : Ending) (w' : World) : Prop := e = FaultH n ∧ Spares nowhere w w'
theorem demand_yes (k : Int) (w : World) : Calls Tryd.prog 18 #[.bool true, .int .i64 k] w fun e w' => e = .returned (.tuple #[]) ∧ w' = w := by
  go_enter Tryd.func18, Tryd.ntmps18
  go_wp2
  first | go_end0 | refine bodyPost_ret (results_none rfl _ _ _) rfl ?_
  exact ⟨rfl, rfl⟩
theorem demand_no (n : Nat) (w : World) : Calls Tryd.prog 18 #[.bool false, .int .i64 n] w fun e w' => e = FaultH n ∧ w' = w := by
  unfold FaultH
  go_enter Tryd.func18, Tryd.ntmps18
  go_wp2
  exact ⟨rfl, rfl, rfl⟩
def HasPost (v : Bool) (w : World) (e : Ending) (w' : World) : Prop := e = .returned (.bool v) ∧ Spares nowhere w w'
theorem has_any (l : Fs) (n : ByteArray) (a : Option Addr) (cap k : Nat) (w : World) (hk : k = l.length) (hin : FieldsIn w.heap.size w a l) (hsm : SmallF l) (hle : l.length ≤ 140737488351232) (hn : n.size ≤ 140737488351232) :
    Calls Tryd.prog 27 #[.slice a k cap, .string n] w (HasPost (getF n l).isSome w) := by
  subst hk
  have c := get_any l n a cap w hin hsm hle hn
  obtain ⟨m, hm⟩ : ∃ m, l.length = m := ⟨_, rfl⟩
  rw [hm] at c ⊢
  clear hin hsm hle hm
  go_enter Tryd.func27, Tryd.ntmps27
  go_wp2_with fail
  refine c.mono ?_
  rintro e w1 ⟨hb, h⟩
  have HS := Lib.hid (Below.spares (F := nowhere) hb (fun k hk => .inr hk))
  rcases h with ⟨h1, rfl⟩ | ⟨v, h1, rfl⟩
  · have H1 := Lib.hid h1
    clear h1 hb c
    go_wp2
    go_ret
    rw [H1.out]
    exact ⟨rfl, HS.out⟩
  · have H1 := Lib.hid h1
    clear h1 hb c
    go_wp2
    go_ret
    rw [H1.out]
    exact ⟨rfl, HS.out⟩
def FieldsPost (r : Except Nat Fs) (w : World) (e : Ending) (w' : World) : Prop := match r with
  | .error n => FellH n w e w'
  | .ok fs => ∃ v, e = .returned v ∧ w'.ownsRow w.heap.size 64 2 v fs.length (fieldCells fs) ∧ Spares nowhere w w'
theorem fields_any (ls : List Bs) (a : Option Addr) (cap k : Nat) (w : World) (hk : k = ls.length) (hin : StrsIn w.heap.size w a (ls.map ba)) (hsm : ∀ l ∈ ls, l.length ≤ 1000000) (hle : ls.length ≤ 1000000) :
    Calls Tryd.prog 21 #[.slice a k cap] w (FieldsPost (fieldsF ls) w) := by
  subst hk
  have hS : Small (ls.map ba) := by
    intro j hj
    rw [List.getElem_map, ba_size]
    exact Nat.le_trans (hsm _ (List.getElem_mem _)) (by omega)
  have c := parse_some (ls.map ba) a cap w hin hS (by rw [List.length_map]; omega)
  rw [List.length_map] at c
  obtain ⟨R, hR⟩ : ∃ R, fieldsF ls = R := ⟨_, rfl⟩
  rw [hR]
  have HR := Lib.hid hR
  obtain ⟨m, hm⟩ : ∃ m, ls.length = m := ⟨_, rfl⟩
  have HM := Lib.hid hm
  rw [hm] at c ⊢
  clear hin hsm hle hm hS hR
  go_enter Tryd.func21, Tryd.ntmps21
  go_wp2_with fail
  refine c.mono ?_
  rintro e w1 ⟨hb, h⟩
  have HS := Lib.hid (Below.spares (F := nowhere) hb (fun k hk => .inr hk))
  clear c hb
  rcases h with ⟨h1, rfl⟩ | ⟨h0, h1, rfl⟩ | ⟨h0, fs, v, h1, rfl, hown⟩
  · have HE : Hid (R = .error 91) := Lib.hid (by rw [← HR.out]; unfold fieldsF; rw [if_pos (by simpa using h1)])
    clear h1
    have cd := fun w => demand_no 91 w
    go_wp2_with fail
    refine (cd _).mono ?_
    rintro e w2 ⟨rfl, hw⟩
    replace hw := hw.symm
    subst hw
    unfold FaultH
    go_wp2
    rw [HE.out]
    exact ⟨rfl, rfl, HS.out⟩
  · have HE : Hid (R = .error 90) := Lib.hid (by rw [← HR.out]; unfold fieldsF; rw [if_neg (by simpa using h0), h1])
    clear h1 h0
    have cd := fun w => demand_no 90 w
    go_wp2_with fail
    refine (cd _).mono ?_
    rintro e w2 ⟨rfl, hw⟩
    replace hw := hw.symm
    subst hw
    unfold FaultH
    go_wp2
    rw [HE.out]
    exact ⟨rfl, rfl, HS.out⟩
  · have HE : Hid (R = .ok fs) := Lib.hid (by rw [← HR.out]; unfold fieldsF; rw [if_neg (by simpa using h0), h1])
    have HO := Lib.hid hown
    clear h1 h0 hown
    have cd := fun w => demand_yes 0 w
    go_wp2_with fail
    refine (cd _).mono ?_
    rintro e w2 ⟨rfl, hw⟩
    replace hw := hw.symm
    subst hw
    go_wp2
    go_ret
    rw [HE.out]
    exact ⟨_, rfl, HO.out, HS.out⟩
theorem bodiless_eq (n : Int) (method : ByteArray) : bodilessF n method = (method.toList == [72, 69, 65, 68] || (n == 204) || (n == 304) || decide (n < 200)) := by
  unfold bodilessF; rw [Lib.toList_data]; rfl
theorem bodiless_any (n : Int) (method : ByteArray) (w : World) : Calls Tryd.prog 12 #[.int .i64 n, .string method] w fun e w' => e = .returned (.bool (bodilessF n method)) ∧ w' = w := by
  have HB := Lib.hid (bodiless_eq n method)
  cases h1 : method.toList == [72, 69, 65, 68] with
  | true =>
    rw [h1] at HB
    go_enter Tryd.func12, Tryd.ntmps12
    go_wp2
    go_ret
    exact ⟨by rw [HB.out]; rfl, rfl⟩
  | false =>
    rw [h1] at HB
    cases h2 : n == 204 with
    | true =>
      rw [h2] at HB
      go_enter Tryd.func12, Tryd.ntmps12
      go_wp2
      go_ret
      exact ⟨by rw [HB.out]; rfl, rfl⟩
    | false =>
      rw [h2] at HB
      cases h3 : n == 304 with
      | true =>
        rw [h3] at HB
        go_enter Tryd.func12, Tryd.ntmps12
        go_wp2
        go_ret
        exact ⟨by rw [HB.out]; rfl, rfl⟩
      | false =>
        rw [h3] at HB
        go_enter Tryd.func12, Tryd.ntmps12
        go_wp2
        go_ret
        exact ⟨by rw [HB.out]; simp, rfl⟩
end Go.Proofs.YtjpmofnnjdhamaaDoor
