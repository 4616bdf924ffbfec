/-
  glob's parse: a pattern is cut into the parts that the mathematics says, or refused.
  glob's Valid and Match answer what the mathematics says.
  The reference's Valid and Literal answer what the mathematics says.
  The reference's Match answers what the mathematics says.
-/
import Derived.Test.YthdolhfaiofogaaShelf
import Derived.Lib.IndexBytes
import Derived.Test.YthdolhfaiofogaaRows
import Derived.WalkKit
import Derived.WalkSpells
import Derived.WalkLawsBesides
import Derived.Lib.Hide
import Derived.BigQuiet
import Derived.Deep.QuietTactic
import Derived.Test.YthdolhfaiofogaaMg18
namespace Go.Proofs.Ythdolhfaiofogaa
open Go.RowKit GlobMath

def partCells (l : List (Nat × UInt8)) : List Value := l.flatMap fun x => [.int .i64 x.1, .int .u8 x.2.toNat]
theorem partCells_snoc (l : List (Nat × UInt8)) (x : Nat × UInt8) : partCells (l ++ [x]) = partCells l ++ [.int .i64 x.1, .int .u8 x.2.toNat] := by simp [partCells]
def strLen : Value → Nat
  | .string s => s.size
  | _ => 0
theorem partInfo : (Try.prog.info? 76).map (fun i => (i.zero, i.size, i.bytes)) = some (some (.agg #[.int .i64 0, .int .u8 0]), 2, 16) := by kernel_rfl

def ParsePost (w : World) (P : List UInt8) (e : Ending) (w' : World) : Prop :=
  match (if 200 < P.length then none else parts P) with
  | none => e = .returned (.tuple #[.slice none 0 0, .bool false]) ∧ Below w.heap.size w w'
  | some l => ∃ v, e = .returned (.tuple #[v, .bool true]) ∧ w'.ownsRow w.heap.size 76 2 v l.length (partCells l) ∧ Below w.heap.size w w'
theorem ParsePost.bad {w w' : World} {P : List UInt8} {e : Ending} (h : 200 < P.length ∨ parts P = none) (he : e = .returned (.tuple #[.slice none 0 0, .bool false])) (hb : Below w.heap.size w w') : ParsePost w P e w' := by
  have : (if 200 < P.length then none else parts P) = none := by
    rcases h with h | h
    · rw [if_pos h]
    · split
      · rfl
      · exact h
  unfold ParsePost
  rw [this]
  exact ⟨he, hb⟩
theorem ParsePost.good {w w' : World} {P : List UInt8} {e : Ending} {l : List (Nat × UInt8)} (h0 : P.length ≤ 200) (h : parts P = some l) {v : Value} (he : e = .returned (.tuple #[v, .bool true])) (ho : w'.ownsRow w.heap.size 76 2 v l.length (partCells l)) (hb : Below w.heap.size w w') : ParsePost w P e w' := by
  unfold ParsePost
  rw [if_neg (by omega), h]
  exact ⟨v, he, ho, hb⟩

theorem first_byte {s : ByteArray} (h : 0 < s.size) : ∃ r, s.data.toList = s[0] :: r := by
  obtain ⟨⟨l⟩⟩ := s
  cases l with
  | nil => exact absurd h (by decide)
  | cons c r => exact ⟨r, rfl⟩
theorem second_byte {s : ByteArray} (h : 1 < s.size) : ∃ r, s.data.toList = s[0] :: s[1] :: r := by
  obtain ⟨⟨l⟩⟩ := s
  match l, h with
  | [], h => exact absurd h (by decide)
  | [_], h => exact absurd h (by simp [ByteArray.size])
  | c :: d :: r, _ => exact ⟨r, rfl⟩
theorem size_list (s : ByteArray) : s.data.toList.length = s.size := by simp

theorem parse_long (p : ByteArray) (w : World) (hp : 200 < p.size) (hp2 : p.size ≤ 140737488351232) :
    Calls Try.prog 32 #[.string p] w (ParsePost w p.data.toList) := by
  go_enter Try.func32, Try.ntmps32
  go_wp2
  go_ret2
  exact .bad (.inl (by rw [size_list]; omega)) rfl (Below.refl _ _)

set_option maxHeartbeats 4000000 in
theorem parse_short (p : ByteArray) (w : World) (hp : p.size ≤ 200) :
    Calls Try.prog 32 #[.string p] w (ParsePost w p.data.toList) := by
  obtain ⟨i0, hi, hz0, hz1, hz2⟩ := info_parts partInfo
  go_enter Try.func32, Try.ntmps32
  go_wp2
  go_loopw [4, 5] (fun v r wr => ∃ (rb : ByteArray) (done : List (Nat × UInt8)), r = .string rb ∧ ReadTo p.data.toList rb.data.toList done ∧ done.length + rb.size ≤ p.size ∧
      wr.ownsRow w.heap.size 76 2 v done.length (partCells done) ∧ Below w.heap.size w wr)
    (fun _ r _ => strLen r)
  case atStart => exact ⟨p, [], rfl, ReadTo.start _, by simp, World.ownsRow_nil _ _ _ _, Below.refl _ _⟩
  case round =>
    obtain ⟨rb, done, rfl, hread, hlen, hown, hbr⟩ := hrel
    have hsz := hbr.size
    by_cases z0 : 0 < rb.size
    · have ze : (!rb.toList.isEmpty) = true := by
        obtain ⟨r, hr⟩ := first_byte z0
        rw [Lib.toList_data, hr]; rfl
      obtain ⟨r0, hr0⟩ := first_byte z0
      have HR := Lib.hid hr0
      clear hr0
      by_cases hA : Lib.hasPrefix rb.data.toList [42, 42] = true
      · have z1 : 1 < rb.size := by
          have := hA
          rw [HR.out] at this
          match r0, HR.out, this with
          | [], _, h => simp [Lib.hasPrefix, List.isPrefixOf] at h
          | d :: r, h, _ => have := congrArg List.length h; rw [size_list] at this; simp at this; omega
        have hs : stepP rb.data.toList = some ((3, 0), 2) := by
          have := hA
          rw [HR.out] at this ⊢
          match r0, this with
          | [], h => simp [Lib.hasPrefix, List.isPrefixOf] at h
          | d :: r, h => simp [Lib.hasPrefix, List.isPrefixOf] at h; simp [stepP, ← h.1, ← h.2]
        have HX := Lib.hid hs
        clear hs
        go_wp2_with (first | (go_at_call 43; refine (Try.strings_HasPrefix _ _ _).mono ?_; rintro e w' ⟨rfl, rfl⟩) | (at_builtin; refine wpList_append_own _ rfl _ _ 58 rfl w.heap.size 76 i0 (.agg #[.int .i64 0, .int .u8 0]) 2 16 Try.underlying58 hi hz0 hz1 hz2 rfl (by decide) _ _ _ rfl ((hown.alloc _).alloc _) ⟨wr.heap.size + 1, 0, none⟩ 1 1 [.int .i64 3, .int .u8 0] rfl rfl ?c1U ?c2U ?c3U ?c4U ?c5U ?_))
        case c1U =>
          intro j u hj
          match j, hj with
          | 0, hj => simp at hj; subst hj; simp [Addr.add]
          | 1, hj => simp at hj; subst hj; simp [Addr.add]
        case c2U => intro u hu; simp at hu; rcases hu with rfl | rfl <;> rfl
        case c3U => unfold maxLen; omega
        case c4U => omega
        case c5U => simp; omega
        intro v' w1 hown' hgrow _
        have hb1 : Below w.heap.size w w1 := ((hbr.alloc hsz _).alloc (by simp; omega) _).grown hgrow (by simp; omega) (fun k hk => (hown.lt k hk).1)
        clear hgrow hown
        go_wp2
        go_roundw
        case rel =>
          refine ⟨_, done ++ [(3, 0)], rfl, ?_, ?_, ?_, hb1⟩
          · rw [Lib.extract_to_end]; exact hread.step HX.out
          · have := stepP_pos HX.out; rw [size_list] at this; simp; omega
          · rw [partCells_snoc]; simpa using hown'
        case measure => simp [strLen]; omega
      · have hA' : Lib.hasPrefix rb.data.toList [42, 42] = false := by simpa using hA
        clear hA
        by_cases h42 : rb[0] = 42
        · have q42 : ((rb[0].toNat : Int) == 42) = true := by simp [h42]
          have hs : stepP rb.data.toList = some ((2, 0), 1) := by
            have h := hA'
            rw [HR.out, h42] at h ⊢
            have hh : r0.head? ≠ some 42 := by
              intro hc
              cases r0 with
              | nil => simp at hc
              | cons d r => simp at hc; subst hc; simp [Lib.hasPrefix, List.isPrefixOf] at h
            simp [stepP, hh]
          clear h42
          have HX := Lib.hid hs
          clear hs
          go_wp2_with (first | (go_at_call 43; refine (Try.strings_HasPrefix _ _ _).mono ?_; rintro e w' ⟨rfl, rfl⟩) | (at_builtin; refine wpList_append_own _ rfl _ _ 58 rfl w.heap.size 76 i0 (.agg #[.int .i64 0, .int .u8 0]) 2 16 Try.underlying58 hi hz0 hz1 hz2 rfl (by decide) _ _ _ rfl ((hown.alloc _).alloc _) ⟨wr.heap.size + 1, 0, none⟩ 1 1 [.int .i64 2, .int .u8 0] rfl rfl ?c1U ?c2U ?c3U ?c4U ?c5U ?_))
          case c1U =>
            intro j u hj
            match j, hj with
            | 0, hj => simp at hj; subst hj; simp [Addr.add]
            | 1, hj => simp at hj; subst hj; simp [Addr.add]
          case c2U => intro u hu; simp at hu; rcases hu with rfl | rfl <;> rfl
          case c3U => unfold maxLen; omega
          case c4U => omega
          case c5U => simp; omega
          intro v' w1 hown' hgrow _
          have hb1 : Below w.heap.size w w1 := ((hbr.alloc hsz _).alloc (by simp; omega) _).grown hgrow (by simp; omega) (fun k hk => (hown.lt k hk).1)
          clear hgrow hown
          go_wp2
          go_roundw
          case rel =>
            refine ⟨_, done ++ [(2, 0)], rfl, ?_, ?_, ?_, hb1⟩
            · rw [Lib.extract_to_end]; exact hread.step HX.out
            · have := stepP_pos HX.out; rw [size_list] at this; simp; omega
            · rw [partCells_snoc]; simpa using hown'
          case measure => simp [strLen]; omega
        · have q42 : ((rb[0].toNat : Int) == 42) = false := (u8_beq_lit _ 42 (by omega)).trans (by simpa using h42)
          by_cases h63 : rb[0] = 63
          · have q63 : ((rb[0].toNat : Int) == 63) = true := by simp [h63]
            have hs : stepP rb.data.toList = some ((1, 0), 1) := by
              rw [HR.out, h63]
              simp [stepP]
            clear h42 h63
            have HX := Lib.hid hs
            clear hs
            go_wp2_with (first | (go_at_call 43; refine (Try.strings_HasPrefix _ _ _).mono ?_; rintro e w' ⟨rfl, rfl⟩) | (at_builtin; refine wpList_append_own _ rfl _ _ 58 rfl w.heap.size 76 i0 (.agg #[.int .i64 0, .int .u8 0]) 2 16 Try.underlying58 hi hz0 hz1 hz2 rfl (by decide) _ _ _ rfl ((hown.alloc _).alloc _) ⟨wr.heap.size + 1, 0, none⟩ 1 1 [.int .i64 1, .int .u8 0] rfl rfl ?c1U ?c2U ?c3U ?c4U ?c5U ?_))
            case c1U =>
              intro j u hj
              match j, hj with
              | 0, hj => simp at hj; subst hj; simp [Addr.add]
              | 1, hj => simp at hj; subst hj; simp [Addr.add]
            case c2U => intro u hu; simp at hu; rcases hu with rfl | rfl <;> rfl
            case c3U => unfold maxLen; omega
            case c4U => omega
            case c5U => simp; omega
            intro v' w1 hown' hgrow _
            have hb1 : Below w.heap.size w w1 := ((hbr.alloc hsz _).alloc (by simp; omega) _).grown hgrow (by simp; omega) (fun k hk => (hown.lt k hk).1)
            clear hgrow hown
            go_wp2
            go_roundw
            case rel =>
              refine ⟨_, done ++ [(1, 0)], rfl, ?_, ?_, ?_, hb1⟩
              · rw [Lib.extract_to_end]; exact hread.step HX.out
              · have := stepP_pos HX.out; rw [size_list] at this; simp; omega
              · rw [partCells_snoc]; simpa using hown'
            case measure => simp [strLen]; omega
          · have q63 : ((rb[0].toNat : Int) == 63) = false := (u8_beq_lit _ 63 (by omega)).trans (by simpa using h63)
            by_cases h92 : rb[0] = 92
            · have q92 : ((rb[0].toNat : Int) == 92) = true := by simp [h92]
              by_cases hone : rb.size = 1
              · have qd : (rb.toList == [92]) = true := by
                  have h := HR.out
                  have hl := congrArg List.length h
                  rw [size_list, hone] at hl
                  have : r0 = [] := List.eq_nil_of_length_eq_zero (by simp only [List.length_cons] at hl; omega)
                  rw [Lib.toList_data, h, h92, this]; rfl
                have hbad : parts p.data.toList = none := by
                  refine hread.bad (by rw [HR.out]; simp) ?_
                  have h := HR.out
                  have hl := congrArg List.length h
                  rw [size_list, hone] at hl
                  have : r0 = [] := List.eq_nil_of_length_eq_zero (by simp only [List.length_cons] at hl; omega)
                  rw [h, h92, this]; simp [stepP]
                have HB := Lib.hid hbad
                clear hbad h42 h63 h92 hone
                go_wp2_with (go_at_call 43; refine (Try.strings_HasPrefix _ _ _).mono ?_; rintro e w' ⟨rfl, rfl⟩)
                go_ret2
                exact .bad (.inr HB.out) rfl (hbr.alloc hsz _)
              · have z1 : 1 < rb.size := by omega
                have qd : (rb.toList == [92]) = false := by
                  obtain ⟨r, hr⟩ := second_byte z1
                  rw [Lib.toList_data, hr]; simp
                have hs : stepP rb.data.toList = some ((0, rb[1]), 2) := by
                  obtain ⟨r, hr⟩ := second_byte z1
                  rw [hr, h92]; simp [stepP]
                clear h42 h63 h92 hone
                have HX := Lib.hid hs
                clear hs
                go_wp2_with (first | (go_at_call 43; refine (Try.strings_HasPrefix _ _ _).mono ?_; rintro e w' ⟨rfl, rfl⟩) | (at_builtin; refine wpList_append_own _ rfl _ _ 58 rfl w.heap.size 76 i0 (.agg #[.int .i64 0, .int .u8 0]) 2 16 Try.underlying58 hi hz0 hz1 hz2 rfl (by decide) _ _ _ rfl ((hown.alloc _).alloc _) ⟨wr.heap.size + 1, 0, none⟩ 1 1 [.int .i64 0, .int .u8 (rb[1]).toNat] rfl rfl ?c1U ?c2U ?c3U ?c4U ?c5U ?_))
                case c1U =>
                  intro j u hj
                  match j, hj with
                  | 0, hj => simp at hj; subst hj; simp [Addr.add]
                  | 1, hj => simp at hj; subst hj; simp [Addr.add]
                case c2U => intro u hu; simp at hu; rcases hu with rfl | rfl <;> rfl
                case c3U => unfold maxLen; omega
                case c4U => omega
                case c5U => simp; omega
                intro v' w1 hown' hgrow _
                have hb1 : Below w.heap.size w w1 := ((hbr.alloc hsz _).alloc (by simp; omega) _).grown hgrow (by simp; omega) (fun k hk => (hown.lt k hk).1)
                clear hgrow hown
                go_wp2
                go_roundw
                case rel =>
                  refine ⟨_, done ++ [(0, rb[1])], rfl, ?_, ?_, ?_, hb1⟩
                  · rw [Lib.extract_to_end]; exact hread.step HX.out
                  · have := stepP_pos HX.out; rw [size_list] at this; simp; omega
                  · rw [partCells_snoc]; simpa using hown'
                case measure => simp [strLen]; omega
            · have q92 : ((rb[0].toNat : Int) == 92) = false := (u8_beq_lit _ 92 (by omega)).trans (by simpa using h92)
              have qd : (rb.toList == [92]) = false := by
                rw [Lib.toList_data, HR.out]; simp [h92]
              have hs : stepP rb.data.toList = some ((0, rb[0]), 1) := by
                rw [HR.out]; simp [stepP, h42, h63, h92]
              clear h42 h63 h92
              have HX := Lib.hid hs
              clear hs
              go_wp2_with (first | (go_at_call 43; refine (Try.strings_HasPrefix _ _ _).mono ?_; rintro e w' ⟨rfl, rfl⟩) | (at_builtin; refine wpList_append_own _ rfl _ _ 58 rfl w.heap.size 76 i0 (.agg #[.int .i64 0, .int .u8 0]) 2 16 Try.underlying58 hi hz0 hz1 hz2 rfl (by decide) _ _ _ rfl ((hown.alloc _).alloc _) ⟨wr.heap.size + 1, 0, none⟩ 1 1 [.int .i64 0, .int .u8 (rb[0]).toNat] rfl rfl ?c1U ?c2U ?c3U ?c4U ?c5U ?_))
              case c1U =>
                intro j u hj
                match j, hj with
                | 0, hj => simp at hj; subst hj; simp [Addr.add]
                | 1, hj => simp at hj; subst hj; simp [Addr.add]
              case c2U => intro u hu; simp at hu; rcases hu with rfl | rfl <;> rfl
              case c3U => unfold maxLen; omega
              case c4U => omega
              case c5U => simp; omega
              intro v' w1 hown' hgrow _
              have hb1 : Below w.heap.size w w1 := ((hbr.alloc hsz _).alloc (by simp; omega) _).grown hgrow (by simp; omega) (fun k hk => (hown.lt k hk).1)
              clear hgrow hown
              go_wp2
              go_roundw
              case rel =>
                refine ⟨_, done ++ [(0, rb[0])], rfl, ?_, ?_, ?_, hb1⟩
                · rw [Lib.extract_to_end]; exact hread.step HX.out
                · have := stepP_pos HX.out; rw [size_list] at this; simp; omega
                · rw [partCells_snoc]; simpa using hown'
              case measure => simp [strLen]; omega
    · have hnil : rb.data.toList = [] := List.eq_nil_of_length_eq_zero (by rw [size_list]; omega)
      have ze : (!rb.toList.isEmpty) = false := by rw [Lib.toList_data, hnil]; rfl
      rw [hnil] at hread
      have HE := Lib.hid hread.end_
      clear hnil hread
      go_wp2
      go_ret2
      exact .good (by rw [size_list]; exact hp) HE.out rfl hown hbr

theorem parse_any (p : ByteArray) (w : World) (hp : p.size ≤ 140737488351232) :
    Calls Try.prog 32 #[.string p] w (ParsePost w p.data.toList) := by
  by_cases h : p.size ≤ 200
  · exact parse_short p w h
  · exact parse_long p w (by omega) hp

end Go.Proofs.Ythdolhfaiofogaa
namespace Go.Proofs.Ythdolhfaiofogaa
open Go.RowKit GlobMath

theorem parse_none (p : ByteArray) (w : World) (hp : p.size ≤ 140737488351232) (h : (if 200 < p.data.toList.length then none else parts p.data.toList) = none) :
    Calls Try.prog 32 #[.string p] w fun e w' => e = .returned (.tuple #[.slice none 0 0, .bool false]) ∧ Below w.heap.size w w' := by
  refine (parse_any p w hp).mono fun e w' hh => ?_
  unfold ParsePost at hh
  rw [h] at hh
  exact hh
def PartsPost (w : World) (l : List (Nat × UInt8)) (e : Ending) (w' : World) : Prop :=
  ∃ v, e = .returned (.tuple #[v, .bool true]) ∧ w'.ownsRow w.heap.size 76 2 v l.length (partCells l) ∧ Below w.heap.size w w'
theorem parse_some (p : ByteArray) (w : World) (l : List (Nat × UInt8)) (hp : p.size ≤ 140737488351232) (h : (if 200 < p.data.toList.length then none else parts p.data.toList) = some l) :
    Calls Try.prog 32 #[.string p] w (PartsPost w l) := by
  refine (parse_any p w hp).mono fun e w' hh => ?_
  unfold ParsePost at hh
  rw [h] at hh
  exact hh

theorem valid_eq (p : List UInt8) : validF p = ((if 200 < p.length then none else parts p).isSome) := by
  unfold validF
  by_cases h : 200 < p.length
  · rw [if_pos h]; simp; omega
  · rw [if_neg h]; simp; omega

set_option maxHeartbeats 400000 in
theorem valid_any (p : ByteArray) (w : World) (hp : p.size ≤ 140737488351232) :
    Calls Try.prog 18 #[.string p] w fun e w' => e = .returned (.int .i64 (if validF p.data.toList = true then 0 else 120)) ∧ Below w.heap.size w w' := by
  rw [valid_eq]
  generalize hq : (if 200 < p.data.toList.length then none else parts p.data.toList) = q
  have HQ := Lib.hid hq
  clear hq
  cases q with
  | none =>
    go_enter Try.func18, Try.ntmps18
    go_wp2_with (go_at_call 32; refine (parse_none p w hp HQ.out).mono ?_; rintro e w1 ⟨rfl, hb⟩)
    go_ret
    exact ⟨rfl, hb⟩
  | some l =>
    go_enter Try.func18, Try.ntmps18
    go_wp2_with (go_at_call 32; refine (parse_some p w l hp HQ.out).mono ?_; rintro e w1 ⟨v, rfl, hown, hb⟩)
    go_ret
    exact ⟨rfl, hb⟩

theorem next_any (k n g : Nat) (c : UInt8) (f : Nat → Bool) (s : ByteArray) (w : World) (hk : k ≤ 3) (hn : s.size < n) (hn' : n ≤ s.size + 1) (hs : s.size ≤ 1000000000000)
    (hr : Blk w g 4 (rowCells n f)) :
    Calls Try.prog 40 #[.agg #[.int .i64 k, .int .u8 c.toNat], .slice (some ⟨g, 0, none⟩) n n, .string s] w (NextPost w n (af (k, c) f s.data.toList)) := by
  rcases (show k = 0 ∨ k = 1 ∨ k = 2 ∨ k = 3 from by omega) with rfl | rfl | rfl | rfl
  · exact next_short 0 n g c f s w (by omega) (by decide) (by decide) hn hn' hs hr
  · exact next_short 1 n g c f s w (by omega) (by decide) (by decide) hn hn' hs hr
  · exact next_long2 n g c f s w hn hn' hs hr
  · exact next_long3 n g c f s w hn hn' hs hr

theorem matchF_eq (p s : List UInt8) : matchF p s = (match (if 200 < p.length then none else parts p) with | none => false | some l => rowF s l s.length) := by
  unfold matchF
  by_cases h : 200 < p.length
  · rw [if_pos h, if_pos h]
  · rw [if_neg h, if_neg h]
    cases parts p <;> rfl

theorem partCells_at (l : List (Nat × UInt8)) (k : Nat) (h : k < l.length) : (partCells l)[k * 2]? = some (.int .i64 l[k].1) ∧ (partCells l)[k * 2 + 1]? = some (.int .u8 l[k].2.toNat) := by
  induction l generalizing k with
  | nil => simp at h
  | cons x l ih =>
    have e : partCells (x :: l) = .int .i64 x.1 :: .int .u8 x.2.toNat :: partCells l := by simp [partCells]
    cases k with
    | zero => simp [e]
    | succ k =>
      have := ih k (by simpa using h)
      rw [e, show (k + 1) * 2 = k * 2 + 1 + 1 from by omega]
      simpa using this

set_option maxHeartbeats 400000 in
theorem match_none (p s : ByteArray) (w : World) (hp : p.size ≤ 140737488351232) (h : (if 200 < p.data.toList.length then none else parts p.data.toList) = none) :
    Calls Try.prog 26 #[.string p, .string s] w fun e w' => e = .returned (.bool false) ∧ Below w.heap.size w w' := by
  have HQ := Lib.hid h
  clear h
  go_enter Try.func26, Try.ntmps26
  go_wp2_with (go_at_call 32; refine (parse_none p w hp HQ.out).mono ?_; rintro e w1 ⟨rfl, hb⟩)
  go_ret
  exact ⟨rfl, hb⟩

set_option maxHeartbeats 2000000 in
theorem match_some (p s : ByteArray) (l : List (Nat × UInt8)) (w : World) (hp : p.size ≤ 140737488351232) (hs : s.size ≤ 1000000000000) (hk : ∀ x ∈ l, x.1 ≤ 3) (hll : l.length ≤ 140737488351232) (h : (if 200 < p.data.toList.length then none else parts p.data.toList) = some l) :
    Calls Try.prog 26 #[.string p, .string s] w fun e w' => e = .returned (.bool (rowF s.data.toList l s.size)) ∧ Below w.heap.size w w' := by
  have HQ := Lib.hid h
  have HK := Lib.hid hk
  clear h hk
  obtain ⟨i0, hi, hz0, hz1, hz2⟩ := info_parts boolInfo
  go_enter Try.func26, Try.ntmps26
  go_wp2_with fail
  refine (parse_some p w l hp HQ.out).mono ?_
  rintro e w1 ⟨v, rfl, hown, hb⟩
  obtain ⟨ao, cap, rfl, hcells⟩ : ∃ ao cap, v = .slice ao l.length cap ∧ (0 < l.length → ∃ g, ao = some ⟨g, 0, none⟩ ∧ g < w1.heap.size ∧ ∀ j u, (partCells l)[j]? = some u → w1.cell? ⟨g, j, none⟩ = some u) := by
    rcases hown.2 with ⟨hv, h0⟩ | ⟨g, cap, cur, hv, _, hg, _⟩
    · refine ⟨none, 0, by rw [hv]; cases l with | nil => rfl | cons x l => simp at h0, fun hpos => ?_⟩
      cases l with
      | nil => simp at hpos
      | cons x l => simp at h0
    · refine ⟨_, _, hv, fun _ => ⟨g, rfl, Blk.lt (t := 76) (cs := cur) hg, fun j u hu => ?_⟩⟩
      have := hown.cells (g := g) (by rw [hv]; rfl) j u hu
      by_cases hj : j = 0
      · subst hj; simpa [Addr.add] using this
      · simpa [Addr.add, hj] using this
  clear hown
  have HC := Lib.hid hcells
  clear hcells
  go_wp2_with (at_make; refine wpList_make_full _ rfl _ _ 74 rfl w1.heap.size 4 i0 (.bool false) 1 Try.underlying74 hi hz0 hz1 .i64 .i64 _ _ (s.size + 1) rfl rfl ?a1 ?a2 ?a3 ?a4 ?a5 ?_)
  case a1 => omega
  case a2 => omega
  case a3 => rw [hz2]; omega
  case a4 => unfold maxLen; omega
  case a5 => exact Nat.le_refl _
  intro w2 hown2 hg2
  have hb2 : Below w1.heap.size w1 w2 := (Below.refl _ _).grown hg2 (Nat.le_refl _) (by intro k hk; cases hk)
  have hA : Blk w2 w1.heap.size 4 (rowCells (s.size + 1) fun _ => false) := blk_made hown2
  clear hown2 hg2
  have a0 := hA.cell 0
  rw [rowCells_get _ (by omega)] at a0
  have af0 := hA.frozen 0
  go_wp2
  have hA1 := hA.set_ 0 (.bool true)
  rw [rowCells_set] at hA1
  have hb3 : Below w1.heap.size w1 (w2.setCell ⟨w1.heap.size, 0, none⟩ (.bool true)) := hb2.setCell (by simp) _
  clear a0 af0 hA hb2
  generalize w2.setCell ⟨w1.heap.size, 0, none⟩ (.bool true) = w3 at *
  go_loopw [7, 25] (fun r i wr => ∃ k : Nat, k ≤ l.length ∧ i = .int .i64 k ∧ (∃ g, r = .slice (some ⟨g, 0, none⟩) (s.size + 1) (s.size + 1) ∧ Blk wr g 4 (rowCells (s.size + 1) (rowF s.data.toList (l.take k)))) ∧ Below w1.heap.size w1 wr)
    (fun _ i _ => l.length - (intOf i).toNat)
  case atStart =>
    refine ⟨0, Nat.zero_le _, rfl, ⟨_, rfl, ?_⟩, hb3⟩
    rw [rowCells_congr (g := fun k => if k = 0 then true else false) (fun j _ => by by_cases h : j = 0 <;> simp [rowF, row0, h])]
    exact hA1
  case round =>
    obtain ⟨k, hkl, rfl, ⟨g, rfl, hrow⟩, hbr⟩ := hrel
    clear hA1 hb3
    by_cases hlt : k < l.length
    · obtain ⟨gp, rfl, hgp, hcl⟩ := HC.out (by omega)
      have hp2 := partCells_at l k hlt
      have x0 := (hbr.cell (p := ⟨gp, k * 2, none⟩) hgp).trans (hcl _ _ hp2.1)
      have x1 := (hbr.cell (p := ⟨gp, k * 2 + 1, none⟩) hgp).trans (hcl _ _ hp2.2)
      clear hcl hp2
      go_wp2_with fail
      refine (next_any l[k].1 (s.size + 1) g l[k].2 (rowF s.data.toList (l.take k)) s _ (HK.out _ (List.getElem_mem hlt)) (by omega) (by omega) hs (hrow.alloc _)).mono ?_
      rintro e w4 ⟨g', rfl, hrow', hb4⟩
      have hb5 : Below w1.heap.size w1 w4 := (hbr.alloc hbr.size _).trans (hb4.mono (by have := hbr.size; simp; omega))
      clear hb4 hrow x0 x1
      go_wp2
      go_roundw
      case rel =>
        refine ⟨k + 1, by omega, by go_num, ⟨g', rfl, ?_⟩, hb5⟩
        rw [List.take_succ_eq_append_getElem hlt, rowF_snoc]
        exact hrow'
      case measure => simp [intOf]; omega
    · have hk : k = l.length := by omega
      subst hk
      rw [List.take_length] at hrow
      have r0 := hrow.cell s.size
      rw [rowCells_get _ (by omega)] at r0
      go_wp2
      go_ret
      exact ⟨rfl, hb.trans (hbr.mono hb.size)⟩

theorem match_any (p s : ByteArray) (w : World) (hp : p.size ≤ 1000000000000) (hs : s.size ≤ 1000000000000) :
    Calls Try.prog 26 #[.string p, .string s] w fun e w' => e = .returned (.bool (matchF p.data.toList s.data.toList)) ∧ Below w.heap.size w w' := by
  have e := matchF_eq p.data.toList s.data.toList
  generalize hq : (if 200 < p.data.toList.length then none else parts p.data.toList) = q at e
  rw [e]
  cases q with
  | none => exact match_none p s w (by omega) hq
  | some l =>
    have hl : parts p.data.toList = some l := by
      split at hq
      · cases hq
      · exact hq
    have := parts_len hl
    rw [size_list] at this
    simp only [size_list]
    exact match_some p s l w (by omega) hs (parts_kind hl) (by omega) hq
end Go.Proofs.Ythdolhfaiofogaa
namespace Go.Proofs.Ythdolhfaiofogaa
open Go.RowKit GlobMath

theorem drop_at (s : ByteArray) (k : Nat) (h : k < s.size) : s.data.toList.drop k = s[k] :: s.data.toList.drop (k + 1) := by
  have h' : k < s.data.toList.length := by rw [size_list]; exact h
  rw [List.drop_eq_getElem_cons h']
  rfl
theorem drop_end (s : ByteArray) : s.data.toList.drop s.size = [] := List.drop_eq_nil_of_le (by rw [size_list]; exact Nat.le_refl _)

theorem valid_of_ok (p : ByteArray) (h : p.size ≤ 200) : validF p.data.toList = okB p.data.toList := by
  unfold validF
  rw [parts_ok _ _ (Nat.le_refl _), size_list]; simp [h]

def vcode (b : Bool) : Int := if b = true then 0 else 120

set_option maxHeartbeats 400000 in
theorem refValid_long (p : ByteArray) (w : World) (h : (200 : Int) < p.size) :
    Calls Try.prog 20 #[.string p] w fun e w' => e = .returned (.int .i64 120) ∧ w = w' := by
  go_enter Try.func20, Try.ntmps20
  go_wp2
  go_ret
  exact ⟨rfl, rfl⟩

set_option maxHeartbeats 1000000 in
theorem refValid_short (p : ByteArray) (w : World) (h : (p.size : Int) ≤ 200) :
    Calls Try.prog 20 #[.string p] w fun e w' => e = .returned (.int .i64 (vcode (okB p.data.toList))) ∧ w = w' := by
  go_enter Try.func20, Try.ntmps20
  go_wp2
  go_loop [3] (fun i => ∃ k : Nat, k ≤ p.size ∧ i = .int .i64 k ∧ okB p.data.toList = okB (p.data.toList.drop k)) (fun i => p.size - (intOf i).toNat)
  case atStart => exact ⟨0, Nat.zero_le _, rfl, rfl⟩
  case round =>
    obtain ⟨k, hk, rfl, hok⟩ := hrel
    have HO := Lib.hid hok
    clear hok
    by_cases hlt : k < p.size
    · have HD := Lib.hid (drop_at p k hlt)
      by_cases h92 : p[k] = 92
      · have q : ((p[k].toNat : Int) == 92) = true := by rw [h92]; rfl
        have H92 := Lib.hid h92
        clear h92
        by_cases hend : k + 1 = p.size
        · have q2 : (((k : Int) + 1) == (p.size : Int)) = true := by simp; omega
          have HB := Lib.hid (show okB p.data.toList = false from by
            rw [HO.out, HD.out, H92.out, hend, drop_end]; rfl)
          clear hend
          go_wp2
          go_ret
          exact ⟨by rw [HB.out]; rfl, rfl⟩
        · have q2 : (((k : Int) + 1) == (p.size : Int)) = false := by simp; omega
          have hlt2 : k + 1 < p.size := by omega
          have HD2 := Lib.hid (drop_at p (k + 1) hlt2)
          clear hend
          go_wp2
          go_round
          case rel => exact ⟨k + 1 + 1, by omega, by go_num, by rw [HO.out, HD.out, HD2.out, H92.out, okB_esc]⟩
          case measure => simp [intOf]; omega
      · have q : ((p[k].toNat : Int) == 92) = false := (u8_beq_lit _ 92 (by omega)).trans (by simpa using h92)
        have H92 := Lib.hid h92
        clear h92
        go_wp2
        go_round
        case rel => exact ⟨k + 1, by omega, by go_num, by rw [HO.out, HD.out, okB_cons _ _ H92.out]⟩
        case measure => simp [intOf]; omega
    · have hkp : k = p.size := by omega
      have HB := Lib.hid (show okB p.data.toList = true from by rw [HO.out, hkp, drop_end]; rfl)
      subst hkp
      go_wp2
      go_ret
      exact ⟨by rw [HB.out]; rfl, rfl⟩

theorem refValid_any (p : ByteArray) (w : World) (_hp : p.size ≤ 1000000000000) :
    Calls Try.prog 20 #[.string p] w fun e w' => e = .returned (.int .i64 (vcode (validF p.data.toList))) ∧ w = w' := by
  by_cases h : p.size ≤ 200
  · rw [valid_of_ok p h]; exact refValid_short p w (by omega)
  · have : validF p.data.toList = false := by unfold validF; rw [size_list]; simp; omega
    rw [this]; exact refValid_long p w (by omega)

end Go.Proofs.Ythdolhfaiofogaa
namespace Go.Proofs.Ythdolhfaiofogaa
open Go.RowKit GlobMath

theorem below_drewN {B : Nat} {a w : World} (h : Below B a w) (n : Nat) : Below B a (w.drewN n) := ⟨h.os, h.tape, h.output, h.size, h.block⟩

def pre (A : Nat → Bool) : Nat → Bool
  | 0 => false
  | j + 1 => A j
theorem row_step' {n j : Nat} {A : Nat → Bool} {b : Bool} (h : b = A j) :
    (rowCells n fun m => decide (m < j) && A m).setIfInBounds j (.bool b) = rowCells n (fun m => decide (m < j + 1) && A m) := by
  rw [rowCells_set]
  apply rowCells_congr
  intro m _
  by_cases hm : m = j
  · subst hm; simp [h]
  · rw [if_neg hm]
    by_cases h1 : m < j
    · simp [h1, Nat.lt_succ_of_lt h1]
    · have h2 : ¬ m < j + 1 := by omega
      simp [h1, h2]
theorem end_row' {n : Nat} {A : Nat → Bool} : rowCells n (fun m => decide (m < n) && A m) = rowCells n A := by
  apply rowCells_congr
  intro m hm
  simp [hm]
theorem start_row' {n : Nat} {A : Nat → Bool} : rowCells n (fun _ => false) = rowCells n (fun m => decide (m < 0) && A m) := by
  apply rowCells_congr
  intro m _
  simp
theorem start_row0 {n : Nat} {A : Nat → Bool} (h : A 0 = false) : rowCells n (fun _ => false) = rowCells n (fun m => decide (m ≤ 0) && A m) := by
  apply rowCells_congr
  intro m _
  by_cases hm : m = 0
  · subst hm; simp [h]
  · have : ¬ m ≤ 0 := by omega
    simp [this]
theorem any_step (c : UInt8) (f : Nat → Bool) (S : List UInt8) (j : Nat) : (pre (af (3, c) f S) j || f j) = af (3, c) f S j := by
  cases j with
  | zero => rw [af_any_zero]; rfl
  | succ j => rw [af_any_succ, Bool.or_comm]; rfl
theorem some_zero (c : UInt8) (f : Nat → Bool) (S : List UInt8) : af (2, c) f S 0 = f 0 := by simp [af, lng]
theorem some_succ (c : UInt8) (f : Nat → Bool) (S : List UInt8) (j : Nat) : af (2, c) f S (j + 1) = (f (j + 1) || (af (2, c) f S j && (S.getD j 0 != 47))) := by simp [af, lng, takes]
theorem short_zero (k : Nat) (c : UInt8) (f : Nat → Bool) (S : List UInt8) (h : k < 2) : af (k, c) f S 0 = false := by
  have : lng (k, c) = false := by simp [lng]; omega
  simp [af, this]
theorem short_succ (k : Nat) (c : UInt8) (f : Nat → Bool) (S : List UInt8) (j : Nat) (h : k < 2) : af (k, c) f S (j + 1) = (f j && takes (k, c) (S.getD j 0)) := by
  have : lng (k, c) = false := by simp [lng]; omega
  conv => lhs; unfold af
  rw [if_neg (by simp [this])]

theorem refValid_yes (p : ByteArray) (w : World) (h : validF p.data.toList = true) (hp : p.size ≤ 1000000000000) :
    Calls Try.prog 20 #[.string p] w fun e w' => e = .returned (.int .i64 0) ∧ w = w' := by
  have := refValid_any p w hp
  rw [h] at this; exact this
theorem refValid_no (p : ByteArray) (w : World) (h : validF p.data.toList = false) (hp : p.size ≤ 1000000000000) :
    Calls Try.prog 20 #[.string p] w fun e w' => e = .returned (.int .i64 120) ∧ w = w' := by
  have := refValid_any p w hp
  rw [h] at this; exact this

set_option maxHeartbeats 400000 in
theorem refMatch_no (p s : ByteArray) (w : World) (h : validF p.data.toList = false) (hp : p.size ≤ 1000000000000) :
    Calls Try.prog 28 #[.string p, .string s] w fun e w' => e = .returned (.bool false) ∧ Below w.heap.size w w' := by
  have HV := Lib.hid h
  clear h
  go_enter Try.func28, Try.ntmps28
  go_wp2_with (go_at_call 20; refine (refValid_no p _ HV.out hp).mono ?_; rintro e w1 ⟨rfl, rfl⟩)
  go_ret
  exact ⟨rfl, Below.refl _ _⟩

set_option maxHeartbeats 8000000 in
set_option maxRecDepth 100000 in
theorem refMatch_yes (p s : ByteArray) (l : List (Nat × UInt8)) (w : World) (hp : p.size ≤ 1000000000000) (hs : s.size ≤ 1000000000000) (hv : validF p.data.toList = true) (hl : parts p.data.toList = some l) :
    Calls Try.prog 28 #[.string p, .string s] w fun e w' => e = .returned (.bool (rowF s.data.toList l s.size)) ∧ Below w.heap.size w w' := by
  have HV := Lib.hid hv
  have HL := Lib.hid hl
  clear hv hl
  obtain ⟨i0, hi, hz0, hz1, hz2⟩ := info_parts boolInfo
  go_enter Try.func28, Try.ntmps28
  go_wp2_with (first | (go_at_call 20; refine (refValid_yes p _ HV.out hp).mono ?_; rintro e w1 ⟨rfl, rfl⟩) | (at_make; refine wpList_make_full _ rfl _ _ 74 rfl w.heap.size 4 i0 (.bool false) 1 Try.underlying74 hi hz0 hz1 .i64 .i64 _ _ (s.size + 1) rfl rfl ?a1 ?a2 ?a3 ?a4 ?a5 ?_))
  case a1 => omega
  case a2 => omega
  case a3 => rw [hz2]; omega
  case a4 => unfold maxLen; omega
  case a5 => exact Nat.le_refl _
  intro w2 hown2 hg2
  have hb2 : Below w.heap.size w w2 := (Below.refl _ _).grown hg2 (Nat.le_refl _) (by intro k hk; cases hk)
  have hA : Blk w2 w.heap.size 4 (rowCells (s.size + 1) fun _ => false) := blk_made hown2
  clear hown2 hg2
  have a0 := hA.cell 0
  rw [rowCells_get _ (by omega)] at a0
  have af0 := hA.frozen 0
  go_wp2
  have hA1 := hA.set_ 0 (.bool true)
  rw [rowCells_set] at hA1
  have hb3 : Below w.heap.size w (w2.setCell ⟨w.heap.size, 0, none⟩ (.bool true)) := hb2.setCell (by simp) _
  clear a0 af0 hA hb2
  generalize w2.setCell ⟨w.heap.size, 0, none⟩ (.bool true) = w3 at *
  go_loopw [5, 6] (fun r i wr => ∃ (k g : Nat) (done : List (Nat × UInt8)), k ≤ p.size ∧ i = .int .i64 k ∧ r = .slice (some ⟨g, 0, none⟩) (s.size + 1) (s.size + 1) ∧ Blk wr g 4 (rowCells (s.size + 1) (rowF s.data.toList done)) ∧ Below w.heap.size w wr ∧ ReadTo p.data.toList (p.data.toList.drop k) done)
    (fun _ i _ => p.size - (intOf i).toNat)
  case atStart =>
    refine ⟨0, _, [], Nat.zero_le _, rfl, rfl, ?_, hb3, ReadTo.start _⟩
    rw [rowCells_congr (g := fun k => if k = 0 then true else false) (fun j _ => by by_cases h : j = 0 <;> simp [rowF, row0, h])]
    exact hA1
  case round =>
    obtain ⟨k, g, done, hk, rfl, rfl, hrow, hbr, hread⟩ := hrel
    clear hA1 hb3
    obtain ⟨wo, rfl⟩ : ∃ wo : World, wo = wr := ⟨_, rfl⟩
    have HRD := Lib.hid hread
    clear hread
    by_cases hlt : k < p.size
    · have HD := Lib.hid (drop_at p k hlt)
      generalize hf : rowF s.data.toList done = f at hrow
      have HF := Lib.hid hf
      clear hf
      have hos := hbr.size
      by_cases h42 : p[k] = 42
      · have q42 : ((p[k].toNat : Int) == 42) = true := by rw [h42]; rfl
        by_cases hA : (p.data.toList.drop (k + 1)).head? = some 42
        · have hlt2 : k + 1 < p.size := by
            rcases Nat.lt_or_ge (k + 1) p.size with h | h
            · exact h
            · rw [List.drop_eq_nil_of_le (by rw [size_list]; exact h)] at hA; simp at hA
          have h43 : p[k + 1] = 42 := by rw [drop_at p (k + 1) hlt2] at hA; simpa using hA
          have q43 : ((p[k + 1].toNat : Int) == 42) = true := by rw [h43]; rfl
          have hltI : (k : Int) + 1 < p.size := by omega
          have HS := Lib.hid (show stepP (p.data.toList.drop k) = some ((3, 0), 2) from by rw [HD.out, h42]; simp [stepP, hA])
          clear h42 hA h43
          go_wp2_with (at_make; refine wpList_make_full _ rfl _ _ 74 rfl wo.heap.size 4 i0 (.bool false) 1 Try.underlying74 hi hz0 hz1 .i64 .i64 _ _ (s.size + 1) rfl rfl ?m1 ?m2 ?m3 ?m4 ?m5 ?_)
          case m1 => omega
          case m2 => omega
          case m3 => rw [hz2]; omega
          case m4 => unfold maxLen; omega
          case m5 => exact Nat.le_refl _
          intro w4 hown4 hg4
          have hbm : Below w.heap.size w w4 := hbr.grown hg4 hbr.size (by intro k hk; cases hk)
          have hN : Blk w4 wo.heap.size 4 (rowCells (s.size + 1) fun _ => false) := blk_made hown4
          have hO : Blk w4 g 4 (rowCells (s.size + 1) f) := hrow.grown hg4 (by simp)
          have hgo : g ≠ wo.heap.size := by have := hrow.lt; omega
          clear hown4 hg4 hrow hbr
          go_wp2
          have hN0 := hN
          rw [start_row' (A := af (3, 0) f s.data.toList)] at hN0
          clear hN
          go_loopw [8, 9] (fun o i wr => ∃ j : Nat, j ≤ s.size + 1 ∧ i = .int .i64 j ∧ o = .bool (pre (af (3, 0) f s.data.toList) j) ∧ Blk wr wo.heap.size 4 (rowCells (s.size + 1) fun m => decide (m < j) && af (3, 0) f s.data.toList m) ∧ Blk wr g 4 (rowCells (s.size + 1) f) ∧ Below w.heap.size w wr)
            (fun _ i _ => s.size + 1 - (intOf i).toNat)
          case atStart => exact ⟨0, Nat.zero_le _, rfl, rfl, hN0, hO, hbm⟩
          case round =>
            obtain ⟨j, hj, rfl, rfl, hNr, hOr, hbr⟩ := hrel
            clear hN0 hO hbm
            by_cases hjl : j < s.size + 1
            · have o0 := hOr.cell j
              rw [rowCells_get _ hjl] at o0
              have n0 := hNr.cell j
              rw [rowCells_get _ hjl] at n0
              have nf := hNr.frozen j
              have hjI : (j : Int) ≤ s.size := by omega
              have HQ := Lib.hid (any_step 0 f s.data.toList j)
              cases ho : pre (af (3, 0) f s.data.toList) j with
              | true =>
                have HT := Lib.hid (show true = af (3, 0) f s.data.toList j from by rw [← HQ.out, ho]; rfl)
                clear ho
                go_wp2
                go_roundw
                case rel =>
                  refine ⟨j + 1, by omega, by go_num, ?_, ?_, hOr.far (p := ⟨wo.heap.size, j, none⟩) hgo _, hbr.setCell (p := ⟨wo.heap.size, j, none⟩) hos _⟩
                  · exact congrArg Value.bool (HT.out)
                  · rw [← row_step' (b := true) (HT.out)]; exact hNr.set_ j _
                case measure => (simp [intOf]) <;> omega
              | false =>
                have HT := Lib.hid (show f j = af (3, 0) f s.data.toList j from by rw [← HQ.out, ho]; simp)
                clear ho
                go_wp2
                go_roundw
                case rel =>
                  refine ⟨j + 1, by omega, by go_num, ?_, ?_, hOr.far (p := ⟨wo.heap.size, j, none⟩) hgo _, hbr.setCell (p := ⟨wo.heap.size, j, none⟩) hos _⟩
                  · exact congrArg Value.bool (HT.out)
                  · rw [← row_step' (b := f j) (HT.out)]; exact hNr.set_ j _
                case measure => (simp [intOf]) <;> omega
            · have hje : j = s.size + 1 := by omega
              subst hje
              rw [end_row'] at hNr
              have hjI : (s.size : Int) < ((s.size + 1 : Nat) : Int) := by omega
              have hjD : decide (((s.size + 1 : Nat) : Int) ≤ (s.size : Int)) = false := decide_eq_false (by omega)
              go_wp2
              go_roundw
              case rel =>
                refine ⟨k + 2, _, done ++ [(3, 0)], by omega, by go_num, rfl, ?_, hbr, ?_⟩
                · rw [rowF_snoc, HF.out]; exact hNr
                · have := HRD.out.step HS.out; rwa [List.drop_drop] at this
              case measure => (simp [intOf]) <;> omega
        · have HS := Lib.hid (show stepP (p.data.toList.drop k) = some ((2, 0), 1) from by rw [HD.out, h42]; simp only [stepP]; rw [if_pos trivial, if_neg hA])
          by_cases hlt2 : k + 1 < p.size
          · have h43 : ¬ p[k + 1] = 42 := by rw [drop_at p (k + 1) hlt2] at hA; simpa using hA
            have q43 : ((p[k + 1].toNat : Int) == 42) = false := (u8_beq_lit _ 42 (by omega)).trans (by simpa using h43)
            have hltI : (k : Int) + 1 < p.size := by omega
            clear h42 hA h43
            go_wp2_with (at_make; refine wpList_make_full _ rfl _ _ 74 rfl wo.heap.size 4 i0 (.bool false) 1 Try.underlying74 hi hz0 hz1 .i64 .i64 _ _ (s.size + 1) rfl rfl ?m1 ?m2 ?m3 ?m4 ?m5 ?_)
            case m1 => omega
            case m2 => omega
            case m3 => rw [hz2]; omega
            case m4 => unfold maxLen; omega
            case m5 => exact Nat.le_refl _
            intro w4 hown4 hg4
            have hbm : Below w.heap.size w w4 := hbr.grown hg4 hbr.size (by intro k hk; cases hk)
            have hN : Blk w4 wo.heap.size 4 (rowCells (s.size + 1) fun _ => false) := blk_made hown4
            have hO : Blk w4 g 4 (rowCells (s.size + 1) f) := hrow.grown hg4 (by simp)
            have hgo : g ≠ wo.heap.size := by have := hrow.lt; omega
            clear hown4 hg4 hrow hbr
            go_wp2
            have hN0 := hN
            rw [start_row' (A := af (2, 0) f s.data.toList)] at hN0
            clear hN
            go_loopw [10, 11] (fun o i wr => ∃ j : Nat, j ≤ s.size + 1 ∧ i = .int .i64 j ∧ o = .bool (pre (af (2, 0) f s.data.toList) j) ∧ Blk wr wo.heap.size 4 (rowCells (s.size + 1) fun m => decide (m < j) && af (2, 0) f s.data.toList m) ∧ Blk wr g 4 (rowCells (s.size + 1) f) ∧ Below w.heap.size w wr)
              (fun _ i _ => s.size + 1 - (intOf i).toNat)
            case atStart => exact ⟨0, Nat.zero_le _, rfl, rfl, hN0, hO, hbm⟩
            case round =>
              obtain ⟨j, hj, rfl, rfl, hNr, hOr, hbr⟩ := hrel
              clear hN0 hO hbm
              by_cases hjl : j < s.size + 1
              · have o0 := hOr.cell j
                rw [rowCells_get _ hjl] at o0
                have n0 := hNr.cell j
                rw [rowCells_get _ hjl] at n0
                have nf := hNr.frozen j
                have hjI : (j : Int) ≤ s.size := by omega
                cases j with
                | zero =>
                  have HT := Lib.hid (show f 0 = af (2, 0) f s.data.toList 0 from (some_zero _ _ _).symm)
                  go_wp2
                  go_roundw
                  case rel =>
                    refine ⟨0 + 1, by omega, by go_num, ?_, ?_, hOr.far (p := ⟨wo.heap.size, 0, none⟩) hgo _, hbr.setCell (p := ⟨wo.heap.size, 0, none⟩) hos _⟩
                    · exact congrArg Value.bool (HT.out)
                    · rw [← row_step' (b := f 0) (HT.out)]; exact hNr.set_ 0 _
                  case measure => (simp [intOf]) <;> omega
                | succ j =>
                  have hjs : j < s.size := by omega
                  have HQ := Lib.hid (some_succ 0 f s.data.toList j)
                  have HB := Lib.hid (bytes_at s j hjs)
                  have q0 : (0 : Int) < ((j + 1 : Nat) : Int) := by omega
                  have e1 : ((j + 1 : Nat) : Int) - 1 = (j : Int) := by omega
                  by_cases h47 : s[j] = 47
                  · have q47 : ((s[j].toNat : Int) == 47) = true := by rw [h47]; rfl
                    have HT := Lib.hid (show f (j + 1) = af (2, 0) f s.data.toList (j + 1) from by rw [HQ.out, HB.out, h47]; simp)
                    clear h47
                    go_wp2
                    go_roundw
                    case rel =>
                      refine ⟨j + 1 + 1, by omega, by go_num, ?_, ?_, hOr.far (p := ⟨wo.heap.size, j + 1, none⟩) hgo _, hbr.setCell (p := ⟨wo.heap.size, j + 1, none⟩) hos _⟩
                      · exact congrArg Value.bool (HT.out)
                      · rw [← row_step' (b := f (j + 1)) (HT.out)]; exact hNr.set_ (j + 1) _
                    case measure => (simp [intOf]) <;> omega
                  · have q47 : ((s[j].toNat : Int) == 47) = false := (u8_beq_lit _ 47 (by omega)).trans (by simpa using h47)
                    have hb47 : (s[j] != 47) = true := by simpa using h47
                    cases ho : af (2, 0) f s.data.toList j with
                    | true =>
                      have HT := Lib.hid (show true = af (2, 0) f s.data.toList (j + 1) from by rw [HQ.out, HB.out, ho, hb47]; simp)
                      have hp' : pre (af (2, 0) f s.data.toList) (j + 1) = true := ho
                      clear h47 ho hb47
                      go_wp2
                      go_roundw
                      case rel =>
                        refine ⟨j + 1 + 1, by omega, by go_num, ?_, ?_, hOr.far (p := ⟨wo.heap.size, j + 1, none⟩) hgo _, hbr.setCell (p := ⟨wo.heap.size, j + 1, none⟩) hos _⟩
                        · exact congrArg Value.bool (HT.out)
                        · rw [← row_step' (b := true) (HT.out)]; exact hNr.set_ (j + 1) _
                      case measure => (simp [intOf]) <;> omega
                    | false =>
                      have HT := Lib.hid (show f (j + 1) = af (2, 0) f s.data.toList (j + 1) from by rw [HQ.out, HB.out, ho]; simp)
                      have hp' : pre (af (2, 0) f s.data.toList) (j + 1) = false := ho
                      clear h47 ho hb47
                      go_wp2
                      go_roundw
                      case rel =>
                        refine ⟨j + 1 + 1, by omega, by go_num, ?_, ?_, hOr.far (p := ⟨wo.heap.size, j + 1, none⟩) hgo _, hbr.setCell (p := ⟨wo.heap.size, j + 1, none⟩) hos _⟩
                        · exact congrArg Value.bool (HT.out)
                        · rw [← row_step' (b := f (j + 1)) (HT.out)]; exact hNr.set_ (j + 1) _
                      case measure => (simp [intOf]) <;> omega
              · have hje : j = s.size + 1 := by omega
                subst hje
                rw [end_row'] at hNr
                have hjI : (s.size : Int) < ((s.size + 1 : Nat) : Int) := by omega
                have hjD : decide (((s.size + 1 : Nat) : Int) ≤ (s.size : Int)) = false := decide_eq_false (by omega)
                go_wp2
                go_roundw
                case rel =>
                  refine ⟨k + 1, _, done ++ [(2, 0)], by omega, by go_num, rfl, ?_, hbr, ?_⟩
                  · rw [rowF_snoc, HF.out]; exact hNr
                  · have := HRD.out.step HS.out; rwa [List.drop_drop] at this
                case measure => (simp [intOf]) <;> omega
          · have hltI : (p.size : Int) ≤ (k : Int) + 1 := by omega
            have hltD : decide ((k : Int) + 1 < p.size) = false := decide_eq_false (by omega)
            clear h42 hA hlt2
            go_wp2_with (at_make; refine wpList_make_full _ rfl _ _ 74 rfl wo.heap.size 4 i0 (.bool false) 1 Try.underlying74 hi hz0 hz1 .i64 .i64 _ _ (s.size + 1) rfl rfl ?m1 ?m2 ?m3 ?m4 ?m5 ?_)
            case m1 => omega
            case m2 => omega
            case m3 => rw [hz2]; omega
            case m4 => unfold maxLen; omega
            case m5 => exact Nat.le_refl _
            intro w4 hown4 hg4
            have hbm : Below w.heap.size w w4 := hbr.grown hg4 hbr.size (by intro k hk; cases hk)
            have hN : Blk w4 wo.heap.size 4 (rowCells (s.size + 1) fun _ => false) := blk_made hown4
            have hO : Blk w4 g 4 (rowCells (s.size + 1) f) := hrow.grown hg4 (by simp)
            have hgo : g ≠ wo.heap.size := by have := hrow.lt; omega
            clear hown4 hg4 hrow hbr
            go_wp2
            have hN0 := hN
            rw [start_row' (A := af (2, 0) f s.data.toList)] at hN0
            clear hN
            go_loopw [10, 11] (fun o i wr => ∃ j : Nat, j ≤ s.size + 1 ∧ i = .int .i64 j ∧ o = .bool (pre (af (2, 0) f s.data.toList) j) ∧ Blk wr wo.heap.size 4 (rowCells (s.size + 1) fun m => decide (m < j) && af (2, 0) f s.data.toList m) ∧ Blk wr g 4 (rowCells (s.size + 1) f) ∧ Below w.heap.size w wr)
              (fun _ i _ => s.size + 1 - (intOf i).toNat)
            case atStart => exact ⟨0, Nat.zero_le _, rfl, rfl, hN0, hO, hbm⟩
            case round =>
              obtain ⟨j, hj, rfl, rfl, hNr, hOr, hbr⟩ := hrel
              clear hN0 hO hbm
              by_cases hjl : j < s.size + 1
              · have o0 := hOr.cell j
                rw [rowCells_get _ hjl] at o0
                have n0 := hNr.cell j
                rw [rowCells_get _ hjl] at n0
                have nf := hNr.frozen j
                have hjI : (j : Int) ≤ s.size := by omega
                cases j with
                | zero =>
                  have HT := Lib.hid (show f 0 = af (2, 0) f s.data.toList 0 from (some_zero _ _ _).symm)
                  go_wp2
                  go_roundw
                  case rel =>
                    refine ⟨0 + 1, by omega, by go_num, ?_, ?_, hOr.far (p := ⟨wo.heap.size, 0, none⟩) hgo _, hbr.setCell (p := ⟨wo.heap.size, 0, none⟩) hos _⟩
                    · exact congrArg Value.bool (HT.out)
                    · rw [← row_step' (b := f 0) (HT.out)]; exact hNr.set_ 0 _
                  case measure => (simp [intOf]) <;> omega
                | succ j =>
                  have hjs : j < s.size := by omega
                  have HQ := Lib.hid (some_succ 0 f s.data.toList j)
                  have HB := Lib.hid (bytes_at s j hjs)
                  have q0 : (0 : Int) < ((j + 1 : Nat) : Int) := by omega
                  have e1 : ((j + 1 : Nat) : Int) - 1 = (j : Int) := by omega
                  by_cases h47 : s[j] = 47
                  · have q47 : ((s[j].toNat : Int) == 47) = true := by rw [h47]; rfl
                    have HT := Lib.hid (show f (j + 1) = af (2, 0) f s.data.toList (j + 1) from by rw [HQ.out, HB.out, h47]; simp)
                    clear h47
                    go_wp2
                    go_roundw
                    case rel =>
                      refine ⟨j + 1 + 1, by omega, by go_num, ?_, ?_, hOr.far (p := ⟨wo.heap.size, j + 1, none⟩) hgo _, hbr.setCell (p := ⟨wo.heap.size, j + 1, none⟩) hos _⟩
                      · exact congrArg Value.bool (HT.out)
                      · rw [← row_step' (b := f (j + 1)) (HT.out)]; exact hNr.set_ (j + 1) _
                    case measure => (simp [intOf]) <;> omega
                  · have q47 : ((s[j].toNat : Int) == 47) = false := (u8_beq_lit _ 47 (by omega)).trans (by simpa using h47)
                    have hb47 : (s[j] != 47) = true := by simpa using h47
                    cases ho : af (2, 0) f s.data.toList j with
                    | true =>
                      have HT := Lib.hid (show true = af (2, 0) f s.data.toList (j + 1) from by rw [HQ.out, HB.out, ho, hb47]; simp)
                      have hp' : pre (af (2, 0) f s.data.toList) (j + 1) = true := ho
                      clear h47 ho hb47
                      go_wp2
                      go_roundw
                      case rel =>
                        refine ⟨j + 1 + 1, by omega, by go_num, ?_, ?_, hOr.far (p := ⟨wo.heap.size, j + 1, none⟩) hgo _, hbr.setCell (p := ⟨wo.heap.size, j + 1, none⟩) hos _⟩
                        · exact congrArg Value.bool (HT.out)
                        · rw [← row_step' (b := true) (HT.out)]; exact hNr.set_ (j + 1) _
                      case measure => (simp [intOf]) <;> omega
                    | false =>
                      have HT := Lib.hid (show f (j + 1) = af (2, 0) f s.data.toList (j + 1) from by rw [HQ.out, HB.out, ho]; simp)
                      have hp' : pre (af (2, 0) f s.data.toList) (j + 1) = false := ho
                      clear h47 ho hb47
                      go_wp2
                      go_roundw
                      case rel =>
                        refine ⟨j + 1 + 1, by omega, by go_num, ?_, ?_, hOr.far (p := ⟨wo.heap.size, j + 1, none⟩) hgo _, hbr.setCell (p := ⟨wo.heap.size, j + 1, none⟩) hos _⟩
                        · exact congrArg Value.bool (HT.out)
                        · rw [← row_step' (b := f (j + 1)) (HT.out)]; exact hNr.set_ (j + 1) _
                      case measure => (simp [intOf]) <;> omega
              · have hje : j = s.size + 1 := by omega
                subst hje
                rw [end_row'] at hNr
                have hjI : (s.size : Int) < ((s.size + 1 : Nat) : Int) := by omega
                have hjD : decide (((s.size + 1 : Nat) : Int) ≤ (s.size : Int)) = false := decide_eq_false (by omega)
                go_wp2
                go_roundw
                case rel =>
                  refine ⟨k + 1, _, done ++ [(2, 0)], by omega, by go_num, rfl, ?_, hbr, ?_⟩
                  · rw [rowF_snoc, HF.out]; exact hNr
                  · have := HRD.out.step HS.out; rwa [List.drop_drop] at this
                case measure => (simp [intOf]) <;> omega
      · have q42 : ((p[k].toNat : Int) == 42) = false := (u8_beq_lit _ 42 (by omega)).trans (by simpa using h42)
        by_cases h63 : p[k] = 63
        · have q63 : ((p[k].toNat : Int) == 63) = true := by rw [h63]; rfl
          have q92 : ((p[k].toNat : Int) == 92) = false := by rw [h63]; rfl
          have HS := Lib.hid (show stepP (p.data.toList.drop k) = some ((1, 0), 1) from by rw [HD.out, h63]; simp [stepP])
          clear h42 h63
          go_wp2_with (at_make; refine wpList_make_full _ rfl _ _ 74 rfl wo.heap.size 4 i0 (.bool false) 1 Try.underlying74 hi hz0 hz1 .i64 .i64 _ _ (s.size + 1) rfl rfl ?m1 ?m2 ?m3 ?m4 ?m5 ?_)
          case m1 => omega
          case m2 => omega
          case m3 => rw [hz2]; omega
          case m4 => unfold maxLen; omega
          case m5 => exact Nat.le_refl _
          intro w4 hown4 hg4
          have hbm : Below w.heap.size w w4 := hbr.grown hg4 hbr.size (by intro k hk; cases hk)
          have hN : Blk w4 wo.heap.size 4 (rowCells (s.size + 1) fun _ => false) := blk_made hown4
          have hO : Blk w4 g 4 (rowCells (s.size + 1) f) := hrow.grown hg4 (by simp)
          have hgo : g ≠ wo.heap.size := by have := hrow.lt; omega
          clear hown4 hg4 hrow hbr
          go_wp2
          go_quiet (fail)
          go_wp2
          have hN0 := hN
          rw [start_row0 (A := af (1, 0) f s.data.toList) (short_zero _ _ _ _ (by omega))] at hN0
          clear hN
          go_loopw [14] (fun i wr => ∃ j : Nat, j ≤ s.size ∧ i = .int .i64 j ∧ Blk wr wo.heap.size 4 (rowCells (s.size + 1) fun m => decide (m ≤ j) && af (1, 0) f s.data.toList m) ∧ Blk wr g 4 (rowCells (s.size + 1) f) ∧ Below w.heap.size w wr)
            (fun i _ => s.size - (intOf i).toNat)
          case atStart => exact ⟨0, Nat.zero_le _, rfl, hN0, hO, below_drewN hbm _⟩
          case round =>
            obtain ⟨j, hj, rfl, hNr, hOr, hbr⟩ := hrel
            clear hN0 hO hbm
            by_cases hjl : j < s.size
            · have o0 := hOr.cell j
              rw [rowCells_get _ (by omega)] at o0
              have n0 := hNr.cell (j + 1)
              rw [rowCells_get _ (by omega)] at n0
              have nf := hNr.frozen (j + 1)
              have HQ := Lib.hid ((short_succ 1 0 f s.data.toList j (by omega)).trans (by rw [bytes_at s j hjl]))
              cases hfj : f j with
              | true =>
                rw [hfj] at o0
                have HT := Lib.hid (show takes (1, 0) s[j] = af (1, 0) f s.data.toList (j + 1) from by rw [HQ.out, hfj]; simp)
                clear hfj
                by_cases h47 : s[j] = 47
                · have q47 : ((s[j].toNat : Int) != 47) = false := by rw [h47]; rfl
                  have HT2 := Lib.hid (show false = af (1, 0) f s.data.toList (j + 1) from by rw [← HT.out, h47]; rfl)
                  clear h47
                  go_wp2
                  go_roundw
                  case rel =>
                    refine ⟨j + 1, by omega, by go_num, ?_, hOr.far (p := ⟨wo.heap.size, j + 1, none⟩) hgo _, hbr.setCell (p := ⟨wo.heap.size, j + 1, none⟩) hos _⟩
                    rw [← row_step (b := false) (HT2.out)]; exact hNr.set_ (j + 1) _
                  case measure => (simp [intOf]) <;> omega
                · have q47 : ((s[j].toNat : Int) != 47) = true := (u8_bne47 _).trans (by simpa using h47)
                  have HT2 := Lib.hid (show true = af (1, 0) f s.data.toList (j + 1) from by rw [← HT.out]; simp [takes, h47])
                  clear h47
                  go_wp2
                  go_roundw
                  case rel =>
                    refine ⟨j + 1, by omega, by go_num, ?_, hOr.far (p := ⟨wo.heap.size, j + 1, none⟩) hgo _, hbr.setCell (p := ⟨wo.heap.size, j + 1, none⟩) hos _⟩
                    rw [← row_step (b := true) (HT2.out)]; exact hNr.set_ (j + 1) _
                  case measure => (simp [intOf]) <;> omega
              | false =>
                rw [hfj] at o0
                have HT := Lib.hid (show false = af (1, 0) f s.data.toList (j + 1) from by rw [HQ.out, hfj]; simp)
                clear hfj
                go_wp2
                go_roundw
                case rel =>
                  refine ⟨j + 1, by omega, by go_num, ?_, hOr.far (p := ⟨wo.heap.size, j + 1, none⟩) hgo _, hbr.setCell (p := ⟨wo.heap.size, j + 1, none⟩) hos _⟩
                  rw [← row_step (b := false) (HT.out)]; exact hNr.set_ (j + 1) _
                case measure => (simp [intOf]) <;> omega
            · have hje : j = s.size := by omega
              subst hje
              rw [end_row (Nat.le_refl _)] at hNr
              go_wp2
              go_roundw
              case rel =>
                refine ⟨k + 1, _, done ++ [(1, 0)], by omega, by go_num, rfl, ?_, hbr, ?_⟩
                · rw [rowF_snoc, HF.out]; exact hNr
                · have := HRD.out.step HS.out; rwa [List.drop_drop] at this
              case measure => (simp [intOf]) <;> omega
        · have q63 : ((p[k].toNat : Int) == 63) = false := (u8_beq_lit _ 63 (by omega)).trans (by simpa using h63)
          by_cases h92 : p[k] = 92
          · have q92 : ((p[k].toNat : Int) == 92) = true := by rw [h92]; rfl
            have hlt2 : k + 1 < p.size := by
              rcases Nat.lt_or_ge (k + 1) p.size with h | h
              · exact h
              · exfalso
                have hd : p.data.toList.drop (k + 1) = [] := List.drop_eq_nil_of_le (by rw [size_list]; exact h)
                have := HRD.out.bad (by rw [HD.out]; simp) (by rw [HD.out, hd, h92]; simp [stepP])
                rw [HL.out] at this; cases this
            have HS := Lib.hid (show stepP (p.data.toList.drop k) = some ((0, p[k + 1]), 2) from by rw [HD.out, drop_at p (k + 1) hlt2, h92]; simp [stepP])
            have hltI : (k : Int) + 1 < p.size := by omega
            clear h42 h63 h92
            go_wp2_with (at_make; refine wpList_make_full _ rfl _ _ 74 rfl wo.heap.size 4 i0 (.bool false) 1 Try.underlying74 hi hz0 hz1 .i64 .i64 _ _ (s.size + 1) rfl rfl ?m1 ?m2 ?m3 ?m4 ?m5 ?_)
            case m1 => omega
            case m2 => omega
            case m3 => rw [hz2]; omega
            case m4 => unfold maxLen; omega
            case m5 => exact Nat.le_refl _
            intro w4 hown4 hg4
            have hbm : Below w.heap.size w w4 := hbr.grown hg4 hbr.size (by intro k hk; cases hk)
            have hN : Blk w4 wo.heap.size 4 (rowCells (s.size + 1) fun _ => false) := blk_made hown4
            have hO : Blk w4 g 4 (rowCells (s.size + 1) f) := hrow.grown hg4 (by simp)
            have hgo : g ≠ wo.heap.size := by have := hrow.lt; omega
            clear hown4 hg4 hrow hbr
            go_wp2
            go_quiet (fail)
            go_wp2
            have hN0 := hN
            rw [start_row0 (A := af (0, p[k + 1]) f s.data.toList) (short_zero _ _ _ _ (by omega))] at hN0
            clear hN
            go_loopw [14] (fun i wr => ∃ j : Nat, j ≤ s.size ∧ i = .int .i64 j ∧ Blk wr wo.heap.size 4 (rowCells (s.size + 1) fun m => decide (m ≤ j) && af (0, p[k + 1]) f s.data.toList m) ∧ Blk wr g 4 (rowCells (s.size + 1) f) ∧ Below w.heap.size w wr)
              (fun i _ => s.size - (intOf i).toNat)
            case atStart => exact ⟨0, Nat.zero_le _, rfl, hN0, hO, below_drewN hbm _⟩
            case round =>
              obtain ⟨j, hj, rfl, hNr, hOr, hbr⟩ := hrel
              clear hN0 hO hbm
              by_cases hjl : j < s.size
              · have o0 := hOr.cell j
                rw [rowCells_get _ (by omega)] at o0
                have n0 := hNr.cell (j + 1)
                rw [rowCells_get _ (by omega)] at n0
                have nf := hNr.frozen (j + 1)
                have HQ := Lib.hid ((short_succ 0 p[k + 1] f s.data.toList j (by omega)).trans (by rw [bytes_at s j hjl]))
                cases hfj : f j with
                | true =>
                  rw [hfj] at o0
                  have HT := Lib.hid (show takes (0, p[k + 1]) s[j] = af (0, p[k + 1]) f s.data.toList (j + 1) from by rw [HQ.out, hfj]; simp)
                  clear hfj
                  by_cases hc : s[j] = p[k + 1]
                  · have qc : ((s[j].toNat : Int) == ((p[k + 1]).toNat : Int)) = true := by rw [hc]; simp
                    have HT2 := Lib.hid (show true = af (0, p[k + 1]) f s.data.toList (j + 1) from by rw [← HT.out, hc]; simp [takes])
                    clear hc
                    go_wp2
                    go_roundw
                    case rel =>
                      refine ⟨j + 1, by omega, by go_num, ?_, hOr.far (p := ⟨wo.heap.size, j + 1, none⟩) hgo _, hbr.setCell (p := ⟨wo.heap.size, j + 1, none⟩) hos _⟩
                      rw [← row_step (b := true) (HT2.out)]; exact hNr.set_ (j + 1) _
                    case measure => (simp [intOf]) <;> omega
                  · have qc : ((s[j].toNat : Int) == ((p[k + 1]).toNat : Int)) = false := (u8_beq _ _).trans (by simpa using hc)
                    have HT2 := Lib.hid (show false = af (0, p[k + 1]) f s.data.toList (j + 1) from by rw [← HT.out]; simp [takes, hc])
                    clear hc
                    go_wp2
                    go_roundw
                    case rel =>
                      refine ⟨j + 1, by omega, by go_num, ?_, hOr.far (p := ⟨wo.heap.size, j + 1, none⟩) hgo _, hbr.setCell (p := ⟨wo.heap.size, j + 1, none⟩) hos _⟩
                      rw [← row_step (b := false) (HT2.out)]; exact hNr.set_ (j + 1) _
                    case measure => (simp [intOf]) <;> omega
                | false =>
                  rw [hfj] at o0
                  have HT := Lib.hid (show false = af (0, p[k + 1]) f s.data.toList (j + 1) from by rw [HQ.out, hfj]; simp)
                  clear hfj
                  go_wp2
                  go_roundw
                  case rel =>
                    refine ⟨j + 1, by omega, by go_num, ?_, hOr.far (p := ⟨wo.heap.size, j + 1, none⟩) hgo _, hbr.setCell (p := ⟨wo.heap.size, j + 1, none⟩) hos _⟩
                    rw [← row_step (b := false) (HT.out)]; exact hNr.set_ (j + 1) _
                  case measure => (simp [intOf]) <;> omega
              · have hje : j = s.size := by omega
                subst hje
                rw [end_row (Nat.le_refl _)] at hNr
                go_wp2
                go_roundw
                case rel =>
                  refine ⟨k + 2, _, done ++ [(0, p[k + 1])], by omega, by go_num, rfl, ?_, hbr, ?_⟩
                  · rw [rowF_snoc, HF.out]; exact hNr
                  · have := HRD.out.step HS.out; rwa [List.drop_drop] at this
                case measure => (simp [intOf]) <;> omega
          · have q92 : ((p[k].toNat : Int) == 92) = false := (u8_beq_lit _ 92 (by omega)).trans (by simpa using h92)
            have HS := Lib.hid (show stepP (p.data.toList.drop k) = some ((0, p[k]), 1) from by rw [HD.out]; simp [stepP, h42, h63, h92])
            clear h42 h63 h92
            go_wp2_with (at_make; refine wpList_make_full _ rfl _ _ 74 rfl wo.heap.size 4 i0 (.bool false) 1 Try.underlying74 hi hz0 hz1 .i64 .i64 _ _ (s.size + 1) rfl rfl ?m1 ?m2 ?m3 ?m4 ?m5 ?_)
            case m1 => omega
            case m2 => omega
            case m3 => rw [hz2]; omega
            case m4 => unfold maxLen; omega
            case m5 => exact Nat.le_refl _
            intro w4 hown4 hg4
            have hbm : Below w.heap.size w w4 := hbr.grown hg4 hbr.size (by intro k hk; cases hk)
            have hN : Blk w4 wo.heap.size 4 (rowCells (s.size + 1) fun _ => false) := blk_made hown4
            have hO : Blk w4 g 4 (rowCells (s.size + 1) f) := hrow.grown hg4 (by simp)
            have hgo : g ≠ wo.heap.size := by have := hrow.lt; omega
            clear hown4 hg4 hrow hbr
            go_wp2
            go_quiet (fail)
            go_wp2
            have hN0 := hN
            rw [start_row0 (A := af (0, p[k]) f s.data.toList) (short_zero _ _ _ _ (by omega))] at hN0
            clear hN
            go_loopw [14] (fun i wr => ∃ j : Nat, j ≤ s.size ∧ i = .int .i64 j ∧ Blk wr wo.heap.size 4 (rowCells (s.size + 1) fun m => decide (m ≤ j) && af (0, p[k]) f s.data.toList m) ∧ Blk wr g 4 (rowCells (s.size + 1) f) ∧ Below w.heap.size w wr)
              (fun i _ => s.size - (intOf i).toNat)
            case atStart => exact ⟨0, Nat.zero_le _, rfl, hN0, hO, below_drewN hbm _⟩
            case round =>
              obtain ⟨j, hj, rfl, hNr, hOr, hbr⟩ := hrel
              clear hN0 hO hbm
              by_cases hjl : j < s.size
              · have o0 := hOr.cell j
                rw [rowCells_get _ (by omega)] at o0
                have n0 := hNr.cell (j + 1)
                rw [rowCells_get _ (by omega)] at n0
                have nf := hNr.frozen (j + 1)
                have HQ := Lib.hid ((short_succ 0 p[k] f s.data.toList j (by omega)).trans (by rw [bytes_at s j hjl]))
                cases hfj : f j with
                | true =>
                  rw [hfj] at o0
                  have HT := Lib.hid (show takes (0, p[k]) s[j] = af (0, p[k]) f s.data.toList (j + 1) from by rw [HQ.out, hfj]; simp)
                  clear hfj
                  by_cases hc : s[j] = p[k]
                  · have qc : ((s[j].toNat : Int) == ((p[k]).toNat : Int)) = true := by rw [hc]; simp
                    have HT2 := Lib.hid (show true = af (0, p[k]) f s.data.toList (j + 1) from by rw [← HT.out, hc]; simp [takes])
                    clear hc
                    go_wp2
                    go_roundw
                    case rel =>
                      refine ⟨j + 1, by omega, by go_num, ?_, hOr.far (p := ⟨wo.heap.size, j + 1, none⟩) hgo _, hbr.setCell (p := ⟨wo.heap.size, j + 1, none⟩) hos _⟩
                      rw [← row_step (b := true) (HT2.out)]; exact hNr.set_ (j + 1) _
                    case measure => (simp [intOf]) <;> omega
                  · have qc : ((s[j].toNat : Int) == ((p[k]).toNat : Int)) = false := (u8_beq _ _).trans (by simpa using hc)
                    have HT2 := Lib.hid (show false = af (0, p[k]) f s.data.toList (j + 1) from by rw [← HT.out]; simp [takes, hc])
                    clear hc
                    go_wp2
                    go_roundw
                    case rel =>
                      refine ⟨j + 1, by omega, by go_num, ?_, hOr.far (p := ⟨wo.heap.size, j + 1, none⟩) hgo _, hbr.setCell (p := ⟨wo.heap.size, j + 1, none⟩) hos _⟩
                      rw [← row_step (b := false) (HT2.out)]; exact hNr.set_ (j + 1) _
                    case measure => (simp [intOf]) <;> omega
                | false =>
                  rw [hfj] at o0
                  have HT := Lib.hid (show false = af (0, p[k]) f s.data.toList (j + 1) from by rw [HQ.out, hfj]; simp)
                  clear hfj
                  go_wp2
                  go_roundw
                  case rel =>
                    refine ⟨j + 1, by omega, by go_num, ?_, hOr.far (p := ⟨wo.heap.size, j + 1, none⟩) hgo _, hbr.setCell (p := ⟨wo.heap.size, j + 1, none⟩) hos _⟩
                    rw [← row_step (b := false) (HT.out)]; exact hNr.set_ (j + 1) _
                  case measure => (simp [intOf]) <;> omega
              · have hje : j = s.size := by omega
                subst hje
                rw [end_row (Nat.le_refl _)] at hNr
                go_wp2
                go_roundw
                case rel =>
                  refine ⟨k + 1, _, done ++ [(0, p[k])], by omega, by go_num, rfl, ?_, hbr, ?_⟩
                  · rw [rowF_snoc, HF.out]; exact hNr
                  · have := HRD.out.step HS.out; rwa [List.drop_drop] at this
                case measure => (simp [intOf]) <;> omega
    · have hkp : k = p.size := by omega
      have HE := Lib.hid (show rowF s.data.toList done = rowF s.data.toList l from by
        have h := HRD.out
        rw [hkp, drop_end] at h
        have := h.end_
        rw [HL.out] at this
        injection this with this
        rw [this])
      subst hkp
      have r0 := hrow.cell s.size
      rw [rowCells_get _ (by omega), HE.out] at r0
      go_wp2
      go_ret
      exact ⟨rfl, hbr⟩

theorem refMatch_any (p s : ByteArray) (w : World) (hp : p.size ≤ 1000000000000) (hs : s.size ≤ 1000000000000) :
    Calls Try.prog 28 #[.string p, .string s] w fun e w' => e = .returned (.bool (matchF p.data.toList s.data.toList)) ∧ Below w.heap.size w w' := by
  cases hv : validF p.data.toList with
  | false =>
    have : matchF p.data.toList s.data.toList = false := by
      unfold matchF
      unfold validF at hv
      by_cases h : 200 < p.data.toList.length
      · rw [if_pos h]
      · rw [if_neg h]
        simp at hv
        rw [hv (by simp at h; omega)]
    rw [this]; exact refMatch_no p s w hv hp
  | true =>
    have h1 := hv
    unfold validF at h1
    simp at h1
    obtain ⟨h2, h3⟩ := h1
    obtain ⟨l, hl⟩ := Option.isSome_iff_exists.1 h3
    have : matchF p.data.toList s.data.toList = rowF s.data.toList l s.size := by
      unfold matchF
      rw [if_neg (by simp; omega), hl, size_list]
    rw [this]; exact refMatch_yes p s l w hp hs hv hl
end Go.Proofs.Ythdolhfaiofogaa
