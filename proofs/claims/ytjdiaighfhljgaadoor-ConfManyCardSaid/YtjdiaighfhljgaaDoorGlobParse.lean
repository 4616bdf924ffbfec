/-
  glob's parse: a pattern is cut into the parts that the mathematics says, or refused.
-/
import Derived.Test.YtjdiaighfhljgaaDoorGlobRow
import Derived.Deep.RegionHeld3
import Derived.Deep.RegionWith
import Derived.Deep.QuietTactic
import Derived.BigQuiet
import Derived.Test.YtjdiaighfhljgaaDoorShelf
import Derived.Lib.IndexBytes
namespace Go.Proofs.YtjdiaighfhljgaaDoor
open Go.RowKit GlobMath

def partCells (l : List (Nat × UInt8)) : List Value := l.flatMap fun x => [.int .i64 x.1, .int .u8 x.2.toNat]
theorem partCells_snoc (l : List (Nat × UInt8)) (x : Nat × UInt8) : partCells (l ++ [x]) = partCells l ++ [.int .i64 x.1, .int .u8 x.2.toNat] := by simp [partCells]
def strLen : Value → Nat
  | .string s => s.size
  | _ => 0
theorem partInfo : (Tryd.prog.info? 73).map (fun i => (i.zero, i.size, i.bytes)) = some (some (.agg #[.int .i64 0, .int .u8 0]), 2, 16) := by kernel_rfl

def ParsePost (w : World) (P : List UInt8) (e : Ending) (w' : World) : Prop :=
  match (if 200 < P.length then none else parts P) with
  | none => e = .returned (.tuple #[.slice none 0 0, .bool false]) ∧ Below w.heap.size w w'
  | some l => ∃ v, e = .returned (.tuple #[v, .bool true]) ∧ w'.ownsRow w.heap.size 73 2 v l.length (partCells l) ∧ Below w.heap.size w w'
theorem ParsePost.bad {w w' : World} {P : List UInt8} {e : Ending} (h : 200 < P.length ∨ parts P = none) (he : e = .returned (.tuple #[.slice none 0 0, .bool false])) (hb : Below w.heap.size w w') : ParsePost w P e w' := by
  have : (if 200 < P.length then none else parts P) = none := by
    rcases h with h | h
    · rw [if_pos h]
    · split
      · rfl
      · exact h
  unfold ParsePost
  rw [this]
  exact ⟨he, hb⟩
theorem ParsePost.good {w w' : World} {P : List UInt8} {e : Ending} {l : List (Nat × UInt8)} (h0 : P.length ≤ 200) (h : parts P = some l) {v : Value} (he : e = .returned (.tuple #[v, .bool true])) (ho : w'.ownsRow w.heap.size 73 2 v l.length (partCells l)) (hb : Below w.heap.size w w') : ParsePost w P e w' := by
  unfold ParsePost
  rw [if_neg (by omega), h]
  exact ⟨v, he, ho, hb⟩

theorem first_byte {s : ByteArray} (h : 0 < s.size) : ∃ r, s.data.toList = s[0] :: r := by
  obtain ⟨⟨l⟩⟩ := s
  cases l with
  | nil => exact absurd h (by decide)
  | cons c r => exact ⟨r, rfl⟩
theorem second_byte {s : ByteArray} (h : 1 < s.size) : ∃ r, s.data.toList = s[0] :: s[1] :: r := by
  obtain ⟨⟨l⟩⟩ := s
  match l, h with
  | [], h => exact absurd h (by decide)
  | [_], h => exact absurd h (by simp [ByteArray.size])
  | c :: d :: r, _ => exact ⟨r, rfl⟩
theorem size_list (s : ByteArray) : s.data.toList.length = s.size := by simp

theorem parse_long (p : ByteArray) (w : World) (hp : 200 < p.size) (hp2 : p.size ≤ 140737488351232) :
    Calls Tryd.prog 36 #[.string p] w (ParsePost w p.data.toList) := by
  go_enter Tryd.func36, Tryd.ntmps36
  go_wp2
  go_ret2
  exact .bad (.inl (by rw [size_list]; omega)) rfl (Below.refl _ _)

set_option maxHeartbeats 4000000 in
theorem parse_short (p : ByteArray) (w : World) (hp : p.size ≤ 200) :
    Calls Tryd.prog 36 #[.string p] w (ParsePost w p.data.toList) := by
  obtain ⟨i0, hi, hz0, hz1, hz2⟩ := info_parts partInfo
  go_enter Tryd.func36, Tryd.ntmps36
  go_wp2
  go_loopw [4, 5] (fun v r wr => ∃ (rb : ByteArray) (done : List (Nat × UInt8)), r = .string rb ∧ ReadTo p.data.toList rb.data.toList done ∧ done.length + rb.size ≤ p.size ∧
      wr.ownsRow w.heap.size 73 2 v done.length (partCells done) ∧ Below w.heap.size w wr)
    (fun _ r _ => strLen r)
  case atStart => exact ⟨p, [], rfl, ReadTo.start _, by simp, World.ownsRow_nil _ _ _ _, Below.refl _ _⟩
  case round =>
    obtain ⟨rb, done, rfl, hread, hlen, hown, hbr⟩ := hrel
    have hsz := hbr.size
    by_cases z0 : 0 < rb.size
    · have ze : (!rb.toList.isEmpty) = true := by
        obtain ⟨r, hr⟩ := first_byte z0
        rw [Lib.toList_data, hr]; rfl
      obtain ⟨r0, hr0⟩ := first_byte z0
      have HR := Lib.hid hr0
      clear hr0
      by_cases hA : Lib.hasPrefix rb.data.toList [42, 42] = true
      · have z1 : 1 < rb.size := by
          have := hA
          rw [HR.out] at this
          match r0, HR.out, this with
          | [], _, h => simp [Lib.hasPrefix, List.isPrefixOf] at h
          | d :: r, h, _ => have := congrArg List.length h; rw [size_list] at this; simp at this; omega
        have hs : stepP rb.data.toList = some ((3, 0), 2) := by
          have := hA
          rw [HR.out] at this ⊢
          match r0, this with
          | [], h => simp [Lib.hasPrefix, List.isPrefixOf] at h
          | d :: r, h => simp [Lib.hasPrefix, List.isPrefixOf] at h; simp [stepP, ← h.1, ← h.2]
        have HX := Lib.hid hs
        clear hs
        go_wp2_with (first | (go_at_call 42; refine (Tryd.strings_HasPrefix _ _ _).mono ?_; rintro e w' ⟨rfl, rfl⟩) | (at_builtin; refine wpList_append_own _ rfl _ _ 67 rfl w.heap.size 73 i0 (.agg #[.int .i64 0, .int .u8 0]) 2 16 Tryd.underlying67 hi hz0 hz1 hz2 rfl (by decide) _ _ _ rfl ((hown.alloc _).alloc _) ⟨wr.heap.size + 1, 0, none⟩ 1 1 [.int .i64 3, .int .u8 0] rfl rfl ?c1U ?c2U ?c3U ?c4U ?c5U ?_))
        case c1U =>
          intro j u hj
          match j, hj with
          | 0, hj => simp at hj; subst hj; simp [Addr.add]
          | 1, hj => simp at hj; subst hj; simp [Addr.add]
        case c2U => intro u hu; simp at hu; rcases hu with rfl | rfl <;> rfl
        case c3U => unfold maxLen; omega
        case c4U => omega
        case c5U => simp; omega
        intro v' w1 hown' hgrow _
        have hb1 : Below w.heap.size w w1 := ((hbr.alloc hsz _).alloc (by simp; omega) _).grown hgrow (by simp; omega) (fun k hk => (hown.lt k hk).1)
        clear hgrow hown
        go_wp2
        go_roundw
        case rel =>
          refine ⟨_, done ++ [(3, 0)], rfl, ?_, ?_, ?_, hb1⟩
          · rw [Lib.extract_to_end]; exact hread.step HX.out
          · have := stepP_pos HX.out; rw [size_list] at this; simp; omega
          · rw [partCells_snoc]; simpa using hown'
        case measure => simp [strLen]; omega
      · have hA' : Lib.hasPrefix rb.data.toList [42, 42] = false := by simpa using hA
        clear hA
        by_cases h42 : rb[0] = 42
        · have q42 : ((rb[0].toNat : Int) == 42) = true := by simp [h42]
          have hs : stepP rb.data.toList = some ((2, 0), 1) := by
            have h := hA'
            rw [HR.out, h42] at h ⊢
            have hh : r0.head? ≠ some 42 := by
              intro hc
              cases r0 with
              | nil => simp at hc
              | cons d r => simp at hc; subst hc; simp [Lib.hasPrefix, List.isPrefixOf] at h
            simp [stepP, hh]
          clear h42
          have HX := Lib.hid hs
          clear hs
          go_wp2_with (first | (go_at_call 42; refine (Tryd.strings_HasPrefix _ _ _).mono ?_; rintro e w' ⟨rfl, rfl⟩) | (at_builtin; refine wpList_append_own _ rfl _ _ 67 rfl w.heap.size 73 i0 (.agg #[.int .i64 0, .int .u8 0]) 2 16 Tryd.underlying67 hi hz0 hz1 hz2 rfl (by decide) _ _ _ rfl ((hown.alloc _).alloc _) ⟨wr.heap.size + 1, 0, none⟩ 1 1 [.int .i64 2, .int .u8 0] rfl rfl ?c1U ?c2U ?c3U ?c4U ?c5U ?_))
          case c1U =>
            intro j u hj
            match j, hj with
            | 0, hj => simp at hj; subst hj; simp [Addr.add]
            | 1, hj => simp at hj; subst hj; simp [Addr.add]
          case c2U => intro u hu; simp at hu; rcases hu with rfl | rfl <;> rfl
          case c3U => unfold maxLen; omega
          case c4U => omega
          case c5U => simp; omega
          intro v' w1 hown' hgrow _
          have hb1 : Below w.heap.size w w1 := ((hbr.alloc hsz _).alloc (by simp; omega) _).grown hgrow (by simp; omega) (fun k hk => (hown.lt k hk).1)
          clear hgrow hown
          go_wp2
          go_roundw
          case rel =>
            refine ⟨_, done ++ [(2, 0)], rfl, ?_, ?_, ?_, hb1⟩
            · rw [Lib.extract_to_end]; exact hread.step HX.out
            · have := stepP_pos HX.out; rw [size_list] at this; simp; omega
            · rw [partCells_snoc]; simpa using hown'
          case measure => simp [strLen]; omega
        · have q42 : ((rb[0].toNat : Int) == 42) = false := (u8_beq_lit _ 42 (by omega)).trans (by simpa using h42)
          by_cases h63 : rb[0] = 63
          · have q63 : ((rb[0].toNat : Int) == 63) = true := by simp [h63]
            have hs : stepP rb.data.toList = some ((1, 0), 1) := by
              rw [HR.out, h63]
              simp [stepP]
            clear h42 h63
            have HX := Lib.hid hs
            clear hs
            go_wp2_with (first | (go_at_call 42; refine (Tryd.strings_HasPrefix _ _ _).mono ?_; rintro e w' ⟨rfl, rfl⟩) | (at_builtin; refine wpList_append_own _ rfl _ _ 67 rfl w.heap.size 73 i0 (.agg #[.int .i64 0, .int .u8 0]) 2 16 Tryd.underlying67 hi hz0 hz1 hz2 rfl (by decide) _ _ _ rfl ((hown.alloc _).alloc _) ⟨wr.heap.size + 1, 0, none⟩ 1 1 [.int .i64 1, .int .u8 0] rfl rfl ?c1U ?c2U ?c3U ?c4U ?c5U ?_))
            case c1U =>
              intro j u hj
              match j, hj with
              | 0, hj => simp at hj; subst hj; simp [Addr.add]
              | 1, hj => simp at hj; subst hj; simp [Addr.add]
            case c2U => intro u hu; simp at hu; rcases hu with rfl | rfl <;> rfl
            case c3U => unfold maxLen; omega
            case c4U => omega
            case c5U => simp; omega
            intro v' w1 hown' hgrow _
            have hb1 : Below w.heap.size w w1 := ((hbr.alloc hsz _).alloc (by simp; omega) _).grown hgrow (by simp; omega) (fun k hk => (hown.lt k hk).1)
            clear hgrow hown
            go_wp2
            go_roundw
            case rel =>
              refine ⟨_, done ++ [(1, 0)], rfl, ?_, ?_, ?_, hb1⟩
              · rw [Lib.extract_to_end]; exact hread.step HX.out
              · have := stepP_pos HX.out; rw [size_list] at this; simp; omega
              · rw [partCells_snoc]; simpa using hown'
            case measure => simp [strLen]; omega
          · have q63 : ((rb[0].toNat : Int) == 63) = false := (u8_beq_lit _ 63 (by omega)).trans (by simpa using h63)
            by_cases h92 : rb[0] = 92
            · have q92 : ((rb[0].toNat : Int) == 92) = true := by simp [h92]
              by_cases hone : rb.size = 1
              · have qd : (rb.toList == [92]) = true := by
                  have h := HR.out
                  have hl := congrArg List.length h
                  rw [size_list, hone] at hl
                  have : r0 = [] := List.eq_nil_of_length_eq_zero (by simp only [List.length_cons] at hl; omega)
                  rw [Lib.toList_data, h, h92, this]; rfl
                have hbad : parts p.data.toList = none := by
                  refine hread.bad (by rw [HR.out]; simp) ?_
                  have h := HR.out
                  have hl := congrArg List.length h
                  rw [size_list, hone] at hl
                  have : r0 = [] := List.eq_nil_of_length_eq_zero (by simp only [List.length_cons] at hl; omega)
                  rw [h, h92, this]; simp [stepP]
                have HB := Lib.hid hbad
                clear hbad h42 h63 h92 hone
                go_wp2_with (go_at_call 42; refine (Tryd.strings_HasPrefix _ _ _).mono ?_; rintro e w' ⟨rfl, rfl⟩)
                go_ret2
                exact .bad (.inr HB.out) rfl (hbr.alloc hsz _)
              · have z1 : 1 < rb.size := by omega
                have qd : (rb.toList == [92]) = false := by
                  obtain ⟨r, hr⟩ := second_byte z1
                  rw [Lib.toList_data, hr]; simp
                have hs : stepP rb.data.toList = some ((0, rb[1]), 2) := by
                  obtain ⟨r, hr⟩ := second_byte z1
                  rw [hr, h92]; simp [stepP]
                clear h42 h63 h92 hone
                have HX := Lib.hid hs
                clear hs
                go_wp2_with (first | (go_at_call 42; refine (Tryd.strings_HasPrefix _ _ _).mono ?_; rintro e w' ⟨rfl, rfl⟩) | (at_builtin; refine wpList_append_own _ rfl _ _ 67 rfl w.heap.size 73 i0 (.agg #[.int .i64 0, .int .u8 0]) 2 16 Tryd.underlying67 hi hz0 hz1 hz2 rfl (by decide) _ _ _ rfl ((hown.alloc _).alloc _) ⟨wr.heap.size + 1, 0, none⟩ 1 1 [.int .i64 0, .int .u8 (rb[1]).toNat] rfl rfl ?c1U ?c2U ?c3U ?c4U ?c5U ?_))
                case c1U =>
                  intro j u hj
                  match j, hj with
                  | 0, hj => simp at hj; subst hj; simp [Addr.add]
                  | 1, hj => simp at hj; subst hj; simp [Addr.add]
                case c2U => intro u hu; simp at hu; rcases hu with rfl | rfl <;> rfl
                case c3U => unfold maxLen; omega
                case c4U => omega
                case c5U => simp; omega
                intro v' w1 hown' hgrow _
                have hb1 : Below w.heap.size w w1 := ((hbr.alloc hsz _).alloc (by simp; omega) _).grown hgrow (by simp; omega) (fun k hk => (hown.lt k hk).1)
                clear hgrow hown
                go_wp2
                go_roundw
                case rel =>
                  refine ⟨_, done ++ [(0, rb[1])], rfl, ?_, ?_, ?_, hb1⟩
                  · rw [Lib.extract_to_end]; exact hread.step HX.out
                  · have := stepP_pos HX.out; rw [size_list] at this; simp; omega
                  · rw [partCells_snoc]; simpa using hown'
                case measure => simp [strLen]; omega
            · have q92 : ((rb[0].toNat : Int) == 92) = false := (u8_beq_lit _ 92 (by omega)).trans (by simpa using h92)
              have qd : (rb.toList == [92]) = false := by
                rw [Lib.toList_data, HR.out]; simp [h92]
              have hs : stepP rb.data.toList = some ((0, rb[0]), 1) := by
                rw [HR.out]; simp [stepP, h42, h63, h92]
              clear h42 h63 h92
              have HX := Lib.hid hs
              clear hs
              go_wp2_with (first | (go_at_call 42; refine (Tryd.strings_HasPrefix _ _ _).mono ?_; rintro e w' ⟨rfl, rfl⟩) | (at_builtin; refine wpList_append_own _ rfl _ _ 67 rfl w.heap.size 73 i0 (.agg #[.int .i64 0, .int .u8 0]) 2 16 Tryd.underlying67 hi hz0 hz1 hz2 rfl (by decide) _ _ _ rfl ((hown.alloc _).alloc _) ⟨wr.heap.size + 1, 0, none⟩ 1 1 [.int .i64 0, .int .u8 (rb[0]).toNat] rfl rfl ?c1U ?c2U ?c3U ?c4U ?c5U ?_))
              case c1U =>
                intro j u hj
                match j, hj with
                | 0, hj => simp at hj; subst hj; simp [Addr.add]
                | 1, hj => simp at hj; subst hj; simp [Addr.add]
              case c2U => intro u hu; simp at hu; rcases hu with rfl | rfl <;> rfl
              case c3U => unfold maxLen; omega
              case c4U => omega
              case c5U => simp; omega
              intro v' w1 hown' hgrow _
              have hb1 : Below w.heap.size w w1 := ((hbr.alloc hsz _).alloc (by simp; omega) _).grown hgrow (by simp; omega) (fun k hk => (hown.lt k hk).1)
              clear hgrow hown
              go_wp2
              go_roundw
              case rel =>
                refine ⟨_, done ++ [(0, rb[0])], rfl, ?_, ?_, ?_, hb1⟩
                · rw [Lib.extract_to_end]; exact hread.step HX.out
                · have := stepP_pos HX.out; rw [size_list] at this; simp; omega
                · rw [partCells_snoc]; simpa using hown'
              case measure => simp [strLen]; omega
    · have hnil : rb.data.toList = [] := List.eq_nil_of_length_eq_zero (by rw [size_list]; omega)
      have ze : (!rb.toList.isEmpty) = false := by rw [Lib.toList_data, hnil]; rfl
      rw [hnil] at hread
      have HE := Lib.hid hread.end_
      clear hnil hread
      go_wp2
      go_ret2
      exact .good (by rw [size_list]; exact hp) HE.out rfl hown hbr

theorem parse_any (p : ByteArray) (w : World) (hp : p.size ≤ 140737488351232) :
    Calls Tryd.prog 36 #[.string p] w (ParsePost w p.data.toList) := by
  by_cases h : p.size ≤ 200
  · exact parse_short p w h
  · exact parse_long p w (by omega) hp

end Go.Proofs.YtjdiaighfhljgaaDoor
