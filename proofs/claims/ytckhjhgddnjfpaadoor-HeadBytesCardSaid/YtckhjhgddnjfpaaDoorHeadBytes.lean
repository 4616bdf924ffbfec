/-
  HeadBytes.
-/
import Derived.Test.YtckhjhgddnjfpaaDoorHeadBytesMath
import Derived.Test.YtckhjhgddnjfpaaDoorHeadWorld
import Derived.ChangeOld
namespace Go.Proofs.YtckhjhgddnjfpaaDoor
open Go.RowKit HeadMath

def OneF (g : Bool) (f : ByteArray × ByteArray) (w : World) (v : Value) (z : Int) : Prop :=
  (g = true → z = 0 ∧ ∃ gg c, v = .slice (some ⟨gg, 0, none⟩) 1 c ∧ gg < w.heap.size ∧ w.cell? ⟨gg, 0, none⟩ = some (.string f.1) ∧ w.cell? ⟨gg, 1, none⟩ = some (.string f.2)) ∧ (g = false → z = 90 ∧ v = .slice none 0 0)
theorem OneF.below {g : Bool} {f : ByteArray × ByteArray} {w w' : World} {v : Value} {z : Int} (h : OneF g f w v z) (hb : Below w.heap.size w w') : OneF g f w' v z := by
  refine ⟨fun hg => ?_, h.2⟩
  obtain ⟨h0, gg, c, h1, h2, h3, h4⟩ := h.1 hg
  exact ⟨h0, gg, c, h1, Nat.lt_of_lt_of_le h2 hb.size, (hb.cell (p := ⟨gg, 0, none⟩) h2).trans h3, (hb.cell (p := ⟨gg, 1, none⟩) h2).trans h4⟩
def OnePost (g : Bool) (f : ByteArray × ByteArray) (w : World) (e : Ending) (w' : World) : Prop :=
  ∃ v z, e = .returned (.tuple #[v, .int .i64 z]) ∧ OneF g f w' v z ∧ Below w.heap.size w w'
theorem parse_one (x : ByteArray) (g : Bool) (f : ByteArray × ByteArray) (w : World) (h : parseF [x] = if g then some [f] else none) (hx : x.size ≤ 1000000) (t : TypeId) (cap q : Nat) (hq : q = w.heap.size) :
    Calls Tryd.prog 13 #[.slice (some ⟨q, 0, none⟩) 1 cap] (w.alloc (.cells #[.string x] t)) (OnePost g f w) := by
  subst hq
  have hin := strsIn_lit w t [x]
  have hb0 := (Below.refl w.heap.size w).alloc (o := .cells #[.string x] t) (Nat.le_refl _)
  refine (parse_some [x] (some ⟨w.heap.size, 0, none⟩) cap (w.alloc (.cells #[.string x] t)) hin (small_of _ (by intro s hs; simp at hs; subst hs; exact hx)) (by simp)).mono ?_
  rintro e w' ⟨hb, ⟨h1, _⟩ | ⟨_, h1, rfl⟩ | ⟨_, fs', v, h1, rfl, hown⟩⟩
  · exact absurd h1 (by simp)
  · rw [h] at h1
    cases g with
    | true => cases h1
    | false => exact ⟨_, _, rfl, ⟨(fun h => by cases h), fun _ => ⟨rfl, rfl⟩⟩, hb0.trans (hb.mono hb0.size)⟩
  · rw [h] at h1
    cases g with
    | false => cases h1
    | true =>
      cases h1
      rcases hown.2 with ⟨_, h2⟩ | ⟨gg, c, cur, rfl, _⟩
      · cases h2
      · obtain ⟨b, off, e1, e2, e3, e4⟩ := fieldsIn_own hown 0 (by simp)
        cases e1
        exact ⟨_, _, rfl, ⟨fun _ => ⟨rfl, gg, c, rfl, e2, e3, e4⟩, (fun h => by cases h)⟩, hb0.trans (hb.mono hb0.size)⟩
theorem conv_one (c : UInt8) (W : World) : (convert 49 9 (.slice (some ⟨W.heap.size, 0, none⟩) 1 1)).run Tryd.prog (W.alloc (.cells #[.int .u8 c.toNat] 5)) = .ok (.string ⟨#[c]⟩) (W.alloc (.cells #[.int .u8 c.toNat] 5)) := by
  have := run_convert_bytes_back (P := Tryd.prog) (W.alloc (.cells #[.int .u8 c.toNat] 5)) 49 9 5 ⟨W.heap.size, 0, none⟩ 1 [c] Tryd.underlying49 Tryd.underlying5 Tryd.underlying9 (fun j hj => by
    have : j = 0 := by simpa using hj
    subst this
    have hB := MBlk.new W 5 #[.int .u8 c.toNat] (0, 0)
    have e : (⟨W.heap.size, 0, none⟩ : Addr).add 0 = ⟨W.heap.size, 0, none⟩ := by simp [Addr.add]
    rw [e, hB.cell 0]; rfl)
  exact this
theorem u8_case (c : UInt8) (n : Nat) (hn : n < 256) : ((c.toNat : Int) == (n : Int)) = (c == UInt8.ofNat n) := by
  rw [Bool.eq_iff_iff, beq_iff_eq, beq_iff_eq]
  constructor
  · intro h; apply UInt8.toNat_inj.1; rw [UInt8.toNat_ofNat']; omega
  · intro h; rw [h, UInt8.toNat_ofNat']; omega

set_option maxRecDepth 100000 in
set_option maxHeartbeats 4000000 in
theorem bytes_any (c : UInt8) (w : World) : Calls Tryd.prog 10 #[.int .u8 c.toNat] w fun e w' => e = .returned (.bool true) ∧ Below w.heap.size w w' := by
  obtain ⟨p1, p2, p3, p4, p5⟩ := bytes_facts c
  have hcv := conv_one c
  obtain ⟨s, hs⟩ : ∃ s, (⟨#[c]⟩ : ByteArray) = s := ⟨_, rfl⟩
  have e1 : (⟨#[120]⟩ ++ s ++ ⟨#[121, 58, 32, 118]⟩ : ByteArray) = bl1 c := by rw [← hs]; apply data_inj; simp [bl1, ByteArray.data_append]
  have e2 : (⟨#[120, 58, 32, 118]⟩ ++ s ++ ⟨#[119]⟩ : ByteArray) = bl2 c := by rw [← hs]; apply data_inj; simp [bl2, ByteArray.data_append]
  have e3 : (⟨#[120, 58]⟩ ++ s ++ ⟨#[118]⟩ ++ s : ByteArray) = bl3 c := by rw [← hs]; apply data_inj; simp [bl3, ByteArray.data_append]
  have e4 : (⟨#[120]⟩ ++ s ++ ⟨#[121]⟩ : ByteArray) = ⟨#[120, c, 121]⟩ := by rw [← hs]; apply data_inj; simp [ByteArray.data_append]
  have e5 : (⟨#[118]⟩ ++ s ++ ⟨#[119]⟩ : ByteArray) = ⟨#[118, c, 119]⟩ := by rw [← hs]; apply data_inj; simp [ByteArray.data_append]
  have e6 : (s ++ ⟨#[118]⟩ ++ s : ByteArray) = ⟨#[c, 118, c]⟩ := by rw [← hs]; apply data_inj; simp [ByteArray.data_append]
  have htk : tokenF s.data.toList = tokenF [c] := by rw [← hs]
  have htx : textF s = good2 c := by rw [← hs]; rfl
  have hsz : s.size ≤ 140737488351232 := by rw [← hs]; show 1 ≤ _; omega
  obtain ⟨L1, h1⟩ : ∃ L, bl1 c = L := ⟨_, rfl⟩
  obtain ⟨L2, h2⟩ : ∃ L, bl2 c = L := ⟨_, rfl⟩
  obtain ⟨L3, h3⟩ : ∃ L, bl3 c = L := ⟨_, rfl⟩
  have z1 : L1.size ≤ 1000000 := by rw [← h1]; show 6 ≤ _; omega
  have z2 : L2.size ≤ 1000000 := by rw [← h2]; show 6 ≤ _; omega
  have z3 : L3.size ≤ 1000000 := by rw [← h3]; show 5 ≤ _; omega
  rw [h1] at e1 p1
  rw [h2] at e2 p2
  rw [h3] at e3 p3
  rw [hs] at hcv
  have P1 := Lib.hid p1
  have P2 := Lib.hid p2
  have P3 := Lib.hid p3
  have P4 := Lib.hid p4
  have P5 := Lib.hid p5
  have HTK := Lib.hid htk
  have HTX := Lib.hid htx
  have E4 := Lib.hid e4
  have E5 := Lib.hid e5
  have E6 := Lib.hid e6
  clear p1 p2 p3 p4 p5 htk htx e4 e5 e6 hs h1 h2 h3
  go_enter Tryd.func10, Tryd.ntmps10
  go_wp2_with fail
  refine (known_any _).mono ?_
  rintro e w1 ⟨rfl, hb1⟩
  have hb1a := hb1.alloc (o := .cells #[.int .u8 c.toNat] 5) hb1.size
  go_wp2_with fail
  (with_reducible refine (parse_one L1 (good1 c) (f1 c) (w1.alloc (.cells #[.int .u8 c.toNat] 5)) P1.out z1 _ _ _ (by simp)).mono ?_)
  rintro e w2 ⟨v1, n1, rfl, o1, hb2⟩
  have O1 := Lib.hid o1
  replace hb2 := hb1a.trans (hb2.mono hb1a.size)
  clear o1 hb1 hb1a hcv e1
  go_wp2_with fail
  (with_reducible refine (parse_one L2 (good2 c) (f2 c) w2 P2.out z2 _ _ _ rfl).mono ?_)
  rintro e w3 ⟨v2, n2, rfl, o2, hb3⟩
  have O1' := Lib.hid (O1.out.below hb3)
  have O2 := Lib.hid o2
  replace hb3 := hb2.trans (hb3.mono hb2.size)
  clear o2 hb2 O1 e2
  go_wp2_with fail
  (with_reducible refine (parse_one L3 (good2 c) (f3 c) w3 P3.out z3 _ _ _ rfl).mono ?_)
  rintro e w4 ⟨v3, n3, rfl, o3, hb4⟩
  have O1 := Lib.hid (O1'.out.below hb4)
  have O2' := Lib.hid (O2.out.below hb4)
  have O3 := Lib.hid o3
  replace hb4 := hb3.trans (hb4.mono hb3.size)
  clear o3 hb3 O1' O2 e3
  go_wp2_with fail
  refine (refToken_any s _ hsz).mono ?_
  rintro e w5 ⟨rfl, rfl⟩
  rw [HTK.out]
  go_wp2_with fail
  refine (refText_any s _ hsz).mono ?_
  rintro e w5 ⟨rfl, rfl⟩
  rw [HTX.out]
  have e4 := E4.out
  have e5 := E5.out
  have e6 := E6.out
  have q58 := u8_case c 58 (by decide)
  have q32 := u8_case c 32 (by decide)
  have q9 := u8_case c 9 (by decide)
  have hb : Below w.heap.size w w4 := hb4
  have HB := Lib.hid hb4
  clear hb4 hb E4 E5 E6 HTK HTX
  obtain ⟨N1, hN1⟩ : ∃ N, (⟨#[120, c, 121]⟩ : ByteArray) = N := ⟨_, rfl⟩
  obtain ⟨V2, hV2⟩ : ∃ N, (⟨#[118, c, 119]⟩ : ByteArray) = N := ⟨_, rfl⟩
  obtain ⟨V3, hV3⟩ : ∃ N, (⟨#[c, 118, c]⟩ : ByteArray) = N := ⟨_, rfl⟩
  rw [hN1] at e4
  rw [hV2] at e5
  rw [hV3] at e6
  have t1 : (N1.toList == N1.toList) = true := by simp
  have t2 : (V2.toList == V2.toList) = true := by simp
  have t3 : (V3.toList == V3.toList) = true := by simp
  have HN1 := Lib.hid hN1
  have HV2 := Lib.hid hV2
  have HV3 := Lib.hid hV3
  have HQ := Lib.hid (show ((c.toNat : Int) == 58) = (c == 58) ∧ ((c.toNat : Int) == 32) = (c == 32) ∧ ((c.toNat : Int) == 9) = (c == 9) from ⟨q58, q32, q9⟩)
  clear hN1 hV2 hV3 q58 q32 q9
  cases hg2 : good2 c with
  | false =>
    have ht : tokenF [c] = false := by
      cases h : tokenF [c] with
      | false => rfl
      | true => have := (P4.out h).1; rw [hg2] at this; cases this
    have h58 : (c == 58) = false := by
      cases h : (c == 58) with
      | false => rfl
      | true => rw [beq_iff_eq] at h; rw [h] at hg2; revert hg2; decide
    have hbl : isBlank c = false := by
      cases h : isBlank c with
      | false => rfl
      | true => have := P5.out h; rw [hg2] at this; cases this
    have hg1 : good1 c = false := by unfold good1; rw [ht, h58]; rfl
    obtain ⟨rfl, rfl⟩ := O1.out.2 hg1
    obtain ⟨rfl, rfl⟩ := O2'.out.2 hg2
    obtain ⟨rfl, rfl⟩ := O3.out.2 hg2
    have q58 := HQ.out.1.trans h58
    have q32 : ((c.toNat : Int) == 32) = false := HQ.out.2.1.trans (by unfold isBlank at hbl; revert hbl; cases (c == 32) <;> simp)
    have q9 : ((c.toNat : Int) == 9) = false := HQ.out.2.2.trans (by unfold isBlank at hbl; revert hbl; cases (c == 32) <;> cases (c == 9) <;> simp)
    rw [ht]
    clear ht h58 hbl hg1 hg2 O1 O2' O3 P1 P2 P3 P4 P5 HQ HN1 HV2 HV3
    go_wp2
    go_ret
    exact ⟨rfl, HB.out⟩
  | true =>
    obtain ⟨rfl, g2, c2, rfl, _, _, x2⟩ := O2'.out.1 hg2
    obtain ⟨rfl, g3, c3, rfl, _, _, x3⟩ := O3.out.1 hg2
    replace x2 : w4.cell? ⟨g2, 1, none⟩ = some (.string V2) := by rw [← HV2.out]; exact x2
    cases ht : tokenF [c] with
    | true =>
      obtain ⟨_, h58, hbl⟩ := P4.out ht
      have hg1 : good1 c = true := by unfold good1; rw [ht]; rfl
      obtain ⟨rfl, g1, c1, rfl, _, x1, _⟩ := O1.out.1 hg1
      replace x1 : w4.cell? ⟨g1, 0, none⟩ = some (.string N1) := by rw [← HN1.out]; rw [x1, f1, if_neg (by rw [h58]; decide)]
      replace x3 : w4.cell? ⟨g3, 1, none⟩ = some (.string V3) := by rw [← HV3.out]; rw [x3, f3, if_neg (by rw [hbl]; decide)]
      have q58 := HQ.out.1.trans h58
      have q32 : ((c.toNat : Int) == 32) = false := HQ.out.2.1.trans (by unfold isBlank at hbl; revert hbl; cases (c == 32) <;> simp)
      have q9 : ((c.toNat : Int) == 9) = false := HQ.out.2.2.trans (by unfold isBlank at hbl; revert hbl; cases (c == 32) <;> cases (c == 9) <;> simp)
      clear ht h58 hbl hg1 hg2 O1 O2' O3 P1 P2 P3 P4 P5 HQ HN1 HV2 HV3
      go_wp2
      go_ret
      exact ⟨rfl, HB.out⟩
    | false =>
      cases h58 : (c == 58) with
      | true =>
        have hg1 : good1 c = true := by unfold good1; rw [h58, Bool.or_true]
        have hbl : isBlank c = false := by rw [beq_iff_eq] at h58; rw [h58]; decide
        obtain ⟨rfl, g1, c1, rfl, _⟩ := O1.out.1 hg1
        replace x3 : w4.cell? ⟨g3, 1, none⟩ = some (.string V3) := by rw [← HV3.out]; rw [x3, f3, if_neg (by rw [hbl]; decide)]
        have q58 := HQ.out.1.trans h58
        have q32 : ((c.toNat : Int) == 32) = false := HQ.out.2.1.trans (by unfold isBlank at hbl; revert hbl; cases (c == 32) <;> simp)
        have q9 : ((c.toNat : Int) == 9) = false := HQ.out.2.2.trans (by unfold isBlank at hbl; revert hbl; cases (c == 32) <;> cases (c == 9) <;> simp)
        clear ht h58 hbl hg1 hg2 O1 O2' O3 P1 P2 P3 P4 P5 HQ HN1 HV2 HV3
        go_wp2
        go_ret
        exact ⟨rfl, HB.out⟩
      | false =>
        have hg1 : good1 c = false := by unfold good1; rw [ht, h58]; rfl
        obtain ⟨rfl, rfl⟩ := O1.out.2 hg1
        have q58 := HQ.out.1.trans h58
        cases hbl : isBlank c with
        | false =>
          replace x3 : w4.cell? ⟨g3, 1, none⟩ = some (.string V3) := by rw [← HV3.out]; rw [x3, f3, if_neg (by rw [hbl]; decide)]
          have q32 : ((c.toNat : Int) == 32) = false := HQ.out.2.1.trans (by unfold isBlank at hbl; revert hbl; cases (c == 32) <;> simp)
          have q9 : ((c.toNat : Int) == 9) = false := HQ.out.2.2.trans (by unfold isBlank at hbl; revert hbl; cases (c == 32) <;> cases (c == 9) <;> simp)
          clear ht h58 hbl hg1 hg2 O1 O2' O3 P1 P2 P3 P4 P5 HQ HN1 HV2 HV3
          go_wp2
          go_ret
          exact ⟨rfl, HB.out⟩
        | true =>
          replace x3 : w4.cell? ⟨g3, 1, none⟩ = some (.string ⟨#[118]⟩) := by rw [x3, f3, if_pos hbl]
          cases h32 : (c == 32) with
          | true =>
            have q32 := HQ.out.2.1.trans h32
            clear ht h58 hbl hg1 hg2 O1 O2' O3 P1 P2 P3 P4 P5 HQ HN1 HV2 HV3 h32
            go_wp2
            go_ret
            exact ⟨rfl, HB.out⟩
          | false =>
            have q32 := HQ.out.2.1.trans h32
            have q9 : ((c.toNat : Int) == 9) = true := HQ.out.2.2.trans (by unfold isBlank at hbl; rw [h32] at hbl; simpa using hbl)
            clear ht h58 hbl hg1 hg2 O1 O2' O3 P1 P2 P3 P4 P5 HQ HN1 HV2 HV3 h32
            go_wp2
            go_ret
            exact ⟨rfl, HB.out⟩
theorem bytes_of (c : Int) (hc : (Lit.int .u8 c).wf = true) (w : World) : Calls Tryd.prog 10 #[.int .u8 c] w fun e w' => e = .returned (.bool true) ∧ Below w.heap.size w w' := by
  have hb : 0 ≤ c ∧ c ≤ 255 := by have := bounds_u8 hc; omega
  have e : c = ((UInt8.ofNat c.toNat).toNat : Int) := by rw [UInt8.toNat_ofNat']; omega
  rw [e]
  exact bytes_any _ w
end Go.Proofs.YtckhjhgddnjfpaaDoor
