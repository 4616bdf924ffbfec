/-
  The law of counts: its walk.
-/
import Derived.Test.YtdppmmoidofgmaaDoorStatAlike
import Derived.Test.YtdppmmoidofgmaaDoorStatLawQ
import Derived.Deep.DeepCutAuto
namespace Go.Proofs.YtdppmmoidofgmaaDoor
open Go.RowKit

abbrev ActL := Int × Int × Int
def actIn (x : ActL) : Prop := -9223372036854775808 ≤ x.2.1 ∧ x.2.1 ≤ 9223372036854775807
/-- A row of acts. -/
def ActsAt (w : World) (a : Option Addr) (l : List ActL) : Prop :=
  ∀ k (h : k < l.length), ∃ b off, a = some ⟨b, off, none⟩ ∧ w.cell? ⟨b, off + k * 3, none⟩ = some (.int .i64 l[k].1) ∧ w.cell? ⟨b, off + k * 3 + 1, none⟩ = some (.int .i64 l[k].2.1) ∧ w.cell? ⟨b, off + k * 3 + 2, none⟩ = some (.int .i64 l[k].2.2) ∧ actIn l[k]
theorem ActsAt.below {w w' : World} {a : Option Addr} {l : List ActL} (h : ActsAt w a l) (hb : Below w.heap.size w w') : ActsAt w' a l := by
  intro k hk
  obtain ⟨b, off, rfl, h0, h1, h2, hz⟩ := h k hk
  have hlt : b < w.heap.size := cell_lt h0
  have hs := Below.spares (F := nowhere) hb (fun k hk => .inr hk)
  exact ⟨b, off, rfl, (hs.cell (p := ⟨b, off + k * 3, none⟩) hlt (fun h => h)).trans h0, (hs.cell (p := ⟨b, off + k * 3 + 1, none⟩) hlt (fun h => h)).trans h1, (hs.cell (p := ⟨b, off + k * 3 + 2, none⟩) hlt (fun h => h)).trans h2, hz⟩
def cntA (l : List ActL) : Cs := l.foldl (fun L x => addF L x.1 x.2.1 x.2.2) zeroC
theorem cntA_snoc (l : List ActL) (x : ActL) : cntA (l ++ [x]) = addF (cntA l) x.1 x.2.1 x.2.2 := by simp [cntA]
theorem cntA_take (l : List ActL) (k : Nat) (h : k < l.length) : cntA (l.take (k + 1)) = addF (cntA (l.take k)) l[k].1 l[k].2.1 l[k].2.2 := by
  rw [List.take_succ_eq_append_getElem h, cntA_snoc]
theorem cntA_fair (l : List ActL) : ∀ k, k ≤ l.length → Fair (cntA (l.take k)) (k * 1073741827)
  | 0, _ => zero_fair.mono (by simp)
  | k + 1, h => by
    rw [cntA_take l k h]
    exact ((cntA_fair l k (by omega)).add _ _ _).mono (by omega)
/-- Two counters under way: the program's at p, the reference's at q, both above what was there. -/
structure Pair (p q B : Nat) (L : Cs) (w0 w : World) : Prop where
  prog : IsStat p L w
  ref : IsRef q L w
  below : Below B w0 w
structure Mid (p q B : Nat) (L R : Cs) (w0 w : World) : Prop where
  prog : IsStat p L w
  ref : IsRef q R w
  below : Below B w0 w
theorem Pair.left {p q B : Nat} {L L' : Cs} {w0 w w' : World} (h : Pair p q B L w0 w) (hp : B ≤ p) (hB : B ≤ w.heap.size) (hne : q ≠ p) (h1 : IsStat p L' w') (hs : Spares (fun b => b = p) w w') : IsStat p L' w' ∧ IsRef q L w' ∧ Below B w0 w' :=
  ⟨h1, (hs.block q h.ref.lt hne).trans h.ref, h.below.trans (hs.below hB (fun k hk e => by omega))⟩
set_option maxRecDepth 100000 in
set_option maxHeartbeats 8000000 in
theorem counts_law (a : Option Addr) (n c : Nat) (l : List ActL) (per : Int) (w : World) (hn : l.length = n) (ha : ActsAt w a l) (hnm : n ≤ maxLen) (ht : TabW w) :
    Calls Tryd.prog 3 #[.slice a n c, .int .i64 per] w fun e w' => e = .returned (.bool true) ∧ Below w.heap.size w w' := by
  have HT := Lib.hid ht
  have HA := Lib.hid ha
  have HN := Lib.hid hnm
  clear ht ha hnm
  go_enter Tryd.func3, Tryd.ntmps3
  go_wp2_with fail
  refine (known_any _ HT.out).mono ?_
  rintro e w1 ⟨rfl, hb1⟩
  by_cases h100 : 100 < n
  · go_wp2
    go_ret
    exact ⟨rfl, hb1⟩
  have hn1 : ¬ ((100 : Int) < (n : Int)) := by omega
  have HB1 := Lib.hid hb1
  clear hb1
  go_wp2_with fail
  refine (new_any _).mono ?_
  rintro e w2 ⟨rfl, rfl⟩
  obtain ⟨p, hp⟩ : ∃ p, w1.heap.size = p := ⟨_, rfl⟩
  have h2 := alloc_stat 56 w1
  have hwp : w.heap.size ≤ p := by rw [← hp]; exact HB1.out.size
  have hb2 : Below w.heap.size w (w1.alloc (.cells zeroA 56)) := HB1.out.trans (((Spares.refl nowhere w1).alloc _).below0.mono (by omega))
  rw [hp] at h2 ⊢
  have hz2 : (w1.alloc (.cells zeroA 56)).heap.size = p + 1 := by simp [hp]
  obtain ⟨w2, hw2⟩ : ∃ w2, w1.alloc (.cells zeroA 56) = w2 := ⟨_, rfl⟩
  rw [hw2] at h2 hb2 hz2 ⊢
  have h3 := alloc_stat 30 w2
  have hlt2 : p < w2.heap.size := by omega
  have hP : Pair p (p + 1) w.heap.size (cntA (l.take 0)) w (w2.alloc (.cells zeroA 30)) := ⟨(Below.heap_alloc _ _ _ hlt2).trans h2, by rw [hz2] at h3; exact h3, hb2.trans (((Spares.refl nowhere w2).alloc _).below0.mono (by omega))⟩
  have HP := Lib.hid hP
  clear h2 hb2 hw2 h3 hP
  go_wp2_with (first | (refine wpList_buildTo rfl 30 _ rfl (some 14) rfl zeroA built_ref ?_) | (refine Go.Great.wpList_boxTo rfl 30 _ rfl (some 15) rfl (p + 1) hz2 zeroA zeroA_cells' ?_))
  go_loopw [7] (fun i wr => ∃ k : Nat, k ≤ n ∧ i = .int .i64 k ∧ Pair p (p + 1) w.heap.size (cntA (l.take k)) w wr) (fun i _ => n - (intOf i).toNat)
  case atStart => exact ⟨0, by omega, rfl, HP.out⟩
  case round =>
    obtain ⟨k, hk, rfl, hpr⟩ := hrel
    have HPr := Lib.hid hpr
    have hbs := hpr.below.size
    clear hpr
    by_cases hlt : k < n
    · have hkz : k < l.length := by omega
      obtain ⟨b, off, rfl, c0, c1, c2, hz⟩ := (HA.out.below HPr.out.below) k hkz
      have HC := Lib.hid (cntA_take l k hkz)
      obtain ⟨⟨x0, x1, x2⟩, hx⟩ : ∃ x, l[k] = x := ⟨_, rfl⟩
      rw [hx] at c0 c1 c2 hz HC
      simp only at c0 c1 c2
      have hfa := Lib.hid (cntA_fair l k (by omega))
      have hfm : (k : Int) * 1073741827 + 1073741827 ≤ 9223372036854775807 := by omega
      have CA : Hid (Calls Tryd.prog 8 #[.pointer (some ⟨p, 0, none⟩), .int .i64 x0, .int .i64 x1, .int .i64 x2] wr.drew (AddPost p (addF (cntA (l.take k)) x0 x1 x2) wr.drew)) := Lib.hid (add_any p (cntA (l.take k)) x0 x1 x2 _ wr.drew HPr.out.prog hfa.out hfm hz)
      have hpp : w.heap.size ≤ wr.heap.size := hbs
      have HM0 : Hid (∀ w3, IsStat p (addF (cntA (l.take k)) x0 x1 x2) w3 → Spares (fun b => b = p) wr.drew w3 → Mid p (p + 1) w.heap.size (addF (cntA (l.take k)) x0 x1 x2) (cntA (l.take k)) w w3) := Lib.hid (fun w3 h3 hs3 => by
        have := HPr.out.left (w' := w3) hwp hpp (by omega) h3 ((Spares.refl (fun b => b = p) wr).drew.trans hs3)
        exact ⟨this.1, this.2.1, this.2.2⟩)
      go_wp2
      go_cut [] (fun wx => Hid (Mid p (p + 1) w.heap.size (addF (cntA (l.take k)) x0 x1 x2) (cntA (l.take k)) w wx))
      case first =>
        go_region_with ((go_at_call 8; refine CA.out.mono ?_; rintro e w3 ⟨rfl, h3, hs3⟩))
        all_goals
          go_wp2_with fail
          go_meet
          exact Lib.hid (HM0.out w3 h3 hs3)
      case rest =>
        have HMID := hcut
        clear CA c0 c1 c2 hcut HM0
        obtain ⟨b', off', hbe, c0, c1, c2, _⟩ := (HA.out.below HMID.out.below) k hkz
        injection hbe with hbe
        injection hbe with hb1 hb2
        subst hb1 hb2
        rw [hx] at c0 c1 c2
        simp only at c0 c1 c2
        have hwc : w.heap.size ≤ wc.heap.size := HMID.out.below.size
        have CA : Hid (Calls Tryd.prog 9 #[.pointer (some ⟨p + 1, 0, none⟩), .int .i64 x0, .int .i64 x1, .int .i64 x2] wc.drew (RefPost (p + 1) (addF (cntA (l.take k)) x0 x1 x2) wc.drew)) := Lib.hid (refAdd_any (p + 1) (cntA (l.take k)) x0 x1 x2 _ wc.drew HMID.out.ref hfa.out hfm hz)
        have HM0 : Hid (∀ w3, IsRef (p + 1) (addF (cntA (l.take k)) x0 x1 x2) w3 → Spares (fun b => b = p + 1) wc.drew w3 → Pair p (p + 1) w.heap.size (cntA (l.take (k + 1))) w w3) := Lib.hid (fun w3 h3 hs3 => by
          rw [HC.out]
          have hs3 := (Spares.refl (fun b => b = p + 1) wc).drew.trans hs3
          exact ⟨(hs3.block p HMID.out.prog.lt (by omega)).trans HMID.out.prog, h3, HMID.out.below.trans (hs3.below hwc (fun j hj e => by omega))⟩)
        go_wp2
        go_region_with ((go_at_call 9; refine CA.out.mono ?_; rintro e w3 ⟨rfl, h3, hs3⟩))
        all_goals
          have HNX := Lib.hid (HM0.out w3 h3 hs3)
          clear h3 hs3
          go_wp2
          go_roundw
          case rel => exact ⟨k + 1, by omega, by go_num, HNX.out⟩
          case measure => simp [intOf]; omega
    · have hkn : ¬ ((k : Int) < (n : Int)) := by omega
      have hfa := Lib.hid (cntA_fair l k (by omega))
      have hfm : 3200 * ((k : Int) * 1073741827) ≤ 4000000000000000000 := by omega
      have hfm1 : 32 * ((k : Int) * 1073741827) ≤ 4000000000000000000 := by omega
      obtain ⟨L, hL⟩ : ∃ L, cntA (l.take k) = L := ⟨_, rfl⟩
      rw [hL] at HPr hfa
      go_wp2_with fail
      refine (alike_any p (p + 1) L _ wr HPr.out.prog HPr.out.ref hfa.out hfm (HT.out.below HPr.out.below)).mono ?_
      rintro e w5 ⟨rfl, hb5⟩
      have HB5 := Lib.hid (HPr.out.below.trans (hb5.mono hbs))
      have HP5 := Lib.hid (show IsStat p L w5 ∧ IsRef (p + 1) L w5 from ⟨HPr.out.prog.below hb5, HPr.out.ref.below hb5⟩)
      clear hb5
      go_wp2_with fail
      refine (quantile_any p L per _ w5 HP5.out.1 hfa.out hfm1).mono ?_
      rintro e w6 ⟨rfl, hb6⟩
      have HB6 := Lib.hid (HB5.out.trans (hb6.mono HB5.out.size))
      have HP6 := Lib.hid (HP5.out.2.below hb6)
      clear hb6
      go_wp2_with fail
      refine (refQuantile_any (p + 1) L per _ w6 HP6.out hfa.out hfm).mono ?_
      rintro e w7 ⟨rfl, rfl⟩
      go_wp2
      go_ret
      exact ⟨rfl, HB6.out⟩
end Go.Proofs.YtdppmmoidofgmaaDoor
