/-
  The reference's counters: the number of digits, a request counted.
-/
import Derived.Test.YtdppmmoidofgmaaDoorStatAdd
namespace Go.Proofs.YtdppmmoidofgmaaDoor
open Go.RowKit

abbrev IsRef (p : Nat) (L : Cs) (w : World) : Prop := StatAt 30 p L w
theorem bitsN_half {n : Nat} (h0 : n ≠ 0) (h : n < 2 ^ 64) : bitsN n = bitsN (n / 2) + 1 := by
  unfold bitsN
  rw [Lib.bitLen_half n h0 h]
  omega
set_option maxRecDepth 100000 in
set_option maxHeartbeats 1000000 in
theorem bucket_any (n : Nat) (w : World) (hn : n ≤ 1073741824) : Calls Tryd.prog 22 #[.int .i64 (n : Int)] w fun e w' => e = .returned (.int .i64 (bitsN n : Nat)) ∧ w' = w := by
  go_enter Tryd.func22, Tryd.ntmps22
  go_wp2
  go_loopw [0, 3] (fun x i wr => ∃ m k : Nat, m ≤ 1073741824 ∧ k ≤ 31 ∧ x = .int .i64 m ∧ i = .int .i64 k ∧ bitsN n = k + bitsN m ∧ wr = w) (fun x _ _ => (intOf x).toNat)
  case atStart => exact ⟨n, 0, hn, by omega, rfl, rfl, by omega, rfl⟩
  case round =>
    obtain ⟨m, k, hm, hk, rfl, rfl, hb, rfl⟩ := hrel
    by_cases h0 : m = 0
    · subst h0
      have HE : Hid (bitsN n = k) := Lib.hid (by rw [hb]; rfl)
      clear hb
      go_wp2
      go_ret
      exact ⟨by rw [HE.out]; rfl, rfl⟩
    · have hh := bitsN_half h0 (by omega)
      have h31 := bitsN_le (n := m) (by omega)
      have hnn := bitsN_le (n := n) (by omega)
      have HB : Hid (bitsN n = (k + 1) + bitsN (m / 2)) := Lib.hid (by omega)
      have hk1 : k + 1 ≤ 31 := by omega
      clear hb hh h31
      go_wp2
      go_roundw
      case rel => exact ⟨m / 2, k + 1, by omega, hk1, by simp, by simp, HB.out, trivial⟩
      case measure => simp [intOf]; omega
-- GEN
/-- One number is raised in the reference's counters. -/
theorem ref_raise {p : Nat} {L : Cs} {M : Int} {w : World} (h : IsRef p L w) (hf : Fair L M) {k : Nat} (hk : k < 45) {d : Int} (h0 : 0 ≤ d) (h1 : M + d ≤ 9223372036854775807) :
    w.cell? ⟨p, k, none⟩ = some (.int .i64 (gI L k)) ∧ w.frozen? ⟨p, k, none⟩ = false ∧ IntKind.i64.wrap (gI L k + d) = gI L k + d ∧ IsRef p (bump L k d) (w.setCell ⟨p, k, none⟩ (.int .i64 (gI L k + d))) ∧ Fair (bump L k d) (M + d) ∧ Spares (fun b => b = p) w (w.setCell ⟨p, k, none⟩ (.int .i64 (gI L k + d))) := by
  have hp := hf.pos k
  exact ⟨h.cell (by rw [hf.len]; exact hk), Lib.frozen_of_heap h k, wrap64 (by omega) (by omega), h.bump (by rw [hf.len]; exact hk) d, hf.bump k hk h0, (Spares.refl (fun b => b = p) w).setCell (p := ⟨p, k, none⟩) (.inl rfl) _⟩
def RefPost (p : Nat) (L : Cs) (w : World) (e : Ending) (w' : World) : Prop := e = .returned (.tuple #[]) ∧ IsRef p L w' ∧ Spares (fun b => b = p) w w'
set_option maxRecDepth 100000 in
set_option maxHeartbeats 4000000 in
theorem refAdd_way_cls (p : Nat) (L : Cs) (k : Nat) (status : Int) (size : Int) (M : Int) (w : World) (h : IsRef p L w) (hf : Fair L M) (hM : M + 1073741827 ≤ 9223372036854775807) (_hst : -9223372036854775808 ≤ status ∧ status ≤ 9223372036854775807) (hk : k < 6) (c : Nat) (hc1 : 1 ≤ c) (hc : c < 6) (hs : status.tdiv 100 = (c : Int)) :
    Calls Tryd.prog 9 #[.pointer (some ⟨p, 0, none⟩), .int .i64 (k : Int), .int .i64 status, .int .i64 size] w (RefPost p (addF L (k : Int) status size) w) := by
  unfold RefPost addF
  obtain ⟨z, hz⟩ : ∃ z : Nat, min (max size 0) 1073741824 = (z : Int) := ⟨(min (max size 0) 1073741824).toNat, by omega⟩
  have hzb : z ≤ 1073741824 := by omega
  have hzn := bitsN_le hzb
  rw [show sizeF size = (z : Int) from hz, Int.toNat_natCast]
  rw [wayF_in hk]
  rw [clsF_in hc hc1 hs]
  all_goals
    go_enter Tryd.func9, Tryd.ntmps9
    obtain ⟨c1, e1, q1, h1, g1, s1⟩ := ref_raise (w := w.drew) h hf (k := k) (by omega) (d := 1) (by omega) (by omega)
    go_wp2
    go_region
    obtain ⟨w1, hw1⟩ : ∃ w1, (w.setCell ⟨p, k, none⟩ (.int .i64 (gI L k + 1))).drew = w1 := ⟨_, rfl⟩
    have h1' : IsRef p (bump L k 1) w1 := by rw [← hw1]; exact h1
    have HS1 : Hid (Spares (fun b => b = p) w w1) := Lib.hid (by rw [← hw1]; exact ((Spares.refl (fun b => b = p) w).setCell (p := ⟨p, k, none⟩) (.inl rfl) _).drew)
    rw [hw1]
    clear c1 e1 q1 h1 s1 hw1 h
    obtain ⟨c2, e2, q2, h2, g2, s2⟩ := ref_raise (w := w1.drew) h1' g1 (k := 6 + c) (by omega) (d := 1) (by omega) (by omega)
    go_wp2
    go_region
    obtain ⟨w2, hw2⟩ : ∃ w2, (w1.setCell ⟨p, 6 + c, none⟩ (.int .i64 (gI (bump L k 1) (6 + c) + 1))).drew = w2 := ⟨_, rfl⟩
    have h2' : IsRef p (bump (bump L k 1) (6 + c) 1) w2 := by rw [← hw2]; exact h2
    have HS2 : Hid (Spares (fun b => b = p) w w2) := Lib.hid (Spares.trans (HS1.out) (by rw [← hw2]; exact ((Spares.refl (fun b => b = p) _).setCell (p := ⟨p, 6 + c, none⟩) (.inl rfl) _).drew))
    rw [hw2]
    clear c2 e2 q2 h2 s2 hw2 h1'
    obtain ⟨c3, e3, q3, h3, g3, s3⟩ := ref_raise h2' g2 (k := 44) (by omega) (d := (z : Int)) (by omega) (by omega)
    obtain ⟨L3, hL3⟩ : ∃ L3, bump (bump (bump L k 1) (6 + c) 1) 44 (z : Int) = L3 := ⟨_, rfl⟩
    obtain ⟨n, hn⟩ : ∃ n, bitsN z = n := ⟨_, rfl⟩
    rw [hL3] at h3 g3
    rw [hn] at hzn
    obtain ⟨w3, hw3⟩ : ∃ w3, w2.setCell ⟨p, 44, none⟩ (.int .i64 (gI (bump (bump L k 1) (6 + c) 1) 44 + (z : Int))) = w3 := ⟨_, rfl⟩
    rw [hw3] at h3 s3
    have HS3 : Hid (Spares (fun b => b = p) w w3) := Lib.hid (Spares.trans (HS2.out) s3)
    obtain ⟨c4, e4, q4, h4, g4, s4⟩ := ref_raise (w := w3.drew) h3 g3 (k := 12 + n) (by omega) (d := 1) (by omega) (by omega)
    have HE : Hid (IsRef p (bump (bump (bump (bump L k 1) (6 + c) 1) 44 (z : Int)) (12 + bitsN z) 1) (w3.setCell ⟨p, 12 + n, none⟩ (.int .i64 (gI L3 (12 + n) + 1))).drew ∧ Spares (fun b => b = p) w (w3.setCell ⟨p, 12 + n, none⟩ (.int .i64 (gI L3 (12 + n) + 1))).drew) := Lib.hid ⟨by rw [hL3, hn]; exact h4, HS3.out.trans ((Spares.refl (fun b => b = p) w3).setCell (p := ⟨p, 12 + n, none⟩) (.inl rfl) _).drew⟩
    clear h3 s3 h4 s4 h2'
    go_wp2
    try rw [hw3]
    go_region_with ((go_at_call 22; refine (bucket_any z _ hzb).mono ?_; rintro e w5 ⟨rfl, rfl⟩; rw [hn]))
    all_goals
      go_end0
      exact ⟨rfl, HE.out⟩
set_option maxRecDepth 100000 in
set_option maxHeartbeats 4000000 in
theorem refAdd_way_no (p : Nat) (L : Cs) (k : Nat) (status : Int) (size : Int) (M : Int) (w : World) (h : IsRef p L w) (hf : Fair L M) (hM : M + 1073741827 ≤ 9223372036854775807) (hst : -9223372036854775808 ≤ status ∧ status ≤ 9223372036854775807) (hk : k < 6) (hs : ¬ (1 ≤ status.tdiv 100 ∧ status.tdiv 100 < 6)) :
    Calls Tryd.prog 9 #[.pointer (some ⟨p, 0, none⟩), .int .i64 (k : Int), .int .i64 status, .int .i64 size] w (RefPost p (addF L (k : Int) status size) w) := by
  unfold RefPost addF
  obtain ⟨z, hz⟩ : ∃ z : Nat, min (max size 0) 1073741824 = (z : Int) := ⟨(min (max size 0) 1073741824).toNat, by omega⟩
  have hzb : z ≤ 1073741824 := by omega
  have hzn := bitsN_le hzb
  rw [show sizeF size = (z : Int) from hz, Int.toNat_natCast]
  rw [wayF_in hk]
  rw [show clsF _ status = _ from if_neg hs]
  obtain ⟨q, hq⟩ : ∃ q, status.tdiv 100 = q := ⟨_, rfl⟩
  have hwq : RowKit.wrap64 q = q := by rw [← IntWalk.i64_left, ← hq]; exact IntWalk.i64_quo' _ _ ⟨hst.1, hst.2, by omega⟩
  rw [hq] at hs
  all_goals rcases (show q < 1 ∨ 6 ≤ q by omega) with hs1 | hs1
  all_goals
    go_enter Tryd.func9, Tryd.ntmps9
    obtain ⟨c1, e1, q1, h1, g1, s1⟩ := ref_raise (w := w.drew) h hf (k := k) (by omega) (d := 1) (by omega) (by omega)
    go_wp2
    go_region
    obtain ⟨w1, hw1⟩ : ∃ w1, (w.setCell ⟨p, k, none⟩ (.int .i64 (gI L k + 1))).drew = w1 := ⟨_, rfl⟩
    have h1' : IsRef p (bump L k 1) w1 := by rw [← hw1]; exact h1
    have HS1 : Hid (Spares (fun b => b = p) w w1) := Lib.hid (by rw [← hw1]; exact ((Spares.refl (fun b => b = p) w).setCell (p := ⟨p, k, none⟩) (.inl rfl) _).drew)
    rw [hw1]
    clear c1 e1 q1 h1 s1 hw1 h
    obtain ⟨c3, e3, q3, h3, g3, s3⟩ := ref_raise h1' g1 (k := 44) (by omega) (d := (z : Int)) (by omega) (by omega)
    obtain ⟨L3, hL3⟩ : ∃ L3, bump (bump L k 1) 44 (z : Int) = L3 := ⟨_, rfl⟩
    obtain ⟨n, hn⟩ : ∃ n, bitsN z = n := ⟨_, rfl⟩
    rw [hL3] at h3 g3
    rw [hn] at hzn
    obtain ⟨w3, hw3⟩ : ∃ w3, w1.setCell ⟨p, 44, none⟩ (.int .i64 (gI (bump L k 1) 44 + (z : Int))) = w3 := ⟨_, rfl⟩
    rw [hw3] at h3 s3
    have HS3 : Hid (Spares (fun b => b = p) w w3) := Lib.hid (Spares.trans (HS1.out) s3)
    obtain ⟨c4, e4, q4, h4, g4, s4⟩ := ref_raise (w := w3.drew) h3 g3 (k := 12 + n) (by omega) (d := 1) (by omega) (by omega)
    have HE : Hid (IsRef p (bump (bump (bump L k 1) 44 (z : Int)) (12 + bitsN z) 1) (w3.setCell ⟨p, 12 + n, none⟩ (.int .i64 (gI L3 (12 + n) + 1))).drew ∧ Spares (fun b => b = p) w (w3.setCell ⟨p, 12 + n, none⟩ (.int .i64 (gI L3 (12 + n) + 1))).drew) := Lib.hid ⟨by rw [hL3, hn]; exact h4, HS3.out.trans ((Spares.refl (fun b => b = p) w3).setCell (p := ⟨p, 12 + n, none⟩) (.inl rfl) _).drew⟩
    clear h3 s3 h4 s4 h1'
    go_wp2
    try rw [hw3]
    go_region_with ((go_at_call 22; refine (bucket_any z _ hzb).mono ?_; rintro e w5 ⟨rfl, rfl⟩; rw [hn]))
    all_goals
      go_end0
      exact ⟨rfl, HE.out⟩
set_option maxRecDepth 100000 in
set_option maxHeartbeats 4000000 in
theorem refAdd_no_cls (p : Nat) (L : Cs) (how status : Int) (size : Int) (M : Int) (w : World) (h : IsRef p L w) (hf : Fair L M) (hM : M + 1073741827 ≤ 9223372036854775807) (_hst : -9223372036854775808 ≤ status ∧ status ≤ 9223372036854775807) (hw : ¬ (0 ≤ how ∧ how < 6)) (c : Nat) (hc1 : 1 ≤ c) (hc : c < 6) (hs : status.tdiv 100 = (c : Int)) :
    Calls Tryd.prog 9 #[.pointer (some ⟨p, 0, none⟩), .int .i64 how, .int .i64 status, .int .i64 size] w (RefPost p (addF L how status size) w) := by
  unfold RefPost addF
  obtain ⟨z, hz⟩ : ∃ z : Nat, min (max size 0) 1073741824 = (z : Int) := ⟨(min (max size 0) 1073741824).toNat, by omega⟩
  have hzb : z ≤ 1073741824 := by omega
  have hzn := bitsN_le hzb
  rw [show sizeF size = (z : Int) from hz, Int.toNat_natCast]
  rw [show wayF L how = L from if_neg hw]
  rw [clsF_in hc hc1 hs]
  rcases (show how < 0 ∨ 6 ≤ how by omega) with hw1 | hw1
  all_goals
    go_enter Tryd.func9, Tryd.ntmps9
    obtain ⟨c2, e2, q2, h2, g2, s2⟩ := ref_raise (w := w.drew) h hf (k := 6 + c) (by omega) (d := 1) (by omega) (by omega)
    go_wp2
    go_region
    obtain ⟨w2, hw2⟩ : ∃ w2, (w.setCell ⟨p, 6 + c, none⟩ (.int .i64 (gI (L) (6 + c) + 1))).drew = w2 := ⟨_, rfl⟩
    have h2' : IsRef p (bump (L) (6 + c) 1) w2 := by rw [← hw2]; exact h2
    have HS2 : Hid (Spares (fun b => b = p) w w2) := Lib.hid (Spares.trans (Spares.refl _ _) (by rw [← hw2]; exact ((Spares.refl (fun b => b = p) _).setCell (p := ⟨p, 6 + c, none⟩) (.inl rfl) _).drew))
    rw [hw2]
    clear c2 e2 q2 h2 s2 hw2 h
    obtain ⟨c3, e3, q3, h3, g3, s3⟩ := ref_raise h2' g2 (k := 44) (by omega) (d := (z : Int)) (by omega) (by omega)
    obtain ⟨L3, hL3⟩ : ∃ L3, bump (bump (L) (6 + c) 1) 44 (z : Int) = L3 := ⟨_, rfl⟩
    obtain ⟨n, hn⟩ : ∃ n, bitsN z = n := ⟨_, rfl⟩
    rw [hL3] at h3 g3
    rw [hn] at hzn
    obtain ⟨w3, hw3⟩ : ∃ w3, w2.setCell ⟨p, 44, none⟩ (.int .i64 (gI (bump (L) (6 + c) 1) 44 + (z : Int))) = w3 := ⟨_, rfl⟩
    rw [hw3] at h3 s3
    have HS3 : Hid (Spares (fun b => b = p) w w3) := Lib.hid (Spares.trans (HS2.out) s3)
    obtain ⟨c4, e4, q4, h4, g4, s4⟩ := ref_raise (w := w3.drew) h3 g3 (k := 12 + n) (by omega) (d := 1) (by omega) (by omega)
    have HE : Hid (IsRef p (bump (bump (bump (L) (6 + c) 1) 44 (z : Int)) (12 + bitsN z) 1) (w3.setCell ⟨p, 12 + n, none⟩ (.int .i64 (gI L3 (12 + n) + 1))).drew ∧ Spares (fun b => b = p) w (w3.setCell ⟨p, 12 + n, none⟩ (.int .i64 (gI L3 (12 + n) + 1))).drew) := Lib.hid ⟨by rw [hL3, hn]; exact h4, HS3.out.trans ((Spares.refl (fun b => b = p) w3).setCell (p := ⟨p, 12 + n, none⟩) (.inl rfl) _).drew⟩
    clear h3 s3 h4 s4 h2'
    go_wp2
    try rw [hw3]
    go_region_with ((go_at_call 22; refine (bucket_any z _ hzb).mono ?_; rintro e w5 ⟨rfl, rfl⟩; rw [hn]))
    all_goals
      go_end0
      exact ⟨rfl, HE.out⟩
set_option maxRecDepth 100000 in
set_option maxHeartbeats 4000000 in
theorem refAdd_no_no (p : Nat) (L : Cs) (how status : Int) (size : Int) (M : Int) (w : World) (h : IsRef p L w) (hf : Fair L M) (hM : M + 1073741827 ≤ 9223372036854775807) (hst : -9223372036854775808 ≤ status ∧ status ≤ 9223372036854775807) (hw : ¬ (0 ≤ how ∧ how < 6)) (hs : ¬ (1 ≤ status.tdiv 100 ∧ status.tdiv 100 < 6)) :
    Calls Tryd.prog 9 #[.pointer (some ⟨p, 0, none⟩), .int .i64 how, .int .i64 status, .int .i64 size] w (RefPost p (addF L how status size) w) := by
  unfold RefPost addF
  obtain ⟨z, hz⟩ : ∃ z : Nat, min (max size 0) 1073741824 = (z : Int) := ⟨(min (max size 0) 1073741824).toNat, by omega⟩
  have hzb : z ≤ 1073741824 := by omega
  have hzn := bitsN_le hzb
  rw [show sizeF size = (z : Int) from hz, Int.toNat_natCast]
  rw [show wayF L how = L from if_neg hw]
  rw [show clsF _ status = _ from if_neg hs]
  obtain ⟨q, hq⟩ : ∃ q, status.tdiv 100 = q := ⟨_, rfl⟩
  have hwq : RowKit.wrap64 q = q := by rw [← IntWalk.i64_left, ← hq]; exact IntWalk.i64_quo' _ _ ⟨hst.1, hst.2, by omega⟩
  rw [hq] at hs
  rcases (show how < 0 ∨ 6 ≤ how by omega) with hw1 | hw1
  all_goals rcases (show q < 1 ∨ 6 ≤ q by omega) with hs1 | hs1
  all_goals
    go_enter Tryd.func9, Tryd.ntmps9
    obtain ⟨c3, e3, q3, h3, g3, s3⟩ := ref_raise h hf (k := 44) (by omega) (d := (z : Int)) (by omega) (by omega)
    obtain ⟨L3, hL3⟩ : ∃ L3, bump (L) 44 (z : Int) = L3 := ⟨_, rfl⟩
    obtain ⟨n, hn⟩ : ∃ n, bitsN z = n := ⟨_, rfl⟩
    rw [hL3] at h3 g3
    rw [hn] at hzn
    obtain ⟨w3, hw3⟩ : ∃ w3, w.setCell ⟨p, 44, none⟩ (.int .i64 (gI (L) 44 + (z : Int))) = w3 := ⟨_, rfl⟩
    rw [hw3] at h3 s3
    have HS3 : Hid (Spares (fun b => b = p) w w3) := Lib.hid (Spares.trans (Spares.refl _ _) s3)
    obtain ⟨c4, e4, q4, h4, g4, s4⟩ := ref_raise (w := w3.drew) h3 g3 (k := 12 + n) (by omega) (d := 1) (by omega) (by omega)
    have HE : Hid (IsRef p (bump (bump (L) 44 (z : Int)) (12 + bitsN z) 1) (w3.setCell ⟨p, 12 + n, none⟩ (.int .i64 (gI L3 (12 + n) + 1))).drew ∧ Spares (fun b => b = p) w (w3.setCell ⟨p, 12 + n, none⟩ (.int .i64 (gI L3 (12 + n) + 1))).drew) := Lib.hid ⟨by rw [hL3, hn]; exact h4, HS3.out.trans ((Spares.refl (fun b => b = p) w3).setCell (p := ⟨p, 12 + n, none⟩) (.inl rfl) _).drew⟩
    clear h3 s3 h4 s4 h
    go_wp2
    try rw [hw3]
    go_region_with ((go_at_call 22; refine (bucket_any z _ hzb).mono ?_; rintro e w5 ⟨rfl, rfl⟩; rw [hn]))
    all_goals
      go_end0
      exact ⟨rfl, HE.out⟩
theorem refAdd_any (p : Nat) (L : Cs) (how status size : Int) (M : Int) (w : World) (h : IsRef p L w) (hf : Fair L M) (hM : M + 1073741827 ≤ 9223372036854775807) (hst : -9223372036854775808 ≤ status ∧ status ≤ 9223372036854775807) :
    Calls Tryd.prog 9 #[.pointer (some ⟨p, 0, none⟩), .int .i64 how, .int .i64 status, .int .i64 size] w (RefPost p (addF L how status size) w) := by
  by_cases hw : 0 ≤ how ∧ how < 6
  · obtain ⟨k, rfl⟩ : ∃ k : Nat, how = (k : Int) := ⟨how.toNat, by omega⟩
    by_cases hs : 1 ≤ status.tdiv 100 ∧ status.tdiv 100 < 6
    · obtain ⟨c, hc⟩ : ∃ c : Nat, status.tdiv 100 = (c : Int) := ⟨(status.tdiv 100).toNat, by omega⟩
      exact refAdd_way_cls p L k status size M w h hf hM hst (by omega) c (by omega) (by omega) hc
    · exact refAdd_way_no p L k status size M w h hf hM hst (by omega) hs
  · by_cases hs : 1 ≤ status.tdiv 100 ∧ status.tdiv 100 < 6
    · obtain ⟨c, hc⟩ : ∃ c : Nat, status.tdiv 100 = (c : Int) := ⟨(status.tdiv 100).toNat, by omega⟩
      exact refAdd_no_cls p L how status size M w h hf hM hst hw c (by omega) (by omega) hc
    · exact refAdd_no_no p L how status size M w h hf hM hst hw hs
end Go.Proofs.YtdppmmoidofgmaaDoor
