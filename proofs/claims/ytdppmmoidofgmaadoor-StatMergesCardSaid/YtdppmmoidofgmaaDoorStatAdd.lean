/-
  A request is counted.
-/
import Derived.Test.YtdppmmoidofgmaaDoorStatRead
import Derived.Test.YtdppmmoidofgmaaDoorShelf
import Derived.Deep.RegionLaw
namespace Go.Proofs.YtdppmmoidofgmaaDoor
open Go.RowKit

def AddPost (p : Nat) (L : Cs) (w : World) (e : Ending) (w' : World) : Prop := e = .returned (.tuple #[]) ∧ IsStat p L w' ∧ Spares (fun b => b = p) w w'
theorem wayF_in {L : Cs} {k : Nat} (h : k < 6) : wayF L (k : Int) = bump L k 1 := if_pos (by omega)
theorem clsF_in {L : Cs} {s : Int} {k : Nat} (h : k < 6) (h1 : 1 ≤ k) (e : s.tdiv 100 = (k : Int)) : clsF L s = bump L (6 + k) 1 := by
  unfold clsF
  rw [e, if_pos (by omega)]
  rfl
theorem wrap64 {x : Int} (h0 : 0 ≤ x) (h1 : x ≤ 9223372036854775807) : IntKind.i64.wrap x = x := IntWalk.i64_in _ (by omega)
theorem wrapU {x : Int} (h0 : 0 ≤ x) (h1 : x ≤ 9223372036854775807) : IntKind.u64.wrap x = x := by rw [IntKind.wrap_u64]; omega
/-- One number is raised: what the call of atomic's Add does, and what is so behind it. -/
theorem raise {p : Nat} {L : Cs} {M : Int} {w : World} (h : IsStat p L w) (hf : Fair L M) {k : Nat} (hk : k < 45) {d : Int} (h0 : 0 ≤ d) (h1 : M + d ≤ 9223372036854775807) :
    ∃ w1, (callFunc 28 #[.pointer (some ⟨p, k, none⟩), .int .i64 d]).run Tryd.prog w = .ok (.value (.int .i64 (gI L k + d))) w1 ∧ IsStat p (bump L k d) w1 ∧ Fair (bump L k d) (M + d) ∧ Spares (fun b => b = p) w w1 := by
  have hp := hf.pos k
  exact ⟨_, add_run (h.cell (by rw [hf.len]; exact hk)) (Lib.frozen_of_heap h k) (wrap64 (by omega) (by omega)), h.bump (by rw [hf.len]; exact hk) d, hf.bump k hk h0, (Spares.refl (fun b => b = p) w).setCell (p := ⟨p, k, none⟩) (.inl rfl) _⟩
set_option maxRecDepth 100000 in
set_option maxHeartbeats 4000000 in
theorem add_way_cls (p : Nat) (L : Cs) (k : Nat) (status : Int) (size : Int) (M : Int) (w : World) (h : IsStat p L w) (hf : Fair L M) (hM : M + 1073741827 ≤ 9223372036854775807) (_hst : -9223372036854775808 ≤ status ∧ status ≤ 9223372036854775807) (hk : k < 6) (c : Nat) (hc1 : 1 ≤ c) (hc : c < 6) (hs : status.tdiv 100 = (c : Int)) :
    Calls Tryd.prog 8 #[.pointer (some ⟨p, 0, none⟩), .int .i64 (k : Int), .int .i64 status, .int .i64 size] w (AddPost p (addF L (k : Int) status size) w) := by
  unfold AddPost addF
  rw [wayF_in hk]
  obtain ⟨w1, r1, h1, f1, s1⟩ := raise h hf (k := k) (by omega) (d := 1) (by omega) (by omega)
  rw [clsF_in hc hc1 hs]
  obtain ⟨w2, r2, h2, f2, s2⟩ := raise h1 f1 (k := 6 + c) (by omega) (d := 1) (by omega) (by omega)
  have hz := sizeF_bd size
  have hzl := sizeF_bits size
  unfold sizeF at hz hzl ⊢
  obtain ⟨w3, r3, h3, f3, s3⟩ := raise h2 f2 (k := 44) (by omega) (d := min (max size 0) 1073741824) hz.1 (by omega)
  have HS : Hid (Spares (fun b => b = p) w w3) := Lib.hid ((((s1).trans s2)).trans s3)
  have hu := wrapU hz.1 (by omega)
  clear h h1 f1 s1 h2 f2 s2 s3
  have HB : Hid (∀ n, Lib.bitLen (min (max size 0) 1073741824).toNat = n → n ≤ 31 ∧ bitsN (min (max size 0) 1073741824).toNat = n) := Lib.hid (fun n hn => by subst hn; exact ⟨hzl, rfl⟩)
  obtain ⟨L3, hL3⟩ : ∃ L3, L3 = bump (bump (bump L k 1) (6 + c) 1) 44 (min (max size 0) 1073741824) := ⟨_, rfl⟩
  rw [← hL3] at h3 f3 ⊢
  have HL : Hid (∀ (n : Nat) (v : World), n ≤ 31 → v.heap = w3.heap → v.cell? ⟨p, 12 + n, none⟩ = some (.int .i64 (gI L3 (12 + n))) ∧ v.frozen? ⟨p, 12 + n, none⟩ = false ∧ IntKind.i64.wrap (gI L3 (12 + n) + 1) = gI L3 (12 + n) + 1) := Lib.hid (fun n v hn hv => by
    have h3v : IsStat p L3 v := by unfold IsStat StatAt; rw [hv]; exact h3
    have hp := f3.pos (12 + n)
    exact ⟨h3v.cell (by rw [f3.len]; omega), Lib.frozen_of_heap h3v _, wrap64 (by omega) (by omega)⟩)
  have HE : Hid (∀ (n : Nat) (v : World), n ≤ 31 → v.heap = w3.heap → Spares nowhere w3 v → IsStat p (bump L3 (12 + n) 1) (v.setCell ⟨p, 12 + n, none⟩ (.int .i64 (gI L3 (12 + n) + 1))) ∧ Spares (fun b => b = p) w (v.setCell ⟨p, 12 + n, none⟩ (.int .i64 (gI L3 (12 + n) + 1)))) := Lib.hid (fun n v hn hv hs => by
    have h3v : IsStat p L3 v := by unfold IsStat StatAt; rw [hv]; exact h3
    exact ⟨h3v.bump (by rw [f3.len]; omega) 1, (HS.out.trans (hs.mono (fun _ h => by cases h))).trans ((Spares.refl (fun b => b = p) v).setCell (p := ⟨p, 12 + n, none⟩) (.inl rfl) _)⟩)
  clear hzl
  obtain ⟨hz0, hz1⟩ := hz
  have hzU : min (max size 0) 1073741824 ≤ 18446744073709551615 := by omega
  all_goals
    go_enter Tryd.func8, Tryd.ntmps8
    go_wp2
    go_region_with
      (first
        | (go_at_call 21
           refine (Tryd.bits_Len _ _ hz0 hzU).mono ?_
           rintro e w5 ⟨rfl, rfl⟩
           obtain ⟨n, hn⟩ : ∃ n, Lib.bitLen (min (max size 0) 1073741824).toNat = n := ⟨_, rfl⟩
           rw [hn]
           obtain ⟨hn31, hnb⟩ := HB.out n hn)
        | (go_at_call 20
           have hl6 := HL.out n w3.drew hn31 rfl
           refine (iAdd_any _ _ _ _ hl6.1 hl6.2.1 hl6.2.2).mono ?_
           rintro e w6 ⟨rfl, rfl⟩))
    all_goals
      go_end0
      rw [hnb]
      have he := HE.out n w3 hn31 rfl (Spares.refl _ _)
      rw [hL3] at he ⊢
      exact ⟨rfl, he.1, he.2.drew⟩
set_option maxRecDepth 100000 in
set_option maxHeartbeats 4000000 in
theorem add_way_no (p : Nat) (L : Cs) (k : Nat) (status : Int) (size : Int) (M : Int) (w : World) (h : IsStat p L w) (hf : Fair L M) (hM : M + 1073741827 ≤ 9223372036854775807) (hst : -9223372036854775808 ≤ status ∧ status ≤ 9223372036854775807) (hk : k < 6) (hs : ¬ (1 ≤ status.tdiv 100 ∧ status.tdiv 100 < 6)) :
    Calls Tryd.prog 8 #[.pointer (some ⟨p, 0, none⟩), .int .i64 (k : Int), .int .i64 status, .int .i64 size] w (AddPost p (addF L (k : Int) status size) w) := by
  unfold AddPost addF
  rw [wayF_in hk]
  obtain ⟨w1, r1, h1, f1, s1⟩ := raise h hf (k := k) (by omega) (d := 1) (by omega) (by omega)
  rw [show clsF _ status = _ from if_neg hs]
  have hz := sizeF_bd size
  have hzl := sizeF_bits size
  unfold sizeF at hz hzl ⊢
  obtain ⟨w3, r3, h3, f3, s3⟩ := raise h1 f1 (k := 44) (by omega) (d := min (max size 0) 1073741824) hz.1 (by omega)
  have HS : Hid (Spares (fun b => b = p) w w3) := Lib.hid ((s1).trans s3)
  have hu := wrapU hz.1 (by omega)
  clear h h1 f1 s1 s3
  have HB : Hid (∀ n, Lib.bitLen (min (max size 0) 1073741824).toNat = n → n ≤ 31 ∧ bitsN (min (max size 0) 1073741824).toNat = n) := Lib.hid (fun n hn => by subst hn; exact ⟨hzl, rfl⟩)
  obtain ⟨L3, hL3⟩ : ∃ L3, L3 = bump (bump L k 1) 44 (min (max size 0) 1073741824) := ⟨_, rfl⟩
  rw [← hL3] at h3 f3 ⊢
  have HL : Hid (∀ (n : Nat) (v : World), n ≤ 31 → v.heap = w3.heap → v.cell? ⟨p, 12 + n, none⟩ = some (.int .i64 (gI L3 (12 + n))) ∧ v.frozen? ⟨p, 12 + n, none⟩ = false ∧ IntKind.i64.wrap (gI L3 (12 + n) + 1) = gI L3 (12 + n) + 1) := Lib.hid (fun n v hn hv => by
    have h3v : IsStat p L3 v := by unfold IsStat StatAt; rw [hv]; exact h3
    have hp := f3.pos (12 + n)
    exact ⟨h3v.cell (by rw [f3.len]; omega), Lib.frozen_of_heap h3v _, wrap64 (by omega) (by omega)⟩)
  have HE : Hid (∀ (n : Nat) (v : World), n ≤ 31 → v.heap = w3.heap → Spares nowhere w3 v → IsStat p (bump L3 (12 + n) 1) (v.setCell ⟨p, 12 + n, none⟩ (.int .i64 (gI L3 (12 + n) + 1))) ∧ Spares (fun b => b = p) w (v.setCell ⟨p, 12 + n, none⟩ (.int .i64 (gI L3 (12 + n) + 1)))) := Lib.hid (fun n v hn hv hs => by
    have h3v : IsStat p L3 v := by unfold IsStat StatAt; rw [hv]; exact h3
    exact ⟨h3v.bump (by rw [f3.len]; omega) 1, (HS.out.trans (hs.mono (fun _ h => by cases h))).trans ((Spares.refl (fun b => b = p) v).setCell (p := ⟨p, 12 + n, none⟩) (.inl rfl) _)⟩)
  clear hzl
  obtain ⟨hz0, hz1⟩ := hz
  have hzU : min (max size 0) 1073741824 ≤ 18446744073709551615 := by omega
  obtain ⟨q, hq⟩ : ∃ q, status.tdiv 100 = q := ⟨_, rfl⟩
  have hwq : RowKit.wrap64 q = q := by rw [← IntWalk.i64_left, ← hq]; exact IntWalk.i64_quo' _ _ ⟨hst.1, hst.2, by omega⟩
  rw [hq] at hs
  all_goals rcases (show q < 1 ∨ 6 ≤ q by omega) with hs1 | hs1
  all_goals
    go_enter Tryd.func8, Tryd.ntmps8
    go_wp2
    go_region_with
      (first
        | (go_at_call 21
           refine (Tryd.bits_Len _ _ hz0 hzU).mono ?_
           rintro e w5 ⟨rfl, rfl⟩
           obtain ⟨n, hn⟩ : ∃ n, Lib.bitLen (min (max size 0) 1073741824).toNat = n := ⟨_, rfl⟩
           rw [hn]
           obtain ⟨hn31, hnb⟩ := HB.out n hn)
        | (go_at_call 20
           have hl6 := HL.out n w3.drew hn31 rfl
           refine (iAdd_any _ _ _ _ hl6.1 hl6.2.1 hl6.2.2).mono ?_
           rintro e w6 ⟨rfl, rfl⟩))
    all_goals
      go_end0
      rw [hnb]
      have he := HE.out n w3 hn31 rfl (Spares.refl _ _)
      rw [hL3] at he ⊢
      exact ⟨rfl, he.1, he.2.drew⟩
set_option maxRecDepth 100000 in
set_option maxHeartbeats 4000000 in
theorem add_no_cls (p : Nat) (L : Cs) (how status : Int) (size : Int) (M : Int) (w : World) (h : IsStat p L w) (hf : Fair L M) (hM : M + 1073741827 ≤ 9223372036854775807) (_hst : -9223372036854775808 ≤ status ∧ status ≤ 9223372036854775807) (hw : ¬ (0 ≤ how ∧ how < 6)) (c : Nat) (hc1 : 1 ≤ c) (hc : c < 6) (hs : status.tdiv 100 = (c : Int)) :
    Calls Tryd.prog 8 #[.pointer (some ⟨p, 0, none⟩), .int .i64 how, .int .i64 status, .int .i64 size] w (AddPost p (addF L how status size) w) := by
  unfold AddPost addF
  rw [show wayF L how = L from if_neg hw]
  rw [clsF_in hc hc1 hs]
  obtain ⟨w2, r2, h2, f2, s2⟩ := raise h hf (k := 6 + c) (by omega) (d := 1) (by omega) (by omega)
  have hz := sizeF_bd size
  have hzl := sizeF_bits size
  unfold sizeF at hz hzl ⊢
  obtain ⟨w3, r3, h3, f3, s3⟩ := raise h2 f2 (k := 44) (by omega) (d := min (max size 0) 1073741824) hz.1 (by omega)
  have HS : Hid (Spares (fun b => b = p) w w3) := Lib.hid ((s2).trans s3)
  have hu := wrapU hz.1 (by omega)
  clear h h2 f2 s2 s3
  have HB : Hid (∀ n, Lib.bitLen (min (max size 0) 1073741824).toNat = n → n ≤ 31 ∧ bitsN (min (max size 0) 1073741824).toNat = n) := Lib.hid (fun n hn => by subst hn; exact ⟨hzl, rfl⟩)
  obtain ⟨L3, hL3⟩ : ∃ L3, L3 = bump (bump (L) (6 + c) 1) 44 (min (max size 0) 1073741824) := ⟨_, rfl⟩
  rw [← hL3] at h3 f3 ⊢
  have HL : Hid (∀ (n : Nat) (v : World), n ≤ 31 → v.heap = w3.heap → v.cell? ⟨p, 12 + n, none⟩ = some (.int .i64 (gI L3 (12 + n))) ∧ v.frozen? ⟨p, 12 + n, none⟩ = false ∧ IntKind.i64.wrap (gI L3 (12 + n) + 1) = gI L3 (12 + n) + 1) := Lib.hid (fun n v hn hv => by
    have h3v : IsStat p L3 v := by unfold IsStat StatAt; rw [hv]; exact h3
    have hp := f3.pos (12 + n)
    exact ⟨h3v.cell (by rw [f3.len]; omega), Lib.frozen_of_heap h3v _, wrap64 (by omega) (by omega)⟩)
  have HE : Hid (∀ (n : Nat) (v : World), n ≤ 31 → v.heap = w3.heap → Spares nowhere w3 v → IsStat p (bump L3 (12 + n) 1) (v.setCell ⟨p, 12 + n, none⟩ (.int .i64 (gI L3 (12 + n) + 1))) ∧ Spares (fun b => b = p) w (v.setCell ⟨p, 12 + n, none⟩ (.int .i64 (gI L3 (12 + n) + 1)))) := Lib.hid (fun n v hn hv hs => by
    have h3v : IsStat p L3 v := by unfold IsStat StatAt; rw [hv]; exact h3
    exact ⟨h3v.bump (by rw [f3.len]; omega) 1, (HS.out.trans (hs.mono (fun _ h => by cases h))).trans ((Spares.refl (fun b => b = p) v).setCell (p := ⟨p, 12 + n, none⟩) (.inl rfl) _)⟩)
  clear hzl
  obtain ⟨hz0, hz1⟩ := hz
  have hzU : min (max size 0) 1073741824 ≤ 18446744073709551615 := by omega
  rcases (show how < 0 ∨ 6 ≤ how by omega) with hw1 | hw1
  all_goals
    go_enter Tryd.func8, Tryd.ntmps8
    go_wp2
    go_region_with
      (first
        | (go_at_call 21
           refine (Tryd.bits_Len _ _ hz0 hzU).mono ?_
           rintro e w5 ⟨rfl, rfl⟩
           obtain ⟨n, hn⟩ : ∃ n, Lib.bitLen (min (max size 0) 1073741824).toNat = n := ⟨_, rfl⟩
           rw [hn]
           obtain ⟨hn31, hnb⟩ := HB.out n hn)
        | (go_at_call 20
           have hl6 := HL.out n w3.drew hn31 rfl
           refine (iAdd_any _ _ _ _ hl6.1 hl6.2.1 hl6.2.2).mono ?_
           rintro e w6 ⟨rfl, rfl⟩))
    all_goals
      go_end0
      rw [hnb]
      have he := HE.out n w3 hn31 rfl (Spares.refl _ _)
      rw [hL3] at he ⊢
      exact ⟨rfl, he.1, he.2.drew⟩
set_option maxRecDepth 100000 in
set_option maxHeartbeats 4000000 in
theorem add_no_no (p : Nat) (L : Cs) (how status : Int) (size : Int) (M : Int) (w : World) (h : IsStat p L w) (hf : Fair L M) (hM : M + 1073741827 ≤ 9223372036854775807) (hst : -9223372036854775808 ≤ status ∧ status ≤ 9223372036854775807) (hw : ¬ (0 ≤ how ∧ how < 6)) (hs : ¬ (1 ≤ status.tdiv 100 ∧ status.tdiv 100 < 6)) :
    Calls Tryd.prog 8 #[.pointer (some ⟨p, 0, none⟩), .int .i64 how, .int .i64 status, .int .i64 size] w (AddPost p (addF L how status size) w) := by
  unfold AddPost addF
  rw [show wayF L how = L from if_neg hw]
  rw [show clsF _ status = _ from if_neg hs]
  have hz := sizeF_bd size
  have hzl := sizeF_bits size
  unfold sizeF at hz hzl ⊢
  obtain ⟨w3, r3, h3, f3, s3⟩ := raise h hf (k := 44) (by omega) (d := min (max size 0) 1073741824) hz.1 (by omega)
  have HS : Hid (Spares (fun b => b = p) w w3) := Lib.hid ((Spares.refl _ w).trans s3)
  have hu := wrapU hz.1 (by omega)
  clear h s3
  have HB : Hid (∀ n, Lib.bitLen (min (max size 0) 1073741824).toNat = n → n ≤ 31 ∧ bitsN (min (max size 0) 1073741824).toNat = n) := Lib.hid (fun n hn => by subst hn; exact ⟨hzl, rfl⟩)
  obtain ⟨L3, hL3⟩ : ∃ L3, L3 = bump (L) 44 (min (max size 0) 1073741824) := ⟨_, rfl⟩
  rw [← hL3] at h3 f3 ⊢
  have HL : Hid (∀ (n : Nat) (v : World), n ≤ 31 → v.heap = w3.heap → v.cell? ⟨p, 12 + n, none⟩ = some (.int .i64 (gI L3 (12 + n))) ∧ v.frozen? ⟨p, 12 + n, none⟩ = false ∧ IntKind.i64.wrap (gI L3 (12 + n) + 1) = gI L3 (12 + n) + 1) := Lib.hid (fun n v hn hv => by
    have h3v : IsStat p L3 v := by unfold IsStat StatAt; rw [hv]; exact h3
    have hp := f3.pos (12 + n)
    exact ⟨h3v.cell (by rw [f3.len]; omega), Lib.frozen_of_heap h3v _, wrap64 (by omega) (by omega)⟩)
  have HE : Hid (∀ (n : Nat) (v : World), n ≤ 31 → v.heap = w3.heap → Spares nowhere w3 v → IsStat p (bump L3 (12 + n) 1) (v.setCell ⟨p, 12 + n, none⟩ (.int .i64 (gI L3 (12 + n) + 1))) ∧ Spares (fun b => b = p) w (v.setCell ⟨p, 12 + n, none⟩ (.int .i64 (gI L3 (12 + n) + 1)))) := Lib.hid (fun n v hn hv hs => by
    have h3v : IsStat p L3 v := by unfold IsStat StatAt; rw [hv]; exact h3
    exact ⟨h3v.bump (by rw [f3.len]; omega) 1, (HS.out.trans (hs.mono (fun _ h => by cases h))).trans ((Spares.refl (fun b => b = p) v).setCell (p := ⟨p, 12 + n, none⟩) (.inl rfl) _)⟩)
  clear hzl
  obtain ⟨hz0, hz1⟩ := hz
  have hzU : min (max size 0) 1073741824 ≤ 18446744073709551615 := by omega
  obtain ⟨q, hq⟩ : ∃ q, status.tdiv 100 = q := ⟨_, rfl⟩
  have hwq : RowKit.wrap64 q = q := by rw [← IntWalk.i64_left, ← hq]; exact IntWalk.i64_quo' _ _ ⟨hst.1, hst.2, by omega⟩
  rw [hq] at hs
  rcases (show how < 0 ∨ 6 ≤ how by omega) with hw1 | hw1
  all_goals rcases (show q < 1 ∨ 6 ≤ q by omega) with hs1 | hs1
  all_goals
    go_enter Tryd.func8, Tryd.ntmps8
    go_wp2
    go_region_with
      (first
        | (go_at_call 21
           refine (Tryd.bits_Len _ _ hz0 hzU).mono ?_
           rintro e w5 ⟨rfl, rfl⟩
           obtain ⟨n, hn⟩ : ∃ n, Lib.bitLen (min (max size 0) 1073741824).toNat = n := ⟨_, rfl⟩
           rw [hn]
           obtain ⟨hn31, hnb⟩ := HB.out n hn)
        | (go_at_call 20
           have hl6 := HL.out n w3.drew hn31 rfl
           refine (iAdd_any _ _ _ _ hl6.1 hl6.2.1 hl6.2.2).mono ?_
           rintro e w6 ⟨rfl, rfl⟩))
    all_goals
      go_end0
      rw [hnb]
      have he := HE.out n w3 hn31 rfl (Spares.refl _ _)
      rw [hL3] at he ⊢
      exact ⟨rfl, he.1, he.2.drew⟩
theorem add_any (p : Nat) (L : Cs) (how status size : Int) (M : Int) (w : World) (h : IsStat p L w) (hf : Fair L M) (hM : M + 1073741827 ≤ 9223372036854775807) (hst : -9223372036854775808 ≤ status ∧ status ≤ 9223372036854775807) :
    Calls Tryd.prog 8 #[.pointer (some ⟨p, 0, none⟩), .int .i64 how, .int .i64 status, .int .i64 size] w (AddPost p (addF L how status size) w) := by
  by_cases hw : 0 ≤ how ∧ how < 6
  · obtain ⟨k, rfl⟩ : ∃ k : Nat, how = (k : Int) := ⟨how.toNat, by omega⟩
    by_cases hs : 1 ≤ status.tdiv 100 ∧ status.tdiv 100 < 6
    · obtain ⟨c, hc⟩ : ∃ c : Nat, status.tdiv 100 = (c : Int) := ⟨(status.tdiv 100).toNat, by omega⟩
      exact add_way_cls p L k status size M w h hf hM hst (by omega) c (by omega) (by omega) hc
    · exact add_way_no p L k status size M w h hf hM hst (by omega) hs
  · by_cases hs : 1 ≤ status.tdiv 100 ∧ status.tdiv 100 < 6
    · obtain ⟨c, hc⟩ : ∃ c : Nat, status.tdiv 100 = (c : Int) := ⟨(status.tdiv 100).toNat, by omega⟩
      exact add_no_cls p L how status size M w h hf hM hst hw c (by omega) (by omega) hc
    · exact add_no_no p L how status size M w h hf hM hst hw hs
end Go.Proofs.YtdppmmoidofgmaaDoor
