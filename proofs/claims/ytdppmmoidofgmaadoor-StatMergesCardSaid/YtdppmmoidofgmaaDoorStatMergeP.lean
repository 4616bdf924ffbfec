/-
  The program's and the reference's Merge.
-/
import Derived.Test.YtdppmmoidofgmaaDoorStatMerge
namespace Go.Proofs.YtdppmmoidofgmaaDoor
open Go.RowKit

def MergePost (t : TypeId) (p : Nat) (L : Cs) (w : World) (e : Ending) (w' : World) : Prop := e = .returned (.tuple #[]) ∧ StatAt t p L w' ∧ Spares (fun b => b = p) w w'
set_option maxRecDepth 100000 in
set_option maxHeartbeats 8000000 in
theorem merge_any (p q : Nat) (L R : Cs) (M N : Int) (w : World) (h : IsStat p L w) (hr : IsStat q R w) (hf : Fair L M) (hf' : Fair R N) (hMN : M + N ≤ 9223372036854775807) :
    Calls Tryd.prog 13 #[.pointer (some ⟨p, 0, none⟩), .pointer (some ⟨q, 0, none⟩)] w (MergePost 56 p (mergeF L R) w) := by
  unfold MergePost
  have HM0 : Hid (MergeAt 56 p q L R 0 w) := Lib.hid ⟨h, fun j _ hj => hr.cell (by rw [hf'.len]; exact hj)⟩
  have HS := Lib.hid (fun (k : Nat) (w1 : World) (hk : k < 45) (h1 : MergeAt 56 p q L R k w1) => merge_step h1 hf hf' hMN hk)
  have HE := Lib.hid (mergeK_all hf.len hf'.len)
  clear h hr hf hf'
  go_enter Tryd.func13, Tryd.ntmps13
  go_wp2
  go_loopw [9] (fun i wr => ∃ k : Nat, k ≤ 6 ∧ i = .int .i64 k ∧ MergeAt 56 p q L R (k) wr ∧ Spares (fun b => b = p) w wr) (fun i _ => 6 - (intOf i).toNat)
  case atStart => exact ⟨0, by omega, rfl, HM0.out, Spares.refl _ _⟩
  case round =>
    obtain ⟨k, hk, rfl, hm, hsp⟩ := hrel
    have HM := Lib.hid hm
    have HSP := Lib.hid hsp
    clear hm hsp
    by_cases hlt : k < 6
    · have hltI : (k : Int) < 6 := by omega
      obtain ⟨c1, c2, e1, q1, hm2, hs2⟩ := HS.out (k) wr.drew (by omega) HM.out.drew
      have HM2 : Hid (MergeAt 56 p q L R (k + 1) (wr.setCell ⟨p, k, none⟩ (.int .i64 (gI L (k) + gI R (k)))).drew) := Lib.hid hm2
      have HS2 : Hid (Spares (fun b => b = p) w (wr.setCell ⟨p, k, none⟩ (.int .i64 (gI L (k) + gI R (k)))).drew) := Lib.hid (HSP.out.trans ((Spares.refl (fun b => b = p) wr).setCell (p := ⟨p, k, none⟩) (.inl rfl) _).drew)
      clear hm2 hs2
      go_wp2
      go_region_with (first | (go_at_call 24; refine (iLoad_any _ _ _ c2).mono ?_; rintro e w5 ⟨rfl, rfl⟩) | (go_at_call 20; refine (iAdd_any _ _ _ _ c1 e1 q1).mono ?_; rintro e w5 ⟨rfl, rfl⟩))
      all_goals
        go_wp2
        go_roundw
        case rel => exact ⟨k + 1, by omega, by go_num, HM2.out, HS2.out⟩
        case measure => simp [intOf]; omega
    · have hkn : ¬ ((k : Int) < 6) := by omega
      have HMn : Hid (MergeAt 56 p q L R 6 wr) := Lib.hid (by have := HM.out; rw [show k = 6 by omega] at this; exact this)
      go_wp2
      go_loopw [25] (fun i wr => ∃ k : Nat, k ≤ 6 ∧ i = .int .i64 k ∧ MergeAt 56 p q L R (6 + k) wr ∧ Spares (fun b => b = p) w wr) (fun i _ => 6 - (intOf i).toNat)
      case atStart => exact ⟨0, by omega, rfl, HMn.out, HSP.out⟩
      case round =>
        obtain ⟨k, hk, rfl, hm, hsp⟩ := hrel
        have HM := Lib.hid hm
        have HSP := Lib.hid hsp
        clear hm hsp
        by_cases hlt : k < 6
        · have hltI : (k : Int) < 6 := by omega
          obtain ⟨c1, c2, e1, q1, hm2, hs2⟩ := HS.out (6 + k) wr.drew (by omega) HM.out.drew
          have HM2 : Hid (MergeAt 56 p q L R (6 + k + 1) (wr.setCell ⟨p, 6 + k, none⟩ (.int .i64 (gI L (6 + k) + gI R (6 + k)))).drew) := Lib.hid hm2
          have HS2 : Hid (Spares (fun b => b = p) w (wr.setCell ⟨p, 6 + k, none⟩ (.int .i64 (gI L (6 + k) + gI R (6 + k)))).drew) := Lib.hid (HSP.out.trans ((Spares.refl (fun b => b = p) wr).setCell (p := ⟨p, 6 + k, none⟩) (.inl rfl) _).drew)
          clear hm2 hs2
          go_wp2
          go_region_with (first | (go_at_call 24; refine (iLoad_any _ _ _ c2).mono ?_; rintro e w5 ⟨rfl, rfl⟩) | (go_at_call 20; refine (iAdd_any _ _ _ _ c1 e1 q1).mono ?_; rintro e w5 ⟨rfl, rfl⟩))
          all_goals
            go_wp2
            go_roundw
            case rel => exact ⟨k + 1, by omega, by go_num, HM2.out, HS2.out⟩
            case measure => simp [intOf]; omega
        · have hkn : ¬ ((k : Int) < 6) := by omega
          have HMn : Hid (MergeAt 56 p q L R 12 wr) := Lib.hid (by have := HM.out; rw [show 6 + k = 12 by omega] at this; exact this)
          go_wp2
          go_loopw [41] (fun i wr => ∃ k : Nat, k ≤ 32 ∧ i = .int .i64 k ∧ MergeAt 56 p q L R (12 + k) wr ∧ Spares (fun b => b = p) w wr) (fun i _ => 32 - (intOf i).toNat)
          case atStart => exact ⟨0, by omega, rfl, HMn.out, HSP.out⟩
          case round =>
            obtain ⟨k, hk, rfl, hm, hsp⟩ := hrel
            have HM := Lib.hid hm
            have HSP := Lib.hid hsp
            clear hm hsp
            by_cases hlt : k < 32
            · have hltI : (k : Int) < 32 := by omega
              obtain ⟨c1, c2, e1, q1, hm2, hs2⟩ := HS.out (12 + k) wr.drew (by omega) HM.out.drew
              have HM2 : Hid (MergeAt 56 p q L R (12 + k + 1) (wr.setCell ⟨p, 12 + k, none⟩ (.int .i64 (gI L (12 + k) + gI R (12 + k)))).drew) := Lib.hid hm2
              have HS2 : Hid (Spares (fun b => b = p) w (wr.setCell ⟨p, 12 + k, none⟩ (.int .i64 (gI L (12 + k) + gI R (12 + k)))).drew) := Lib.hid (HSP.out.trans ((Spares.refl (fun b => b = p) wr).setCell (p := ⟨p, 12 + k, none⟩) (.inl rfl) _).drew)
              clear hm2 hs2
              go_wp2
              go_region_with (first | (go_at_call 24; refine (iLoad_any _ _ _ c2).mono ?_; rintro e w5 ⟨rfl, rfl⟩) | (go_at_call 20; refine (iAdd_any _ _ _ _ c1 e1 q1).mono ?_; rintro e w5 ⟨rfl, rfl⟩))
              all_goals
                go_wp2
                go_roundw
                case rel => exact ⟨k + 1, by omega, by go_num, HM2.out, HS2.out⟩
                case measure => simp [intOf]; omega
            · have hkn : ¬ ((k : Int) < 32) := by omega
              have HMn : Hid (MergeAt 56 p q L R 44 wr) := Lib.hid (by have := HM.out; rw [show 12 + k = 44 by omega] at this; exact this)
              go_wp2
              obtain ⟨c1, c2, e1, q1, hm2, hs2⟩ := HS.out 44 wr.drew (by omega) HMn.out.drew
              have HM2 : Hid (StatAt 56 p (mergeF L R) (wr.setCell ⟨p, 44, none⟩ (.int .i64 (gI L 44 + gI R 44))).drew) := Lib.hid (by rw [← HE.out]; exact hm2.at_)
              have HS2 : Hid (Spares (fun b => b = p) w (wr.setCell ⟨p, 44, none⟩ (.int .i64 (gI L 44 + gI R 44))).drew) := Lib.hid (HSP.out.trans ((Spares.refl (fun b => b = p) wr).setCell (p := ⟨p, 44, none⟩) (.inl rfl) _).drew)
              clear hm2 hs2
              go_region_with (first | (go_at_call 24; refine (iLoad_any _ _ _ c2).mono ?_; rintro e w5 ⟨rfl, rfl⟩) | (go_at_call 20; refine (iAdd_any _ _ _ _ c1 e1 q1).mono ?_; rintro e w5 ⟨rfl, rfl⟩))
              all_goals
                go_end0
                exact ⟨rfl, HM2.out, HS2.out⟩
end Go.Proofs.YtdppmmoidofgmaaDoor
