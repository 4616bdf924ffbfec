/-
  The reference's Merge: it copies what is put on first.
-/
import Derived.Test.YtdppmmoidofgmaaDoorStatMerge
import Derived.Great.BuildSlice
import Derived.Deep.RegionLaw
namespace Go.Proofs.YtdppmmoidofgmaaDoor
open Go.RowKit

def RMergePost (p : Nat) (L : Cs) (w : World) (e : Ending) (w' : World) : Prop := e = .returned (.tuple #[]) ∧ StatAt 30 p L w' ∧ Spares (fun b => b = p) w w'
theorem spares_setRowM (w : World) (g : Nat) (cs : Array Value) : Spares (fun b => b = g) w (w.setRow g cs) := ⟨rfl, rfl, rfl, by simp, fun b _ hn => setRow_other w g b cs hn⟩
theorem cellsC_one (L : Cs) : (cellsC L).toArray.all (·.oneCell') = true := by
  rw [List.all_toArray]
  unfold cellsC
  simp [Value.oneCell']
theorem cellsC_size {L : Cs} (h : L.length = 45) : (cellsC L).toArray.size = 45 := by simp [cellsC, h]
theorem info_refStat {L : Cs} (h : L.length = 45) : (Tryd.prog.info? 30).map (·.size) = some (cellsC L).toArray.size := by
  rw [cellsC_size h]
  kernel_rfl
set_option maxRecDepth 100000 in
set_option maxHeartbeats 8000000 in
theorem refMerge_any (p q : Nat) (L R : Cs) (M N : Int) (w : World) (h : StatAt 30 p L w) (hr : StatAt 30 q R w) (hf : Fair L M) (hf' : Fair R N) (hMN : M + N ≤ 9223372036854775807) :
    Calls Tryd.prog 14 #[.pointer (some ⟨p, 0, none⟩), .pointer (some ⟨q, 0, none⟩)] w (RMergePost p (mergeF L R) w) := by
  unfold RMergePost
  have hpl := h.lt
  obtain ⟨g, hg⟩ : ∃ g, w.heap.size = g := ⟨_, rfl⟩
  obtain ⟨w2, hw2⟩ : ∃ w2, (w.alloc (.cells #[.int .i64 0, .int .i64 0, .int .i64 0, .int .i64 0, .int .i64 0, .int .i64 0, .int .i64 0, .int .i64 0, .int .i64 0, .int .i64 0, .int .i64 0, .int .i64 0, .int .i64 0, .int .i64 0, .int .i64 0, .int .i64 0, .int .i64 0, .int .i64 0, .int .i64 0, .int .i64 0, .int .i64 0, .int .i64 0, .int .i64 0, .int .i64 0, .int .i64 0, .int .i64 0, .int .i64 0, .int .i64 0, .int .i64 0, .int .i64 0, .int .i64 0, .int .i64 0, .int .i64 0, .int .i64 0, .int .i64 0, .int .i64 0, .int .i64 0, .int .i64 0, .int .i64 0, .int .i64 0, .int .i64 0, .int .i64 0, .int .i64 0, .int .i64 0, .int .i64 0] 30)).setRow g (cellsC R).toArray = w2 := ⟨_, rfl⟩
  have hcp : StatAt 30 g R w2 := by rw [← hw2]; exact setRow_heap _ _ _ _ _ _ (by rw [← hg]; exact heap_alloc_new w _)
  have hs0 : Spares nowhere w w2 := by rw [← hw2]; exact ((Spares.refl nowhere w).alloc _).trans' (spares_setRowM _ _ _) (fun b hb => .inr (by omega))
  have HM0 : Hid (MergeAt 30 p g L R 0 w2) := Lib.hid ⟨(hs0.block p hpl (fun h => h)).trans h, fun j _ hj => hcp.cell (by rw [hf'.len]; exact hj)⟩
  have HS0 : Hid (Spares (fun b => b = p) w w2) := Lib.hid (hs0.mono (fun _ h => by cases h))
  have HS := Lib.hid (fun (k : Nat) (w1 : World) (hk : k < 45) (h1 : MergeAt 30 p g L R k w1) => merge_step h1 hf hf' hMN hk)
  have HE := Lib.hid (mergeK_all hf.len hf'.len)
  have HQ : Hid (w.heap[q]? = some (.cells (cellsC R).toArray 30 (0, 0))) := Lib.hid hr
  have HI := Lib.hid (info_refStat hf'.len)
  have HZ : Hid ((#[.int .i64 0, .int .i64 0, .int .i64 0, .int .i64 0, .int .i64 0, .int .i64 0, .int .i64 0, .int .i64 0, .int .i64 0, .int .i64 0, .int .i64 0, .int .i64 0, .int .i64 0, .int .i64 0, .int .i64 0, .int .i64 0, .int .i64 0, .int .i64 0, .int .i64 0, .int .i64 0, .int .i64 0, .int .i64 0, .int .i64 0, .int .i64 0, .int .i64 0, .int .i64 0, .int .i64 0, .int .i64 0, .int .i64 0, .int .i64 0, .int .i64 0, .int .i64 0, .int .i64 0, .int .i64 0, .int .i64 0, .int .i64 0, .int .i64 0, .int .i64 0, .int .i64 0, .int .i64 0, .int .i64 0, .int .i64 0, .int .i64 0, .int .i64 0, .int .i64 0] : Array Value).size = (cellsC R).toArray.size) := Lib.hid (by rw [cellsC_size hf'.len]; rfl)
  have HNEW : Hid ((w.alloc (.cells #[.int .i64 0, .int .i64 0, .int .i64 0, .int .i64 0, .int .i64 0, .int .i64 0, .int .i64 0, .int .i64 0, .int .i64 0, .int .i64 0, .int .i64 0, .int .i64 0, .int .i64 0, .int .i64 0, .int .i64 0, .int .i64 0, .int .i64 0, .int .i64 0, .int .i64 0, .int .i64 0, .int .i64 0, .int .i64 0, .int .i64 0, .int .i64 0, .int .i64 0, .int .i64 0, .int .i64 0, .int .i64 0, .int .i64 0, .int .i64 0, .int .i64 0, .int .i64 0, .int .i64 0, .int .i64 0, .int .i64 0, .int .i64 0, .int .i64 0, .int .i64 0, .int .i64 0, .int .i64 0, .int .i64 0, .int .i64 0, .int .i64 0, .int .i64 0, .int .i64 0] 30)).heap[g]? = some (.cells #[.int .i64 0, .int .i64 0, .int .i64 0, .int .i64 0, .int .i64 0, .int .i64 0, .int .i64 0, .int .i64 0, .int .i64 0, .int .i64 0, .int .i64 0, .int .i64 0, .int .i64 0, .int .i64 0, .int .i64 0, .int .i64 0, .int .i64 0, .int .i64 0, .int .i64 0, .int .i64 0, .int .i64 0, .int .i64 0, .int .i64 0, .int .i64 0, .int .i64 0, .int .i64 0, .int .i64 0, .int .i64 0, .int .i64 0, .int .i64 0, .int .i64 0, .int .i64 0, .int .i64 0, .int .i64 0, .int .i64 0, .int .i64 0, .int .i64 0, .int .i64 0, .int .i64 0, .int .i64 0, .int .i64 0, .int .i64 0, .int .i64 0, .int .i64 0, .int .i64 0] 30 (0, 0))) := Lib.hid (by rw [← hg]; exact heap_alloc_new w _)
  have HW2 := Lib.hid hw2
  clear h hr hf hf' hpl hs0 hcp hw2
  go_enter Tryd.func14, Tryd.ntmps14
  go_wp2_with (first | ((with_reducible show wpList _ _ _ (⟨some 10, .load _ _, _, _, _, _⟩ :: _) _ _); refine wpList_load_row rfl 30 (.tmp 9) rfl q rfl 30 _ (0, 0) _ HQ.out Tryd.underlying30 rfl HI.out ?_) | (refine wpList_store_rowTo rfl 30 _ _ rfl rfl g (cellsC R).toArray rfl rfl 30 _ HNEW.out HI.out HZ.out (cellsC_one R) ?_; rw [HW2.out]))
  go_loopw [5] (fun i wr => ∃ k : Nat, k ≤ 6 ∧ i = .int .i64 k ∧ MergeAt 30 p g L R (k) wr ∧ Spares (fun b => b = p) w wr) (fun i _ => 6 - (intOf i).toNat)
  case atStart => exact ⟨0, by omega, rfl, HM0.out, HS0.out⟩
  case round =>
    obtain ⟨k, hk, rfl, hm, hsp⟩ := hrel
    have HM := Lib.hid hm
    have HSP := Lib.hid hsp
    clear hm hsp
    by_cases hlt : k < 6
    · have hltI : (k : Int) < 6 := by omega
      obtain ⟨c1, c2, e1, q1, hm2, hs2⟩ := HS.out (k) wr.drew (by omega) HM.out.drew
      have HM2 : Hid (MergeAt 30 p g L R (k + 1) (wr.setCell ⟨p, k, none⟩ (.int .i64 (gI L (k) + gI R (k)))).drew) := Lib.hid hm2
      have HS2 : Hid (Spares (fun b => b = p) w (wr.setCell ⟨p, k, none⟩ (.int .i64 (gI L (k) + gI R (k)))).drew) := Lib.hid (HSP.out.trans ((Spares.refl (fun b => b = p) wr).setCell (p := ⟨p, k, none⟩) (.inl rfl) _).drew)
      clear hm2 hs2
      go_wp2
      go_region
      go_wp2
      go_roundw
      case rel => exact ⟨k + 1, by omega, by go_num, HM2.out, HS2.out⟩
      case measure => simp [intOf]; omega
    · have hkn : ¬ ((k : Int) < 6) := by omega
      have HMn : Hid (MergeAt 30 p g L R 6 wr) := Lib.hid (by have := HM.out; rw [show k = 6 by omega] at this; exact this)
      go_wp2
      go_loopw [6] (fun i wr => ∃ k : Nat, k ≤ 6 ∧ i = .int .i64 k ∧ MergeAt 30 p g L R (6 + k) wr ∧ Spares (fun b => b = p) w wr) (fun i _ => 6 - (intOf i).toNat)
      case atStart => exact ⟨0, by omega, rfl, HMn.out, HSP.out⟩
      case round =>
        obtain ⟨k, hk, rfl, hm, hsp⟩ := hrel
        have HM := Lib.hid hm
        have HSP := Lib.hid hsp
        clear hm hsp
        by_cases hlt : k < 6
        · have hltI : (k : Int) < 6 := by omega
          obtain ⟨c1, c2, e1, q1, hm2, hs2⟩ := HS.out (6 + k) wr.drew (by omega) HM.out.drew
          have HM2 : Hid (MergeAt 30 p g L R (6 + k + 1) (wr.setCell ⟨p, 6 + k, none⟩ (.int .i64 (gI L (6 + k) + gI R (6 + k)))).drew) := Lib.hid hm2
          have HS2 : Hid (Spares (fun b => b = p) w (wr.setCell ⟨p, 6 + k, none⟩ (.int .i64 (gI L (6 + k) + gI R (6 + k)))).drew) := Lib.hid (HSP.out.trans ((Spares.refl (fun b => b = p) wr).setCell (p := ⟨p, 6 + k, none⟩) (.inl rfl) _).drew)
          clear hm2 hs2
          go_wp2
          go_region
          go_wp2
          go_roundw
          case rel => exact ⟨k + 1, by omega, by go_num, HM2.out, HS2.out⟩
          case measure => simp [intOf]; omega
        · have hkn : ¬ ((k : Int) < 6) := by omega
          have HMn : Hid (MergeAt 30 p g L R 12 wr) := Lib.hid (by have := HM.out; rw [show 6 + k = 12 by omega] at this; exact this)
          go_wp2
          go_loopw [7] (fun i wr => ∃ k : Nat, k ≤ 32 ∧ i = .int .i64 k ∧ MergeAt 30 p g L R (12 + k) wr ∧ Spares (fun b => b = p) w wr) (fun i _ => 32 - (intOf i).toNat)
          case atStart => exact ⟨0, by omega, rfl, HMn.out, HSP.out⟩
          case round =>
            obtain ⟨k, hk, rfl, hm, hsp⟩ := hrel
            have HM := Lib.hid hm
            have HSP := Lib.hid hsp
            clear hm hsp
            by_cases hlt : k < 32
            · have hltI : (k : Int) < 32 := by omega
              obtain ⟨c1, c2, e1, q1, hm2, hs2⟩ := HS.out (12 + k) wr.drew (by omega) HM.out.drew
              have HM2 : Hid (MergeAt 30 p g L R (12 + k + 1) (wr.setCell ⟨p, 12 + k, none⟩ (.int .i64 (gI L (12 + k) + gI R (12 + k)))).drew) := Lib.hid hm2
              have HS2 : Hid (Spares (fun b => b = p) w (wr.setCell ⟨p, 12 + k, none⟩ (.int .i64 (gI L (12 + k) + gI R (12 + k)))).drew) := Lib.hid (HSP.out.trans ((Spares.refl (fun b => b = p) wr).setCell (p := ⟨p, 12 + k, none⟩) (.inl rfl) _).drew)
              clear hm2 hs2
              go_wp2
              go_region
              go_wp2
              go_roundw
              case rel => exact ⟨k + 1, by omega, by go_num, HM2.out, HS2.out⟩
              case measure => simp [intOf]; omega
            · have hkn : ¬ ((k : Int) < 32) := by omega
              have HMn : Hid (MergeAt 30 p g L R 44 wr) := Lib.hid (by have := HM.out; rw [show 12 + k = 44 by omega] at this; exact this)
              go_wp2
              obtain ⟨c1, c2, e1, q1, hm2, hs2⟩ := HS.out 44 wr.drew (by omega) HMn.out.drew
              have HM2 : Hid (StatAt 30 p (mergeF L R) (wr.setCell ⟨p, 44, none⟩ (.int .i64 (gI L 44 + gI R 44))).drew) := Lib.hid (by rw [← HE.out]; exact hm2.at_)
              have HS2 : Hid (Spares (fun b => b = p) w (wr.setCell ⟨p, 44, none⟩ (.int .i64 (gI L 44 + gI R 44))).drew) := Lib.hid (HSP.out.trans ((Spares.refl (fun b => b = p) wr).setCell (p := ⟨p, 44, none⟩) (.inl rfl) _).drew)
              clear hm2 hs2
              go_region
              go_end0
              exact ⟨rfl, HM2.out, HS2.out⟩
end Go.Proofs.YtdppmmoidofgmaaDoor
