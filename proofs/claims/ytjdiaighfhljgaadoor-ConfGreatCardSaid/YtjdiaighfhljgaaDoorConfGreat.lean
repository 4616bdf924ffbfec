/-
  ConfGreat's walk.
-/
import Derived.Test.YtjdiaighfhljgaaDoorConfKnown
import Derived.Test.YtjdiaighfhljgaaDoorShaEnd
namespace Go.Proofs.YtjdiaighfhljgaaDoor
open Go.RowKit GlobMath DateMath

theorem hash_plain (k : Nat) : plainL (List.replicate k (35 : UInt8)) := fun c hc => by rw [List.eq_of_mem_replicate hc]; rfl
theorem hash_trim (s : ByteArray) (k : Nat) (hs : s.data.toList = List.replicate k (35 : UInt8)) : trimR s = s := by
  have h : Lib.hasSuffix s.data.toList [13] = false := by
    rw [hs]
    cases hb : Lib.hasSuffix (List.replicate k (35 : UInt8)) [13] with
    | false => rfl
    | true =>
      exfalso
      unfold Lib.hasSuffix at hb
      simp at hb
  unfold trimR Lib.trimSuffix
  rw [h, if_neg (by simp)]
theorem hash_kind (s : ByteArray) (k : Nat) (hk : 0 < k) (hs : s.data.toList = List.replicate k (35 : UInt8)) : KindOf (trimR s) .quiet := by
  rw [hash_trim s k hs]
  have hne : List.replicate k (35 : UInt8) ≠ [] := by cases k with
    | zero => omega
    | succ k => simp [List.replicate_succ]
  have hw : wordsL s = [s] := map_inj (by rw [words_list, hs, wl_one (hash_plain k) hne]; simp [hs])
  have hz : s.size = k := by have := congrArg List.length hs; simpa using this
  refine .inr ⟨s, [], hw, by omega, ?_⟩
  have h0 : s.data.toList[0]? = some 35 := by rw [hs, List.getElem?_replicate, if_pos hk]
  rw [List.getElem?_eq_getElem (by simpa [hz] using hk)] at h0
  exact Option.some.inj h0
theorem hash_parse (s : ByteArray) (k : Nat) (hk : 0 < k) (hk2 : k ≤ 32768) (hs : s.data.toList = List.replicate k (35 : UInt8)) (m : Int) (w : World) (hm : w.cell? ⟨0, 0, none⟩ = some (.int .i64 m)) : Calls Tryd.prog 7 #[.string s] w (ConfPost (.inl (startC, 1)) w) := by
  have hz : s.size = k := by have := congrArg List.length hs; simpa using this
  refine confParse_any s [(s, .quiet)] m w (by omega) hm ?_ (fun x hx => ?_) (show 1 ≤ 1000000 by decide) (fun x hx => ?_)
  · rw [linesF_none (fun c hc => by rw [hs] at hc; rw [List.eq_of_mem_replicate hc]; decide)]; rfl
  · obtain rfl : x = (s, .quiet) := by simpa using hx
    show s.size ≤ _
    omega
  · obtain rfl : x = (s, .quiet) := by simpa using hx
    exact hash_kind s k hk hs
set_option maxRecDepth 100000 in
set_option maxHeartbeats 8000000 in
theorem great_any (n : Nat) (m : Int) (w : World) (hn : n < 256) (hm : w.cell? ⟨0, 0, none⟩ = some (.int .i64 m)) : Calls Tryd.prog 4 #[.int .u8 n] w (Knows w) := by
  have h0 : 0 < w.heap.size := by
    rcases Nat.lt_or_ge 0 w.heap.size with h | h
    · exact h
    · simp [World.cell?, Array.getElem?_eq_none h] at hm
  have CK := known_any m w hm
  obtain ⟨r, hr⟩ : ∃ r, n % 5 = r := ⟨_, rfl⟩
  obtain ⟨M, hM⟩ : ∃ M, 32766 + r = M := ⟨_, rfl⟩
  have e1 : (n : Int).tmod 5 = (r : Int) := by rw [Int.tmod_eq_emod_of_nonneg (by omega)]; omega
  have e3 : (n : Int) % 5 = (r : Int) := by omega
  have e4 : (32766 : Int) + (r : Int) = (M : Int) := by omega
  have hMb : 32766 ≤ M ∧ M ≤ 32770 := by omega
  have HMB := Lib.hid hMb
  have m1 : (M : Int) ≤ 32770 := by omega
  unfold Knows at CK ⊢
  clear hr hM hMb
  go_enter Tryd.func4, Tryd.ntmps4
  go_wp2_with fail
  refine CK.mono ?_
  rintro e w1 ⟨rfl, hb1⟩
  have HM0 := Lib.hid (show w1.cell? ⟨0, 0, none⟩ = some (.int .i64 m) from (hb1.cell (p := ⟨0, 0, none⟩) h0).trans hm)
  have hmk := make_bytes M (by have := HMB.out; omega) w1
  have hal := heap_alloc_new w1 (.cells (bytesV (List.replicate M 0)) 5)
  obtain ⟨q, hq⟩ : ∃ q, w1.heap.size = q := ⟨_, rfl⟩
  obtain ⟨w2, hw2⟩ : ∃ w2, w1.alloc (.cells (bytesV (List.replicate M 0)) 5) = w2 := ⟨_, rfl⟩
  rw [hq, hw2] at hmk hal
  have HS2 : Hid (Spares nowhere w w2) := Lib.hid (by rw [← hw2]; exact (below_none hb1).alloc _)
  have HG2 : Hid (w2.heap[q]? = some (.cells (bytesV (List.replicate 0 35 ++ List.replicate (M - 0) 0)) 5 (0, 0))) := Lib.hid hal
  have HQ : Hid (w.heap.size ≤ q) := Lib.hid (by rw [← hq]; exact hb1.size)
  clear hb1 hal hq hw2 CK HM0
  have HM := Lib.hid hm
  clear hm
  go_wp2
  go_loopw [4] (fun i wr => ∃ k : Nat, k ≤ M ∧ i = .int .i64 k ∧ Hid (wr.heap[q]? = some (.cells (bytesV (List.replicate k 35 ++ List.replicate (M - k) 0)) 5 (0, 0))) ∧ Hid (Spares nowhere w wr)) (fun i _ => M - (intOf i).toNat)
  case atStart => exact ⟨0, by omega, rfl, HG2, HS2⟩
  clear HG2 HS2 hmk
  case round =>
    obtain ⟨k, hk, rfl, HG, HS⟩ := hrel
    by_cases hlt : k < M
    · have i1 : (k : Int) < (M : Int) := by omega
      have c0 : wr.cell? ⟨q, k, none⟩ = some (.int .u8 0) := by
        rw [Lib.cell_of_heap HG.out, bytesV_get _ _ (by rw [List.length_append, List.length_replicate, List.length_replicate]; omega), List.getD_eq_getElem?_getD, List.getElem?_append_right (by rw [List.length_replicate]; omega), List.getElem?_replicate, if_pos (by rw [List.length_replicate]; omega)]
        rfl
      have hfz : wr.frozen? ⟨q, k, none⟩ = false := heap_frozen HG.out k
      go_wp2
      go_roundw
      case rel =>
        refine ⟨k + 1, by omega, by go_num, Lib.hid ?_, Lib.hid (HS.out.setCell (p := ⟨q, k, none⟩) (.inr HQ.out) _)⟩
        refine (heap_set HG.out k _).trans ?_
        have hb := bytesV_set (List.replicate k 35) (List.replicate (M - (k + 1)) 0) 0 35
        rw [List.length_replicate] at hb
        rw [show M - k = (M - (k + 1)) + 1 by omega, List.replicate_succ, List.replicate_succ', List.append_assoc]
        exact congrArg (fun r => some (Obj.cells r 5 (0, 0))) hb
      case measure => simp [intOf]; omega
    · obtain rfl : k = M := by omega
      obtain ⟨L, hL⟩ : ∃ L : List UInt8, List.replicate k 35 = L := ⟨_, rfl⟩
      have hLl : L.length = k := by rw [← hL, List.length_replicate]
      have hg : wr.heap[q]? = some (.cells (bytesV L) 5 (0, 0)) := by
        have := HG.out
        rw [Nat.sub_self, List.replicate_zero, List.append_nil, hL] at this
        exact this
      have hcv := conv_bytes (bytesV_at hg) k
      rw [hLl] at hcv
      obtain ⟨S, hS⟩ : ∃ S : ByteArray, (⟨L.toArray⟩ : ByteArray) = S := ⟨_, rfl⟩
      have hSd : S.data.toList = List.replicate k 35 := by rw [← hS, hL]
      have hSz : S.size = k := by have := congrArg List.length hSd; simpa using this
      rw [hS] at hcv
      have hmr : wr.cell? ⟨0, 0, none⟩ = some (.int .i64 m) := (HS.out.cell (p := ⟨0, 0, none⟩) h0 (fun h => h)).trans HM.out
      have hkb := HMB.out
      have hkk : ¬ ((k : Int) < (k : Int)) := by omega
      by_cases hle : k ≤ 32768
      · have cP := hash_parse S k (by omega) hle hSd m wr hmr
        have d1 : decide ((k : Int) ≤ 32768) = true := by simp; omega
        have d2 : decide (k ≤ 32768) = true := by simpa using hle
        unfold ConfPost startC at cP
        clear hL hg hS hSd hkb hle hSz hLl
        go_wp2_with fail
        refine cP.mono ?_
        rintro e w3 ⟨⟨ra, rc, rfl⟩, hb3⟩
        have HB4 := Lib.hid (((HS.out.trans (below_none hb3)).alloc (.cells #[.slice ra 0 rc, .bool true, .string consoleB, .int .i64 100] 27)).below0)
        clear hb3 cP
        go_wp2
        go_ret
        exact ⟨rfl, HB4.out⟩
      · have cP := parse_great S wr (by omega) (by omega)
        have d1 : decide ((k : Int) ≤ 32768) = false := by simp; omega
        have d2 : decide (k ≤ 32768) = false := by simpa using hle
        unfold ConfPost zeroConf at cP
        clear hL hg hS hSd hkb hle hSz hLl
        go_wp2_with fail
        refine cP.mono ?_
        rintro e w3 ⟨rfl, hb3⟩
        have HB4 := Lib.hid (((HS.out.trans (below_none hb3)).alloc (.cells #[.slice none 0 0, .bool false, .string ⟨#[]⟩, .int .i64 0] 27)).below0)
        clear hb3 cP
        go_wp2
        go_ret
        exact ⟨rfl, HB4.out⟩
end Go.Proofs.YtjdiaighfhljgaaDoor
