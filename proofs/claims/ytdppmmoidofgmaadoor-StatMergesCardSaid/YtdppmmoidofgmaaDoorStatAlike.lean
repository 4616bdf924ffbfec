/-
  The law's comparison of two counters that are alike.
-/
import Derived.Test.YtdppmmoidofgmaaDoorStatKnown
import Derived.Test.YtdppmmoidofgmaaDoorStatRefText
import Derived.Test.YtdppmmoidofgmaaDoorStatRefQ
import Derived.Test.YtdppmmoidofgmaaDoorKin
namespace Go.Proofs.YtdppmmoidofgmaaDoor
open Go.RowKit

theorem cell_lt {w : World} {a : Addr} {v : Value} (h : w.cell? a = some v) : a.block < w.heap.size := by
  rcases Nat.lt_or_ge a.block w.heap.size with h1 | h1
  · exact h1
  · simp [World.cell?, Array.getElem?_eq_none h1] at h
set_option maxRecDepth 100000 in
set_option maxHeartbeats 8000000 in
theorem alike_any (p q : Nat) (L : Cs) (M : Int) (w : World) (h : IsStat p L w) (hr : IsRef q L w) (hf : Fair L M) (hM : 3200 * M ≤ 4000000000000000000) (ht : TabW w) :
    Calls Tryd.prog 10 #[.pointer (some ⟨p, 0, none⟩), .pointer (some ⟨q, 0, none⟩)] w fun e w' => e = .returned (.bool true) ∧ Below w.heap.size w w' := by
  have hl := hf.len
  have HK : Hid (∀ x, Below w.heap.size w x → IsStat p L x ∧ IsRef q L x ∧ TabW x) := Lib.hid (fun x hx => ⟨h.below hx, hr.below hx, ht.below hx⟩)
  have HF := Lib.hid hf
  have hM0 : M ≤ 9223372036854775807 := by have := hf.pos 0; omega
  have hM1 : 32 * M ≤ 4000000000000000000 := by have := hf.pos 0; omega
  have c0 := Below.refl w.heap.size w
  have HC0 := Lib.hid c0
  clear h hr hf ht c0
  go_enter Tryd.func10, Tryd.ntmps10
  go_wp2
  go_loopw [5] (fun i wr => ∃ m : Int, -1 ≤ m ∧ m ≤ 7 ∧ i = .int .i64 m ∧ wr = w) (fun i _ => (7 - intOf i).toNat)
  case atStart => exact ⟨-1, by omega, by omega, rfl, rfl⟩
  case round =>
    obtain ⟨m, hm0, hm1, rfl, rfl⟩ := hrel
    by_cases h7 : m = 7
    · subst h7
      go_wp2
      go_loopw [7] (fun i wx => ∃ m : Int, -1 ≤ m ∧ m ≤ 8 ∧ i = .int .i64 m ∧ wx = wr) (fun i _ => (8 - intOf i).toNat)
      case atStart => exact ⟨-1, by omega, by omega, rfl, rfl⟩
      case round =>
        obtain ⟨m, hm0, hm1, rfl, rfl⟩ := hrel
        by_cases h8 : m = 8
        · subst h8
          go_wp2_with fail
          refine (sizes_any p L _ (HK.out _ HC0.out).1 hl).mono ?_
          rintro e w2 ⟨rfl, rfl⟩
          obtain ⟨z0, hz0⟩ : ∃ z0, wr.heap.size = z0 := ⟨_, rfl⟩
          have hv0 : Below wr.heap.size wr (wr.alloc (.cells (sizesA L 32) 2)) := ((Spares.refl nowhere wr).alloc _).below0
          have hsz : ∀ k, k < 32 → (wr.alloc (.cells (sizesA L 32) 2)).cell? ⟨z0, k, none⟩ = some (.int .i64 (gI L (12 + k))) := fun k hk => by
            rw [← hz0, Lib.cell_of_heap (heap_alloc_new wr _), Array.getElem?_eq_getElem (by rw [sizesA_size]; exact hk), sizesA_get, if_pos hk]
          obtain ⟨v, hv⟩ : ∃ v, wr.alloc (.cells (sizesA L 32) 2) = v := ⟨_, rfl⟩
          rw [hv] at hv0 hsz ⊢
          rw [hz0] at hv0 ⊢
          clear hv
          have HV0 : Hid (∀ x, Below v.heap.size v x → Below z0 wr x) := Lib.hid (fun x hx => hv0.trans (hx.mono (by have := hv0.size; omega)))
          have HSZ := Lib.hid hsz
          have HKV : Hid (∀ x, Below v.heap.size v x → IsStat p L x ∧ IsRef q L x ∧ TabW x) := Lib.hid (fun x hx => HK.out x (by rw [hz0]; exact HV0.out x hx))
          clear hsz hv0
          have CB : Hid (∀ x : Kin v, Calls Tryd.prog 18 #[.pointer (some ⟨p, 0, none⟩)] x.wd fun e w'' => e = .returned (.int .i64 (gI L 44)) ∧ ∃ y : Kin v, w'' = y.wd) := Lib.hid (fun x => Kin.calls ((bytes_any p L x.wd (HKV.out _ x.below).1 hl).mono fun e w'' ⟨he, hw⟩ => ⟨he, by rw [hw]; exact Below.refl _ _⟩))
          have CT : Hid (∀ x : Kin v, Calls Tryd.prog 19 #[.pointer (some ⟨p, 0, none⟩)] x.wd fun e w'' => e = .returned (.string ⟨(textL L).toArray⟩) ∧ ∃ y : Kin v, w'' = y.wd) := Lib.hid (fun x => Kin.calls (text_any p L M x.wd (HKV.out _ x.below).1 HF.out hM0 (HKV.out _ x.below).2.2))
          have CR : Hid (∀ x : Kin v, Calls Tryd.prog 23 #[.pointer (some ⟨q, 0, none⟩)] x.wd fun e w'' => e = .returned (.string ⟨(textL L).toArray⟩) ∧ ∃ y : Kin v, w'' = y.wd) := Lib.hid (fun x => Kin.calls (refText_any q L M x.wd (HKV.out _ x.below).2.1 HF.out hM0))
          obtain ⟨T, hT⟩ : ∃ T : ByteArray, (⟨(textL L).toArray⟩ : ByteArray) = T := ⟨_, rfl⟩
          rw [hT] at CT CR
          clear hT
          have hTT : (T.toList == T.toList) = true := beq_self_eq_true _
          have hck : ∀ x : Kin v, x.wd.cell? ⟨q, 44, none⟩ = some (.int .i64 (gI L 44)) := fun x => (HKV.out _ x.below).2.1.cell (by omega)
          go_wp2
          refine wp_region_kin (by kernel_rfl) (by kernel_rfl) ?_
          repeat (go_big_quiet_step (first | (go_at_call 18; with_reducible exact CB.out _) | (go_at_call 19; with_reducible exact CT.out _) | (go_at_call 23; with_reducible exact CR.out _)))
          refine wpQuiet_nil ?_
          intro _ hx
          obtain ⟨y, rfl⟩ := hx
          have HY := Lib.hid y.below
          clear hck hTT
          go_wp2
          go_loopw [10] (fun i wx => ∃ k : Nat, k ≤ 32 ∧ i = .int .i64 k ∧ Below v.heap.size v wx) (fun i _ => 32 - (intOf i).toNat)
          case atStart => exact ⟨0, by omega, rfl, HY.out⟩
          case round =>
            obtain ⟨k, hk, rfl, hbx⟩ := hrel
            have HBX := Lib.hid hbx
            clear hbx
            by_cases hlt : k < 32
            · have d1 := (HBX.out.cell (p := ⟨z0, k, none⟩) (cell_lt (HSZ.out k hlt))).trans (HSZ.out k hlt)
              have d2 := (HKV.out _ HBX.out).2.1.cell (k := 12 + k) (by omega)
              go_wp2
              go_region
              go_wp2
              go_roundw
              case rel => exact ⟨k + 1, by omega, by go_num, HBX.out.drew⟩
              case measure => simp [intOf]; omega
            · have hk32 : ¬ ((k : Int) < 32) := by omega
              go_wp2
              go_loopw [11] (fun i wx => ∃ m : Int, -10 ≤ m ∧ m ≤ 120 ∧ i = .int .i64 m ∧ Below v.heap.size v wx) (fun i _ => (120 - intOf i).toNat)
              case atStart => exact ⟨-10, by omega, by omega, rfl, HBX.out⟩
              case round =>
                obtain ⟨m, hm0, hm1, rfl, hbz⟩ := hrel
                have HBZ := Lib.hid hbz
                clear hbz
                by_cases hle : m ≤ 110
                · go_wp2_with fail
                  refine (quantile_any p L m M _ (HKV.out _ HBZ.out).1 HF.out hM1).mono ?_
                  rintro e w5 ⟨rfl, hb5⟩
                  have HB5 := Lib.hid (HBZ.out.trans (hb5.mono HBZ.out.size))
                  clear hb5
                  go_wp2_with fail
                  refine (refQuantile_any q L m M _ (HKV.out _ HB5.out).2.1 HF.out hM).mono ?_
                  rintro e w6 ⟨rfl, rfl⟩
                  go_wp2
                  go_roundw
                  case rel => exact ⟨m + 10, by omega, by omega, by go_num, HB5.out⟩
                  case measure => simp [intOf]; omega
                · go_wp2
                  go_ret
                  exact ⟨rfl, HV0.out _ HBZ.out⟩
        · rcases (show m < 1 ∨ (1 ≤ m ∧ m < 6) ∨ 6 ≤ m by omega) with hlt | ⟨ha, hb⟩ | hge
          · have HO : Hid (classF L m = 0) := Lib.hid (if_neg (by omega))
            go_wp2_with fail
            refine (class_any p L _ _ (HK.out _ HC0.out).1 hl).mono ?_
            rintro e w2 ⟨rfl, rfl⟩
            rw [HO.out]
            go_wp2
            go_roundw
            case rel => exact ⟨m + 1, by omega, by omega, by go_num, trivial⟩
            case measure => simp [intOf]; omega
          · obtain ⟨k, rfl⟩ : ∃ k : Nat, m = (k : Int) := ⟨m.toNat, by omega⟩
            have HO : Hid (classF L (k : Int) = gI L (6 + k)) := Lib.hid ((if_pos (by omega)).trans (by simp))
            have hc := (HK.out _ HC0.out).2.1.cell (k := 6 + k) (by omega)
            go_wp2_with fail
            refine (class_any p L _ _ (HK.out _ HC0.out).1 hl).mono ?_
            rintro e w2 ⟨rfl, rfl⟩
            rw [HO.out]
            go_wp2
            go_roundw
            case rel => exact ⟨(k : Int) + 1, by omega, by omega, by go_num, trivial⟩
            case measure => simp [intOf]; omega
          · have HO : Hid (classF L m = 0) := Lib.hid (if_neg (by omega))
            go_wp2_with fail
            refine (class_any p L _ _ (HK.out _ HC0.out).1 hl).mono ?_
            rintro e w2 ⟨rfl, rfl⟩
            rw [HO.out]
            go_wp2
            go_roundw
            case rel => exact ⟨m + 1, by omega, by omega, by go_num, trivial⟩
            case measure => simp [intOf]; omega
    · rcases (show m < 0 ∨ (0 ≤ m ∧ m < 6) ∨ 6 ≤ m by omega) with hlt | ⟨ha, hb⟩ | hge
      · have HO : Hid (ofF L m = 0) := Lib.hid (if_neg (by omega))
        go_wp2_with fail
        refine (of_any p L _ _ (HK.out _ HC0.out).1 hl).mono ?_
        rintro e w2 ⟨rfl, rfl⟩
        rw [HO.out]
        go_wp2
        go_roundw
        case rel => exact ⟨m + 1, by omega, by omega, by go_num, trivial⟩
        case measure => simp [intOf]; omega
      · obtain ⟨k, rfl⟩ : ∃ k : Nat, m = (k : Int) := ⟨m.toNat, by omega⟩
        have HO : Hid (ofF L (k : Int) = gI L k) := Lib.hid (ofF_at L k (by omega))
        have hc := (HK.out _ HC0.out).2.1.cell (k := k) (by omega)
        go_wp2_with fail
        refine (of_any p L _ _ (HK.out _ HC0.out).1 hl).mono ?_
        rintro e w2 ⟨rfl, rfl⟩
        rw [HO.out]
        go_wp2
        go_roundw
        case rel => exact ⟨(k : Int) + 1, by omega, by omega, by go_num, trivial⟩
        case measure => simp [intOf]; omega
      · have HO : Hid (ofF L m = 0) := Lib.hid (if_neg (by omega))
        go_wp2_with fail
        refine (of_any p L _ _ (HK.out _ HC0.out).1 hl).mono ?_
        rintro e w2 ⟨rfl, rfl⟩
        rw [HO.out]
        go_wp2
        go_roundw
        case rel => exact ⟨m + 1, by omega, by omega, by go_num, trivial⟩
        case measure => simp [intOf]; omega
end Go.Proofs.YtdppmmoidofgmaaDoor
