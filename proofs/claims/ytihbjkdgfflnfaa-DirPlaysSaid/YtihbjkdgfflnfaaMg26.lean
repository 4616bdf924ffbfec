/-
  Any script of a directory's calls.
-/
import Derived.Deep.LoopGhost
import Derived.Deep.CutBlock
import Derived.Deep.DeepCutAuto
import Derived.Test.YtihbjkdgfflnfaaMg20
import Derived.Test.YtihbjkdgfflnfaaMg23
namespace Go.Proofs.Ytihbjkdgfflnfaa
open Go.RowKit
set_option maxRecDepth 100000 in
set_option maxHeartbeats 16000000 in
theorem dirPlays_any (bu sl : Int) (hbu : -9223372036854775808 ≤ bu ∧ bu ≤ 9223372036854775807) (hsl : -9223372036854775808 ≤ sl ∧ sl ≤ 9223372036854775807) (a : Option Addr) (l : List Ac) (c : Nat) (w : World) (hat : ActsAt w a l) (hmax : l.length ≤ 9223372036854775807) :
    Calls Try.prog 3 #[.int .i64 bu, .int .i64 sl, .slice a l.length c] w fun e w' => e = .returned (.bool true) ∧ Spares nowhere w w' := by
  have HAT := Lib.hid hat
  obtain ⟨L, hL⟩ : ∃ L, l.length = L := ⟨_, rfl⟩
  rw [hL] at hmax ⊢
  have HL := Lib.hid hL
  clear hat hL
  by_cases h60 : (60 : Int) < (L : Int)
  · have d60 : decide ((L : Int) ≤ 60) = false := decide_eq_false (by omega)
    have e60 : ¬ (L : Int) ≤ 60 := by omega
    go_enter Try.func3, Try.ntmps3
    go_wp2_with fail
    refine (known_any w).mono ?_
    rintro e v0 ⟨rfl, hs0⟩
    go_wp2
    go_ret
    exact ⟨rfl, hs0⟩
  have d60 : decide ((L : Int) ≤ 60) = true := decide_eq_true (by omega)
  have e60 : (L : Int) ≤ 60 := by omega
  go_enter Try.func3, Try.ntmps3
  go_wp2_with fail
  refine (known_any w).mono ?_
  rintro e v0 ⟨rfl, hs0⟩
  go_wp2_with fail
  refine (light_any _ L c v0).mono ?_
  rintro e v1 ⟨rfl, hv1⟩
  subst hv1
  rw [d60]
  go_wp2_with fail
  refine (place_any bu 9 v0 (by omega) (by omega) hbu).mono ?_
  rintro e v1 ⟨⟨m1, hm1, rfl⟩, hv1⟩
  subst hv1
  have w1 : IntKind.i64.wrap ((m1 : Int) - 1) = (m1 : Int) - 1 := by rw [IntKind.wrap_i64]; omega
  go_wp2_with fail
  refine (place_any sl 7 v0 (by omega) (by omega) hsl).mono ?_
  rintro e v1 ⟨⟨m2, hm2, rfl⟩, hv1⟩
  subst hv1
  have w2 : IntKind.i64.wrap ((m2 : Int) - 1) = (m2 : Int) - 1 := by rw [IntKind.wrap_i64]; omega
  obtain ⟨n, hn⟩ : ∃ n : Nat, min (max ((m1 : Int) - 1) 1) 4096 = (n : Int) := ⟨(min (max ((m1 : Int) - 1) 1) 4096).toNat, by omega⟩
  obtain ⟨s, hs⟩ : ∃ s : Nat, min (max ((m2 : Int) - 1) 1) 16 = (s : Int) := ⟨(min (max ((m2 : Int) - 1) 1) 16).toNat, by omega⟩
  have CN : Hid (∀ W, Calls Try.prog 12 #[.int .i64 ((m1 : Int) - 1), .int .i64 ((m2 : Int) - 1)] W (NewPost n s W)) := Lib.hid (fun W => new_any _ _ n s W hn hs)
  have CRN : Hid (∀ W, Calls Try.prog 13 #[.int .i64 ((m1 : Int) - 1), .int .i64 ((m2 : Int) - 1)] W (RefNewPost n s W)) := Lib.hid (fun W => refNew_any _ _ n s W hn hs)
  have hn8 : n ≤ 8 := by omega
  have HN8 := Lib.hid hn8
  clear hn hs hn8
  go_wp2_with fail
  refine (CN.out v0).mono ?_
  rintro e x1 ⟨F, p, bk, R, rfl, hD, hs1, hF, hF2⟩
  go_wp2_with fail
  refine (CRN.out x1).mono ?_
  rintro e x2 ⟨F', p', bk', R', rfl, hR, hs2, hG, hG2⟩
  have hB0 : Both n s w p p' (List.replicate n []) (List.replicate n []) x2 := both_new hD (hs0.trans hs1) (fun b h => by have := hF b h; have := hs0.size; omega) hF2 hR hs2 hG hG2
  have HBD0 := Lib.hid hB0.bounds.2.2
  have HB0 := Lib.hid hB0.x
  have HG0 := Lib.hid (Good.new n)
  clear hD hs0 hs1 hF hF2 hR hs2 hG hG2 hB0 CN CRN
  go_wp2
  go_loopg [7, 9] L (fun g r7 i wr => ∃ (q p : Nat) (E : List (List Ent)), q ≤ L ∧ g = L - q ∧ i = .int .i64 q ∧ r7 = .pointer (some ⟨p, 0, none⟩) ∧ Hid (BothX [] n s w p p' E E wr) ∧ Hid (Good E))
  case atStart => exact ⟨0, p, _, by omega, rfl, rfl, rfl, HB0, HG0⟩
  case round =>
    obtain ⟨q, p, E, hq, rfl, rfl, rfl, HB, HG⟩ := hrel
    by_cases hlt : q < L
    · obtain ⟨hin, tb, tt, rfl, hc⟩ := HAT.out q (by rw [HL.out]; exact hlt)
      obtain ⟨y, hy⟩ : ∃ y, l[q]'(by rw [HL.out]; exact hlt) = y := ⟨_, rfl⟩
      rw [hy] at hc hin
      obtain ⟨wh, k, x2, x3, x4, x5, own⟩ := y
      simp only [acCells, acIn] at hc hin
      obtain ⟨hk, h2, h3, h4, h5⟩ := hin
      have HS0 := HB.out.both.sp
      have cc : ∀ j u, [Value.int .i64 wh, .int .u16 k, .int .u32 x2, .int .u32 x3, .int .u16 x4, .int .u64 x5, .bool own][j]? = some u → wr.cell? ⟨tb, tt + q * 7 + j, none⟩ = some u := fun j u hj => (HS0.cell (p := ⟨tb, tt + q * 7 + j, none⟩) (cellB_lt (hc j u hj)) (fun h => h)).trans (hc j u hj)
      have c0 := cc 0 _ rfl
      have c1 := cc 1 _ rfl
      have c2 := cc 2 _ rfl
      have c3 := cc 3 _ rfl
      have c4 := cc 4 _ rfl
      have c5 := cc 5 _ rfl
      have c6 := cc 6 _ rfl
      clear cc hc hy HS0
      rw [Nat.add_zero] at c0
      have hqL : (q : Int) < (L : Int) := by omega
      have wq : IntKind.i64.wrap ((q : Int) + 1) = (q : Int) + 1 := by rw [IntKind.wrap_i64]; omega
      go_wp2_with fail
      refine (key_any k _ hk).mono ?_
      rintro e w3 ⟨rfl, hs3⟩
      obtain ⟨K, hK⟩ : ∃ K, keyF k = K := ⟨_, rfl⟩
      have hKL : K.length = 32 := by rw [← hK]; exact keyF_len k
      rw [hK]
      have HKL := Lib.hid hKL
      have HIK := Lib.hid (keyInfo K hKL)
      have HTH := Lib.hid (k32Z_there w3 K hKL)
      obtain ⟨xo, hxo⟩ : ∃ xo : Obj, .cells #[.int .i64 wh, .int .u16 k, .int .u32 x2, .int .u32 x3, .int .u16 x4, .int .u64 x5, .bool own] 34 (0, 0) = xo := ⟨_, rfl⟩
      have hsw : Spares nowhere wr w3 := ((Spares.refl nowhere wr).alloc _).trans hs3
      have hbx : w3.heap[wr.heap.size]? = some xo := by rw [← hxo]; exact hs3.heap (heap_alloc_new wr _) (fun h => h)
      have hB1 := HB.out.box hsw (Nat.le_refl _) hbx
      have hB2 := hB1.box (k32Z_spares w3 K) (Nat.le_refl _) (k32Z_heap w3 K hKL)
      obtain ⟨V, hV⟩ : ∃ V, (k32Z w3).setCells w3.heap.size 0 (bytesV K).toList = V := ⟨_, rfl⟩
      rw [hV] at hB2
      obtain ⟨bx, hbxn⟩ : ∃ bx, wr.heap.size = bx := ⟨_, rfl⟩
      obtain ⟨kb, hkbn⟩ : ∃ kb, w3.heap.size = kb := ⟨_, rfl⟩
      rw [hbxn, hkbn] at hB2
      obtain ⟨Q, hQ⟩ : ∃ Q : List (Nat × Obj), [(kb, .cells (bytesV K) 36 (0, 0)), (bx, xo)] = Q := ⟨_, rfl⟩
      rw [hQ] at hB2
      have HC : Hid (∀ p E1 E2 V, Hid (BothX Q n s w p p' E1 E2 V) → V.rangeAt kb 0 (Lib.byteCells K) ∧ V.cell? ⟨bx, 0, none⟩ = some (.int .i64 wh) ∧ V.cell? ⟨bx, 2, none⟩ = some (.int .u32 x2) ∧ V.cell? ⟨bx, 3, none⟩ = some (.int .u32 x3) ∧ V.cell? ⟨bx, 4, none⟩ = some (.int .u16 x4) ∧ V.cell? ⟨bx, 5, none⟩ = some (.int .u64 x5) ∧ V.cell? ⟨bx, 6, none⟩ = some (.bool own)) := Lib.hid (by
        intro p E1 E2 V h
        have h1 := h.out.held (b := kb) (by rw [← hQ]; exact List.mem_cons_self)
        have h2 := h.out.held (b := bx) (o := xo) (by rw [← hQ]; exact List.mem_cons_of_mem _ List.mem_cons_self)
        rw [← hxo] at h2
        refine ⟨keyBlk h1, ?_, ?_, ?_, ?_, ?_, ?_⟩ <;> (rw [Lib.cell_of_heap h2]; rfl))
      have HC2 : Hid (∀ p E1 E2 V, Hid (BothX Q n s w p p' E1 E2 V) → V.rangeAt kb 0 (Lib.byteCells K) ∧ V.cell? ⟨bx, 2, none⟩ = some (.int .u32 x2) ∧ V.cell? ⟨bx, 3, none⟩ = some (.int .u32 x3) ∧ V.cell? ⟨bx, 4, none⟩ = some (.int .u16 x4) ∧ V.cell? ⟨bx, 5, none⟩ = some (.int .u64 x5)) := Lib.hid (fun p E1 E2 V h => by
        obtain ⟨y0, _, y2, y3, y4, y5, _⟩ := HC.out p E1 E2 V h
        exact ⟨y0, y2, y3, y4, y5⟩)
      have HB2 := Lib.hid hB2
      have HV := Lib.hid hV
      have HKB := Lib.hid hkbn
      have HBX := Lib.hid hbxn
      have HDRP : Hid (∀ p E1 E2 V, Hid (BothX Q n s w p p' E1 E2 V) → Hid (BothX [] n s w p p' E1 E2 V)) := Lib.hid (fun p E1 E2 V h => Lib.hid (h.out.drop (fun x hx => by cases hx)))
      clear hs3 hsw hbx hB1 hB2 hQ hxo c0 c1 c2 c3 c4 c5 c6 hV hkbn hbxn HB
      go_upto_region 12 with ((with_reducible show wpList _ _ _ (⟨none, .store 36 _ _, _, _, _, _⟩ :: _) _ _); refine wpList_store_mid rfl 36 (.tmp 11) (.tmp 45) rfl w3.heap.size 0 (bytesV K) rfl rfl HTH.out HIK.out (bytesV_one _) ?_)
      change Code.wp _ _ _ _ ((k32Z w3).setCells w3.heap.size 0 (bytesV K).toList)
      rw [HV.out, HKB.out, HBX.out]
      simp only [Act.put]
      obtain ⟨hkr, d0, d2, d3, d4, d5, d6⟩ := HC.out _ _ _ _ HB2
      have HKR := Lib.hid hkr
      clear hkr HTH HV
      go_wp2_with ((with_reducible show wpList _ _ _ (⟨some 49, _, _, _, _, _⟩ :: _) _ _); refine wpList_load_mid rfl 36 (.tmp 11) rfl kb 0 rfl (Lib.byteCells K) _ HKR.out Try.underlying36 rfl HIK.out ?_)
      refine (heldX_probe_r HB2.out K HKL.out).mono ?_
      rintro e w6 ⟨ag, cg, rfl, HT6, hs6, HB6⟩
      clear hs6 d0 d2 d3 d4 d5 d6 HKR
      obtain ⟨hkr, d0, d2, d3, d4, d5, d6⟩ := HC.out _ _ _ _ HB6
      obtain ⟨P, hP⟩ : ∃ P, probeF (tagF K) (atRow E (bktF K n)) = P := ⟨_, rfl⟩
      rw [hP] at HT6
      have hPA : ∀ e ∈ P, e.at_ < 4294967296 := fun e he => (HG.out.row _ e (probeF_mem _ _ e (by rw [hP]; exact he))).2.1
      have HPA := Lib.hid hPA
      rw [hP]
      have hP16 : P.length ≤ 16 := by
        rw [← hP]
        exact Nat.le_trans (probeF_len _ _) (Nat.le_trans (atRow_len (HB6.out.both.bounds.1) _) (by have := HBD0.out; omega))
      obtain ⟨pl, hpl⟩ : ∃ pl, P.length = pl := ⟨_, rfl⟩
      rw [hpl] at hP16 ⊢
      have HPL := Lib.hid hpl
      clear hP hPA hpl
      go_upto_region 14 with (fail)
      go_cut [57] (fun v wx => v = .bool (own && decide (0 < pl)) ∧ wx = w6)
      case first =>
        cases own with
        | false => go_wp2_with fail; go_meet; exact ⟨rfl, rfl⟩
        | true =>
          go_wp2_with fail; go_meet; exact ⟨by simp, rfl⟩
      case rest =>
        obtain ⟨rfl, rfl⟩ := hcut
        go_upto_if 57 with (fail)
        go_cut [12] (fun v wx => (∃ A : Nat, v = .int .u32 A ∧ A < 4294967296) ∧ wx = wc)
        case first =>
          cases hg : (own && decide (0 < pl)) with
          | false => go_wp2_with fail; go_meet; exact ⟨⟨x2, rfl, h2⟩, rfl⟩
          | true =>
            have hp0 : 0 < pl := of_decide_eq_true ((Bool.and_eq_true _ _).mp hg).2
            obtain ⟨m, hm⟩ : ∃ m, x2 % pl = m := ⟨_, rfl⟩
            have hml : m < pl := by rw [← hm]; exact Nat.mod_lt _ hp0
            have hmP : m < P.length := by rw [HPL.out]; exact hml
            obtain ⟨gb, go, rfl, hcells⟩ := HT6.out wc (Spares.refl _ _) m hmP
            have hA := HPA.out _ (List.getElem_mem hmP)
            obtain ⟨A, hAe⟩ : ∃ A, P[m].at_ = A := ⟨_, rfl⟩
            have hcl : wc.cell? ⟨gb, go + m * 4 + 1, none⟩ = some (.int .u32 A) := by rw [← hAe]; exact hcells 1 (by omega)
            rw [hAe] at hA
            have y1 : IntKind.i64.wrap (x2 : Int) = (x2 : Int) := by rw [IntKind.wrap_i64]; omega
            have y2 : (x2 : Int).tmod (pl : Int) = (m : Int) := by rw [← hm]; exact (Int.ofNat_tmod _ _).symm
            have y2' : (x2 : Int) % (pl : Int) = (m : Int) := by rw [← hm]; exact (Int.natCast_emod _ _).symm
            have y3 : IntKind.i64.wrap (m : Int) = (m : Int) := by rw [IntKind.wrap_i64]; omega
            have y4 : (0 : Int) ≤ (m : Int) := by omega
            have y5 : (m : Int) < (pl : Int) := by omega
            have y6 : ¬ (pl : Int) = 0 := by omega
            have y7 : ((pl : Int) == 0) = false := by simp; omega
            clear hcells hAe hm hmP
            go_wp2_with fail
            go_meet
            exact ⟨⟨A, rfl, hA⟩, rfl⟩
        case rest =>
          obtain ⟨⟨A, rfl, hA⟩, rfl⟩ := hcut
          obtain ⟨wy, hwy⟩ : ∃ wy, wy = wc := ⟨_, rfl⟩
          subst hwy
          clear HT6 HPA HPL
          have HBD : Hid (BothX Q n s w p p' E E wy.drew) := Lib.hid (HB6.out.quiet (Spares.refl _ _).drew)
          go_upto_block 2 with (fail)
          go_cut [7] (fun v wx => ∃ p2 E2, v = .pointer (some ⟨p2, 0, none⟩) ∧ Hid (BothX Q n s w p2 p' E2 E2 wx) ∧ Hid (Good E2))
          case first =>
            by_cases hi : wh = 0 ∨ wh = 1 ∨ wh = 2 ∨ wh = 3
            · obtain ⟨E', hE'⟩ : ∃ E', insF s E (bktF K n) ⟨tagF K, x2, x4, x5⟩ = E' := ⟨_, rfl⟩
              obtain ⟨x0, hx0⟩ : ∃ x0, insE s (atRow E (bktF K n)) x4 x5 = x0 := ⟨_, rfl⟩
              have CI : Hid (∀ V, Hid (BothX Q n s w p p' E E V) → Calls Try.prog 16 #[.pointer (some ⟨p, 0, none⟩), .agg (bytesV K), .int .u32 x2, .int .u16 x4, .int .u64 x5] V fun e w' => e = .returned (.int .i64 x0) ∧ Hid (BothX Q n s w p p' E' E w')) := Lib.hid (fun V hV => by
                have := heldX_insert_d hV.out K HKL.out x2 x4 x5 h2 h4 h5
                rw [hE', hx0] at this
                exact this)
              have CR : Hid (∀ V, Hid (BothX Q n s w p p' E' E V) → Calls Try.prog 17 #[.pointer (some ⟨p', 0, none⟩), .agg (bytesV K), .int .u32 x2, .int .u16 x4, .int .u64 x5] V fun e w' => e = .returned (.int .i64 x0) ∧ Hid (BothX Q n s w p p' E' E' w')) := Lib.hid (fun V hV => by
                have := heldX_insert_r hV.out K HKL.out x2 x4 x5 h2 h4 h5
                rw [hE', hx0] at this
                exact this)
              have HGN : Hid (Good E') := Lib.hid (by rw [← hE']; exact HG.out.ins s _ (tagF_lt K) h2 h4)
              clear hE' hx0
              go_step
              go_step
              go_cut [70] (fun v wx => v = .bool true ∧ wx = wy)
              case first =>
                rcases hi with rfl | rfl | rfl | rfl
                all_goals (go_wp2_with fail; go_meet; exact ⟨rfl, rfl⟩)
              case rest =>
                obtain ⟨rfl, rfl⟩ := hcut
                go_upto_region 21 with (fail)
                -- GEN21
                refine wp_region_held_drew (S := fun V => V.rangeAt kb 0 (Lib.byteCells K) ∧ V.cell? ⟨bx, 2, none⟩ = some (.int .u32 x2) ∧ V.cell? ⟨bx, 3, none⟩ = some (.int .u32 x3) ∧ V.cell? ⟨bx, 4, none⟩ = some (.int .u16 x4) ∧ V.cell? ⟨bx, 5, none⟩ = some (.int .u64 x5)) (by kernel_rfl) (HC2.out _ _ _ _ HBD) (fun hS0 => ?_)
                refine wpAnyH_take (i := 0) (v := ?_) rfl (by kernel_rfl) (by kernel_rfl) (by kernel_rfl) (fun _ _ _ h => h) (Or.inl ⟨by rfl, ?_⟩) (by assumption) ?_
                rotate_left
                · intro w9 hS9
                  obtain ⟨_, z2, z3, z4, z5⟩ := hS9
                  go_simp
                  try with_reducible rfl
                simp only [List.getElem_toArray, List.getElem_cons_zero, Act.put, List.setIfInBounds_toArray, List.set_cons_succ, List.set_cons_zero]
                refine wpAnyH_take (i := 1) (v := .agg (bytesV K)) rfl (by kernel_rfl) (by kernel_rfl) (by kernel_rfl) (fun _ _ _ h => h) (yieldsIf_load_mid (by rfl) 36 (.tmp 11) rfl kb 0 rfl (Lib.byteCells K) _ (fun w9 hS9 => hS9.1) Try.underlying36 rfl HIK.out) (by assumption) ?_
                simp only [List.getElem_toArray, List.getElem_cons_succ, List.getElem_cons_zero, Act.put, List.setIfInBounds_toArray, List.set_cons_succ, List.set_cons_zero]
                refine wpAnyH_take (i := 2) (v := ?_) rfl (by kernel_rfl) (by kernel_rfl) (by kernel_rfl) (fun _ _ _ h => h) (Or.inl ⟨by rfl, ?_⟩) (by assumption) ?_
                rotate_left
                · intro w9 hS9
                  obtain ⟨_, z2, z3, z4, z5⟩ := hS9
                  go_simp
                  try with_reducible rfl
                simp only [List.getElem_toArray, List.getElem_cons_succ, List.getElem_cons_zero, Act.put, List.setIfInBounds_toArray, List.set_cons_succ, List.set_cons_zero]
                refine wpAnyH_take (i := 3) (v := ?_) rfl (by kernel_rfl) (by kernel_rfl) (by kernel_rfl) (fun _ _ _ h => h) (Or.inl ⟨by rfl, ?_⟩) (by assumption) ?_
                rotate_left
                · intro w9 hS9
                  obtain ⟨_, z2, z3, z4, z5⟩ := hS9
                  go_simp
                  try with_reducible rfl
                simp only [List.getElem_toArray, List.getElem_cons_succ, List.getElem_cons_zero, Act.put, List.setIfInBounds_toArray, List.set_cons_succ, List.set_cons_zero]
                refine wpAnyH_take (i := 4) (v := ?_) rfl (by kernel_rfl) (by kernel_rfl) (by kernel_rfl) (fun _ _ _ h => h) (Or.inl ⟨by rfl, ?_⟩) (by assumption) ?_
                rotate_left
                · intro w9 hS9
                  obtain ⟨_, z2, z3, z4, z5⟩ := hS9
                  go_simp
                  try with_reducible rfl
                simp only [List.getElem_toArray, List.getElem_cons_succ, List.getElem_cons_zero, Act.put, List.setIfInBounds_toArray, List.set_cons_succ, List.set_cons_zero]
                refine wpAnyH_take (i := 5) (v := ?_) rfl (by kernel_rfl) (by kernel_rfl) (by kernel_rfl) (fun _ _ _ h => h) (Or.inl ⟨by rfl, ?_⟩) (by assumption) ?_
                rotate_left
                · intro w9 hS9
                  obtain ⟨_, z2, z3, z4, z5⟩ := hS9
                  go_simp
                  try with_reducible rfl
                simp only [List.getElem_toArray, List.getElem_cons_succ, List.getElem_cons_zero, Act.put, List.setIfInBounds_toArray, List.set_cons_succ, List.set_cons_zero]
                refine wpAnyH_take (i := 6) (v := ?_) rfl (by kernel_rfl) (by kernel_rfl) (by kernel_rfl) (fun _ _ _ h => h) (Or.inl ⟨by rfl, ?_⟩) (by assumption) ?_
                rotate_left
                · intro w9 hS9
                  obtain ⟨_, z2, z3, z4, z5⟩ := hS9
                  go_simp
                  try with_reducible rfl
                simp only [List.getElem_toArray, List.getElem_cons_succ, List.getElem_cons_zero, Act.put, List.setIfInBounds_toArray, List.set_cons_succ, List.set_cons_zero]
                refine wpAnyH_take (i := 7) (v := ?_) rfl (by kernel_rfl) (by kernel_rfl) (by kernel_rfl) (fun _ _ _ h => h) (Or.inl ⟨by rfl, ?_⟩) (by assumption) ?_
                rotate_left
                · intro w9 hS9
                  obtain ⟨_, z2, z3, z4, z5⟩ := hS9
                  go_simp
                  try with_reducible rfl
                simp only [List.getElem_toArray, List.getElem_cons_succ, List.getElem_cons_zero, Act.put, List.setIfInBounds_toArray, List.set_cons_succ, List.set_cons_zero]
                refine wpAnyH_take (i := 9) (v := ?_) rfl (by kernel_rfl) (by kernel_rfl) (by kernel_rfl) (fun _ _ _ h => h) (Or.inl ⟨by rfl, ?_⟩) (by assumption) ?_
                rotate_left
                · intro w9 hS9
                  obtain ⟨_, z2, z3, z4, z5⟩ := hS9
                  go_simp
                  try with_reducible rfl
                simp only [List.getElem_toArray, List.getElem_cons_succ, List.getElem_cons_zero, Act.put, List.setIfInBounds_toArray, List.set_cons_succ, List.set_cons_zero]
                refine wpAnyH_take (i := 10) (v := .agg (bytesV K)) rfl (by kernel_rfl) (by kernel_rfl) (by kernel_rfl) (fun _ _ _ h => h) (yieldsIf_load_mid (by rfl) 36 (.tmp 11) rfl kb 0 rfl (Lib.byteCells K) _ (fun w9 hS9 => hS9.1) Try.underlying36 rfl HIK.out) (by assumption) ?_
                simp only [List.getElem_toArray, List.getElem_cons_succ, List.getElem_cons_zero, Act.put, List.setIfInBounds_toArray, List.set_cons_succ, List.set_cons_zero]
                refine wpAnyH_take (i := 11) (v := ?_) rfl (by kernel_rfl) (by kernel_rfl) (by kernel_rfl) (fun _ _ _ h => h) (Or.inl ⟨by rfl, ?_⟩) (by assumption) ?_
                rotate_left
                · intro w9 hS9
                  obtain ⟨_, z2, z3, z4, z5⟩ := hS9
                  go_simp
                  try with_reducible rfl
                simp only [List.getElem_toArray, List.getElem_cons_succ, List.getElem_cons_zero, Act.put, List.setIfInBounds_toArray, List.set_cons_succ, List.set_cons_zero]
                refine wpAnyH_take (i := 12) (v := ?_) rfl (by kernel_rfl) (by kernel_rfl) (by kernel_rfl) (fun _ _ _ h => h) (Or.inl ⟨by rfl, ?_⟩) (by assumption) ?_
                rotate_left
                · intro w9 hS9
                  obtain ⟨_, z2, z3, z4, z5⟩ := hS9
                  go_simp
                  try with_reducible rfl
                simp only [List.getElem_toArray, List.getElem_cons_succ, List.getElem_cons_zero, Act.put, List.setIfInBounds_toArray, List.set_cons_succ, List.set_cons_zero]
                refine wpAnyH_take (i := 13) (v := ?_) rfl (by kernel_rfl) (by kernel_rfl) (by kernel_rfl) (fun _ _ _ h => h) (Or.inl ⟨by rfl, ?_⟩) (by assumption) ?_
                rotate_left
                · intro w9 hS9
                  obtain ⟨_, z2, z3, z4, z5⟩ := hS9
                  go_simp
                  try with_reducible rfl
                simp only [List.getElem_toArray, List.getElem_cons_succ, List.getElem_cons_zero, Act.put, List.setIfInBounds_toArray, List.set_cons_succ, List.set_cons_zero]
                refine wpAnyH_take (i := 14) (v := ?_) rfl (by kernel_rfl) (by kernel_rfl) (by kernel_rfl) (fun _ _ _ h => h) (Or.inl ⟨by rfl, ?_⟩) (by assumption) ?_
                rotate_left
                · intro w9 hS9
                  obtain ⟨_, z2, z3, z4, z5⟩ := hS9
                  go_simp
                  try with_reducible rfl
                simp only [List.getElem_toArray, List.getElem_cons_succ, List.getElem_cons_zero, Act.put, List.setIfInBounds_toArray, List.set_cons_succ, List.set_cons_zero]
                refine wpAnyH_take (i := 15) (v := ?_) rfl (by kernel_rfl) (by kernel_rfl) (by kernel_rfl) (fun _ _ _ h => h) (Or.inl ⟨by rfl, ?_⟩) (by assumption) ?_
                rotate_left
                · intro w9 hS9
                  obtain ⟨_, z2, z3, z4, z5⟩ := hS9
                  go_simp
                  try with_reducible rfl
                simp only [List.getElem_toArray, List.getElem_cons_succ, List.getElem_cons_zero, Act.put, List.setIfInBounds_toArray, List.set_cons_succ, List.set_cons_zero]
                refine wpAnyH_take (i := 16) (v := ?_) rfl (by kernel_rfl) (by kernel_rfl) (by kernel_rfl) (fun _ _ _ h => h) (Or.inl ⟨by rfl, ?_⟩) (by assumption) ?_
                rotate_left
                · intro w9 hS9
                  obtain ⟨_, z2, z3, z4, z5⟩ := hS9
                  go_simp
                  try with_reducible rfl
                simp only [List.getElem_toArray, List.getElem_cons_succ, List.getElem_cons_zero, Act.put, List.setIfInBounds_toArray, List.set_cons_succ, List.set_cons_zero]
                refine wpAnyH_ready (rs := [8]) (by kernel_rfl) (by simp) ?_
                refine AllReadyH.cons rfl (fun K9 hK9 => ?_) ?_
                · go_simp
                  go_at_call 16
                  with_reducible refine Calls.mono (CI.out _ HBD) ?_
                  rintro e v1 ⟨rfl, hb1⟩
                  try go_simp
                  refine hK9.out _ _ ?_ (fun hS9 => ?_)
                  · exact HC2.out _ _ _ _ hb1
                  clear hK9 K9
                  refine wpAnyH_ready (rs := [17]) (by kernel_rfl) (by simp) ?_
                  refine AllReadyH.cons rfl (fun K9 hK9 => ?_) ?_
                  · go_simp
                    go_at_call 17
                    with_reducible refine Calls.mono (CR.out _ hb1) ?_
                    rintro e v2 ⟨rfl, hb2⟩
                    try go_simp
                    refine hK9.out _ _ ?_ (fun hS9 => ?_)
                    · exact HC2.out _ _ _ _ hb2
                    clear hK9 K9
                    refine wpAnyH_take (i := 18) (v := ?_) rfl (by kernel_rfl) (by kernel_rfl) (by kernel_rfl) (fun _ _ _ h => h) (Or.inl ⟨by rfl, ?_⟩) (by assumption) ?_
                    rotate_left
                    · intro w9 hS9
                      obtain ⟨_, z2, z3, z4, z5⟩ := hS9
                      go_simp
                      try with_reducible rfl
                    simp only [List.getElem_toArray, List.getElem_cons_succ, List.getElem_cons_zero, Act.put, List.setIfInBounds_toArray, List.set_cons_succ, List.set_cons_zero]
                    refine wpAnyH_done (by kernel_rfl) ?_ _
                    go_wp2
                    go_meet
                    exact ⟨p, E', rfl, hb2, HGN⟩
                  exact AllReadyH.nil
                exact AllReadyH.nil
                -- GEN21 END
            by_cases hi2 : wh = 4 ∨ wh = 5
            · obtain ⟨E', hE'⟩ : ∃ E', E.set (bktF K n) (delF (tagF K) A (atRow E (bktF K n))) = E' := ⟨_, rfl⟩
              obtain ⟨x0, hx0⟩ : ∃ x0, (hitF (tagF K) A (atRow E (bktF K n))).isSome = x0 := ⟨_, rfl⟩
              have CI : Hid (∀ V, Hid (BothX Q n s w p p' E E V) → Calls Try.prog 18 #[.pointer (some ⟨p, 0, none⟩), .agg (bytesV K), .int .u32 A] V fun e w' => e = .returned (.bool x0) ∧ Hid (BothX Q n s w p p' E' E w')) := Lib.hid (fun V hV => by
                have := heldX_delete_d hV.out K HKL.out A
                rw [hE', hx0] at this
                exact this)
              have CR : Hid (∀ V, Hid (BothX Q n s w p p' E' E V) → Calls Try.prog 19 #[.pointer (some ⟨p', 0, none⟩), .agg (bytesV K), .int .u32 A] V fun e w' => e = .returned (.bool x0) ∧ Hid (BothX Q n s w p p' E' E' w')) := Lib.hid (fun V hV => by
                have := heldX_delete_r hV.out K HKL.out A
                rw [hE', hx0] at this
                exact this)
              have HGN : Hid (Good E') := Lib.hid (by rw [← hE']; exact HG.out.del _ _ _)
              clear hE' hx0
              rcases hi2 with rfl | rfl
              all_goals go_upto_region 25 with (fail)
              all_goals
                -- GEN25
                refine wp_region_held_drew (S := fun V => V.rangeAt kb 0 (Lib.byteCells K) ∧ V.cell? ⟨bx, 2, none⟩ = some (.int .u32 x2) ∧ V.cell? ⟨bx, 3, none⟩ = some (.int .u32 x3) ∧ V.cell? ⟨bx, 4, none⟩ = some (.int .u16 x4) ∧ V.cell? ⟨bx, 5, none⟩ = some (.int .u64 x5)) (by kernel_rfl) (HC2.out _ _ _ _ HBD) (fun hS0 => ?_)
                refine wpAnyH_take (i := 0) (v := ?_) rfl (by kernel_rfl) (by kernel_rfl) (by kernel_rfl) (fun _ _ _ h => h) (Or.inl ⟨by rfl, ?_⟩) (by assumption) ?_
                rotate_left
                · intro w9 hS9
                  obtain ⟨_, z2, z3, z4, z5⟩ := hS9
                  go_simp
                  try with_reducible rfl
                simp only [List.getElem_toArray, List.getElem_cons_zero, Act.put, List.setIfInBounds_toArray, List.set_cons_succ, List.set_cons_zero]
                refine wpAnyH_take (i := 1) (v := .agg (bytesV K)) rfl (by kernel_rfl) (by kernel_rfl) (by kernel_rfl) (fun _ _ _ h => h) (yieldsIf_load_mid (by rfl) 36 (.tmp 11) rfl kb 0 rfl (Lib.byteCells K) _ (fun w9 hS9 => hS9.1) Try.underlying36 rfl HIK.out) (by assumption) ?_
                simp only [List.getElem_toArray, List.getElem_cons_succ, List.getElem_cons_zero, Act.put, List.setIfInBounds_toArray, List.set_cons_succ, List.set_cons_zero]
                refine wpAnyH_take (i := 2) (v := ?_) rfl (by kernel_rfl) (by kernel_rfl) (by kernel_rfl) (fun _ _ _ h => h) (Or.inl ⟨by rfl, ?_⟩) (by assumption) ?_
                rotate_left
                · intro w9 hS9
                  obtain ⟨_, z2, z3, z4, z5⟩ := hS9
                  go_simp
                  try with_reducible rfl
                simp only [List.getElem_toArray, List.getElem_cons_succ, List.getElem_cons_zero, Act.put, List.setIfInBounds_toArray, List.set_cons_succ, List.set_cons_zero]
                refine wpAnyH_take (i := 4) (v := ?_) rfl (by kernel_rfl) (by kernel_rfl) (by kernel_rfl) (fun _ _ _ h => h) (Or.inl ⟨by rfl, ?_⟩) (by assumption) ?_
                rotate_left
                · intro w9 hS9
                  obtain ⟨_, z2, z3, z4, z5⟩ := hS9
                  go_simp
                  try with_reducible rfl
                simp only [List.getElem_toArray, List.getElem_cons_succ, List.getElem_cons_zero, Act.put, List.setIfInBounds_toArray, List.set_cons_succ, List.set_cons_zero]
                refine wpAnyH_take (i := 5) (v := .agg (bytesV K)) rfl (by kernel_rfl) (by kernel_rfl) (by kernel_rfl) (fun _ _ _ h => h) (yieldsIf_load_mid (by rfl) 36 (.tmp 11) rfl kb 0 rfl (Lib.byteCells K) _ (fun w9 hS9 => hS9.1) Try.underlying36 rfl HIK.out) (by assumption) ?_
                simp only [List.getElem_toArray, List.getElem_cons_succ, List.getElem_cons_zero, Act.put, List.setIfInBounds_toArray, List.set_cons_succ, List.set_cons_zero]
                refine wpAnyH_take (i := 6) (v := ?_) rfl (by kernel_rfl) (by kernel_rfl) (by kernel_rfl) (fun _ _ _ h => h) (Or.inl ⟨by rfl, ?_⟩) (by assumption) ?_
                rotate_left
                · intro w9 hS9
                  obtain ⟨_, z2, z3, z4, z5⟩ := hS9
                  go_simp
                  try with_reducible rfl
                simp only [List.getElem_toArray, List.getElem_cons_succ, List.getElem_cons_zero, Act.put, List.setIfInBounds_toArray, List.set_cons_succ, List.set_cons_zero]
                refine wpAnyH_ready (rs := [3]) (by kernel_rfl) (by simp) ?_
                refine AllReadyH.cons rfl (fun K9 hK9 => ?_) ?_
                · go_simp
                  go_at_call 18
                  with_reducible refine Calls.mono (CI.out _ HBD) ?_
                  rintro e v1 ⟨rfl, hb1⟩
                  try go_simp
                  refine hK9.out _ _ ?_ (fun hS9 => ?_)
                  · exact HC2.out _ _ _ _ hb1
                  clear hK9 K9
                  refine wpAnyH_ready (rs := [7]) (by kernel_rfl) (by simp) ?_
                  refine AllReadyH.cons rfl (fun K9 hK9 => ?_) ?_
                  · go_simp
                    go_at_call 19
                    with_reducible refine Calls.mono (CR.out _ hb1) ?_
                    rintro e v2 ⟨rfl, hb2⟩
                    try go_simp
                    refine hK9.out _ _ ?_ (fun hS9 => ?_)
                    · exact HC2.out _ _ _ _ hb2
                    clear hK9 K9
                    refine wpAnyH_take (i := 8) (v := ?_) rfl (by kernel_rfl) (by kernel_rfl) (by kernel_rfl) (fun _ _ _ h => h) (Or.inl ⟨by rfl, ?_⟩) (by assumption) ?_
                    rotate_left
                    · intro w9 hS9
                      obtain ⟨_, z2, z3, z4, z5⟩ := hS9
                      go_simp
                      try with_reducible rfl
                    simp only [List.getElem_toArray, List.getElem_cons_succ, List.getElem_cons_zero, Act.put, List.setIfInBounds_toArray, List.set_cons_succ, List.set_cons_zero]
                    refine wpAnyH_done (by kernel_rfl) ?_ _
                    go_wp2
                    go_meet
                    exact ⟨p, E', rfl, hb2, HGN⟩
                  exact AllReadyH.nil
                exact AllReadyH.nil
                -- GEN25 END
            by_cases hi3 : wh = 6
            · obtain ⟨E', hE'⟩ : ∃ E', sweepF x2 x3 x5 E = E' := ⟨_, rfl⟩
              obtain ⟨x0, hx0⟩ : ∃ x0, goneN x2 x3 x5 E = x0 := ⟨_, rfl⟩
              have CI : Hid (∀ V, Hid (BothX Q n s w p p' E E V) → Calls Try.prog 20 #[.pointer (some ⟨p, 0, none⟩), .int .u32 x2, .int .u32 x3, .int .u64 x5] V fun e w' => e = .returned (.int .i64 x0) ∧ Hid (BothX Q n s w p p' E' E w')) := Lib.hid (fun V hV => by
                have := heldX_purge_d hV.out x2 x3 x5 h2
                rw [hE', hx0] at this
                exact this)
              have CR : Hid (∀ V, Hid (BothX Q n s w p p' E' E V) → Calls Try.prog 21 #[.pointer (some ⟨p', 0, none⟩), .int .u32 x2, .int .u32 x3, .int .u64 x5] V fun e w' => e = .returned (.int .i64 x0) ∧ Hid (BothX Q n s w p p' E' E' w')) := Lib.hid (fun V hV => by
                have := heldX_purge_r hV.out x2 x3 x5 h2 h3
                rw [hE', hx0] at this
                exact this)
              have HGN : Hid (Good E') := Lib.hid (by rw [← hE']; exact HG.out.sweep _ _ _)
              clear hE' hx0
              subst hi3
              go_upto_region 28 with (fail)
              -- GEN28
              refine wp_region_held_drew (S := fun V => V.rangeAt kb 0 (Lib.byteCells K) ∧ V.cell? ⟨bx, 2, none⟩ = some (.int .u32 x2) ∧ V.cell? ⟨bx, 3, none⟩ = some (.int .u32 x3) ∧ V.cell? ⟨bx, 4, none⟩ = some (.int .u16 x4) ∧ V.cell? ⟨bx, 5, none⟩ = some (.int .u64 x5)) (by kernel_rfl) (HC2.out _ _ _ _ HBD) (fun hS0 => ?_)
              refine wpAnyH_take (i := 0) (v := ?_) rfl (by kernel_rfl) (by kernel_rfl) (by kernel_rfl) (fun _ _ _ h => h) (Or.inl ⟨by rfl, ?_⟩) (by assumption) ?_
              rotate_left
              · intro w9 hS9
                obtain ⟨_, z2, z3, z4, z5⟩ := hS9
                go_simp
                try with_reducible rfl
              simp only [List.getElem_toArray, List.getElem_cons_zero, Act.put, List.setIfInBounds_toArray, List.set_cons_succ, List.set_cons_zero]
              refine wpAnyH_take (i := 1) (v := ?_) rfl (by kernel_rfl) (by kernel_rfl) (by kernel_rfl) (fun _ _ _ h => h) (Or.inl ⟨by rfl, ?_⟩) (by assumption) ?_
              rotate_left
              · intro w9 hS9
                obtain ⟨_, z2, z3, z4, z5⟩ := hS9
                go_simp
                try with_reducible rfl
              simp only [List.getElem_toArray, List.getElem_cons_succ, List.getElem_cons_zero, Act.put, List.setIfInBounds_toArray, List.set_cons_succ, List.set_cons_zero]
              refine wpAnyH_take (i := 2) (v := ?_) rfl (by kernel_rfl) (by kernel_rfl) (by kernel_rfl) (fun _ _ _ h => h) (Or.inl ⟨by rfl, ?_⟩) (by assumption) ?_
              rotate_left
              · intro w9 hS9
                obtain ⟨_, z2, z3, z4, z5⟩ := hS9
                go_simp
                try with_reducible rfl
              simp only [List.getElem_toArray, List.getElem_cons_succ, List.getElem_cons_zero, Act.put, List.setIfInBounds_toArray, List.set_cons_succ, List.set_cons_zero]
              refine wpAnyH_take (i := 3) (v := ?_) rfl (by kernel_rfl) (by kernel_rfl) (by kernel_rfl) (fun _ _ _ h => h) (Or.inl ⟨by rfl, ?_⟩) (by assumption) ?_
              rotate_left
              · intro w9 hS9
                obtain ⟨_, z2, z3, z4, z5⟩ := hS9
                go_simp
                try with_reducible rfl
              simp only [List.getElem_toArray, List.getElem_cons_succ, List.getElem_cons_zero, Act.put, List.setIfInBounds_toArray, List.set_cons_succ, List.set_cons_zero]
              refine wpAnyH_take (i := 4) (v := ?_) rfl (by kernel_rfl) (by kernel_rfl) (by kernel_rfl) (fun _ _ _ h => h) (Or.inl ⟨by rfl, ?_⟩) (by assumption) ?_
              rotate_left
              · intro w9 hS9
                obtain ⟨_, z2, z3, z4, z5⟩ := hS9
                go_simp
                try with_reducible rfl
              simp only [List.getElem_toArray, List.getElem_cons_succ, List.getElem_cons_zero, Act.put, List.setIfInBounds_toArray, List.set_cons_succ, List.set_cons_zero]
              refine wpAnyH_take (i := 5) (v := ?_) rfl (by kernel_rfl) (by kernel_rfl) (by kernel_rfl) (fun _ _ _ h => h) (Or.inl ⟨by rfl, ?_⟩) (by assumption) ?_
              rotate_left
              · intro w9 hS9
                obtain ⟨_, z2, z3, z4, z5⟩ := hS9
                go_simp
                try with_reducible rfl
              simp only [List.getElem_toArray, List.getElem_cons_succ, List.getElem_cons_zero, Act.put, List.setIfInBounds_toArray, List.set_cons_succ, List.set_cons_zero]
              refine wpAnyH_take (i := 6) (v := ?_) rfl (by kernel_rfl) (by kernel_rfl) (by kernel_rfl) (fun _ _ _ h => h) (Or.inl ⟨by rfl, ?_⟩) (by assumption) ?_
              rotate_left
              · intro w9 hS9
                obtain ⟨_, z2, z3, z4, z5⟩ := hS9
                go_simp
                try with_reducible rfl
              simp only [List.getElem_toArray, List.getElem_cons_succ, List.getElem_cons_zero, Act.put, List.setIfInBounds_toArray, List.set_cons_succ, List.set_cons_zero]
              refine wpAnyH_take (i := 8) (v := ?_) rfl (by kernel_rfl) (by kernel_rfl) (by kernel_rfl) (fun _ _ _ h => h) (Or.inl ⟨by rfl, ?_⟩) (by assumption) ?_
              rotate_left
              · intro w9 hS9
                obtain ⟨_, z2, z3, z4, z5⟩ := hS9
                go_simp
                try with_reducible rfl
              simp only [List.getElem_toArray, List.getElem_cons_succ, List.getElem_cons_zero, Act.put, List.setIfInBounds_toArray, List.set_cons_succ, List.set_cons_zero]
              refine wpAnyH_take (i := 9) (v := ?_) rfl (by kernel_rfl) (by kernel_rfl) (by kernel_rfl) (fun _ _ _ h => h) (Or.inl ⟨by rfl, ?_⟩) (by assumption) ?_
              rotate_left
              · intro w9 hS9
                obtain ⟨_, z2, z3, z4, z5⟩ := hS9
                go_simp
                try with_reducible rfl
              simp only [List.getElem_toArray, List.getElem_cons_succ, List.getElem_cons_zero, Act.put, List.setIfInBounds_toArray, List.set_cons_succ, List.set_cons_zero]
              refine wpAnyH_take (i := 10) (v := ?_) rfl (by kernel_rfl) (by kernel_rfl) (by kernel_rfl) (fun _ _ _ h => h) (Or.inl ⟨by rfl, ?_⟩) (by assumption) ?_
              rotate_left
              · intro w9 hS9
                obtain ⟨_, z2, z3, z4, z5⟩ := hS9
                go_simp
                try with_reducible rfl
              simp only [List.getElem_toArray, List.getElem_cons_succ, List.getElem_cons_zero, Act.put, List.setIfInBounds_toArray, List.set_cons_succ, List.set_cons_zero]
              refine wpAnyH_take (i := 11) (v := ?_) rfl (by kernel_rfl) (by kernel_rfl) (by kernel_rfl) (fun _ _ _ h => h) (Or.inl ⟨by rfl, ?_⟩) (by assumption) ?_
              rotate_left
              · intro w9 hS9
                obtain ⟨_, z2, z3, z4, z5⟩ := hS9
                go_simp
                try with_reducible rfl
              simp only [List.getElem_toArray, List.getElem_cons_succ, List.getElem_cons_zero, Act.put, List.setIfInBounds_toArray, List.set_cons_succ, List.set_cons_zero]
              refine wpAnyH_take (i := 12) (v := ?_) rfl (by kernel_rfl) (by kernel_rfl) (by kernel_rfl) (fun _ _ _ h => h) (Or.inl ⟨by rfl, ?_⟩) (by assumption) ?_
              rotate_left
              · intro w9 hS9
                obtain ⟨_, z2, z3, z4, z5⟩ := hS9
                go_simp
                try with_reducible rfl
              simp only [List.getElem_toArray, List.getElem_cons_succ, List.getElem_cons_zero, Act.put, List.setIfInBounds_toArray, List.set_cons_succ, List.set_cons_zero]
              refine wpAnyH_take (i := 13) (v := ?_) rfl (by kernel_rfl) (by kernel_rfl) (by kernel_rfl) (fun _ _ _ h => h) (Or.inl ⟨by rfl, ?_⟩) (by assumption) ?_
              rotate_left
              · intro w9 hS9
                obtain ⟨_, z2, z3, z4, z5⟩ := hS9
                go_simp
                try with_reducible rfl
              simp only [List.getElem_toArray, List.getElem_cons_succ, List.getElem_cons_zero, Act.put, List.setIfInBounds_toArray, List.set_cons_succ, List.set_cons_zero]
              refine wpAnyH_take (i := 14) (v := ?_) rfl (by kernel_rfl) (by kernel_rfl) (by kernel_rfl) (fun _ _ _ h => h) (Or.inl ⟨by rfl, ?_⟩) (by assumption) ?_
              rotate_left
              · intro w9 hS9
                obtain ⟨_, z2, z3, z4, z5⟩ := hS9
                go_simp
                try with_reducible rfl
              simp only [List.getElem_toArray, List.getElem_cons_succ, List.getElem_cons_zero, Act.put, List.setIfInBounds_toArray, List.set_cons_succ, List.set_cons_zero]
              refine wpAnyH_ready (rs := [7]) (by kernel_rfl) (by simp) ?_
              refine AllReadyH.cons rfl (fun K9 hK9 => ?_) ?_
              · go_simp
                go_at_call 20
                with_reducible refine Calls.mono (CI.out _ HBD) ?_
                rintro e v1 ⟨rfl, hb1⟩
                try go_simp
                refine hK9.out _ _ ?_ (fun hS9 => ?_)
                · exact HC2.out _ _ _ _ hb1
                clear hK9 K9
                refine wpAnyH_ready (rs := [15]) (by kernel_rfl) (by simp) ?_
                refine AllReadyH.cons rfl (fun K9 hK9 => ?_) ?_
                · go_simp
                  go_at_call 21
                  with_reducible refine Calls.mono (CR.out _ hb1) ?_
                  rintro e v2 ⟨rfl, hb2⟩
                  try go_simp
                  refine hK9.out _ _ ?_ (fun hS9 => ?_)
                  · exact HC2.out _ _ _ _ hb2
                  clear hK9 K9
                  refine wpAnyH_take (i := 16) (v := ?_) rfl (by kernel_rfl) (by kernel_rfl) (by kernel_rfl) (fun _ _ _ h => h) (Or.inl ⟨by rfl, ?_⟩) (by assumption) ?_
                  rotate_left
                  · intro w9 hS9
                    obtain ⟨_, z2, z3, z4, z5⟩ := hS9
                    go_simp
                    try with_reducible rfl
                  simp only [List.getElem_toArray, List.getElem_cons_succ, List.getElem_cons_zero, Act.put, List.setIfInBounds_toArray, List.set_cons_succ, List.set_cons_zero]
                  refine wpAnyH_done (by kernel_rfl) ?_ _
                  go_wp2
                  go_meet
                  exact ⟨p, E', rfl, hb2, HGN⟩
                exact AllReadyH.nil
              exact AllReadyH.nil
              -- GEN28 END
            by_cases hi4 : wh = 7
            · subst hi4
              have hsm := HB6.out.small HN8.out
              have HSM := Lib.hid hsm
              clear hsm hi hi2 hi3
              go_wp2_with fail
              refine (heldX_bytes_d HB6.out (by have := HSM.out; omega)).mono ?_
              rintro e v1 ⟨g1, c1, rfl, ht1, hle1, hbg1, hs1, hb1⟩
              go_wp2_with fail
              refine (heldX_open hb1.out ht1.out hle1 hbg1 HG.out).mono ?_
              rintro e v2 ⟨p2, rfl, hs2, hb2⟩
              go_wp2_with fail
              refine (heldX_bytes_d (hb1.out.quiet hs2.out) (by have := HSM.out; omega)).mono ?_
              rintro e v3 ⟨g3, c3, rfl, ht3, hle3, hbg3, hs3, hb3⟩
              go_wp2_with fail
              refine (heldX_bytes_r hb3.out (by have := HSM.out; omega)).mono ?_
              rintro e v4 ⟨g4, c4, rfl, ht4, hle4, hbg4, hs4, hb4⟩
              go_wp2_with fail
              refine (bytes_any (dirB n s E) (dirB n s E) (some ⟨g3, 0, none⟩) (some ⟨g4, 0, none⟩) c3 c4 v4 (ht3.out.spares hs4.out (fun _ _ _ h => h)) ht4.out).mono ?_
              rintro e v6 ⟨rfl, hv6⟩
              subst hv6
              rw [beq_self_eq_true]
              have hbz : Hid (BothX Q n s w p2 p' E E v4) := Lib.hid (hb2.out.quiet (hs3.out.trans hs4.out))
              go_wp2_with fail
              go_meet
              exact ⟨p2, E, rfl, hbz, HG⟩
            · have i0 : ¬ wh = 0 := fun e => hi (.inl e)
              have i1 : ¬ wh = 1 := fun e => hi (.inr (.inl e))
              have i2 : ¬ wh = 2 := fun e => hi (.inr (.inr (.inl e)))
              have i3 : ¬ wh = 3 := fun e => hi (.inr (.inr (.inr e)))
              have i4 : ¬ wh = 4 := fun e => hi2 (.inl e)
              have i5 : ¬ wh = 5 := fun e => hi2 (.inr e)
              go_wp2_with fail
              go_meet
              exact ⟨p, E, rfl, HB6, HG⟩
          case rest =>
            obtain ⟨p2, E2, rfl, HB7, HG2⟩ := hcut
            obtain ⟨wz, hwz⟩ : ∃ wz, wz = wc := ⟨_, rfl⟩
            subst hwz
            clear HBD
            obtain ⟨P2, hP2⟩ : ∃ P2, probeF (tagF K) (atRow E2 (bktF K n)) = P2 := ⟨_, rfl⟩
            obtain ⟨m, hm⟩ : ∃ m, P2.length = m := ⟨_, rfl⟩
            obtain ⟨N, hN⟩ : ∃ N, E2.flatten.length = N := ⟨_, rfl⟩
            have hm16 : P2.length ≤ 1000000 := by
              rw [← hP2]
              exact Nat.le_trans (probeF_len _ _) (Nat.le_trans (atRow_len (HB7.out.both.bounds.1) _) (by have := HBD0.out; omega))
            have HBD : Hid (BothX Q n s w p2 p' E2 E2 wz.drew) := Lib.hid (HB7.out.quiet (Spares.refl _ _).drew)
            have CP : Hid (∀ V, Hid (BothX Q n s w p2 p' E2 E2 V) → Calls Try.prog 27 #[.pointer (some ⟨p2, 0, none⟩), .agg (bytesV K)] V fun e w' => ∃ a c, e = .returned (.slice a m c) ∧ Hid (Told w' a P2) ∧ Hid (Spares nowhere V w') ∧ Hid (BothX Q n s w p2 p' E2 E2 w')) := Lib.hid (fun V hV => by
              have := heldX_probe_d hV.out K HKL.out
              rw [hP2, hm] at this
              exact this)
            have CQ : Hid (∀ V, Hid (BothX Q n s w p2 p' E2 E2 V) → Calls Try.prog 15 #[.pointer (some ⟨p', 0, none⟩), .agg (bytesV K)] V fun e w' => ∃ a c, e = .returned (.slice a m c) ∧ Hid (Told w' a P2) ∧ Hid (Spares nowhere V w') ∧ Hid (BothX Q n s w p2 p' E2 E2 w')) := Lib.hid (fun V hV => by
              have := heldX_probe_r hV.out K HKL.out
              rw [hP2, hm] at this
              exact this)
            have CE : Hid (∀ V a1 a2 c1 c2, Hid (BothX Q n s w p2 p' E2 E2 V) → Hid (Told V a1 P2) → Hid (Told V a2 P2) → Calls Try.prog 26 #[.slice a1 m c1, .slice a2 m c2] V fun e w' => e = .returned (.bool true) ∧ Hid (BothX Q n s w p2 p' E2 E2 w')) := Lib.hid (fun V a1 a2 c1 c2 hV h1 h2 => by
              have := entries_same a1 a2 c1 c2 P2 V h1.out h2.out hm16
              rw [hm] at this
              exact this.mono (by rintro e w' ⟨rfl, h⟩; exact ⟨rfl, Lib.hid (hV.out.quiet h)⟩))
            have CL : Hid (∀ V, Hid (BothX Q n s w p2 p' E2 E2 V) → Calls Try.prog 28 #[.pointer (some ⟨p2, 0, none⟩)] V fun e w' => e = .returned (.int .i64 N) ∧ Hid (BothX Q n s w p2 p' E2 E2 w')) := Lib.hid (fun V hV => by
              have := heldX_len hV.out
              rw [hV.out.flat.2, hN] at this
              exact this)
            have CA : Hid (∀ V, Hid (BothX Q n s w p2 p' E2 E2 V) → Calls Try.prog 29 #[.pointer (some ⟨p', 0, none⟩)] V fun e w' => ∃ a c, e = .returned (.slice a N c) ∧ Hid (BothX Q n s w p2 p' E2 E2 w')) := Lib.hid (fun V hV => by
              have := heldX_all_r hV.out
              rw [hN] at this
              exact this.mono (by rintro e w' ⟨a, c, rfl, _, _, h⟩; exact ⟨a, c, rfl, h⟩))
            have CB : Hid (∀ V, Hid (BothX Q n s w p2 p' E2 E2 V) → Calls Try.prog 30 #[.pointer (some ⟨p2, 0, none⟩), .agg (bytesV K)] V fun e w' => e = .returned (.int .i64 (bktF K n : Nat)) ∧ Hid (BothX Q n s w p2 p' E2 E2 w')) := Lib.hid (fun V hV => heldX_bucket_d hV.out K HKL.out)
            have CD : Hid (∀ V, Hid (BothX Q n s w p2 p' E2 E2 V) → Calls Try.prog 31 #[.pointer (some ⟨p', 0, none⟩), .agg (bytesV K)] V fun e w' => e = .returned (.int .i64 (bktF K n : Nat)) ∧ Hid (BothX Q n s w p2 p' E2 E2 w')) := Lib.hid (fun V hV => heldX_bucket_r hV.out K HKL.out)
            obtain ⟨bb, hbb⟩ : ∃ bb, bktF K n = bb := ⟨_, rfl⟩
            rw [hbb] at CB CD
            clear hm hN hm16 hP2 hbb
            go_upto_region 35 with (fail)
            -- GEN35
            refine wp_region_held_drew (S := fun V => V.rangeAt kb 0 (Lib.byteCells K) ∧ V.cell? ⟨bx, 2, none⟩ = some (.int .u32 x2) ∧ V.cell? ⟨bx, 3, none⟩ = some (.int .u32 x3) ∧ V.cell? ⟨bx, 4, none⟩ = some (.int .u16 x4) ∧ V.cell? ⟨bx, 5, none⟩ = some (.int .u64 x5)) (by kernel_rfl) (HC2.out _ _ _ _ HBD) (fun hS0 => ?_)
            refine wpAnyH_take (i := 0) (v := ?_) rfl (by kernel_rfl) (by kernel_rfl) (by kernel_rfl) (fun _ _ _ h => h) (Or.inl ⟨by rfl, ?_⟩) (by assumption) ?_
            rotate_left
            · intro w9 hS9
              obtain ⟨_, z2, z3, z4, z5⟩ := hS9
              go_simp
              try with_reducible rfl
            simp only [List.getElem_toArray, List.getElem_cons_zero, Act.put, List.setIfInBounds_toArray, List.set_cons_succ, List.set_cons_zero]
            refine wpAnyH_take (i := 1) (v := .agg (bytesV K)) rfl (by kernel_rfl) (by kernel_rfl) (by kernel_rfl) (fun _ _ _ h => h) (yieldsIf_load_mid (by rfl) 36 (.tmp 11) rfl kb 0 rfl (Lib.byteCells K) _ (fun w9 hS9 => hS9.1) Try.underlying36 rfl HIK.out) (by assumption) ?_
            simp only [List.getElem_toArray, List.getElem_cons_succ, List.getElem_cons_zero, Act.put, List.setIfInBounds_toArray, List.set_cons_succ, List.set_cons_zero]
            refine wpAnyH_take (i := 3) (v := ?_) rfl (by kernel_rfl) (by kernel_rfl) (by kernel_rfl) (fun _ _ _ h => h) (Or.inl ⟨by rfl, ?_⟩) (by assumption) ?_
            rotate_left
            · intro w9 hS9
              obtain ⟨_, z2, z3, z4, z5⟩ := hS9
              go_simp
              try with_reducible rfl
            simp only [List.getElem_toArray, List.getElem_cons_succ, List.getElem_cons_zero, Act.put, List.setIfInBounds_toArray, List.set_cons_succ, List.set_cons_zero]
            refine wpAnyH_take (i := 4) (v := .agg (bytesV K)) rfl (by kernel_rfl) (by kernel_rfl) (by kernel_rfl) (fun _ _ _ h => h) (yieldsIf_load_mid (by rfl) 36 (.tmp 11) rfl kb 0 rfl (Lib.byteCells K) _ (fun w9 hS9 => hS9.1) Try.underlying36 rfl HIK.out) (by assumption) ?_
            simp only [List.getElem_toArray, List.getElem_cons_succ, List.getElem_cons_zero, Act.put, List.setIfInBounds_toArray, List.set_cons_succ, List.set_cons_zero]
            refine wpAnyH_ready (rs := [2]) (by kernel_rfl) (by simp) ?_
            refine AllReadyH.cons rfl (fun K9 hK9 => ?_) ?_
            · go_simp
              go_at_call 27
              with_reducible refine Calls.mono (CP.out _ HBD) ?_
              rintro e v1 ⟨a1, c1, rfl, ht1, _, hb1⟩
              try go_simp
              refine hK9.out _ _ ?_ (fun hS9 => ?_)
              · exact HC2.out _ _ _ _ hb1
              clear hK9 K9
              refine wpAnyH_ready (rs := [5]) (by kernel_rfl) (by simp) ?_
              refine AllReadyH.cons rfl (fun K9 hK9 => ?_) ?_
              · go_simp
                go_at_call 15
                with_reducible refine Calls.mono (CQ.out _ hb1) ?_
                rintro e v2 ⟨a2, c2, rfl, ht2, hs2, hb2⟩
                try go_simp
                refine hK9.out _ _ ?_ (fun hS9 => ?_)
                · exact HC2.out _ _ _ _ hb2
                clear hK9 K9
                refine wpAnyH_ready (rs := [6]) (by kernel_rfl) (by simp) ?_
                refine AllReadyH.cons rfl (fun K9 hK9 => ?_) ?_
                · go_simp
                  go_at_call 26
                  with_reducible refine Calls.mono (CE.out _ a1 a2 c1 c2 hb2 (Lib.hid (ht1.out.later hs2.out)) ht2) ?_
                  rintro e v3 ⟨rfl, hb3⟩
                  try go_simp
                  refine hK9.out _ _ ?_ (fun hS9 => ?_)
                  · exact HC2.out _ _ _ _ hb3
                  clear hK9 K9
                  refine wpAnyH_take (i := 7) (v := ?_) rfl (by kernel_rfl) (by kernel_rfl) (by kernel_rfl) (fun _ _ _ h => h) (Or.inl ⟨by rfl, ?_⟩) (by assumption) ?_
                  rotate_left
                  · intro w9 hS9
                    obtain ⟨_, z2, z3, z4, z5⟩ := hS9
                    go_simp
                    try with_reducible rfl
                  simp only [List.getElem_toArray, List.getElem_cons_succ, List.getElem_cons_zero, Act.put, List.setIfInBounds_toArray, List.set_cons_succ, List.set_cons_zero]
                  refine wpAnyH_take (i := 8) (v := ?_) rfl (by kernel_rfl) (by kernel_rfl) (by kernel_rfl) (fun _ _ _ h => h) (Or.inl ⟨by rfl, ?_⟩) (by assumption) ?_
                  rotate_left
                  · intro w9 hS9
                    obtain ⟨_, z2, z3, z4, z5⟩ := hS9
                    go_simp
                    try with_reducible rfl
                  simp only [List.getElem_toArray, List.getElem_cons_succ, List.getElem_cons_zero, Act.put, List.setIfInBounds_toArray, List.set_cons_succ, List.set_cons_zero]
                  refine wpAnyH_take (i := 9) (v := ?_) rfl (by kernel_rfl) (by kernel_rfl) (by kernel_rfl) (fun _ _ _ h => h) (Or.inl ⟨by rfl, ?_⟩) (by assumption) ?_
                  rotate_left
                  · intro w9 hS9
                    obtain ⟨_, z2, z3, z4, z5⟩ := hS9
                    go_simp
                    try with_reducible rfl
                  simp only [List.getElem_toArray, List.getElem_cons_succ, List.getElem_cons_zero, Act.put, List.setIfInBounds_toArray, List.set_cons_succ, List.set_cons_zero]
                  refine wpAnyH_take (i := 11) (v := ?_) rfl (by kernel_rfl) (by kernel_rfl) (by kernel_rfl) (fun _ _ _ h => h) (Or.inl ⟨by rfl, ?_⟩) (by assumption) ?_
                  rotate_left
                  · intro w9 hS9
                    obtain ⟨_, z2, z3, z4, z5⟩ := hS9
                    go_simp
                    try with_reducible rfl
                  simp only [List.getElem_toArray, List.getElem_cons_succ, List.getElem_cons_zero, Act.put, List.setIfInBounds_toArray, List.set_cons_succ, List.set_cons_zero]
                  refine wpAnyH_ready (rs := [10]) (by kernel_rfl) (by simp) ?_
                  refine AllReadyH.cons rfl (fun K9 hK9 => ?_) ?_
                  · go_simp
                    go_at_call 28
                    with_reducible refine Calls.mono (CL.out _ hb3) ?_
                    rintro e v4 ⟨rfl, hb4⟩
                    try go_simp
                    refine hK9.out _ _ ?_ (fun hS9 => ?_)
                    · exact HC2.out _ _ _ _ hb4
                    clear hK9 K9
                    refine wpAnyH_ready (rs := [12]) (by kernel_rfl) (by simp) ?_
                    refine AllReadyH.cons rfl (fun K9 hK9 => ?_) ?_
                    · go_simp
                      go_at_call 29
                      with_reducible refine Calls.mono (CA.out _ hb4) ?_
                      rintro e v5 ⟨a5, c5, rfl, hb5⟩
                      try go_simp
                      refine hK9.out _ _ ?_ (fun hS9 => ?_)
                      · exact HC2.out _ _ _ _ hb5
                      clear hK9 K9
                      refine wpAnyH_take (i := 13) (v := ?_) rfl (by kernel_rfl) (by kernel_rfl) (by kernel_rfl) (fun _ _ _ h => h) (Or.inl ⟨by rfl, ?_⟩) (by assumption) ?_
                      rotate_left
                      · intro w9 hS9
                        obtain ⟨_, z2, z3, z4, z5⟩ := hS9
                        go_simp
                        try with_reducible rfl
                      simp only [List.getElem_toArray, List.getElem_cons_succ, List.getElem_cons_zero, Act.put, List.setIfInBounds_toArray, List.set_cons_succ, List.set_cons_zero]
                      refine wpAnyH_take (i := 14) (v := ?_) rfl (by kernel_rfl) (by kernel_rfl) (by kernel_rfl) (fun _ _ _ h => h) (Or.inl ⟨by rfl, ?_⟩) (by assumption) ?_
                      rotate_left
                      · intro w9 hS9
                        obtain ⟨_, z2, z3, z4, z5⟩ := hS9
                        go_simp
                        try with_reducible rfl
                      simp only [List.getElem_toArray, List.getElem_cons_succ, List.getElem_cons_zero, Act.put, List.setIfInBounds_toArray, List.set_cons_succ, List.set_cons_zero]
                      refine wpAnyH_take (i := 15) (v := ?_) rfl (by kernel_rfl) (by kernel_rfl) (by kernel_rfl) (fun _ _ _ h => h) (Or.inl ⟨by rfl, ?_⟩) (by assumption) ?_
                      rotate_left
                      · intro w9 hS9
                        obtain ⟨_, z2, z3, z4, z5⟩ := hS9
                        go_simp
                        try with_reducible rfl
                      simp only [List.getElem_toArray, List.getElem_cons_succ, List.getElem_cons_zero, Act.put, List.setIfInBounds_toArray, List.set_cons_succ, List.set_cons_zero]
                      refine wpAnyH_take (i := 16) (v := ?_) rfl (by kernel_rfl) (by kernel_rfl) (by kernel_rfl) (fun _ _ _ h => h) (Or.inl ⟨by rfl, ?_⟩) (by assumption) ?_
                      rotate_left
                      · intro w9 hS9
                        obtain ⟨_, z2, z3, z4, z5⟩ := hS9
                        go_simp
                        try with_reducible rfl
                      simp only [List.getElem_toArray, List.getElem_cons_succ, List.getElem_cons_zero, Act.put, List.setIfInBounds_toArray, List.set_cons_succ, List.set_cons_zero]
                      refine wpAnyH_take (i := 17) (v := ?_) rfl (by kernel_rfl) (by kernel_rfl) (by kernel_rfl) (fun _ _ _ h => h) (Or.inl ⟨by rfl, ?_⟩) (by assumption) ?_
                      rotate_left
                      · intro w9 hS9
                        obtain ⟨_, z2, z3, z4, z5⟩ := hS9
                        go_simp
                        try with_reducible rfl
                      simp only [List.getElem_toArray, List.getElem_cons_succ, List.getElem_cons_zero, Act.put, List.setIfInBounds_toArray, List.set_cons_succ, List.set_cons_zero]
                      refine wpAnyH_take (i := 18) (v := .agg (bytesV K)) rfl (by kernel_rfl) (by kernel_rfl) (by kernel_rfl) (fun _ _ _ h => h) (yieldsIf_load_mid (by rfl) 36 (.tmp 11) rfl kb 0 rfl (Lib.byteCells K) _ (fun w9 hS9 => hS9.1) Try.underlying36 rfl HIK.out) (by assumption) ?_
                      simp only [List.getElem_toArray, List.getElem_cons_succ, List.getElem_cons_zero, Act.put, List.setIfInBounds_toArray, List.set_cons_succ, List.set_cons_zero]
                      refine wpAnyH_take (i := 20) (v := ?_) rfl (by kernel_rfl) (by kernel_rfl) (by kernel_rfl) (fun _ _ _ h => h) (Or.inl ⟨by rfl, ?_⟩) (by assumption) ?_
                      rotate_left
                      · intro w9 hS9
                        obtain ⟨_, z2, z3, z4, z5⟩ := hS9
                        go_simp
                        try with_reducible rfl
                      simp only [List.getElem_toArray, List.getElem_cons_succ, List.getElem_cons_zero, Act.put, List.setIfInBounds_toArray, List.set_cons_succ, List.set_cons_zero]
                      refine wpAnyH_take (i := 21) (v := .agg (bytesV K)) rfl (by kernel_rfl) (by kernel_rfl) (by kernel_rfl) (fun _ _ _ h => h) (yieldsIf_load_mid (by rfl) 36 (.tmp 11) rfl kb 0 rfl (Lib.byteCells K) _ (fun w9 hS9 => hS9.1) Try.underlying36 rfl HIK.out) (by assumption) ?_
                      simp only [List.getElem_toArray, List.getElem_cons_succ, List.getElem_cons_zero, Act.put, List.setIfInBounds_toArray, List.set_cons_succ, List.set_cons_zero]
                      refine wpAnyH_ready (rs := [19]) (by kernel_rfl) (by simp) ?_
                      refine AllReadyH.cons rfl (fun K9 hK9 => ?_) ?_
                      · go_simp
                        go_at_call 30
                        with_reducible refine Calls.mono (CB.out _ hb5) ?_
                        rintro e v6 ⟨rfl, hb6⟩
                        try go_simp
                        refine hK9.out _ _ ?_ (fun hS9 => ?_)
                        · exact HC2.out _ _ _ _ hb6
                        clear hK9 K9
                        refine wpAnyH_ready (rs := [22]) (by kernel_rfl) (by simp) ?_
                        refine AllReadyH.cons rfl (fun K9 hK9 => ?_) ?_
                        · go_simp
                          go_at_call 31
                          with_reducible refine Calls.mono (CD.out _ hb6) ?_
                          rintro e v7 ⟨rfl, hb7⟩
                          try go_simp
                          refine hK9.out _ _ ?_ (fun hS9 => ?_)
                          · exact HC2.out _ _ _ _ hb7
                          clear hK9 K9
                          refine wpAnyH_take (i := 23) (v := ?_) rfl (by kernel_rfl) (by kernel_rfl) (by kernel_rfl) (fun _ _ _ h => h) (Or.inl ⟨by rfl, ?_⟩) (by assumption) ?_
                          rotate_left
                          · intro w9 hS9
                            obtain ⟨_, z2, z3, z4, z5⟩ := hS9
                            go_simp
                            try with_reducible rfl
                          simp only [List.getElem_toArray, List.getElem_cons_succ, List.getElem_cons_zero, Act.put, List.setIfInBounds_toArray, List.set_cons_succ, List.set_cons_zero]
                          refine wpAnyH_take (i := 24) (v := ?_) rfl (by kernel_rfl) (by kernel_rfl) (by kernel_rfl) (fun _ _ _ h => h) (Or.inl ⟨by rfl, ?_⟩) (by assumption) ?_
                          rotate_left
                          · intro w9 hS9
                            obtain ⟨_, z2, z3, z4, z5⟩ := hS9
                            go_simp
                            try with_reducible rfl
                          simp only [List.getElem_toArray, List.getElem_cons_succ, List.getElem_cons_zero, Act.put, List.setIfInBounds_toArray, List.set_cons_succ, List.set_cons_zero]
                          refine wpAnyH_done (by kernel_rfl) ?_ _
                          go_wp2
                          go_roundg (L - (q + 1))
                          case measure => omega
                          case rel => exact ⟨q + 1, p2, E2, by omega, rfl, by simp, rfl, HDRP.out _ _ _ _ hb7, HG2⟩
                        exact AllReadyH.nil
                      exact AllReadyH.nil
                    exact AllReadyH.nil
                  exact AllReadyH.nil
                exact AllReadyH.nil
              exact AllReadyH.nil
            exact AllReadyH.nil
            -- GEN35 END
    · obtain rfl : q = L := by omega
      have hsm := HB.out.small HN8.out
      have hfl := HB.out.flat.1
      obtain ⟨N, hN⟩ : ∃ N, E.flatten.length = N := ⟨_, rfl⟩
      obtain ⟨xs, hxs⟩ : ∃ xs, E.flatten = xs := ⟨_, rfl⟩
      obtain ⟨D, hD⟩ : ∃ D, dirB n s E = D := ⟨_, rfl⟩
      obtain ⟨dl, hdl⟩ : ∃ dl, D.length = dl := ⟨_, rfl⟩
      have hx : xs.length ≤ 1000000 := by rw [← hxs]; omega
      have hD1 : (dirB n s E).length ≤ 1000000 := by omega
      have C1 : Hid (∀ V, Hid (BothX [] n s w p p' E E V) → Calls Try.prog 32 #[.pointer (some ⟨p, 0, none⟩)] V fun e w' => ∃ a c, e = .returned (.slice a N c) ∧ Hid (Told w' a xs) ∧ Hid (Spares nowhere V w') ∧ Hid (BothX [] n s w p p' E E w')) := Lib.hid (fun V hV => by
        have := heldX_all_d hV.out
        rw [hN, hxs] at this
        exact this)
      have C2 : Hid (∀ V, Hid (BothX [] n s w p p' E E V) → Calls Try.prog 29 #[.pointer (some ⟨p', 0, none⟩)] V fun e w' => ∃ a c, e = .returned (.slice a N c) ∧ Hid (Told w' a xs) ∧ Hid (Spares nowhere V w') ∧ Hid (BothX [] n s w p p' E E w')) := Lib.hid (fun V hV => by
        have := heldX_all_r hV.out
        rw [hN, hxs] at this
        exact this)
      have C3 : Hid (∀ V a1 a2 c1 c2, Hid (BothX [] n s w p p' E E V) → Hid (Told V a1 xs) → Hid (Told V a2 xs) → Calls Try.prog 26 #[.slice a1 N c1, .slice a2 N c2] V fun e w' => e = .returned (.bool true) ∧ Hid (BothX [] n s w p p' E E w')) := Lib.hid (fun V a1 a2 c1 c2 hV h1 h2 => by
        have := entries_same a1 a2 c1 c2 xs V h1.out h2.out hx
        rw [← hxs, hN] at this
        exact this.mono (by rintro e w' ⟨rfl, h⟩; exact ⟨rfl, Lib.hid (hV.out.quiet h)⟩))
      have C4 : Hid (∀ V, Hid (BothX [] n s w p p' E E V) → Calls Try.prog 23 #[.pointer (some ⟨p, 0, none⟩)] V fun e w' => ∃ g c, e = .returned (.slice (some ⟨g, 0, none⟩) dl c) ∧ Hid (BytesAt w' (some ⟨g, 0, none⟩) D) ∧ Hid (BothX [] n s w p p' E E w')) := Lib.hid (fun V hV => by
        have := heldX_bytes_d hV.out hD1
        rw [hD, hdl] at this
        exact this.mono (by rintro e w' ⟨g, c, rfl, h1, _, _, _, h⟩; exact ⟨g, c, rfl, h1, h⟩))
      have C5 : Hid (∀ V, Hid (BothX [] n s w p p' E E V) → Calls Try.prog 25 #[.pointer (some ⟨p', 0, none⟩)] V fun e w' => ∃ g c, e = .returned (.slice (some ⟨g, 0, none⟩) dl c) ∧ Hid (BytesAt w' (some ⟨g, 0, none⟩) D) ∧ Hid (Spares nowhere V w') ∧ Hid (BothX [] n s w p p' E E w')) := Lib.hid (fun V hV => by
        have := heldX_bytes_r hV.out hD1
        rw [hD, hdl] at this
        exact this.mono (by rintro e w' ⟨g, c, rfl, h1, _, _, hs, h⟩; exact ⟨g, c, rfl, h1, hs, h⟩))
      have C6 : Hid (∀ V g1 g2 c1 c2, Hid (BytesAt V (some ⟨g1, 0, none⟩) D) → Hid (BytesAt V (some ⟨g2, 0, none⟩) D) → Calls Try.prog 24 #[.slice (some ⟨g1, 0, none⟩) dl c1, .slice (some ⟨g2, 0, none⟩) dl c2] V fun e w' => e = .returned (.bool true) ∧ V = w') := Lib.hid (fun V g1 g2 c1 c2 h1 h2 => by
        have := bytes_any D D (some ⟨g1, 0, none⟩) (some ⟨g2, 0, none⟩) c1 c2 V h1.out h2.out
        rw [hdl, beq_self_eq_true] at this
        exact this)
      clear hN hxs hD hdl hx hD1 hfl hsm
      go_wp2_with fail
      refine (C1.out _ HB).mono ?_
      rintro e v1 ⟨a1, c1, rfl, ht1, hs1, hb1⟩
      go_wp2_with fail
      refine (C2.out _ hb1).mono ?_
      rintro e v2 ⟨a2, c2, rfl, ht2, hs2, hb2⟩
      go_wp2_with fail
      refine (C3.out _ a1 a2 c1 c2 hb2 (Lib.hid (ht1.out.later hs2.out)) ht2).mono ?_
      rintro e v3 ⟨rfl, hb3⟩
      go_wp2_with fail
      refine (C4.out _ hb3).mono ?_
      rintro e v4 ⟨g1, c4, rfl, ht4, hb4⟩
      go_wp2_with fail
      refine (C5.out _ hb4).mono ?_
      rintro e v5 ⟨g2, c5, rfl, ht5, hs5, hb5⟩
      go_wp2_with fail
      refine (C6.out _ g1 g2 c4 c5 (Lib.hid (ht4.out.spares hs5.out (fun _ _ _ h => h))) ht5).mono ?_
      rintro e v6 ⟨rfl, hv6⟩
      subst hv6
      go_wp2
      go_ret
      exact ⟨rfl, hb5.out.both.sp⟩
end Go.Proofs.Ytihbjkdgfflnfaa
