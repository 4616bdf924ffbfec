/-
  The reference's Frag.
-/
import Derived.Test.YtimpnnhadjfijaaDoorFragSame
namespace Go.Proofs.YtimpnnhadjfijaaDoor
open Go.RowKit CrcMath

set_option maxRecDepth 100000 in
set_option maxHeartbeats 1000000 in
theorem refPutG_any (v : Value) (d : List UInt8) (M k : Nat) (w : World) (hr : OwnBytes w v d) (hk : k ≤ 8) (hd : d.length + k ≤ 140737488355328) :
    Calls Tryd.prog 27 #[v, .int .u64 M, .int .i64 k] w (Grows v (d ++ beN k M) w) := by
  have HD := Lib.hid hd
  have HR0 : Hid (OwnBytes w v (d ++ (beN k M).take 0)) := Lib.hid (by rw [List.take_zero, List.append_nil]; exact hr)
  clear hr hd
  go_enter Tryd.func27, Tryd.ntmps27
  go_wp2
  go_loopw [0, 7] (fun u i wr => ∃ j : Nat, j ≤ k ∧ i = .int .i64 ((k : Int) - 1 - (j : Int)) ∧ Hid (OwnBytes wr u (d ++ (beN k M).take j)) ∧ Hid (Spares (fun b => v.ownBlock = some b) w wr) ∧ Hid (∀ g, u.ownBlock = some g → v.ownBlock = some g ∨ w.heap.size ≤ g)) (fun _ i _ => (intOf i + 1).toNat)
  case atStart => exact ⟨0, by omega, by simp, HR0, Lib.hid (Spares.refl _ _), Lib.hid (fun g h => .inl h)⟩
  clear HR0
  case round =>
    obtain ⟨j, hj, rfl, HR1, HS1, HG1⟩ := hrel
    by_cases hlt : j < k
    · obtain ⟨i, hi⟩ : ∃ i : Nat, k - 1 - j = i := ⟨_, rfl⟩
      have hii : (k : Int) - 1 - (j : Int) = (i : Int) := by omega
      rw [hii]
      obtain ⟨s, hs⟩ : ∃ s : Nat, 8 * i = s := ⟨_, rfl⟩
      have hsi : (8 : Int) * (i : Int) = (s : Int) := by omega
      have hs0 : s < 64 := by omega
      obtain ⟨x, hx⟩ : ∃ x, UInt8.ofNat (M / 256 ^ i) = x := ⟨_, rfl⟩
      have hbt := byte_shift M i s hs
      rw [hx] at hbt
      have hbw : IntKind.u8.wrap ((M : Int) / 2 ^ s) = (x.toNat : Int) := by rw [← hbt, IntKind.wrap_u8]
      obtain ⟨Y, hY⟩ : ∃ Y, d ++ (beN k M).take j = Y := ⟨_, rfl⟩
      rw [hY] at HR1
      have hYl : Y.length + 1 ≤ 140737488355328 := by rw [← hY, List.length_append, List.length_take, beN_len]; have := HD.out; omega
      have HNXT : Hid (d ++ (beN k M).take (j + 1) = Y ++ [x]) := Lib.hid (by rw [beN_take k M j i hlt hi, ← List.append_assoc, hY, hx])
      have HYL := Lib.hid hYl
      have hj2 : (i : Int) - 1 = (k : Int) - 1 - ((j + 1 : Nat) : Int) := by omega
      have HJ2 := Lib.hid hj2
      clear hx hY hYl hi hii hs hj2
      go_wp2_with ((with_reducible show wpList _ _ _ (⟨some 21, _, _, _, _, _⟩ :: _) _ _); refine wpList_append_bytes rfl _ _ rfl _ Y rfl (HR1.out.spares (F := nowhere) ((Spares.refl _ _).alloc _) (fun _ _ h => h)) (some ⟨wr.heap.size, 0, none⟩) 1 [x] rfl (byteOne_at wr x) (fun e => by cases e) HYL.out ?_; intro ao c' w9 ho hg hf; have HO9 := Lib.hid ho; have HS9 := Lib.hid (((Spares.refl _ wr).alloc (.cells #[.int .u8 (x.toNat : Int)] 5)).grown hg (fun g h => .inl h)); have HF9 := Lib.hid hf; clear ho hg hf)
      go_roundw
      case rel =>
        refine ⟨j + 1, by omega, by rw [HJ2.out], by rw [HNXT.out]; exact HO9, Lib.hid (HS1.out.trans' HS9.out HG1.out), Lib.hid (fun g h => ?_)⟩
        rcases HF9.out g h with h | h
        · exact HG1.out g h
        · exact .inr (Nat.le_trans HS1.out.size (Nat.le_trans (by simp) h))
      case measure => simp [intOf]
    · obtain rfl : j = k := by omega
      have e1 : (j : Int) - 1 - (j : Int) = -1 := by omega
      rw [e1]
      have HRF : Hid (OwnBytes wr u0 (d ++ beN j M)) := Lib.hid (by
        have := HR1.out
        rw [List.take_of_length_le (by rw [beN_len]; omega)] at this
        exact this)
      go_wp2
      go_ret
      exact ⟨_, rfl, HRF.out, HS1.out, HG1.out⟩


/-- append(v, x...) of bytes, as one step of a region that draws its order. -/
theorem step_own_bytes {ops : Array Oper} {o : Oper} {a : Act} {w : World} {K : Act → World → Prop} {Q : Exit → Act → World → Prop} {E : Prop} (hgd : o.guard = none) (s x : Operand)
    (ho : o.op = .call { callee := .builtin .append, args := #[s, x], argTypes := #[27, 27] })
    (v : Value) (d : List UInt8) (hs : a.eval s = v) (hown : OwnBytes w v d)
    (b off c n : Nat) (l : List UInt8) (hx : a.eval x = .slice (some ⟨b, off, none⟩) n c) (hn : n = l.length) (hat : BytesAt w (some ⟨b, off, none⟩) l) (hlen : d.length + l.length ≤ 140737488355328)
    (hK : ∀ v' w', OwnBytes w' v' (d ++ l) → Spares (fun b => v.ownBlock = some b) w w' → (∀ g, v'.ownBlock = some g → v.ownBlock = some g ∨ w.heap.size ≤ g) → K (a.put o.dst v') w') : if Region.wanted o (yielded ops a.tmps) = true then Oper.wp Tryd.prog o a w K Q else E := by
  subst hn
  have hw : Region.wanted o (yielded ops a.tmps) = true := by simp [Region.wanted, hgd]
  rw [if_pos hw]
  obtain ⟨i0, hi, hz0, hz1, hz2⟩ := info_parts byteInfo
  obtain ⟨v', w', hr, h2, h3, _⟩ := run_append_own (P := Tryd.prog) w 0 27 o.type 5 i0 (.int .u8 0) 1 1 Tryd.underlying27 hi hz0 hz1 hz2 rfl (by decide) v d.length (Lib.byteCells d) hown ⟨b, off, none⟩ l.length c (Lib.byteCells l) (by simp [byteCells_len]) hat.cells (byteCells_one l) (by unfold maxLen; omega) (by omega) (Nat.zero_le _)
  have h4 := append_where (P := Tryd.prog) 27 o.type 5 i0 (.int .u8 0) 1 1 Tryd.underlying27 hi hz0 hz1 hz2 rfl (by decide) 0 v d.length (Lib.byteCells d) hown ⟨b, off, none⟩ l.length c (Lib.byteCells l) (by simp [byteCells_len]) hat.cells (byteCells_one l) (by unfold maxLen; omega) (by omega) hr
  unfold Oper.wp
  simp [execOp, ho, resolve, invoke, builtin, hs, hx, hr, Result.andThen]
  refine hK v' w' ?_ ((Spares.refl _ w).grown h3 (fun g h => .inl h)) h4
  unfold OwnBytes
  rw [List.length_append, byteCells_app]
  exact h2
theorem slice_32 (q : Nat) (w : World) : (Instr.sliceAt 22 (.pointer (some ⟨q, 0, none⟩)) none none none).run Tryd.prog w = .ok (.slice (some ⟨q, 0, none⟩) 32 32) w := by kernel_rfl
/-- A row of bytes lies in no block of another kind. -/
theorem own_ne {w : World} {v : Value} {d : List UInt8} {q : Nat} {cs : Array Value} {t : TypeId} (ho : OwnBytes w v d) (hq : w.heap[q]? = some (.cells cs t (0, 0))) (ht : t ≠ 5) : v.ownBlock ≠ some q := fun e => by
  obtain ⟨cs', hcs⟩ := ho.kind q e
  rw [hq] at hcs
  injection hcs with hcs
  injection hcs with _ hcs _
  exact ht hcs

set_option maxRecDepth 100000 in
set_option maxHeartbeats 8000000 in
theorem refFrag_true (F : FragD) (P s : Nat) (a : Option Addr) (n c : Nat) (l : List UInt8) (w : World) (hl : BytesAt w a l) (hn : n = l.length) (hnil : a = none → c = 0) (hnc : n ≤ c) (hmax : n ≤ 70368744177664)
    (hK : F.K.length = 32) (hS : F.S.length = 32) (hP : IntKind.u32.wrap F.part = (P : Int)) (hs : min n 4096 = s) (hlast : F.last = true) :
    Calls Tryd.prog 12 #[.agg (fragA F), .slice a n c] w (FragPost (fragB F.K P true F.turn (l.take s)) w) := by
  have hPlt : P < 4294967296 := by
    rw [IntKind.wrap_u32] at hP; omega
  have hw1 : IntKind.u64.wrap (P : Int) = (P : Int) := by rw [IntKind.wrap_u64]; omega
  have hs4 : s ≤ 4096 := by omega
  have hw2 : IntKind.u64.wrap (s : Int) = (s : Int) := by rw [IntKind.wrap_u64]; omega
  obtain ⟨y, hy⟩ : ∃ y, l.take s = y := ⟨_, rfl⟩
  have hyl : y.length = s := by rw [← hy, List.length_take]; omega
  have haty : BytesAt w a y := by rw [← hy]; exact bytesAt_takeF s hl
  obtain ⟨R, hR⟩ : ∃ R, shaF y = R := ⟨_, rfl⟩
  have hRl : R.length = 32 := by rw [← hR]; exact shaF_len y
  obtain ⟨H, hH⟩ : ∃ H, headF F.K R P true s F.turn = H := ⟨_, rfl⟩
  have hHl : H.length = 85 := by rw [← hH]; exact headF_len _ _ _ _ _ _ hK hRl
  obtain ⟨C, hC⟩ : ∃ C, crcF H = C := ⟨_, rfl⟩
  have hClt : C < 4294967296 := by rw [← hC]; unfold crcF; exact Nat.xor_lt_two_pow (n := 32) (by decide) (crcG_lt H)
  have hw3 : IntKind.u64.wrap (C : Int) = (C : Int) := by rw [IntKind.wrap_u64]; omega
  obtain ⟨L, hL⟩ : ∃ L, fragB F.K P true F.turn y = L := ⟨_, rfl⟩
  have hLe : L = (H ++ beN 4 C) ++ y := by rw [← hL, ← hC, ← hH, ← hR, ← hyl]; rfl
  rw [hy, hL]
  have HY := Lib.hid haty
  have HYL := Lib.hid hyl
  have HNIL := Lib.hid hnil
  have HK := Lib.hid hK
  have HSS := Lib.hid hS
  have HR := Lib.hid hR
  have HRL := Lib.hid hRl
  have HH := Lib.hid hH
  have HHL := Lib.hid hHl
  have HC := Lib.hid hC
  have HL := Lib.hid hLe
  have HLA := Lib.hid hlast
  obtain ⟨v1, hv1⟩ : ∃ v1, w.alloc (.cells (fragA F) 26) = v1 := ⟨_, rfl⟩
  have HV1 := Lib.hid hv1
  have hq1 : v1.heap[w.heap.size]? = some (.cells (fragA F) 26 (0, 0)) := by rw [← hv1]; exact heap_alloc_new w _
  have hs1 : Spares nowhere w v1 := by rw [← hv1]; exact (Spares.refl _ w).alloc _
  have HQ1 := Lib.hid hq1
  have HS1 := Lib.hid hs1
  obtain ⟨v2, hv2⟩ : ∃ v2, v1.alloc (.cells (Lib.byteCells [65, 77, 66, 82]).toArray 5 (4, 5)) = v2 := ⟨_, rfl⟩
  have HV2 := Lib.hid hv2
  have hs12 : Spares nowhere v1 v2 := by rw [← hv2]; exact (Spares.refl _ v1).alloc _
  have HB2 : Hid (BytesAt v2 (some ⟨v1.heap.size, 0, none⟩) [65, 77, 66, 82]) := Lib.hid (by rw [← hv2]; exact bytesAt_lit _)
  have HK2 := Lib.hid (frag_cells (hs12.heap hq1 (fun h => h)) hK hS).1
  have HQ2 := Lib.hid (hs12.heap hq1 (fun h => h))
  have HS2 := Lib.hid (hs1.trans hs12)
  have kc := fun (w : World) (C : Array Value) (n c : Nat) => Lib.run_convert_bytes_const (P := Tryd.prog) w 27 5 C n c Tryd.underlying27 Tryd.underlying5
  have ks := slice_key32
  have HSN : Hid (min n 4096 = s) := Lib.hid hs
  have HNN := Lib.hid hn
  clear hl hn hnil hK hS hlast hy hyl haty hR hRl hH hHl hC hL hLe hv1 hq1 hs1 hv2 hs12 hs
  go_enter Tryd.func12, Tryd.ntmps12
  by_cases hbig : 4096 < n
  · have i1 : (4096 : Int) < (n : Int) := by omega
    have hs1 : s = 4096 := by have := HSN.out; omega
    subst hs1
    have i2 : (4096 : Int) ≤ (c : Int) := by omega
    go_upto_region 3 with (fail)
    change Code.wp _ _ _ _ (w.alloc (.cells (fragA F) 26))
    rw [HV1.out]
    go_upto_region 4 with ((with_reducible show wpList _ _ _ (⟨some 17, _, _, _, _, _⟩ :: _) _ _); first
      | (change wpList _ _ _ _ _ (v1.alloc (.cells (Lib.byteCells [65, 77, 66, 82]).toArray 5 (4, 5))); rw [HV2.out]; obtain ⟨i0, hi, hz0, hz1, hz2⟩ := info_parts byteInfo; refine wpList_append_grows v2 rfl _ _ 27 rfl 5 i0 (.int .u8 0) 1 1 Tryd.underlying27 hi hz0 hz1 hz2 rfl (by decide) (some ⟨v1.heap.size, 0, none⟩) 4 4 (Lib.byteCells [65, 77, 66, 82]) rfl (fun e => by cases e) rfl (fun b hb => by injection hb with hb; subst hb; exact HB2.out.cells) ⟨w.heap.size, 0, none⟩ 32 32 (Lib.byteCells F.K) rfl (by rw [byteCells_len, HK.out]) HK2.out.cells (byteCells_one _) (by decide) (by decide) (by decide) ?_; intro u3 v3 hr3 hg3)
      | fail)
    have ho3 : OwnBytes v3 u3 ([65, 77, 66, 82] ++ F.K) := by
      have : Row8 v2.heap.size v3 u3 ([65, 77, 66, 82] ++ F.K) := by
        unfold Row8
        rw [byteCells_app, List.length_append, HK.out]
        exact hr3
      exact this.own
    have hb3 : ∀ g, u3.ownBlock = some g → w.heap.size ≤ g := fun g hg => Nat.le_trans HS2.out.size (hr3.lt g hg).1
    have hs23 : Spares nowhere v2 v3 := (Spares.refl _ v2).grown hg3 (fun k hk => by cases hk)
    have HO3 := Lib.hid ho3
    have HG3 := Lib.hid hb3
    have HQ3 := Lib.hid (hs23.heap HQ2.out (fun h => h))
    have HS3 := Lib.hid (HS2.out.trans hs23)
    have c3 := (frag_cells HQ3.out HK.out HSS.out).2.1
    clear hr3 hg3 ho3 hb3 hs23 HB2 HK2 HQ2 HS2 HV1 HV2 HQ1 HS1 kc
    -- part
    go_wp2_with fail
    refine (refPutG_any u3 _ P 4 v3 HO3.out (by omega) (by simp [HK.out])).mono ?_
    rintro e v4 ⟨u4, rfl, ho4, hs4, hb4⟩
    have HQ4 := Lib.hid (hs4.heap HQ3.out (own_ne HO3.out HQ3.out (by decide)))
    have HS4 := Lib.hid (HS3.out.trans' hs4 (fun b hb => .inr (HG3.out b hb)))
    have HG4 : Hid (∀ g, u4.ownBlock = some g → w.heap.size ≤ g) := Lib.hid (fun g hg => (hb4 g hg).elim (HG3.out g) (fun h => Nat.le_trans HS3.out.size h))
    have HO4 := Lib.hid ho4
    have c4 := (frag_cells HQ4.out HK.out HSS.out).2.2.1
    rw [HLA.out] at c4
    have HY4 := Lib.hid (HY.out.spares HS4.out (fun _ _ _ h => h))
    have HNS : Hid (a = none → 4096 = 0) := Lib.hid (fun e => by have := HNIL.out e; omega)
    clear ho4 hs4 hb4 c3 HO3 HG3 HQ3 HS3
    -- sum
    go_wp2_with fail
    refine (refSum_any a 4096 c y v4 HY4.out HYL.out.symm (by omega) HNIL.out).mono ?_
    rintro e v5 ⟨rfl, hs5⟩
    rw [HR.out]
    clear c4
    obtain ⟨q, hq⟩ : ∃ q, v5.heap.size = q := ⟨_, rfl⟩
    have hal : (v5.alloc (.cells (bytesV (List.replicate 32 0)) 22)).heap[q]? = some (.cells (bytesV (List.replicate 32 0)) 22 (0, 0)) := by rw [← hq]; exact heap_alloc_new v5 _
    have hgq : ((v5.alloc (.cells (bytesV (List.replicate 32 0)) 22)).setCells q 0 (Lib.byteCells R)).heap[q]? = some (.cells (bytesV R) 22 (0, 0)) := by
      have := heap_setCells (g := q) (t := 22) (Lib.byteCells R) [] (Lib.byteCells (List.replicate 32 0)) [] _ (by rw [List.append_nil]; exact hal) (by rw [byteCells_len, byteCells_len, HRL.out]; simp)
      rw [List.append_nil] at this
      exact this
    have htq := there_of hal 0 (bytesV R).size (by rw [bytesV_size, bytesV_size, HRL.out]; simp)
    have infoC : (Tryd.prog.info? 22).map (·.size) = some (bytesV R).size := by rw [bytesV_size, HRL.out]; exact infoR32
    obtain ⟨v6, hv6⟩ : ∃ v6, (v5.alloc (.cells (bytesV (List.replicate 32 0)) 22)).setCells q 0 (Lib.byteCells R) = v6 := ⟨_, rfl⟩
    have hs56 : Spares nowhere v5 v6 := by rw [← hv6]; exact ((Spares.refl nowhere v5).alloc _).trans' (spares_setCells (g := q) _ _ _ (Spares.refl _ _)) (fun b hb => .inr (by omega))
    rw [hv6] at hgq
    have hs46 := hs5.trans hs56
    have HV6 := Lib.hid hv6
    have HTQ := Lib.hid htq
    have HIC := Lib.hid infoC
    have HR6 := Lib.hid hgq
    have HQ6 := Lib.hid (hs46.heap HQ4.out (fun h => h))
    have HO6 := Lib.hid (HO4.out.spares hs46 (fun _ _ h => h))
    have HS6 := Lib.hid (HS4.out.trans hs46)
    clear hs5 hal hgq htq infoC hs56 hs46 hv6 HQ4 HO4 HS4 HY4
    go_upto_region 9 with ((with_reducible show wpList _ _ _ (⟨none, .store 22 _ _, _, _, _, _⟩ :: _) _ _); refine wpList_store_mid rfl 22 (.tmp 7) (.tmp 27) rfl q 0 (bytesV R) rfl rfl HTQ.out HIC.out (bytesV_one _) ?_)
    change Code.wp _ _ _ _ ((v5.alloc (.cells (bytesV (List.replicate 32 0)) 22)).setCells q 0 (Lib.byteCells R))
    rw [HV6.out]
    clear hq HV6 HTQ
    -- last and size
    have HB6 : Hid (BytesAt (v6.alloc (.cells #[.int .u8 ((UInt8.ofNat 1).toNat : Int)] 5)) (some ⟨v6.heap.size, 0, none⟩) [UInt8.ofNat 1]) := Lib.hid (byteOne_at v6 _)
    go_wp2_with ((with_reducible show wpList _ _ _ (⟨some 31, _, _, _, _, _⟩ :: _) _ _); first
      | (change wpList _ _ _ _ _ (v6.alloc (.cells #[.int .u8 ((UInt8.ofNat 1).toNat : Int)] 5)); refine wpList_append_bytes rfl _ _ rfl u4 _ rfl (HO6.out.spares (F := nowhere) ((Spares.refl _ _).alloc _) (fun _ _ h => h)) (some ⟨v6.heap.size, 0, none⟩) 1 [UInt8.ofNat 1] rfl HB6.out (fun e => by cases e) (by simp [HK.out, beN_len]) ?_; intro ao7 c7 v7 ho7 hg7 hf7; obtain ⟨u7, hu7⟩ : ∃ u : Value, Value.slice ao7 ((([65, 77, 66, 82] ++ F.K) ++ beN 4 P).length + ([UInt8.ofNat 1] : List UInt8).length) c7 = u := ⟨_, rfl⟩; rw [hu7] at ho7 hf7; rw [hu7]; clear hu7)
      | fail)
    have hs67 : Spares (fun b => u4.ownBlock = some b) v6 v7 := ((Spares.refl _ v6).alloc (.cells #[.int .u8 ((UInt8.ofNat 1).toNat : Int)] 5)).grown hg7 (fun g h => .inl h)
    have HQ7 := Lib.hid (hs67.heap HQ6.out (own_ne HO6.out HQ6.out (by decide)))
    have HR7 := Lib.hid (hs67.heap HR6.out (own_ne HO6.out HR6.out (by decide)))
    have HS7 := Lib.hid (HS6.out.trans' hs67 (fun b hb => .inr (HG4.out b hb)))
    have HG7 : Hid (∀ g, u7.ownBlock = some g → w.heap.size ≤ g) := Lib.hid (fun g hg => (hf7 g hg).elim (HG4.out g) (fun h => Nat.le_trans HS6.out.size (Nat.le_trans (by simp) h)))
    have HO7 := Lib.hid ho7
    clear ho7 hg7 hf7 hs67 HQ6 HR6 HO6 HS6 HG4 HB6
    refine (refPutG_any u7 _ 4096 4 v7 HO7.out (by omega) (by simp [HK.out, beN_len])).mono ?_
    rintro e v8 ⟨u8, rfl, ho8, hs8, hb8⟩
    have HQ8 := Lib.hid (hs8.heap HQ7.out (own_ne HO7.out HQ7.out (by decide)))
    have HR8 := Lib.hid (hs8.heap HR7.out (own_ne HO7.out HR7.out (by decide)))
    have HS8 := Lib.hid (HS7.out.trans' hs8 (fun b hb => .inr (HG7.out b hb)))
    have HG8 : Hid (∀ g, u8.ownBlock = some g → w.heap.size ≤ g) := Lib.hid (fun g hg => (hb8 g hg).elim (HG7.out g) (fun h => Nat.le_trans HS7.out.size h))
    have hd8 : Spares nowhere v8 v8.drew := (Spares.refl _ v8).drew
    have HO8 := Lib.hid (ho8.spares hd8 (fun _ _ h => h))
    have HB8 := Lib.hid (bytesV_at (hd8.heap HR8.out (fun h => h)))
    have hq8d := hd8.heap HQ8.out (fun h => h)
    have c8 := (frag_cells hq8d HK.out HSS.out).2.2.2.2.2
    have HK1 : Hid (∀ W, Spares (fun b => u8.ownBlock = some b) v8.drew W → W.cell? ⟨w.heap.size, 67, none⟩ = some (.int .u64 F.turn) ∧ W.heap[w.heap.size]? = some (.cells (fragA F) 26 (0, 0))) := Lib.hid (fun W hW => by
      have h := hW.heap hq8d (own_ne HO8.out hq8d (by decide))
      exact ⟨(frag_cells h HK.out HSS.out).2.2.2.2.2, h⟩)
    have HK2 : Hid (∀ (u : Value) (v : World) (d : List UInt8), OwnBytes v u d → v.heap[w.heap.size]? = some (.cells (fragA F) 26 (0, 0)) → ∀ W, Spares (fun b => u.ownBlock = some b) v W → W.cell? ⟨w.heap.size, 67, none⟩ = some (.int .u64 F.turn)) := Lib.hid (fun u v d ho hq W hW => (frag_cells (hW.heap hq (own_ne ho hq (by decide))) HK.out HSS.out).2.2.2.2.2)
    obtain ⟨D8, hD8⟩ : ∃ D, ((([65, 77, 66, 82] ++ F.K) ++ beN 4 P) ++ [UInt8.ofNat 1]) ++ beN 4 4096 = D := ⟨_, rfl⟩
    have hD8l : D8.length = 45 := by rw [← hD8]; simp [HK.out, beN_len]
    rw [hD8] at HO8
    have HH2 : Hid ((D8 ++ R) ++ beN 8 F.turn = H) := Lib.hid (by rw [← hD8, ← HH.out]; rfl)
    have HPUT : Hid (∀ u v, OwnBytes v u (D8 ++ R) → Calls Tryd.prog 27 #[u, .int .u64 F.turn, .int .i64 8] v (Grows u ((D8 ++ R) ++ beN 8 F.turn) v)) := Lib.hid (fun u v ho => refPutG_any u _ F.turn 8 v ho (by omega) (by simp [hD8l, HRL.out]))
    have k22 := slice_32
    have HD8L := Lib.hid hD8l
    clear ho8 hs8 hb8 hd8 hq8d hD8 hD8l HO7 HQ7 HR7 HS7 HG7 HR8 ks
    go_upto_region 10 with (fail)
    go_region_held3 (fun W => W.cell? ⟨w.heap.size, 67, none⟩ = some (.int .u64 F.turn))
      (first
        | exact c8
        | exact (HK1.out _ hs9).1
        | exact HK2.out u9 v9 _ ho9 (HK1.out _ hs9).2 _ hs10
        | fail)
      (first
        | (refine step_own_bytes (by rfl) (.tmp 36) (.tmp 37) (by rfl) u8 D8 (by rfl) HO8.out q 0 32 32 R (by rfl) HRL.out.symm HB8.out (by rw [HD8L.out, HRL.out]; omega) ?_; intro u9 v9 ho9 hs9 hb9)
        | (go_at_call 27; (with_reducible refine Calls.mono (HPUT.out u9 v9 ho9) ?_); rintro e v10 ⟨u10, rfl, ho10, hs10, hb10⟩)
        | fail)
    rw [HH2.out] at ho10
    have hq10 := hs10.heap (HK1.out _ hs9).2 (own_ne ho9 (HK1.out _ hs9).2 (by decide))
    have hs810 : Spares nowhere w v10 := ((HS8.out.drew).trans' hs9 (fun b hb => .inr (HG8.out b hb))).trans' hs10 (fun b hb => .inr ((hb9 b hb).elim (HG8.out b) (fun h => Nat.le_trans HS8.out.size h)))
    have HG10 : Hid (∀ g, u10.ownBlock = some g → w.heap.size ≤ g) := Lib.hid (fun g hg => (hb10 g hg).elim (fun h => (hb9 g h).elim (HG8.out g) (fun h => Nat.le_trans HS8.out.size h)) (fun h => Nat.le_trans (Nat.le_trans HS8.out.size hs9.size) h))
    have HS10 := Lib.hid hs810
    obtain ⟨a10, cc10, hu10, hat10, hn10, hcc10⟩ := Row8.shape (B := 0) (show Row8 0 v10 u10 H from ho10)
    rw [HHL.out] at hu10 hcc10
    subst hu10
    have HO10 := Lib.hid ho10
    have HCRC := Lib.hid (refCrc_at H a10 85 cc10 v10 hat10 HHL.out.symm (by rw [HHL.out]; omega))
    have HY10 := Lib.hid (HY.out.spares HS10.out (fun _ _ _ h => h))
    clear hq10 hs810 hat10 hn10 hs9 hs10 hb9 hb10 ho9 ho10 HK1 HK2 HPUT HO8 HB8 HG8 HS8 c8 k22
    go_wp2_with fail
    refine HCRC.out.mono ?_
    rw [HC.out]
    rintro e v10' ⟨rfl, hv10⟩
    rw [hv10]
    clear HCRC hv10
    go_wp2_with fail
    refine (refPutG_any _ H C 4 v10 HO10.out (by omega) (by rw [HHL.out]; omega)).mono ?_
    rintro e v11 ⟨u11, rfl, ho11, hs11, hb11⟩
    have HS11 := Lib.hid (HS10.out.trans' hs11 (fun b hb => .inr (HG10.out b hb)))
    have HG11 : Hid (∀ g, u11.ownBlock = some g → w.heap.size ≤ g) := Lib.hid (fun g hg => (hb11 g hg).elim (HG10.out g) (fun h => Nat.le_trans HS10.out.size h))
    have HY11 := Lib.hid (HY.out.spares HS11.out (fun _ _ _ h => h))
    have HO11 := Lib.hid ho11
    have HLN : Hid ((H ++ beN 4 C).length + y.length = L.length) := Lib.hid (by rw [HL.out]; exact List.length_append.symm)
    clear ho11 hs11 hb11 HO10 HG10 HS10 HY10
    go_wp2_with ((with_reducible show wpList _ _ _ (⟨some 49, _, _, _, _, _⟩ :: _) _ _); refine wpList_append_bytes rfl _ _ rfl u11 _ rfl HO11.out a c y (by rw [HYL.out]; rfl) HY11.out HNIL.out (by rw [List.length_append, HHL.out, beN_len, HYL.out]; omega) ?_; intro ao12 c12 v12 ho12 hg12 hf12; rw [HLN.out] at ho12 hf12; rw [HLN.out, ← HL.out] at *; obtain ⟨N, hN⟩ : ∃ N, L.length = N := ⟨_, rfl⟩; rw [hN] at ho12 hf12; rw [hN]; have HNL := Lib.hid hN; clear hN)
    go_ret
    refine ⟨ao12, c12, by rw [HNL.out]; rfl, by rw [HNL.out]; exact ho12, HS11.out.trans' ((Spares.refl (fun b => u11.ownBlock = some b) v11).grown hg12 (fun g h => .inl h)) (fun b hb => .inr (HG11.out b hb)), fun g hg => ?_⟩
    rw [HNL.out] at hg
    exact (hf12 g hg).elim (HG11.out g) (fun h => Nat.le_trans HS11.out.size h)
  · have i1 : ¬ (4096 : Int) < (n : Int) := by omega
    have hs1 : s = n := by have := HSN.out; omega
    subst hs1
    go_upto_region 3 with (fail)
    change Code.wp _ _ _ _ (w.alloc (.cells (fragA F) 26))
    rw [HV1.out]
    go_upto_region 4 with ((with_reducible show wpList _ _ _ (⟨some 17, _, _, _, _, _⟩ :: _) _ _); first
      | (change wpList _ _ _ _ _ (v1.alloc (.cells (Lib.byteCells [65, 77, 66, 82]).toArray 5 (4, 5))); rw [HV2.out]; obtain ⟨i0, hi, hz0, hz1, hz2⟩ := info_parts byteInfo; refine wpList_append_grows v2 rfl _ _ 27 rfl 5 i0 (.int .u8 0) 1 1 Tryd.underlying27 hi hz0 hz1 hz2 rfl (by decide) (some ⟨v1.heap.size, 0, none⟩) 4 4 (Lib.byteCells [65, 77, 66, 82]) rfl (fun e => by cases e) rfl (fun b hb => by injection hb with hb; subst hb; exact HB2.out.cells) ⟨w.heap.size, 0, none⟩ 32 32 (Lib.byteCells F.K) rfl (by rw [byteCells_len, HK.out]) HK2.out.cells (byteCells_one _) (by decide) (by decide) (by decide) ?_; intro u3 v3 hr3 hg3)
      | fail)
    have ho3 : OwnBytes v3 u3 ([65, 77, 66, 82] ++ F.K) := by
      have : Row8 v2.heap.size v3 u3 ([65, 77, 66, 82] ++ F.K) := by
        unfold Row8
        rw [byteCells_app, List.length_append, HK.out]
        exact hr3
      exact this.own
    have hb3 : ∀ g, u3.ownBlock = some g → w.heap.size ≤ g := fun g hg => Nat.le_trans HS2.out.size (hr3.lt g hg).1
    have hs23 : Spares nowhere v2 v3 := (Spares.refl _ v2).grown hg3 (fun k hk => by cases hk)
    have HO3 := Lib.hid ho3
    have HG3 := Lib.hid hb3
    have HQ3 := Lib.hid (hs23.heap HQ2.out (fun h => h))
    have HS3 := Lib.hid (HS2.out.trans hs23)
    have c3 := (frag_cells HQ3.out HK.out HSS.out).2.1
    clear hr3 hg3 ho3 hb3 hs23 HB2 HK2 HQ2 HS2 HV1 HV2 HQ1 HS1 kc
    -- part
    go_wp2_with fail
    refine (refPutG_any u3 _ P 4 v3 HO3.out (by omega) (by simp [HK.out])).mono ?_
    rintro e v4 ⟨u4, rfl, ho4, hs4, hb4⟩
    have HQ4 := Lib.hid (hs4.heap HQ3.out (own_ne HO3.out HQ3.out (by decide)))
    have HS4 := Lib.hid (HS3.out.trans' hs4 (fun b hb => .inr (HG3.out b hb)))
    have HG4 : Hid (∀ g, u4.ownBlock = some g → w.heap.size ≤ g) := Lib.hid (fun g hg => (hb4 g hg).elim (HG3.out g) (fun h => Nat.le_trans HS3.out.size h))
    have HO4 := Lib.hid ho4
    have c4 := (frag_cells HQ4.out HK.out HSS.out).2.2.1
    rw [HLA.out] at c4
    have HY4 := Lib.hid (HY.out.spares HS4.out (fun _ _ _ h => h))
    have HNS : Hid (a = none → s = 0) := Lib.hid (fun e => by have := HNIL.out e; omega)
    clear ho4 hs4 hb4 c3 HO3 HG3 HQ3 HS3
    -- sum
    go_wp2_with fail
    refine (refSum_any a s c y v4 HY4.out HYL.out.symm (by omega) HNIL.out).mono ?_
    rintro e v5 ⟨rfl, hs5⟩
    rw [HR.out]
    clear c4
    obtain ⟨q, hq⟩ : ∃ q, v5.heap.size = q := ⟨_, rfl⟩
    have hal : (v5.alloc (.cells (bytesV (List.replicate 32 0)) 22)).heap[q]? = some (.cells (bytesV (List.replicate 32 0)) 22 (0, 0)) := by rw [← hq]; exact heap_alloc_new v5 _
    have hgq : ((v5.alloc (.cells (bytesV (List.replicate 32 0)) 22)).setCells q 0 (Lib.byteCells R)).heap[q]? = some (.cells (bytesV R) 22 (0, 0)) := by
      have := heap_setCells (g := q) (t := 22) (Lib.byteCells R) [] (Lib.byteCells (List.replicate 32 0)) [] _ (by rw [List.append_nil]; exact hal) (by rw [byteCells_len, byteCells_len, HRL.out]; simp)
      rw [List.append_nil] at this
      exact this
    have htq := there_of hal 0 (bytesV R).size (by rw [bytesV_size, bytesV_size, HRL.out]; simp)
    have infoC : (Tryd.prog.info? 22).map (·.size) = some (bytesV R).size := by rw [bytesV_size, HRL.out]; exact infoR32
    obtain ⟨v6, hv6⟩ : ∃ v6, (v5.alloc (.cells (bytesV (List.replicate 32 0)) 22)).setCells q 0 (Lib.byteCells R) = v6 := ⟨_, rfl⟩
    have hs56 : Spares nowhere v5 v6 := by rw [← hv6]; exact ((Spares.refl nowhere v5).alloc _).trans' (spares_setCells (g := q) _ _ _ (Spares.refl _ _)) (fun b hb => .inr (by omega))
    rw [hv6] at hgq
    have hs46 := hs5.trans hs56
    have HV6 := Lib.hid hv6
    have HTQ := Lib.hid htq
    have HIC := Lib.hid infoC
    have HR6 := Lib.hid hgq
    have HQ6 := Lib.hid (hs46.heap HQ4.out (fun h => h))
    have HO6 := Lib.hid (HO4.out.spares hs46 (fun _ _ h => h))
    have HS6 := Lib.hid (HS4.out.trans hs46)
    clear hs5 hal hgq htq infoC hs56 hs46 hv6 HQ4 HO4 HS4 HY4
    go_upto_region 9 with ((with_reducible show wpList _ _ _ (⟨none, .store 22 _ _, _, _, _, _⟩ :: _) _ _); refine wpList_store_mid rfl 22 (.tmp 7) (.tmp 27) rfl q 0 (bytesV R) rfl rfl HTQ.out HIC.out (bytesV_one _) ?_)
    change Code.wp _ _ _ _ ((v5.alloc (.cells (bytesV (List.replicate 32 0)) 22)).setCells q 0 (Lib.byteCells R))
    rw [HV6.out]
    clear hq HV6 HTQ
    -- last and size
    have HB6 : Hid (BytesAt (v6.alloc (.cells #[.int .u8 ((UInt8.ofNat 1).toNat : Int)] 5)) (some ⟨v6.heap.size, 0, none⟩) [UInt8.ofNat 1]) := Lib.hid (byteOne_at v6 _)
    go_wp2_with ((with_reducible show wpList _ _ _ (⟨some 31, _, _, _, _, _⟩ :: _) _ _); first
      | (change wpList _ _ _ _ _ (v6.alloc (.cells #[.int .u8 ((UInt8.ofNat 1).toNat : Int)] 5)); refine wpList_append_bytes rfl _ _ rfl u4 _ rfl (HO6.out.spares (F := nowhere) ((Spares.refl _ _).alloc _) (fun _ _ h => h)) (some ⟨v6.heap.size, 0, none⟩) 1 [UInt8.ofNat 1] rfl HB6.out (fun e => by cases e) (by simp [HK.out, beN_len]) ?_; intro ao7 c7 v7 ho7 hg7 hf7; obtain ⟨u7, hu7⟩ : ∃ u : Value, Value.slice ao7 ((([65, 77, 66, 82] ++ F.K) ++ beN 4 P).length + ([UInt8.ofNat 1] : List UInt8).length) c7 = u := ⟨_, rfl⟩; rw [hu7] at ho7 hf7; rw [hu7]; clear hu7)
      | fail)
    have hs67 : Spares (fun b => u4.ownBlock = some b) v6 v7 := ((Spares.refl _ v6).alloc (.cells #[.int .u8 ((UInt8.ofNat 1).toNat : Int)] 5)).grown hg7 (fun g h => .inl h)
    have HQ7 := Lib.hid (hs67.heap HQ6.out (own_ne HO6.out HQ6.out (by decide)))
    have HR7 := Lib.hid (hs67.heap HR6.out (own_ne HO6.out HR6.out (by decide)))
    have HS7 := Lib.hid (HS6.out.trans' hs67 (fun b hb => .inr (HG4.out b hb)))
    have HG7 : Hid (∀ g, u7.ownBlock = some g → w.heap.size ≤ g) := Lib.hid (fun g hg => (hf7 g hg).elim (HG4.out g) (fun h => Nat.le_trans HS6.out.size (Nat.le_trans (by simp) h)))
    have HO7 := Lib.hid ho7
    clear ho7 hg7 hf7 hs67 HQ6 HR6 HO6 HS6 HG4 HB6
    refine (refPutG_any u7 _ s 4 v7 HO7.out (by omega) (by simp [HK.out, beN_len])).mono ?_
    rintro e v8 ⟨u8, rfl, ho8, hs8, hb8⟩
    have HQ8 := Lib.hid (hs8.heap HQ7.out (own_ne HO7.out HQ7.out (by decide)))
    have HR8 := Lib.hid (hs8.heap HR7.out (own_ne HO7.out HR7.out (by decide)))
    have HS8 := Lib.hid (HS7.out.trans' hs8 (fun b hb => .inr (HG7.out b hb)))
    have HG8 : Hid (∀ g, u8.ownBlock = some g → w.heap.size ≤ g) := Lib.hid (fun g hg => (hb8 g hg).elim (HG7.out g) (fun h => Nat.le_trans HS7.out.size h))
    have hd8 : Spares nowhere v8 v8.drew := (Spares.refl _ v8).drew
    have HO8 := Lib.hid (ho8.spares hd8 (fun _ _ h => h))
    have HB8 := Lib.hid (bytesV_at (hd8.heap HR8.out (fun h => h)))
    have hq8d := hd8.heap HQ8.out (fun h => h)
    have c8 := (frag_cells hq8d HK.out HSS.out).2.2.2.2.2
    have HK1 : Hid (∀ W, Spares (fun b => u8.ownBlock = some b) v8.drew W → W.cell? ⟨w.heap.size, 67, none⟩ = some (.int .u64 F.turn) ∧ W.heap[w.heap.size]? = some (.cells (fragA F) 26 (0, 0))) := Lib.hid (fun W hW => by
      have h := hW.heap hq8d (own_ne HO8.out hq8d (by decide))
      exact ⟨(frag_cells h HK.out HSS.out).2.2.2.2.2, h⟩)
    have HK2 : Hid (∀ (u : Value) (v : World) (d : List UInt8), OwnBytes v u d → v.heap[w.heap.size]? = some (.cells (fragA F) 26 (0, 0)) → ∀ W, Spares (fun b => u.ownBlock = some b) v W → W.cell? ⟨w.heap.size, 67, none⟩ = some (.int .u64 F.turn)) := Lib.hid (fun u v d ho hq W hW => (frag_cells (hW.heap hq (own_ne ho hq (by decide))) HK.out HSS.out).2.2.2.2.2)
    obtain ⟨D8, hD8⟩ : ∃ D, ((([65, 77, 66, 82] ++ F.K) ++ beN 4 P) ++ [UInt8.ofNat 1]) ++ beN 4 s = D := ⟨_, rfl⟩
    have hD8l : D8.length = 45 := by rw [← hD8]; simp [HK.out, beN_len]
    rw [hD8] at HO8
    have HH2 : Hid ((D8 ++ R) ++ beN 8 F.turn = H) := Lib.hid (by rw [← hD8, ← HH.out]; rfl)
    have HPUT : Hid (∀ u v, OwnBytes v u (D8 ++ R) → Calls Tryd.prog 27 #[u, .int .u64 F.turn, .int .i64 8] v (Grows u ((D8 ++ R) ++ beN 8 F.turn) v)) := Lib.hid (fun u v ho => refPutG_any u _ F.turn 8 v ho (by omega) (by simp [hD8l, HRL.out]))
    have k22 := slice_32
    have HD8L := Lib.hid hD8l
    clear ho8 hs8 hb8 hd8 hq8d hD8 hD8l HO7 HQ7 HR7 HS7 HG7 HR8 ks
    go_upto_region 10 with (fail)
    go_region_held3 (fun W => W.cell? ⟨w.heap.size, 67, none⟩ = some (.int .u64 F.turn))
      (first
        | exact c8
        | exact (HK1.out _ hs9).1
        | exact HK2.out u9 v9 _ ho9 (HK1.out _ hs9).2 _ hs10
        | fail)
      (first
        | (refine step_own_bytes (by rfl) (.tmp 36) (.tmp 37) (by rfl) u8 D8 (by rfl) HO8.out q 0 32 32 R (by rfl) HRL.out.symm HB8.out (by rw [HD8L.out, HRL.out]; omega) ?_; intro u9 v9 ho9 hs9 hb9)
        | (go_at_call 27; (with_reducible refine Calls.mono (HPUT.out u9 v9 ho9) ?_); rintro e v10 ⟨u10, rfl, ho10, hs10, hb10⟩)
        | fail)
    rw [HH2.out] at ho10
    have hq10 := hs10.heap (HK1.out _ hs9).2 (own_ne ho9 (HK1.out _ hs9).2 (by decide))
    have hs810 : Spares nowhere w v10 := ((HS8.out.drew).trans' hs9 (fun b hb => .inr (HG8.out b hb))).trans' hs10 (fun b hb => .inr ((hb9 b hb).elim (HG8.out b) (fun h => Nat.le_trans HS8.out.size h)))
    have HG10 : Hid (∀ g, u10.ownBlock = some g → w.heap.size ≤ g) := Lib.hid (fun g hg => (hb10 g hg).elim (fun h => (hb9 g h).elim (HG8.out g) (fun h => Nat.le_trans HS8.out.size h)) (fun h => Nat.le_trans (Nat.le_trans HS8.out.size hs9.size) h))
    have HS10 := Lib.hid hs810
    obtain ⟨a10, cc10, hu10, hat10, hn10, hcc10⟩ := Row8.shape (B := 0) (show Row8 0 v10 u10 H from ho10)
    rw [HHL.out] at hu10 hcc10
    subst hu10
    have HO10 := Lib.hid ho10
    have HCRC := Lib.hid (refCrc_at H a10 85 cc10 v10 hat10 HHL.out.symm (by rw [HHL.out]; omega))
    have HY10 := Lib.hid (HY.out.spares HS10.out (fun _ _ _ h => h))
    clear hq10 hs810 hat10 hn10 hs9 hs10 hb9 hb10 ho9 ho10 HK1 HK2 HPUT HO8 HB8 HG8 HS8 c8 k22
    go_wp2_with fail
    refine HCRC.out.mono ?_
    rw [HC.out]
    rintro e v10' ⟨rfl, hv10⟩
    rw [hv10]
    clear HCRC hv10
    go_wp2_with fail
    refine (refPutG_any _ H C 4 v10 HO10.out (by omega) (by rw [HHL.out]; omega)).mono ?_
    rintro e v11 ⟨u11, rfl, ho11, hs11, hb11⟩
    have HS11 := Lib.hid (HS10.out.trans' hs11 (fun b hb => .inr (HG10.out b hb)))
    have HG11 : Hid (∀ g, u11.ownBlock = some g → w.heap.size ≤ g) := Lib.hid (fun g hg => (hb11 g hg).elim (HG10.out g) (fun h => Nat.le_trans HS10.out.size h))
    have HY11 := Lib.hid (HY.out.spares HS11.out (fun _ _ _ h => h))
    have HO11 := Lib.hid ho11
    have HLN : Hid ((H ++ beN 4 C).length + y.length = L.length) := Lib.hid (by rw [HL.out]; exact List.length_append.symm)
    clear ho11 hs11 hb11 HO10 HG10 HS10 HY10
    go_wp2_with ((with_reducible show wpList _ _ _ (⟨some 49, _, _, _, _, _⟩ :: _) _ _); refine wpList_append_bytes rfl _ _ rfl u11 _ rfl HO11.out a c y (by rw [HYL.out]; rfl) HY11.out HNIL.out (by rw [List.length_append, HHL.out, beN_len, HYL.out]; omega) ?_; intro ao12 c12 v12 ho12 hg12 hf12; rw [HLN.out] at ho12 hf12; rw [HLN.out, ← HL.out] at *; obtain ⟨N, hN⟩ : ∃ N, L.length = N := ⟨_, rfl⟩; rw [hN] at ho12 hf12; rw [hN]; have HNL := Lib.hid hN; clear hN)
    go_ret
    refine ⟨ao12, c12, by rw [HNL.out]; rfl, by rw [HNL.out]; exact ho12, HS11.out.trans' ((Spares.refl (fun b => u11.ownBlock = some b) v11).grown hg12 (fun g h => .inl h)) (fun b hb => .inr (HG11.out b hb)), fun g hg => ?_⟩
    rw [HNL.out] at hg
    exact (hf12 g hg).elim (HG11.out g) (fun h => Nat.le_trans HS11.out.size h)


set_option maxRecDepth 100000 in
set_option maxHeartbeats 8000000 in
theorem refFrag_false (F : FragD) (P s : Nat) (a : Option Addr) (n c : Nat) (l : List UInt8) (w : World) (hl : BytesAt w a l) (hn : n = l.length) (hnil : a = none → c = 0) (hnc : n ≤ c) (hmax : n ≤ 70368744177664)
    (hK : F.K.length = 32) (hS : F.S.length = 32) (hP : IntKind.u32.wrap F.part = (P : Int)) (hs : min n 4096 = s) (hlast : F.last = false) :
    Calls Tryd.prog 12 #[.agg (fragA F), .slice a n c] w (FragPost (fragB F.K P false F.turn (l.take s)) w) := by
  have hPlt : P < 4294967296 := by
    rw [IntKind.wrap_u32] at hP; omega
  have hw1 : IntKind.u64.wrap (P : Int) = (P : Int) := by rw [IntKind.wrap_u64]; omega
  have hs4 : s ≤ 4096 := by omega
  have hw2 : IntKind.u64.wrap (s : Int) = (s : Int) := by rw [IntKind.wrap_u64]; omega
  obtain ⟨y, hy⟩ : ∃ y, l.take s = y := ⟨_, rfl⟩
  have hyl : y.length = s := by rw [← hy, List.length_take]; omega
  have haty : BytesAt w a y := by rw [← hy]; exact bytesAt_takeF s hl
  obtain ⟨R, hR⟩ : ∃ R, shaF y = R := ⟨_, rfl⟩
  have hRl : R.length = 32 := by rw [← hR]; exact shaF_len y
  obtain ⟨H, hH⟩ : ∃ H, headF F.K R P false s F.turn = H := ⟨_, rfl⟩
  have hHl : H.length = 85 := by rw [← hH]; exact headF_len _ _ _ _ _ _ hK hRl
  obtain ⟨C, hC⟩ : ∃ C, crcF H = C := ⟨_, rfl⟩
  have hClt : C < 4294967296 := by rw [← hC]; unfold crcF; exact Nat.xor_lt_two_pow (n := 32) (by decide) (crcG_lt H)
  have hw3 : IntKind.u64.wrap (C : Int) = (C : Int) := by rw [IntKind.wrap_u64]; omega
  obtain ⟨L, hL⟩ : ∃ L, fragB F.K P false F.turn y = L := ⟨_, rfl⟩
  have hLe : L = (H ++ beN 4 C) ++ y := by rw [← hL, ← hC, ← hH, ← hR, ← hyl]; rfl
  rw [hy, hL]
  have HY := Lib.hid haty
  have HYL := Lib.hid hyl
  have HNIL := Lib.hid hnil
  have HK := Lib.hid hK
  have HSS := Lib.hid hS
  have HR := Lib.hid hR
  have HRL := Lib.hid hRl
  have HH := Lib.hid hH
  have HHL := Lib.hid hHl
  have HC := Lib.hid hC
  have HL := Lib.hid hLe
  have HLA := Lib.hid hlast
  obtain ⟨v1, hv1⟩ : ∃ v1, w.alloc (.cells (fragA F) 26) = v1 := ⟨_, rfl⟩
  have HV1 := Lib.hid hv1
  have hq1 : v1.heap[w.heap.size]? = some (.cells (fragA F) 26 (0, 0)) := by rw [← hv1]; exact heap_alloc_new w _
  have hs1 : Spares nowhere w v1 := by rw [← hv1]; exact (Spares.refl _ w).alloc _
  have HQ1 := Lib.hid hq1
  have HS1 := Lib.hid hs1
  obtain ⟨v2, hv2⟩ : ∃ v2, v1.alloc (.cells (Lib.byteCells [65, 77, 66, 82]).toArray 5 (4, 5)) = v2 := ⟨_, rfl⟩
  have HV2 := Lib.hid hv2
  have hs12 : Spares nowhere v1 v2 := by rw [← hv2]; exact (Spares.refl _ v1).alloc _
  have HB2 : Hid (BytesAt v2 (some ⟨v1.heap.size, 0, none⟩) [65, 77, 66, 82]) := Lib.hid (by rw [← hv2]; exact bytesAt_lit _)
  have HK2 := Lib.hid (frag_cells (hs12.heap hq1 (fun h => h)) hK hS).1
  have HQ2 := Lib.hid (hs12.heap hq1 (fun h => h))
  have HS2 := Lib.hid (hs1.trans hs12)
  have kc := fun (w : World) (C : Array Value) (n c : Nat) => Lib.run_convert_bytes_const (P := Tryd.prog) w 27 5 C n c Tryd.underlying27 Tryd.underlying5
  have ks := slice_key32
  have HSN : Hid (min n 4096 = s) := Lib.hid hs
  have HNN := Lib.hid hn
  clear hl hn hnil hK hS hlast hy hyl haty hR hRl hH hHl hC hL hLe hv1 hq1 hs1 hv2 hs12 hs
  go_enter Tryd.func12, Tryd.ntmps12
  by_cases hbig : 4096 < n
  · have i1 : (4096 : Int) < (n : Int) := by omega
    have hs1 : s = 4096 := by have := HSN.out; omega
    subst hs1
    have i2 : (4096 : Int) ≤ (c : Int) := by omega
    go_upto_region 3 with (fail)
    change Code.wp _ _ _ _ (w.alloc (.cells (fragA F) 26))
    rw [HV1.out]
    go_upto_region 4 with ((with_reducible show wpList _ _ _ (⟨some 17, _, _, _, _, _⟩ :: _) _ _); first
      | (change wpList _ _ _ _ _ (v1.alloc (.cells (Lib.byteCells [65, 77, 66, 82]).toArray 5 (4, 5))); rw [HV2.out]; obtain ⟨i0, hi, hz0, hz1, hz2⟩ := info_parts byteInfo; refine wpList_append_grows v2 rfl _ _ 27 rfl 5 i0 (.int .u8 0) 1 1 Tryd.underlying27 hi hz0 hz1 hz2 rfl (by decide) (some ⟨v1.heap.size, 0, none⟩) 4 4 (Lib.byteCells [65, 77, 66, 82]) rfl (fun e => by cases e) rfl (fun b hb => by injection hb with hb; subst hb; exact HB2.out.cells) ⟨w.heap.size, 0, none⟩ 32 32 (Lib.byteCells F.K) rfl (by rw [byteCells_len, HK.out]) HK2.out.cells (byteCells_one _) (by decide) (by decide) (by decide) ?_; intro u3 v3 hr3 hg3)
      | fail)
    have ho3 : OwnBytes v3 u3 ([65, 77, 66, 82] ++ F.K) := by
      have : Row8 v2.heap.size v3 u3 ([65, 77, 66, 82] ++ F.K) := by
        unfold Row8
        rw [byteCells_app, List.length_append, HK.out]
        exact hr3
      exact this.own
    have hb3 : ∀ g, u3.ownBlock = some g → w.heap.size ≤ g := fun g hg => Nat.le_trans HS2.out.size (hr3.lt g hg).1
    have hs23 : Spares nowhere v2 v3 := (Spares.refl _ v2).grown hg3 (fun k hk => by cases hk)
    have HO3 := Lib.hid ho3
    have HG3 := Lib.hid hb3
    have HQ3 := Lib.hid (hs23.heap HQ2.out (fun h => h))
    have HS3 := Lib.hid (HS2.out.trans hs23)
    have c3 := (frag_cells HQ3.out HK.out HSS.out).2.1
    clear hr3 hg3 ho3 hb3 hs23 HB2 HK2 HQ2 HS2 HV1 HV2 HQ1 HS1 kc
    -- part
    go_wp2_with fail
    refine (refPutG_any u3 _ P 4 v3 HO3.out (by omega) (by simp [HK.out])).mono ?_
    rintro e v4 ⟨u4, rfl, ho4, hs4, hb4⟩
    have HQ4 := Lib.hid (hs4.heap HQ3.out (own_ne HO3.out HQ3.out (by decide)))
    have HS4 := Lib.hid (HS3.out.trans' hs4 (fun b hb => .inr (HG3.out b hb)))
    have HG4 : Hid (∀ g, u4.ownBlock = some g → w.heap.size ≤ g) := Lib.hid (fun g hg => (hb4 g hg).elim (HG3.out g) (fun h => Nat.le_trans HS3.out.size h))
    have HO4 := Lib.hid ho4
    have c4 := (frag_cells HQ4.out HK.out HSS.out).2.2.1
    rw [HLA.out] at c4
    have HY4 := Lib.hid (HY.out.spares HS4.out (fun _ _ _ h => h))
    have HNS : Hid (a = none → 4096 = 0) := Lib.hid (fun e => by have := HNIL.out e; omega)
    clear ho4 hs4 hb4 c3 HO3 HG3 HQ3 HS3
    -- sum
    go_wp2_with fail
    refine (refSum_any a 4096 c y v4 HY4.out HYL.out.symm (by omega) HNIL.out).mono ?_
    rintro e v5 ⟨rfl, hs5⟩
    rw [HR.out]
    clear c4
    obtain ⟨q, hq⟩ : ∃ q, v5.heap.size = q := ⟨_, rfl⟩
    have hal : (v5.alloc (.cells (bytesV (List.replicate 32 0)) 22)).heap[q]? = some (.cells (bytesV (List.replicate 32 0)) 22 (0, 0)) := by rw [← hq]; exact heap_alloc_new v5 _
    have hgq : ((v5.alloc (.cells (bytesV (List.replicate 32 0)) 22)).setCells q 0 (Lib.byteCells R)).heap[q]? = some (.cells (bytesV R) 22 (0, 0)) := by
      have := heap_setCells (g := q) (t := 22) (Lib.byteCells R) [] (Lib.byteCells (List.replicate 32 0)) [] _ (by rw [List.append_nil]; exact hal) (by rw [byteCells_len, byteCells_len, HRL.out]; simp)
      rw [List.append_nil] at this
      exact this
    have htq := there_of hal 0 (bytesV R).size (by rw [bytesV_size, bytesV_size, HRL.out]; simp)
    have infoC : (Tryd.prog.info? 22).map (·.size) = some (bytesV R).size := by rw [bytesV_size, HRL.out]; exact infoR32
    obtain ⟨v6, hv6⟩ : ∃ v6, (v5.alloc (.cells (bytesV (List.replicate 32 0)) 22)).setCells q 0 (Lib.byteCells R) = v6 := ⟨_, rfl⟩
    have hs56 : Spares nowhere v5 v6 := by rw [← hv6]; exact ((Spares.refl nowhere v5).alloc _).trans' (spares_setCells (g := q) _ _ _ (Spares.refl _ _)) (fun b hb => .inr (by omega))
    rw [hv6] at hgq
    have hs46 := hs5.trans hs56
    have HV6 := Lib.hid hv6
    have HTQ := Lib.hid htq
    have HIC := Lib.hid infoC
    have HR6 := Lib.hid hgq
    have HQ6 := Lib.hid (hs46.heap HQ4.out (fun h => h))
    have HO6 := Lib.hid (HO4.out.spares hs46 (fun _ _ h => h))
    have HS6 := Lib.hid (HS4.out.trans hs46)
    clear hs5 hal hgq htq infoC hs56 hs46 hv6 HQ4 HO4 HS4 HY4
    go_upto_region 9 with ((with_reducible show wpList _ _ _ (⟨none, .store 22 _ _, _, _, _, _⟩ :: _) _ _); refine wpList_store_mid rfl 22 (.tmp 7) (.tmp 27) rfl q 0 (bytesV R) rfl rfl HTQ.out HIC.out (bytesV_one _) ?_)
    change Code.wp _ _ _ _ ((v5.alloc (.cells (bytesV (List.replicate 32 0)) 22)).setCells q 0 (Lib.byteCells R))
    rw [HV6.out]
    clear hq HV6 HTQ
    -- last and size
    have HB6 : Hid (BytesAt (v6.alloc (.cells #[.int .u8 ((UInt8.ofNat 0).toNat : Int)] 5)) (some ⟨v6.heap.size, 0, none⟩) [UInt8.ofNat 0]) := Lib.hid (byteOne_at v6 _)
    go_wp2_with ((with_reducible show wpList _ _ _ (⟨some 31, _, _, _, _, _⟩ :: _) _ _); first
      | (change wpList _ _ _ _ _ (v6.alloc (.cells #[.int .u8 ((UInt8.ofNat 0).toNat : Int)] 5)); refine wpList_append_bytes rfl _ _ rfl u4 _ rfl (HO6.out.spares (F := nowhere) ((Spares.refl _ _).alloc _) (fun _ _ h => h)) (some ⟨v6.heap.size, 0, none⟩) 1 [UInt8.ofNat 0] rfl HB6.out (fun e => by cases e) (by simp [HK.out, beN_len]) ?_; intro ao7 c7 v7 ho7 hg7 hf7; obtain ⟨u7, hu7⟩ : ∃ u : Value, Value.slice ao7 ((([65, 77, 66, 82] ++ F.K) ++ beN 4 P).length + ([UInt8.ofNat 0] : List UInt8).length) c7 = u := ⟨_, rfl⟩; rw [hu7] at ho7 hf7; rw [hu7]; clear hu7)
      | fail)
    have hs67 : Spares (fun b => u4.ownBlock = some b) v6 v7 := ((Spares.refl _ v6).alloc (.cells #[.int .u8 ((UInt8.ofNat 0).toNat : Int)] 5)).grown hg7 (fun g h => .inl h)
    have HQ7 := Lib.hid (hs67.heap HQ6.out (own_ne HO6.out HQ6.out (by decide)))
    have HR7 := Lib.hid (hs67.heap HR6.out (own_ne HO6.out HR6.out (by decide)))
    have HS7 := Lib.hid (HS6.out.trans' hs67 (fun b hb => .inr (HG4.out b hb)))
    have HG7 : Hid (∀ g, u7.ownBlock = some g → w.heap.size ≤ g) := Lib.hid (fun g hg => (hf7 g hg).elim (HG4.out g) (fun h => Nat.le_trans HS6.out.size (Nat.le_trans (by simp) h)))
    have HO7 := Lib.hid ho7
    clear ho7 hg7 hf7 hs67 HQ6 HR6 HO6 HS6 HG4 HB6
    refine (refPutG_any u7 _ 4096 4 v7 HO7.out (by omega) (by simp [HK.out, beN_len])).mono ?_
    rintro e v8 ⟨u8, rfl, ho8, hs8, hb8⟩
    have HQ8 := Lib.hid (hs8.heap HQ7.out (own_ne HO7.out HQ7.out (by decide)))
    have HR8 := Lib.hid (hs8.heap HR7.out (own_ne HO7.out HR7.out (by decide)))
    have HS8 := Lib.hid (HS7.out.trans' hs8 (fun b hb => .inr (HG7.out b hb)))
    have HG8 : Hid (∀ g, u8.ownBlock = some g → w.heap.size ≤ g) := Lib.hid (fun g hg => (hb8 g hg).elim (HG7.out g) (fun h => Nat.le_trans HS7.out.size h))
    have hd8 : Spares nowhere v8 v8.drew := (Spares.refl _ v8).drew
    have HO8 := Lib.hid (ho8.spares hd8 (fun _ _ h => h))
    have HB8 := Lib.hid (bytesV_at (hd8.heap HR8.out (fun h => h)))
    have hq8d := hd8.heap HQ8.out (fun h => h)
    have c8 := (frag_cells hq8d HK.out HSS.out).2.2.2.2.2
    have HK1 : Hid (∀ W, Spares (fun b => u8.ownBlock = some b) v8.drew W → W.cell? ⟨w.heap.size, 67, none⟩ = some (.int .u64 F.turn) ∧ W.heap[w.heap.size]? = some (.cells (fragA F) 26 (0, 0))) := Lib.hid (fun W hW => by
      have h := hW.heap hq8d (own_ne HO8.out hq8d (by decide))
      exact ⟨(frag_cells h HK.out HSS.out).2.2.2.2.2, h⟩)
    have HK2 : Hid (∀ (u : Value) (v : World) (d : List UInt8), OwnBytes v u d → v.heap[w.heap.size]? = some (.cells (fragA F) 26 (0, 0)) → ∀ W, Spares (fun b => u.ownBlock = some b) v W → W.cell? ⟨w.heap.size, 67, none⟩ = some (.int .u64 F.turn)) := Lib.hid (fun u v d ho hq W hW => (frag_cells (hW.heap hq (own_ne ho hq (by decide))) HK.out HSS.out).2.2.2.2.2)
    obtain ⟨D8, hD8⟩ : ∃ D, ((([65, 77, 66, 82] ++ F.K) ++ beN 4 P) ++ [UInt8.ofNat 0]) ++ beN 4 4096 = D := ⟨_, rfl⟩
    have hD8l : D8.length = 45 := by rw [← hD8]; simp [HK.out, beN_len]
    rw [hD8] at HO8
    have HH2 : Hid ((D8 ++ R) ++ beN 8 F.turn = H) := Lib.hid (by rw [← hD8, ← HH.out]; rfl)
    have HPUT : Hid (∀ u v, OwnBytes v u (D8 ++ R) → Calls Tryd.prog 27 #[u, .int .u64 F.turn, .int .i64 8] v (Grows u ((D8 ++ R) ++ beN 8 F.turn) v)) := Lib.hid (fun u v ho => refPutG_any u _ F.turn 8 v ho (by omega) (by simp [hD8l, HRL.out]))
    have k22 := slice_32
    have HD8L := Lib.hid hD8l
    clear ho8 hs8 hb8 hd8 hq8d hD8 hD8l HO7 HQ7 HR7 HS7 HG7 HR8 ks
    go_upto_region 10 with (fail)
    go_region_held3 (fun W => W.cell? ⟨w.heap.size, 67, none⟩ = some (.int .u64 F.turn))
      (first
        | exact c8
        | exact (HK1.out _ hs9).1
        | exact HK2.out u9 v9 _ ho9 (HK1.out _ hs9).2 _ hs10
        | fail)
      (first
        | (refine step_own_bytes (by rfl) (.tmp 36) (.tmp 37) (by rfl) u8 D8 (by rfl) HO8.out q 0 32 32 R (by rfl) HRL.out.symm HB8.out (by rw [HD8L.out, HRL.out]; omega) ?_; intro u9 v9 ho9 hs9 hb9)
        | (go_at_call 27; (with_reducible refine Calls.mono (HPUT.out u9 v9 ho9) ?_); rintro e v10 ⟨u10, rfl, ho10, hs10, hb10⟩)
        | fail)
    rw [HH2.out] at ho10
    have hq10 := hs10.heap (HK1.out _ hs9).2 (own_ne ho9 (HK1.out _ hs9).2 (by decide))
    have hs810 : Spares nowhere w v10 := ((HS8.out.drew).trans' hs9 (fun b hb => .inr (HG8.out b hb))).trans' hs10 (fun b hb => .inr ((hb9 b hb).elim (HG8.out b) (fun h => Nat.le_trans HS8.out.size h)))
    have HG10 : Hid (∀ g, u10.ownBlock = some g → w.heap.size ≤ g) := Lib.hid (fun g hg => (hb10 g hg).elim (fun h => (hb9 g h).elim (HG8.out g) (fun h => Nat.le_trans HS8.out.size h)) (fun h => Nat.le_trans (Nat.le_trans HS8.out.size hs9.size) h))
    have HS10 := Lib.hid hs810
    obtain ⟨a10, cc10, hu10, hat10, hn10, hcc10⟩ := Row8.shape (B := 0) (show Row8 0 v10 u10 H from ho10)
    rw [HHL.out] at hu10 hcc10
    subst hu10
    have HO10 := Lib.hid ho10
    have HCRC := Lib.hid (refCrc_at H a10 85 cc10 v10 hat10 HHL.out.symm (by rw [HHL.out]; omega))
    have HY10 := Lib.hid (HY.out.spares HS10.out (fun _ _ _ h => h))
    clear hq10 hs810 hat10 hn10 hs9 hs10 hb9 hb10 ho9 ho10 HK1 HK2 HPUT HO8 HB8 HG8 HS8 c8 k22
    go_wp2_with fail
    refine HCRC.out.mono ?_
    rw [HC.out]
    rintro e v10' ⟨rfl, hv10⟩
    rw [hv10]
    clear HCRC hv10
    go_wp2_with fail
    refine (refPutG_any _ H C 4 v10 HO10.out (by omega) (by rw [HHL.out]; omega)).mono ?_
    rintro e v11 ⟨u11, rfl, ho11, hs11, hb11⟩
    have HS11 := Lib.hid (HS10.out.trans' hs11 (fun b hb => .inr (HG10.out b hb)))
    have HG11 : Hid (∀ g, u11.ownBlock = some g → w.heap.size ≤ g) := Lib.hid (fun g hg => (hb11 g hg).elim (HG10.out g) (fun h => Nat.le_trans HS10.out.size h))
    have HY11 := Lib.hid (HY.out.spares HS11.out (fun _ _ _ h => h))
    have HO11 := Lib.hid ho11
    have HLN : Hid ((H ++ beN 4 C).length + y.length = L.length) := Lib.hid (by rw [HL.out]; exact List.length_append.symm)
    clear ho11 hs11 hb11 HO10 HG10 HS10 HY10
    go_wp2_with ((with_reducible show wpList _ _ _ (⟨some 49, _, _, _, _, _⟩ :: _) _ _); refine wpList_append_bytes rfl _ _ rfl u11 _ rfl HO11.out a c y (by rw [HYL.out]; rfl) HY11.out HNIL.out (by rw [List.length_append, HHL.out, beN_len, HYL.out]; omega) ?_; intro ao12 c12 v12 ho12 hg12 hf12; rw [HLN.out] at ho12 hf12; rw [HLN.out, ← HL.out] at *; obtain ⟨N, hN⟩ : ∃ N, L.length = N := ⟨_, rfl⟩; rw [hN] at ho12 hf12; rw [hN]; have HNL := Lib.hid hN; clear hN)
    go_ret
    refine ⟨ao12, c12, by rw [HNL.out]; rfl, by rw [HNL.out]; exact ho12, HS11.out.trans' ((Spares.refl (fun b => u11.ownBlock = some b) v11).grown hg12 (fun g h => .inl h)) (fun b hb => .inr (HG11.out b hb)), fun g hg => ?_⟩
    rw [HNL.out] at hg
    exact (hf12 g hg).elim (HG11.out g) (fun h => Nat.le_trans HS11.out.size h)
  · have i1 : ¬ (4096 : Int) < (n : Int) := by omega
    have hs1 : s = n := by have := HSN.out; omega
    subst hs1
    go_upto_region 3 with (fail)
    change Code.wp _ _ _ _ (w.alloc (.cells (fragA F) 26))
    rw [HV1.out]
    go_upto_region 4 with ((with_reducible show wpList _ _ _ (⟨some 17, _, _, _, _, _⟩ :: _) _ _); first
      | (change wpList _ _ _ _ _ (v1.alloc (.cells (Lib.byteCells [65, 77, 66, 82]).toArray 5 (4, 5))); rw [HV2.out]; obtain ⟨i0, hi, hz0, hz1, hz2⟩ := info_parts byteInfo; refine wpList_append_grows v2 rfl _ _ 27 rfl 5 i0 (.int .u8 0) 1 1 Tryd.underlying27 hi hz0 hz1 hz2 rfl (by decide) (some ⟨v1.heap.size, 0, none⟩) 4 4 (Lib.byteCells [65, 77, 66, 82]) rfl (fun e => by cases e) rfl (fun b hb => by injection hb with hb; subst hb; exact HB2.out.cells) ⟨w.heap.size, 0, none⟩ 32 32 (Lib.byteCells F.K) rfl (by rw [byteCells_len, HK.out]) HK2.out.cells (byteCells_one _) (by decide) (by decide) (by decide) ?_; intro u3 v3 hr3 hg3)
      | fail)
    have ho3 : OwnBytes v3 u3 ([65, 77, 66, 82] ++ F.K) := by
      have : Row8 v2.heap.size v3 u3 ([65, 77, 66, 82] ++ F.K) := by
        unfold Row8
        rw [byteCells_app, List.length_append, HK.out]
        exact hr3
      exact this.own
    have hb3 : ∀ g, u3.ownBlock = some g → w.heap.size ≤ g := fun g hg => Nat.le_trans HS2.out.size (hr3.lt g hg).1
    have hs23 : Spares nowhere v2 v3 := (Spares.refl _ v2).grown hg3 (fun k hk => by cases hk)
    have HO3 := Lib.hid ho3
    have HG3 := Lib.hid hb3
    have HQ3 := Lib.hid (hs23.heap HQ2.out (fun h => h))
    have HS3 := Lib.hid (HS2.out.trans hs23)
    have c3 := (frag_cells HQ3.out HK.out HSS.out).2.1
    clear hr3 hg3 ho3 hb3 hs23 HB2 HK2 HQ2 HS2 HV1 HV2 HQ1 HS1 kc
    -- part
    go_wp2_with fail
    refine (refPutG_any u3 _ P 4 v3 HO3.out (by omega) (by simp [HK.out])).mono ?_
    rintro e v4 ⟨u4, rfl, ho4, hs4, hb4⟩
    have HQ4 := Lib.hid (hs4.heap HQ3.out (own_ne HO3.out HQ3.out (by decide)))
    have HS4 := Lib.hid (HS3.out.trans' hs4 (fun b hb => .inr (HG3.out b hb)))
    have HG4 : Hid (∀ g, u4.ownBlock = some g → w.heap.size ≤ g) := Lib.hid (fun g hg => (hb4 g hg).elim (HG3.out g) (fun h => Nat.le_trans HS3.out.size h))
    have HO4 := Lib.hid ho4
    have c4 := (frag_cells HQ4.out HK.out HSS.out).2.2.1
    rw [HLA.out] at c4
    have HY4 := Lib.hid (HY.out.spares HS4.out (fun _ _ _ h => h))
    have HNS : Hid (a = none → s = 0) := Lib.hid (fun e => by have := HNIL.out e; omega)
    clear ho4 hs4 hb4 c3 HO3 HG3 HQ3 HS3
    -- sum
    go_wp2_with fail
    refine (refSum_any a s c y v4 HY4.out HYL.out.symm (by omega) HNIL.out).mono ?_
    rintro e v5 ⟨rfl, hs5⟩
    rw [HR.out]
    clear c4
    obtain ⟨q, hq⟩ : ∃ q, v5.heap.size = q := ⟨_, rfl⟩
    have hal : (v5.alloc (.cells (bytesV (List.replicate 32 0)) 22)).heap[q]? = some (.cells (bytesV (List.replicate 32 0)) 22 (0, 0)) := by rw [← hq]; exact heap_alloc_new v5 _
    have hgq : ((v5.alloc (.cells (bytesV (List.replicate 32 0)) 22)).setCells q 0 (Lib.byteCells R)).heap[q]? = some (.cells (bytesV R) 22 (0, 0)) := by
      have := heap_setCells (g := q) (t := 22) (Lib.byteCells R) [] (Lib.byteCells (List.replicate 32 0)) [] _ (by rw [List.append_nil]; exact hal) (by rw [byteCells_len, byteCells_len, HRL.out]; simp)
      rw [List.append_nil] at this
      exact this
    have htq := there_of hal 0 (bytesV R).size (by rw [bytesV_size, bytesV_size, HRL.out]; simp)
    have infoC : (Tryd.prog.info? 22).map (·.size) = some (bytesV R).size := by rw [bytesV_size, HRL.out]; exact infoR32
    obtain ⟨v6, hv6⟩ : ∃ v6, (v5.alloc (.cells (bytesV (List.replicate 32 0)) 22)).setCells q 0 (Lib.byteCells R) = v6 := ⟨_, rfl⟩
    have hs56 : Spares nowhere v5 v6 := by rw [← hv6]; exact ((Spares.refl nowhere v5).alloc _).trans' (spares_setCells (g := q) _ _ _ (Spares.refl _ _)) (fun b hb => .inr (by omega))
    rw [hv6] at hgq
    have hs46 := hs5.trans hs56
    have HV6 := Lib.hid hv6
    have HTQ := Lib.hid htq
    have HIC := Lib.hid infoC
    have HR6 := Lib.hid hgq
    have HQ6 := Lib.hid (hs46.heap HQ4.out (fun h => h))
    have HO6 := Lib.hid (HO4.out.spares hs46 (fun _ _ h => h))
    have HS6 := Lib.hid (HS4.out.trans hs46)
    clear hs5 hal hgq htq infoC hs56 hs46 hv6 HQ4 HO4 HS4 HY4
    go_upto_region 9 with ((with_reducible show wpList _ _ _ (⟨none, .store 22 _ _, _, _, _, _⟩ :: _) _ _); refine wpList_store_mid rfl 22 (.tmp 7) (.tmp 27) rfl q 0 (bytesV R) rfl rfl HTQ.out HIC.out (bytesV_one _) ?_)
    change Code.wp _ _ _ _ ((v5.alloc (.cells (bytesV (List.replicate 32 0)) 22)).setCells q 0 (Lib.byteCells R))
    rw [HV6.out]
    clear hq HV6 HTQ
    -- last and size
    have HB6 : Hid (BytesAt (v6.alloc (.cells #[.int .u8 ((UInt8.ofNat 0).toNat : Int)] 5)) (some ⟨v6.heap.size, 0, none⟩) [UInt8.ofNat 0]) := Lib.hid (byteOne_at v6 _)
    go_wp2_with ((with_reducible show wpList _ _ _ (⟨some 31, _, _, _, _, _⟩ :: _) _ _); first
      | (change wpList _ _ _ _ _ (v6.alloc (.cells #[.int .u8 ((UInt8.ofNat 0).toNat : Int)] 5)); refine wpList_append_bytes rfl _ _ rfl u4 _ rfl (HO6.out.spares (F := nowhere) ((Spares.refl _ _).alloc _) (fun _ _ h => h)) (some ⟨v6.heap.size, 0, none⟩) 1 [UInt8.ofNat 0] rfl HB6.out (fun e => by cases e) (by simp [HK.out, beN_len]) ?_; intro ao7 c7 v7 ho7 hg7 hf7; obtain ⟨u7, hu7⟩ : ∃ u : Value, Value.slice ao7 ((([65, 77, 66, 82] ++ F.K) ++ beN 4 P).length + ([UInt8.ofNat 0] : List UInt8).length) c7 = u := ⟨_, rfl⟩; rw [hu7] at ho7 hf7; rw [hu7]; clear hu7)
      | fail)
    have hs67 : Spares (fun b => u4.ownBlock = some b) v6 v7 := ((Spares.refl _ v6).alloc (.cells #[.int .u8 ((UInt8.ofNat 0).toNat : Int)] 5)).grown hg7 (fun g h => .inl h)
    have HQ7 := Lib.hid (hs67.heap HQ6.out (own_ne HO6.out HQ6.out (by decide)))
    have HR7 := Lib.hid (hs67.heap HR6.out (own_ne HO6.out HR6.out (by decide)))
    have HS7 := Lib.hid (HS6.out.trans' hs67 (fun b hb => .inr (HG4.out b hb)))
    have HG7 : Hid (∀ g, u7.ownBlock = some g → w.heap.size ≤ g) := Lib.hid (fun g hg => (hf7 g hg).elim (HG4.out g) (fun h => Nat.le_trans HS6.out.size (Nat.le_trans (by simp) h)))
    have HO7 := Lib.hid ho7
    clear ho7 hg7 hf7 hs67 HQ6 HR6 HO6 HS6 HG4 HB6
    refine (refPutG_any u7 _ s 4 v7 HO7.out (by omega) (by simp [HK.out, beN_len])).mono ?_
    rintro e v8 ⟨u8, rfl, ho8, hs8, hb8⟩
    have HQ8 := Lib.hid (hs8.heap HQ7.out (own_ne HO7.out HQ7.out (by decide)))
    have HR8 := Lib.hid (hs8.heap HR7.out (own_ne HO7.out HR7.out (by decide)))
    have HS8 := Lib.hid (HS7.out.trans' hs8 (fun b hb => .inr (HG7.out b hb)))
    have HG8 : Hid (∀ g, u8.ownBlock = some g → w.heap.size ≤ g) := Lib.hid (fun g hg => (hb8 g hg).elim (HG7.out g) (fun h => Nat.le_trans HS7.out.size h))
    have hd8 : Spares nowhere v8 v8.drew := (Spares.refl _ v8).drew
    have HO8 := Lib.hid (ho8.spares hd8 (fun _ _ h => h))
    have HB8 := Lib.hid (bytesV_at (hd8.heap HR8.out (fun h => h)))
    have hq8d := hd8.heap HQ8.out (fun h => h)
    have c8 := (frag_cells hq8d HK.out HSS.out).2.2.2.2.2
    have HK1 : Hid (∀ W, Spares (fun b => u8.ownBlock = some b) v8.drew W → W.cell? ⟨w.heap.size, 67, none⟩ = some (.int .u64 F.turn) ∧ W.heap[w.heap.size]? = some (.cells (fragA F) 26 (0, 0))) := Lib.hid (fun W hW => by
      have h := hW.heap hq8d (own_ne HO8.out hq8d (by decide))
      exact ⟨(frag_cells h HK.out HSS.out).2.2.2.2.2, h⟩)
    have HK2 : Hid (∀ (u : Value) (v : World) (d : List UInt8), OwnBytes v u d → v.heap[w.heap.size]? = some (.cells (fragA F) 26 (0, 0)) → ∀ W, Spares (fun b => u.ownBlock = some b) v W → W.cell? ⟨w.heap.size, 67, none⟩ = some (.int .u64 F.turn)) := Lib.hid (fun u v d ho hq W hW => (frag_cells (hW.heap hq (own_ne ho hq (by decide))) HK.out HSS.out).2.2.2.2.2)
    obtain ⟨D8, hD8⟩ : ∃ D, ((([65, 77, 66, 82] ++ F.K) ++ beN 4 P) ++ [UInt8.ofNat 0]) ++ beN 4 s = D := ⟨_, rfl⟩
    have hD8l : D8.length = 45 := by rw [← hD8]; simp [HK.out, beN_len]
    rw [hD8] at HO8
    have HH2 : Hid ((D8 ++ R) ++ beN 8 F.turn = H) := Lib.hid (by rw [← hD8, ← HH.out]; rfl)
    have HPUT : Hid (∀ u v, OwnBytes v u (D8 ++ R) → Calls Tryd.prog 27 #[u, .int .u64 F.turn, .int .i64 8] v (Grows u ((D8 ++ R) ++ beN 8 F.turn) v)) := Lib.hid (fun u v ho => refPutG_any u _ F.turn 8 v ho (by omega) (by simp [hD8l, HRL.out]))
    have k22 := slice_32
    have HD8L := Lib.hid hD8l
    clear ho8 hs8 hb8 hd8 hq8d hD8 hD8l HO7 HQ7 HR7 HS7 HG7 HR8 ks
    go_upto_region 10 with (fail)
    go_region_held3 (fun W => W.cell? ⟨w.heap.size, 67, none⟩ = some (.int .u64 F.turn))
      (first
        | exact c8
        | exact (HK1.out _ hs9).1
        | exact HK2.out u9 v9 _ ho9 (HK1.out _ hs9).2 _ hs10
        | fail)
      (first
        | (refine step_own_bytes (by rfl) (.tmp 36) (.tmp 37) (by rfl) u8 D8 (by rfl) HO8.out q 0 32 32 R (by rfl) HRL.out.symm HB8.out (by rw [HD8L.out, HRL.out]; omega) ?_; intro u9 v9 ho9 hs9 hb9)
        | (go_at_call 27; (with_reducible refine Calls.mono (HPUT.out u9 v9 ho9) ?_); rintro e v10 ⟨u10, rfl, ho10, hs10, hb10⟩)
        | fail)
    rw [HH2.out] at ho10
    have hq10 := hs10.heap (HK1.out _ hs9).2 (own_ne ho9 (HK1.out _ hs9).2 (by decide))
    have hs810 : Spares nowhere w v10 := ((HS8.out.drew).trans' hs9 (fun b hb => .inr (HG8.out b hb))).trans' hs10 (fun b hb => .inr ((hb9 b hb).elim (HG8.out b) (fun h => Nat.le_trans HS8.out.size h)))
    have HG10 : Hid (∀ g, u10.ownBlock = some g → w.heap.size ≤ g) := Lib.hid (fun g hg => (hb10 g hg).elim (fun h => (hb9 g h).elim (HG8.out g) (fun h => Nat.le_trans HS8.out.size h)) (fun h => Nat.le_trans (Nat.le_trans HS8.out.size hs9.size) h))
    have HS10 := Lib.hid hs810
    obtain ⟨a10, cc10, hu10, hat10, hn10, hcc10⟩ := Row8.shape (B := 0) (show Row8 0 v10 u10 H from ho10)
    rw [HHL.out] at hu10 hcc10
    subst hu10
    have HO10 := Lib.hid ho10
    have HCRC := Lib.hid (refCrc_at H a10 85 cc10 v10 hat10 HHL.out.symm (by rw [HHL.out]; omega))
    have HY10 := Lib.hid (HY.out.spares HS10.out (fun _ _ _ h => h))
    clear hq10 hs810 hat10 hn10 hs9 hs10 hb9 hb10 ho9 ho10 HK1 HK2 HPUT HO8 HB8 HG8 HS8 c8 k22
    go_wp2_with fail
    refine HCRC.out.mono ?_
    rw [HC.out]
    rintro e v10' ⟨rfl, hv10⟩
    rw [hv10]
    clear HCRC hv10
    go_wp2_with fail
    refine (refPutG_any _ H C 4 v10 HO10.out (by omega) (by rw [HHL.out]; omega)).mono ?_
    rintro e v11 ⟨u11, rfl, ho11, hs11, hb11⟩
    have HS11 := Lib.hid (HS10.out.trans' hs11 (fun b hb => .inr (HG10.out b hb)))
    have HG11 : Hid (∀ g, u11.ownBlock = some g → w.heap.size ≤ g) := Lib.hid (fun g hg => (hb11 g hg).elim (HG10.out g) (fun h => Nat.le_trans HS10.out.size h))
    have HY11 := Lib.hid (HY.out.spares HS11.out (fun _ _ _ h => h))
    have HO11 := Lib.hid ho11
    have HLN : Hid ((H ++ beN 4 C).length + y.length = L.length) := Lib.hid (by rw [HL.out]; exact List.length_append.symm)
    clear ho11 hs11 hb11 HO10 HG10 HS10 HY10
    go_wp2_with ((with_reducible show wpList _ _ _ (⟨some 49, _, _, _, _, _⟩ :: _) _ _); refine wpList_append_bytes rfl _ _ rfl u11 _ rfl HO11.out a c y (by rw [HYL.out]; rfl) HY11.out HNIL.out (by rw [List.length_append, HHL.out, beN_len, HYL.out]; omega) ?_; intro ao12 c12 v12 ho12 hg12 hf12; rw [HLN.out] at ho12 hf12; rw [HLN.out, ← HL.out] at *; obtain ⟨N, hN⟩ : ∃ N, L.length = N := ⟨_, rfl⟩; rw [hN] at ho12 hf12; rw [hN]; have HNL := Lib.hid hN; clear hN)
    go_ret
    refine ⟨ao12, c12, by rw [HNL.out]; rfl, by rw [HNL.out]; exact ho12, HS11.out.trans' ((Spares.refl (fun b => u11.ownBlock = some b) v11).grown hg12 (fun g h => .inl h)) (fun b hb => .inr (HG11.out b hb)), fun g hg => ?_⟩
    rw [HNL.out] at hg
    exact (hf12 g hg).elim (HG11.out g) (fun h => Nat.le_trans HS11.out.size h)


theorem refFrag_any (F : FragD) (P s : Nat) (a : Option Addr) (n c : Nat) (l : List UInt8) (w : World) (hl : BytesAt w a l) (hn : n = l.length) (hnil : a = none → c = 0) (hnc : n ≤ c) (hmax : n ≤ 70368744177664)
    (hK : F.K.length = 32) (hS : F.S.length = 32) (hP : IntKind.u32.wrap F.part = (P : Int)) (hs : min n 4096 = s) :
    Calls Tryd.prog 12 #[.agg (fragA F), .slice a n c] w (FragPost (fragB F.K P F.last F.turn (l.take s)) w) := by
  cases h : F.last with
  | true => exact refFrag_true F P s a n c l w hl hn hnil hnc hmax hK hS hP hs h
  | false => exact refFrag_false F P s a n c l w hl hn hnil hnc hmax hK hS hP hs h
end Go.Proofs.YtimpnnhadjfijaaDoor
