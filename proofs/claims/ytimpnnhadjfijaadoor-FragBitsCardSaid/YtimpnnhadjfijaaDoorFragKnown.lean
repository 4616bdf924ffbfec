/-
  The laws' first test.
-/
import Derived.Test.YtimpnnhadjfijaaDoorFragRound
namespace Go.Proofs.YtimpnnhadjfijaaDoor
open Go.RowKit CrcMath

def Knows (w : World) (e : Ending) (w' : World) : Prop := e = .returned (.bool true) ∧ Spares nowhere w w'
theorem oeV_known : oeV (entryF 7 9 2 9223372036854775812) = .tuple #[entryV 7 9 2 4, .int .i64 0] := by
  have e : okE (entryF 7 9 2 9223372036854775812) = true := by decide +kernel
  have e1 : tagE (entryF 7 9 2 9223372036854775812) = 7 := by decide +kernel
  have e2 : atE (entryF 7 9 2 9223372036854775812) = 9 := by decide +kernel
  have e3 : secE (entryF 7 9 2 9223372036854775812) = 2 := by decide +kernel
  have e4 : rawE (entryF 7 9 2 9223372036854775812) % 9223372036854775808 = 4 := by decide +kernel
  unfold oeV
  rw [if_pos e, e1, e2, e3, e4]
/-- A fragment's head is laid into a new variable. -/
theorem frag_new {w : World} {G : FragD} (hK : G.K.length = 32) (hS : G.S.length = 32) :
    (w.alloc (.cells (fragA zeroD) 26)).there w.heap.size 0 (fragA G).size ∧ ((w.alloc (.cells (fragA zeroD) 26)).setCells w.heap.size 0 (fragA G).toList).heap[w.heap.size]? = some (.cells (fragA G) 26 (0, 0)) ∧
      Spares nowhere w ((w.alloc (.cells (fragA zeroD) 26)).setCells w.heap.size 0 (fragA G).toList) := by
  obtain ⟨h1, h2, h3⟩ := frag_stored (G := G) (heap_alloc_new w (.cells (fragA zeroD) 26)) rfl rfl hK hS
  exact ⟨h1, h2, ((Spares.refl nowhere w).alloc _).trans' h3 (fun b hb => .inr (Nat.le_of_eq hb.symm))⟩

set_option maxRecDepth 100000 in
set_option maxHeartbeats 4000000 in
theorem known_any (w : World) (hT : Steps w) : Calls Tryd.prog 9 #[] w (Knows w) := by
  have kc := fun (w : World) (C : Array Value) (n c : Nat) => Lib.run_convert_bytes_const (P := Tryd.prog) w 27 5 C n c Tryd.underlying27 Tryd.underlying5
  obtain ⟨v1, hv1⟩ : ∃ v1, w.alloc (.cells (Lib.byteCells [104, 105]).toArray 5 (2, 3)) = v1 := ⟨_, rfl⟩
  have HV1 := Lib.hid hv1
  have hs1 : Spares nowhere w v1 := by rw [← hv1]; exact (Spares.refl _ w).alloc _
  have hb1 : BytesAt v1 (some ⟨w.heap.size, 0, none⟩) [104, 105] := by rw [← hv1]; exact bytesAt_lit _
  have HF := Lib.hid (frag_any { zeroD with part := 3, turn := 5 } 3 2 (some ⟨w.heap.size, 0, none⟩) 2 2 [104, 105] v1 (hT.spares hs1 (fun h => h)) hb1 rfl (fun e => by cases e) (by omega) (by omega) rfl rfl (by decide) rfl)
  have HT := Lib.hid hT
  have HS1 := Lib.hid hs1
  have HR := Lib.hid (round (K := List.replicate 32 0) (P := 3) (last := false) (turn := 5) (body := [104, 105]) (X := []) rfl (by omega) (by omega) (by simp))
  obtain ⟨L, hL⟩ : ∃ L, fragB (List.replicate 32 0) 3 false 5 [104, 105] = L := ⟨_, rfl⟩
  have hLl : L.length = 91 := by rw [← hL, fragB_len _ _ _ _ _ rfl]; rfl
  rw [List.append_nil, hL] at HR
  have HF2 : Hid (Calls Tryd.prog 10 #[.agg (fragA { zeroD with part := 3, turn := 5 }), .slice (some ⟨w.heap.size, 0, none⟩) 2 2] v1 (FragPost L v1)) := Lib.hid (by rw [← hL]; exact HF.out)
  clear hv1 hs1 hb1 hT HF hL
  go_enter Tryd.func9, Tryd.ntmps9
  go_wp2_with fail
  change Calls _ _ #[.agg (fragA { zeroD with part := 3, turn := 5 }), .slice (some ⟨w.heap.size, 0, none⟩) 2 2] (w.alloc (.cells (Lib.byteCells [104, 105]).toArray 5 (2, 3))) _
  rw [HV1.out]
  refine HF2.out.mono ?_
  rintro e v2 ⟨a2, c2, rfl, ho2, hs2, _⟩
  rw [hLl] at ho2
  rw [hLl]
  obtain ⟨_, _, e2, hat2, hn2, hc2⟩ := Row8.shape (B := 0) (show Row8 0 v2 _ L from ho2)
  injection e2 with e21 e22 e23
  subst e21; subst e23
  rw [hLl] at hc2
  have HS2 := Lib.hid (HS1.out.trans hs2)
  have HO := Lib.hid (openFrag_any a2 91 c2 L v2 (HT.out.spares HS2.out (fun h => h)) hat2 hLl.symm hc2 (by omega))
  clear ho2 hs2 e22 hat2 HF2
  go_wp2_with fail
  refine HO.out.mono ?_
  rintro e v3 ⟨a3, c3, rfl, hb3, _, hs3⟩
  have HS3 := Lib.hid (HS2.out.trans hs3)
  rw [HR.out.1, HR.out.2.1, HR.out.2.2]
  rw [HR.out.2.1] at hb3
  obtain ⟨D, hD⟩ : ∃ D : FragD, ({ K := List.replicate 32 0, part := ((3 : Nat) : Int), last := false, size := (([104, 105] : List UInt8).length : Int), S := shaF [104, 105], turn := 5 } : FragD) = D := ⟨_, rfl⟩
  rw [hD]
  have hDK : D.K.length = 32 := by rw [← hD]; rfl
  have hDS : D.S.length = 32 := by rw [← hD]; exact shaF_len _
  have hD1 : D.part = 3 := by rw [← hD]; rfl
  have hD2 : D.size = 2 := by rw [← hD]; rfl
  have hD3 : D.turn = 5 := by rw [← hD]
  obtain ⟨h1, h2, h3⟩ := frag_new (w := v3) hDK hDS
  obtain ⟨q, hq⟩ : ∃ q, v3.heap.size = q := ⟨_, rfl⟩
  obtain ⟨v4, hv4⟩ : ∃ v4, (v3.alloc (.cells (fragA zeroD) 26)).setCells q 0 (fragA D).toList = v4 := ⟨_, rfl⟩
  rw [hq] at h1 h2 h3
  rw [hv4] at h2 h3
  have HQ := Lib.hid hq
  have HV4 := Lib.hid hv4
  have HT4 := Lib.hid h1
  have HG4 := Lib.hid h2
  have HS4 := Lib.hid (HS3.out.trans h3)
  have HB4 := Lib.hid (hb3.spares h3 (fun _ _ _ h => h))
  have HI := Lib.hid (sizeFrag D hDK hDS)
  clear hb3 hs3 h1 h2 h3 hv4 hD HO HR
  go_upto_region 3 with ((with_reducible show wpList _ _ _ (⟨none, .store 26 _ _, _, _, _, _⟩ :: _) _ _); refine wpList_store_mid rfl 26 (.tmp 2) (.tmp 17) rfl q 0 (fragA D) rfl rfl HT4.out HI.out (fragA_one _) ?_)
  change Code.wp _ _ _ _ ((v3.alloc (.cells (fragA zeroD) 26)).setCells q 0 (fragA D).toList)
  rw [HV4.out]
  clear hq HT4 HV4 HQ
  go_wp2_with fail
  refine (openFrag_any none 0 0 [] v4 (HT.out.spares HS4.out (fun h => h)) (bytesAt_nil _ _) rfl (by omega) (by omega)).mono ?_
  rintro e v5 ⟨a5, c5, rfl, _, _, hs5⟩
  rw [show openD [] = zeroD from rfl, show openP [] = [] from rfl, show openE [] = 40 from rfl]
  obtain ⟨h1, h2, h3⟩ := frag_new (w := v5) (G := zeroD) rfl rfl
  obtain ⟨q5, hq5⟩ : ∃ q, v5.heap.size = q := ⟨_, rfl⟩
  obtain ⟨v6, hv6⟩ : ∃ v6, (v5.alloc (.cells (fragA zeroD) 26)).setCells q5 0 (fragA zeroD).toList = v6 := ⟨_, rfl⟩
  rw [hq5] at h1 h3
  rw [hv6] at h3
  have HV6 := Lib.hid hv6
  have HT6 := Lib.hid h1
  have HI6 := Lib.hid (sizeFrag zeroD rfl rfl)
  have HG6 := Lib.hid (h3.heap (hs5.heap HG4.out (fun h => h)) (fun h => h))
  have HS6 := Lib.hid ((HS4.out.trans hs5).trans h3)
  have HB6 := Lib.hid ((HB4.out.spares hs5 (fun _ _ _ h => h)).spares h3 (fun _ _ _ h => h))
  clear hs5 h1 h2 h3 hv6 HG4 HS4 HB4
  go_upto_region 4 with ((with_reducible show wpList _ _ _ (⟨none, .store 26 _ _, _, _, _, _⟩ :: _) _ _); refine wpList_store_mid rfl 26 (.tmp 5) (.tmp 22) rfl q5 0 (fragA zeroD) rfl rfl HT6.out HI6.out (fragA_one _) ?_)
  change Code.wp _ _ _ _ ((v5.alloc (.cells (fragA zeroD) 26)).setCells q5 0 (fragA zeroD).toList)
  rw [HV6.out]
  clear hq5 HT6 HV6
  go_wp2_with fail
  refine (entry_any 7 9 2 4 7 9223372036854775812 v6 (by decide +kernel) (by decide +kernel) (by omega) (by omega) (by omega) (by omega)).mono ?_
  rintro e v7 ⟨rfl, hs7⟩
  obtain ⟨E, hE⟩ : ∃ E, entryF 7 9 2 9223372036854775812 = E := ⟨_, rfl⟩
  rw [hE]
  have hEl : E.length = 16 := by rw [← hE]; exact entryF_len ..
  have hov : oeV E = .tuple #[entryV 7 9 2 4, .int .i64 0] := by rw [← hE]; exact oeV_known
  have HEV := Lib.hid hov
  have HG7 := Lib.hid (hs7.heap HG6.out (fun h => h))
  have HS7 := Lib.hid (HS6.out.trans hs7)
  have HB7 := Lib.hid (HB6.out.spares hs7 (fun _ _ _ h => h))
  clear hE hs7 hov HG6 HS6 HB6
  go_wp2_with fail
  refine (openEntry_any E v7 hEl).mono ?_
  rintro e v8 ⟨rfl, hs8⟩
  rw [HEV.out]
  unfold entryV
  have hg8 := hs8.heap HG7.out (fun h => h)
  have HS8 := Lib.hid (HS7.out.trans hs8)
  have hal : Spares nowhere v8 (v8.alloc (.cells #[.int .u16 ((7 : Nat) : Int), .int .u32 ((9 : Nat) : Int), .int .u16 ((2 : Nat) : Int), .int .u64 ((4 : Nat) : Int)] 44)) := (Spares.refl _ _).alloc _
  have hg9 := hal.heap hg8 (fun h => h)
  obtain ⟨_, k1, _, k2, _, k3⟩ := frag_cells hg9 hDK hDS
  rw [hD1] at k1
  rw [hD2] at k2
  rw [hD3] at k3
  have hb9 := (HB7.out.spares hs8 (fun _ _ _ h => h)).spares hal (fun _ _ _ h => h)
  have hs9 := HS8.out.trans hal
  have hn9 := heap_alloc_new v8 (.cells #[.int .u16 ((7 : Nat) : Int), .int .u32 ((9 : Nat) : Int), .int .u16 ((2 : Nat) : Int), .int .u64 ((4 : Nat) : Int)] 44)
  obtain ⟨g9, hg⟩ : ∃ g, v8.heap.size = g := ⟨_, rfl⟩
  obtain ⟨v9, hv9⟩ : ∃ v9, v8.alloc (.cells #[.int .u16 ((7 : Nat) : Int), .int .u32 ((9 : Nat) : Int), .int .u16 ((2 : Nat) : Int), .int .u64 ((4 : Nat) : Int)] 44) = v9 := ⟨_, rfl⟩
  rw [hv9] at k1 k2 k3 hb9 hs9 hn9
  rw [hg] at hn9
  have HV9 := Lib.hid hv9
  have HS9 := Lib.hid hs9
  have hcv : (convert 27 9 (.slice a3 2 c3)).run Tryd.prog v9 = .ok (.string ⟨#[104, 105]⟩) v9 := conv_bytes hb9 c3
  have e0 : v9.cell? ⟨g9, 0, none⟩ = some (.int .u16 7) := by rw [Lib.cell_of_heap hn9]; rfl
  have e1 : v9.cell? ⟨g9, 1, none⟩ = some (.int .u32 9) := by rw [Lib.cell_of_heap hn9]; rfl
  clear hg8 hal hg9 hs8 hb9 hs9 hn9 hv9
  go_upto_region 5 with (fail)
  change Code.wp _ _ _ _ (v8.alloc (.cells #[.int .u16 ((7 : Nat) : Int), .int .u32 ((9 : Nat) : Int), .int .u16 ((2 : Nat) : Int), .int .u64 ((4 : Nat) : Int)] 44))
  rw [HV9.out]
  clear hg
  go_wp2_with fail
  refine (sectors_any 100 128 100 128 v9 (by decide) (by decide) (by decide)).mono ?_
  rintro e v10 ⟨rfl, rfl⟩
  rw [show secF (89 + 100) 128 = 2 from rfl]
  go_wp2
  go_ret
  exact ⟨rfl, HS9.out⟩
end Go.Proofs.YtimpnnhadjfijaaDoor
