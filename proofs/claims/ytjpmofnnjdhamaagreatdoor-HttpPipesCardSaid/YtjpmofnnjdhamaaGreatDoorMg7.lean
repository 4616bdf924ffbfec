/-
  chunk.Open: its walk.
-/
import Derived.Deep.RegionHeld3
import Derived.Deep.RegionWith
import Derived.Deep.RegionLaw
import Derived.OwnWalk
import Derived.Test.YtjpmofnnjdhamaaGreatDoorMg6
namespace Go.Proofs.YtjpmofnnjdhamaaGreatDoor
open Go.RowKit HeadMath NormMath NormS HeadS ChunkMath

theorem leaves_congr {P : Program} {fn : Func} {t t' : Array Value} {R : Ending → World → Prop} (h : results fn t = results fn t') : ∀ ds u w, Leaves P fn t R ds u w → Leaves P fn t' R ds u w
  | [], .returning, w, hl => by
    obtain ⟨v, h1, h2⟩ := hl
    exact ⟨v, by rw [← h]; exact h1, h2⟩
  | [], .panicking _, _, hl => hl
  | [], .run, _, hl => hl
  | d :: ds, u, w, hl => by
    obtain ⟨hne, fv, cap, f, args, h1, h2, h3⟩ := hl
    refine ⟨hne, fv, cap, f, args, h1, h2, h3.mono ?_⟩
    intro e u' w' hr
    cases e with
    | returned v => exact leaves_congr h ds _ _ hr
    | panicked c => exact leaves_congr h ds _ _ hr
    | outgrown => exact hr
theorem OpenAt.fits {w wr : World} {a : Option Addr} {c j : Nat} {b body : Bs} {v : Value} (h : OpenAt w a c b body j v wr) {w' : World} {k : Nat} (hr : IsR (w.heap.size + 3) a c b k w') (hs : Spares (fun x => x = w.heap.size + 3) wr w') : OpenAt w a c b body k v w' :=
  ⟨hs.heap h.b0 (by omega), hs.heap h.b1 (by omega), hs.heap h.b2 (by omega), h.own.spares hs (fun g hg e => by have := (h.own.lt g hg).1; omega), hr, h.sp.trans' hs (fun k hk => .inr (by omega)), h.most, h.low⟩
theorem OpenAt.quiet {w wr : World} {a : Option Addr} {c j : Nat} {b body : Bs} {v : Value} (h : OpenAt w a c b body j v wr) {w' : World} (hs : Spares nowhere wr w') : OpenAt w a c b body j v w' :=
  h.fits (h.rd.quiet hs) (hs.mono (fun _ h => by cases h))
/-- The body has grown, and is stored where it was. -/
theorem OpenAt.append {w w3 w4 : World} {a : Option Addr} {c j : Nat} {b body body' : Bs} {v v' : Value} (h : OpenAt w a c b body j v w3) (ho : Row8 (w.heap.size + 4) w4 v' body') (hg : w3.grownBy w4 v.ownBlock) (hl : body'.length ≤ 65536) :
    w4.heap[w.heap.size]? = some (.cells #[v] 23 (0, 0)) ∧ OpenAt w a c b body' j v' (w4.setCell ⟨w.heap.size, 0, none⟩ v') := by
  have hv : ∀ g, v.ownBlock = some g → w.heap.size + 4 ≤ g := fun g hg => (h.own.lt g hg).1
  have hs1 : Spares (fun k => w.heap.size + 4 ≤ k) w3 w4 := (Spares.refl _ w3).grown hg (fun k hk => .inl (hv k hk))
  have b0 := hs1.heap h.b0 (by omega)
  have hs2 : Spares (fun k => k = w.heap.size) w4 (w4.setCell ⟨w.heap.size, 0, none⟩ v') := Spares.setCell (F := fun k => k = w.heap.size) (Spares.refl _ w4) (p := ⟨w.heap.size, 0, none⟩) (.inl rfl) _
  refine ⟨b0, ⟨?_, hs2.heap (hs1.heap h.b1 (by omega)) (by omega), hs2.heap (hs1.heap h.b2 (by omega)) (by omega), ho.spares hs2 (fun g hg e => by have := (ho.lt g hg).1; omega), (h.rd.spares hs1 (by omega) (fun h0 x o e => by have := h.low h0 x o e; omega)).spares hs2 (by omega) (fun h0 x o e => by have := h.low h0 x o e; omega), (h.sp.trans' hs1 (fun k hk => .inr (by omega))).trans' hs2 (fun k hk => .inr (by omega)), hl, h.low⟩⟩
  simp only [World.setCell, Array.getElem?_modify, b0]
  simp
theorem open_put {R : Ending → World → Prop} (d : Nat) (h2 : d ≠ 2) (h3 : d ≠ 3) (h4 : d ≠ 4) (v : Value) (c : List PanicEntry) (a : Act) (w : World) (h : bodyPostD Tryz.prog Tryz.f75 R (.panic c) (a.put (some d) v) w) : bodyPostD Tryz.prog Tryz.f75 R (.panic c) a w := by
  refine leaves_congr ?_ _ _ _ h
  have e : ∀ k, d ≠ k → (a.put (some d) v).tmps[k]?.getD undef = a.tmps[k]?.getD undef := fun k hk => by
    simp only [Act.put, Array.getElem?_setIfInBounds, if_neg hk]
  simp only [results, Tryz.results75]
  simp [e 2 h2, e 3 h3, e 4 h4]
theorem ownsRow_mono8 {B C : Nat} {w : World} {v : Value} {d : Bs} (h : Row8 B w v d) (hle : C ≤ B) : Row8 C w v d := by
  refine ⟨h.1, ?_⟩
  rcases h.2 with h0 | ⟨g, cap, cur, hv, hB, hrest⟩
  · exact .inl h0
  · exact .inr ⟨g, cap, cur, hv, Nat.le_trans hle hB, hrest⟩
set_option maxRecDepth 100000 in
set_option maxHeartbeats 8000000 in
theorem open_any (a : Option Addr) (c : Nat) (b : Bs) (w : World) (hb : BytesAt w a b) (hc : b.length ≤ c) (hz : b.length ≤ 1000000000) : Calls Tryz.prog 75 #[.slice a b.length c] w (OpenPost b (openF fieldB b) w) := by
  have ha : 0 < b.length → ∀ x o, a = some ⟨x, o, none⟩ → x < w.heap.size := fun h0 x o e => by
    obtain ⟨y, z, e2, hcell⟩ := hb 0 h0
    subst e2
    injection e with e
    injection e with e1 e2
    subst e1
    rcases Nat.lt_or_ge y w.heap.size with h | h
    · exact h
    · simp [World.cell?, Array.getElem?_eq_none h] at hcell
  obtain ⟨v4, hv4⟩ : ∃ v4, (((w.alloc (.cells #[.slice none 0 0] 23)).alloc (.cells #[.int .i64 0] 3)).alloc (.cells #[.int .i64 0] 36)).alloc (.cells #[.slice a b.length c, .int .i64 0] 132) = v4 := ⟨_, rfl⟩
  have hs4 : Spares nowhere w v4 := by rw [← hv4]; exact ((((Spares.refl _ _).alloc _).alloc _).alloc _).alloc _
  have hOA : OpenAt w a c b [] 0 (.slice none 0 0) v4 := by
    refine ⟨?_, ?_, ?_, row8_nil _ _, ⟨?_, hb.spares' hs4 (fun _ _ _ _ h => h), Nat.zero_le _, hc, by omega, fun h0 x o e => by have := ha h0 x o e; omega⟩, hs4, by decide, ha⟩
    · rw [← hv4, Below.heap_alloc _ _ _ (by simp; try omega), Below.heap_alloc _ _ _ (by simp; try omega), Below.heap_alloc _ _ _ (by simp)]; exact heap_alloc_new w _
    · rw [← hv4, Below.heap_alloc _ _ _ (by simp; try omega), Below.heap_alloc _ _ _ (by simp)]
      simpa using heap_alloc_new (w.alloc (.cells #[.slice none 0 0] 23)) (.cells #[.int .i64 0] 3)
    · rw [← hv4, Below.heap_alloc _ _ _ (by simp)]
      simpa using heap_alloc_new ((w.alloc (.cells #[.slice none 0 0] 23)).alloc (.cells #[.int .i64 0] 3)) (.cells #[.int .i64 0] 36)
    · rw [← hv4]
      simpa using heap_alloc_new (((w.alloc (.cells #[.slice none 0 0] 23)).alloc (.cells #[.int .i64 0] 3)).alloc (.cells #[.int .i64 0] 36)) (.cells #[.slice a b.length c, .int .i64 0] 132)
  obtain ⟨R, hR⟩ : ∃ R, openF fieldB b = R := ⟨_, rfl⟩
  rw [hR]
  have HR0 : Hid (R = chunkG fieldB (b.length + 1) [] (b.drop 0) ∧ (b.drop 0).length < b.length + 1) := Lib.hid ⟨by rw [← hR]; rfl, by simp⟩
  have HOA := Lib.hid hOA
  have HV4 := Lib.hid hv4
  have hmf : ∀ (fn : Fn) (first cap : Array Value) (w : World), (Instr.makeFunc fn first cap).run Tryz.prog w = .ok (.func fn first cap) w := fun _ _ _ _ => rfl
  obtain ⟨bl, hbl⟩ : ∃ bl, b.length = bl := ⟨_, rfl⟩
  rw [hbl] at HV4 ⊢
  have HBL := Lib.hid hbl
  clear hb ha hv4 hs4 hOA hR hbl
  go_enter_defers Tryz.func75, Tryz.ntmps75
  go_wp2
  rw [show w.heap.size + 1 + 1 + 1 = w.heap.size + 3 from rfl, show w.heap.size + 1 + 1 = w.heap.size + 2 from rfl, HV4.out]
  go_loopw [6] (fun z wr => ∃ (f j : Nat) (body : Bs) (v : Value), Hid (R = chunkG fieldB f body (b.drop j) ∧ (b.drop j).length < f) ∧ Hid (OpenAt w a c b body j v wr)) (fun _ wr => bl + 1 - (intOf ((wr.cell? ⟨w.heap.size + 3, 1, none⟩).getD undef)).toNat)
  case atStart => exact ⟨_, 0, [], _, HR0, HOA⟩
  case round =>
    obtain ⟨f, j, body, v, HR, HO⟩ := hrel
    obtain ⟨f, rfl⟩ : ∃ g, f = g + 1 := ⟨f - 1, by have := HR.out.2; omega⟩
    have cL := line_any HO.out.rd
    have HMS : Hid (∀ W k v' B, OpenAt w a c b B k v' W → (intOf ((W.cell? ⟨w.heap.size + 3, 1, none⟩).getD undef)).toNat = k) := Lib.hid (fun W k v' B h => by rw [h.rd.c1]; rfl)
    cases hl : lineF (b.drop j) with
    | error x =>
      rw [hl] at cL
      unfold LinePost at cL
      have HE : Hid (R = .error x) := Lib.hid (HR.out.1.trans (chunkG_line hl))
      clear hl
      go_wp2_with fail
      refine cL.mono ?_
      rintro e w1 ⟨rfl, hs⟩
      have HO1 := Lib.hid (HO.out.quiet hs)
      clear hs cL
      unfold FaultC
      go_wp2
      exact open_fell _ HE.out rfl rfl rfl HO1.out.b0 HO1.out.b1 HO1.out.b2 HO1.out.sp
    | ok tr =>
      obtain ⟨t, r⟩ := tr
      rw [hl] at cL
      change Calls _ _ _ _ (fun e w' => e = .returned (.string ⟨t.toArray⟩) ∧ ∃ k, r = b.drop k ∧ IsR (w.heap.size + 3) a c b k w' ∧ Spares (fun x => x = w.heap.size + 3) wr w') at cL
      have hlen := lineF_len hl
      have htz : (⟨t.toArray⟩ : ByteArray).size ≤ 1000000000 := by
        show t.toArray.size ≤ _
        have : (b.drop j).length ≤ b.length := by simp
        simp; omega
      have HL := Lib.hid hl
      clear hl
      obtain ⟨T, hT⟩ : ∃ T : ByteArray, (⟨t.toArray⟩ : ByteArray) = T := ⟨_, rfl⟩
      rw [hT] at htz cL
      have cN := fun w => length_any T w htz
      have hTd : T.data.toList = t := by rw [← hT]
      rw [hTd] at cN
      have HLT := Lib.hid hlen
      clear hT hTd htz hlen
      go_wp2_with fail
      refine cL.mono ?_
      rintro e w1 ⟨rfl, j1, hj1, hi1, hs⟩
      have HO1 := Lib.hid (HO.out.fits hi1 hs)
      have HJ1 := Lib.hid hj1
      clear hi1 hs hj1 cL
      cases hn : lengthF t with
      | none =>
        rw [hn] at cN
        have HE : Hid (R = .error 94) := Lib.hid (HR.out.1.trans (chunkG_none HL.out hn))
        clear hn
        go_wp2_with fail
        refine (cN _).mono ?_
        rintro e w2 ⟨h2, hb2⟩
        subst h2
        have HO2 := Lib.hid (HO1.out.quiet (Below.spares hb2 (fun k hk => .inr hk)))
        clear hb2 cN
        unfold FaultC
        go_wp2
        exact open_fell _ HE.out rfl rfl rfl HO2.out.b0 HO2.out.b1 HO2.out.b2 HO2.out.sp
      | some n =>
        rw [hn] at cN
        have HN := Lib.hid hn
        clear hn
        by_cases h0 : n = 0
        · subst h0
          go_wp2_with fail
          refine (cN _).mono ?_
          rintro e w2 ⟨h2, hb2⟩
          subst h2
          have HO2 := Lib.hid (HO1.out.quiet (Below.spares hb2 (fun k hk => .inr hk)))
          clear hb2 cN
          have cT := trail_any HO2.out.rd
          rw [← HJ1.out] at cT
          cases ht : trailG fieldB (r.length + 1) 0 r with
          | error x =>
            rw [ht] at cT
            have HE : Hid (R = .error x) := Lib.hid (by rw [HR.out.1, chunkG_zero HL.out HN.out, ht])
            clear ht
            go_wp2_with fail
            refine cT.mono ?_
            rintro e w3 ⟨h3, hs3⟩
            subst h3
            have z0 := hs3.heap HO2.out.b0 (by omega)
            have z1 := hs3.heap HO2.out.b1 (by omega)
            have z2 := hs3.heap HO2.out.b2 (by omega)
            have z3 := HO2.out.sp.trans' hs3 (fun k hk => .inr (by omega))
            unfold FaultC
            clear hs3
            go_wp2
            exact open_fell _ HE.out rfl rfl rfl z0 z1 z2 z3
          | ok s =>
            rw [ht] at cT
            have HE : Hid (R = .ok (body, s)) := Lib.hid (by rw [HR.out.1, chunkG_zero HL.out HN.out, ht])
            clear ht
            go_wp2_with fail
            refine cT.mono ?_
            rintro e w3 ⟨⟨h3, j3, hj3, hi3⟩, hs3⟩
            subst h3
            have HO3 := Lib.hid (HO2.out.fits hi3 hs3)
            have HJ3 := Lib.hid hj3
            clear hi3 hs3 hj3 cT
            obtain ⟨av, cv, hvv, _⟩ := HO3.out.own.shape
            subst hvv
            obtain ⟨q0, q1, q2, qo, qr, qs, qm, _⟩ := HO3.out
            have hle3 := qr.le
            have hset : ∀ (u : World) (k : Nat) (x y : Value) (t : TypeId), u.heap[k]? = some (.cells #[x] t (0, 0)) → (u.setCell ⟨k, 0, none⟩ y).heap[k]? = some (.cells #[y] t (0, 0)) := fun u k x y t h => by
              simp [World.setCell, Array.getElem?_modify, h]
            have hk : ∀ (u : World) (m k : Nat) (y : Value) (o : Option Obj), k ≠ m → u.heap[k]? = o → (u.setCell ⟨m, 0, none⟩ y).heap[k]? = o := fun u m k y o hn h => (Below.heap_setCell u ⟨m, 0, none⟩ y k hn).trans h
            have f0 : ∀ {u : World} {k : Nat} {x : Value} {t : TypeId}, u.heap[k]? = some (.cells #[x] t (0, 0)) → u.frozen? ⟨k, 0, none⟩ = false := fun h => Lib.frozen_of_heap h 0
            have c0 : ∀ {u : World} {k : Nat} {x : Value} {t : TypeId}, u.heap[k]? = some (.cells #[x] t (0, 0)) → u.cell? ⟨k, 0, none⟩ = some x := fun h => (Lib.cell_of_heap h 0).trans rfl
            have P1 := hset w3 _ _ (.slice av body.length cv) _ q0
            have Q1 := hk w3 w.heap.size (w.heap.size + 1) (.slice av body.length cv) _ (by omega) q1
            have R1 := hk w3 w.heap.size (w.heap.size + 2) (.slice av body.length cv) _ (by omega) q2
            have D1 := hk w3 w.heap.size (w.heap.size + 3) (.slice av body.length cv) _ (by omega) qr.cells
            have P2 := hk _ (w.heap.size + 1) w.heap.size (.int .i64 j3) _ (by omega) P1
            have Q2 := hset _ _ _ (.int .i64 j3) _ Q1
            have R2 := hk _ (w.heap.size + 1) (w.heap.size + 2) (.int .i64 j3) _ (by omega) R1
            have P3 := hk _ (w.heap.size + 2) w.heap.size (.int .i64 0) _ (by omega) P2
            have Q3 := hk _ (w.heap.size + 2) (w.heap.size + 1) (.int .i64 0) _ (by omega) Q2
            have R3 := hset _ _ _ (.int .i64 0) _ R2
            have HS3 : Hid (Spares nowhere w (((w3.setCell ⟨w.heap.size, 0, none⟩ (.slice av body.length cv)).setCell ⟨w.heap.size + 1, 0, none⟩ (.int .i64 j3)).setCell ⟨w.heap.size + 2, 0, none⟩ (.int .i64 0))) := Lib.hid
              (((qs.setCell (p := ⟨w.heap.size, 0, none⟩) (.inr (Nat.le_refl _)) _).setCell (p := ⟨w.heap.size + 1, 0, none⟩) (.inr (by show _ ≤ w.heap.size + 1; omega)) _).setCell (p := ⟨w.heap.size + 2, 0, none⟩) (.inr (by show _ ≤ w.heap.size + 2; omega)) _)
            have HRW : Hid (Row8 w.heap.size (((w3.setCell ⟨w.heap.size, 0, none⟩ (.slice av body.length cv)).setCell ⟨w.heap.size + 1, 0, none⟩ (.int .i64 j3)).setCell ⟨w.heap.size + 2, 0, none⟩ (.int .i64 0)) (.slice av body.length cv) body) := Lib.hid (by
              have hsp : Spares (fun k => k = w.heap.size ∨ k = w.heap.size + 1 ∨ k = w.heap.size + 2) w3 (((w3.setCell ⟨w.heap.size, 0, none⟩ (.slice av body.length cv)).setCell ⟨w.heap.size + 1, 0, none⟩ (.int .i64 j3)).setCell ⟨w.heap.size + 2, 0, none⟩ (.int .i64 0)) :=
                ((((Spares.refl _ w3).setCell (p := ⟨w.heap.size, 0, none⟩) (.inl (.inl rfl)) _).setCell (p := ⟨w.heap.size + 1, 0, none⟩) (.inl (.inr (.inl rfl))) _).setCell (p := ⟨w.heap.size + 2, 0, none⟩) (.inl (.inr (.inr rfl))) _)
              exact ownsRow_mono8 (qo.spares hsp (fun g hg e => by have := (qo.lt g hg).1; omega)) (by omega))
            have HP3 := Lib.hid P3
            have HQ3 := Lib.hid Q3
            have HR3 := Lib.hid R3
            have a1 := c0 q0
            have a2 := c0 Q1
            have a3 := c0 R2
            have a4 := qr.c1
            have a5 : (w3.setCell ⟨w.heap.size, 0, none⟩ (.slice av body.length cv)).cell? ⟨w.heap.size + 3, 1, none⟩ = some (.int .i64 j3) := by rw [Lib.cell_of_heap D1]; rfl
            have a6 := c0 P1
            have b1 := f0 q0
            have b2 := f0 Q1
            have b3 := f0 R2
            have HJL : Hid (j3 = b.length - s.length) := Lib.hid (by rw [HJ3.out, List.length_drop]; omega)
            clear P1 Q1 R1 D1 P2 Q2 R2 P3 Q3 R3 hset hk f0 c0 q0 q1 q2 qo qr qs qm hle3
            go_wp2_with fail
            refine wp_region_noPanic ?_
            go_region
            all_goals
              refine NoPanic.normal ?_
              go_wp2
              exact open_done _ HE.out HJL.out rfl rfl rfl HP3.out HQ3.out HR3.out (HRW.out.spares (F := nowhere) ((Spares.refl _ _).drew) (fun _ _ h => h)) HS3.out.drew
        · have h0i : ((n : Int) == 0) = false := by simpa using h0
          obtain ⟨av, cv, rfl, hbv, hnv, hcv⟩ := HO1.out.own.shape
          have hmost := HO1.out.most
          by_cases hbig : 65536 < body.length + n
          · have HE : Hid (R = .error 93) := Lib.hid (HR.out.1.trans (chunkG_long HL.out HN.out h0 hbig))
            have l1 : (65536 : Int) - (body.length : Int) < (n : Int) := by omega
            obtain ⟨bn, hbn⟩ : ∃ bn, body.length = bn := ⟨_, rfl⟩
            have HBN := Lib.hid hbn
            clear hbv hnv
            go_wp2_with fail
            refine (cN _).mono ?_
            rintro e w2 ⟨h2, hb2⟩
            subst h2
            have HO2 := Lib.hid (HO1.out.quiet (Below.spares hb2 (fun k hk => .inr hk)))
            have d0 : w2.cell? ⟨w.heap.size, 0, none⟩ = some (.slice av body.length cv) := by rw [Lib.cell_of_heap HO2.out.b0]; rfl
            clear hb2 cN
            go_wp2
            exact open_fell _ HE.out rfl rfl rfl HO2.out.b0 HO2.out.b1 HO2.out.b2 HO2.out.sp
          · have l1 : ¬ ((65536 : Int) - (body.length : Int) < (n : Int)) := by omega
            obtain ⟨bn, hbn⟩ : ∃ bn, body.length = bn := ⟨_, rfl⟩
            have HBN := Lib.hid hbn
            have hn65 : n ≤ 65536 := by omega
            have HO1' : Hid (OpenAt w a c b body j1 (.slice av bn cv) w1) := Lib.hid (by rw [← hbn]; exact HO1.out)
            clear hbv hnv
            go_wp2_with fail
            refine (cN _).mono ?_
            rintro e w2 ⟨h2, hb2⟩
            subst h2
            have HO2 := Lib.hid (HO1'.out.quiet (Below.spares hb2 (fun k hk => .inr hk)))
            have d0 : w2.cell? ⟨w.heap.size, 0, none⟩ = some (.slice av bn cv) := by rw [Lib.cell_of_heap HO2.out.b0]; rfl
            rw [hbn] at l1
            clear hb2 cN hbn
            by_cases hsh : r.length < n
            · have HE : Hid (R = .error 92) := Lib.hid (HR.out.1.trans (chunkG_short HL.out HN.out h0 hbig hsh))
              have HOD := Lib.hid (HO2.out.quiet ((Spares.refl _ w2).drew))
              have hT := take_any HOD.out.rd n (by omega) (by omega)
              have hT2 : Calls Tryz.prog 107 #[.pointer (some ⟨w.heap.size + 3, 0, none⟩), .int .i64 n] w2.drew fun e w' => e = FaultC 92 ∧ Spares nowhere w2.drew w' := by
                refine hT.mono (fun e w' h => ?_)
                unfold TakePost at h
                rw [if_pos (by rw [← HJ1.out]; exact hsh)] at h
                exact h
              unfold FaultC at hT2
              clear hT hsh
              go_wp2_with fail
              have d0' : w2.drew.cell? ⟨w.heap.size, 0, none⟩ = some (.slice av bn cv) := d0
              clear d0
              refine wp_region_any (by kernel_rfl) ?_
              change wpAny _ _ _ _ _ _ _ (World.drew _)
              obtain ⟨wd, hwd⟩ : ∃ wd, w2.drew = wd := ⟨_, rfl⟩
              rw [hwd] at HOD hT2 d0' ⊢
              clear hwd
              refine wpAny_take (i := 1) (v := .pointer (some ⟨w.heap.size + 3, 0, none⟩)) rfl (by kernel_rfl) (by kernel_rfl) (by kernel_rfl) (fun c a w h => open_put 24 (by decide) (by decide) (by decide) _ c a w h) (Or.inl ⟨by rfl, ?_⟩) ?_
              · intro w
                go_simp
              refine wpAny_take (i := 2) (v := .int .i64 n) rfl (by kernel_rfl) (by kernel_rfl) (by kernel_rfl) (fun c a w h => open_put 25 (by decide) (by decide) (by decide) _ c a w h) (Or.inl ⟨by rfl, ?_⟩) ?_
              · intro w
                go_simp
              refine wpAny_ready (rs := [0, 3]) (by kernel_rfl) (by simp) ?_
              refine AllReady.cons rfl (fun K hK => ?_) (AllReady.cons rfl (fun K hK => ?_) AllReady.nil)
              · go_simp
                refine hK _ _ ?_
                clear hK K
                refine wpAny_ready (rs := [3]) (by kernel_rfl) (by simp) ?_
                refine AllReady.cons rfl (fun K hK => ?_) AllReady.nil
                go_simp
                go_wp2_with (go_at_call 107; refine hT2.mono ?_; rintro e w3 ⟨h3, hs3⟩; subst h3)
                have HO3 := HOD.out.quiet hs3
                exact open_fell _ HE.out rfl rfl rfl HO3.b0 HO3.b1 HO3.b2 HO3.sp
              · go_simp
                go_wp2_with (go_at_call 107; refine hT2.mono ?_; rintro e w3 ⟨h3, hs3⟩; subst h3)
                have HO3 := HOD.out.quiet hs3
                exact open_fell _ HE.out rfl rfl rfl HO3.b0 HO3.b1 HO3.b2 HO3.sp
            · have HOD := Lib.hid (HO2.out.quiet ((Spares.refl _ w2).drew))
              have hT := take_any HOD.out.rd n (by omega) (by omega)
              have hT2 : Calls Tryz.prog 107 #[.pointer (some ⟨w.heap.size + 3, 0, none⟩), .int .i64 n] w2.drew fun e w' => ∃ x o c', e = .returned (.slice (some ⟨x, o, none⟩) n c') ∧ BytesAt w' (some ⟨x, o, none⟩) (r.take n) ∧ IsR (w.heap.size + 3) a c b (j1 + n) w' ∧ Spares (fun x => x = w.heap.size + 3) w2.drew w' := by
                refine hT.mono (fun e w' h => ?_)
                unfold TakePost at h
                rw [if_neg (by rw [← HJ1.out]; exact hsh), ← HJ1.out] at h
                exact h
              have hrl : (r.take n).length = n := by rw [List.length_take]; omega
              obtain ⟨M, hM⟩ : ∃ M, r.take n = M := ⟨_, rfl⟩
              rw [hM] at hrl
              simp only [hM] at hT2
              have HMM := Lib.hid hM
              obtain ⟨i0, hi, hz0, hz1, hz2⟩ := info_parts byteInfo
              have HL1 := Lib.hid (show body.length + n ≤ maxLen by unfold maxLen; omega)
              have HL2 := Lib.hid (show (body.length + n) * 1 ≤ 140737488355328 by omega)
              have HMR : Hid (R = restG fieldB f (body ++ M) (b.drop (j1 + n))) := Lib.hid (by rw [HR.out.1, chunkG_more HL.out HN.out h0 hbig hsh, hM, HJ1.out, List.drop_drop])
              have HRL := Lib.hid hrl
              have HT2 := Lib.hid hT2
              clear hT hT2 hM hrl hsh
              go_wp2_with fail
              have d0' : w2.drew.cell? ⟨w.heap.size, 0, none⟩ = some (.slice av bn cv) := d0
              clear d0
              refine wp_region_noPanic ?_
              go_region_law
                (first
                  | (go_simp
                     go_at_call 107
                     refine HT2.out.mono ?_
                     rintro e w3 ⟨x, o, c', rfl, hbt, hrd, hsp⟩
                     have HO3 := Lib.hid (HOD.out.fits hrd hsp)
                     have HBT := Lib.hid hbt
                     have d3 : w3.cell? ⟨w.heap.size, 0, none⟩ = some (.slice av bn cv) := by rw [Lib.cell_of_heap HO3.out.b0]; rfl
                     have HOW : Hid (w3.ownsRow (w.heap.size + 4) 5 1 (.slice av bn cv) body.length (Lib.byteCells body)) := Lib.hid HO3.out.own
                     have HSB : Hid (w.heap.size + 4 ≤ w3.heap.size) := Lib.hid (by have := (Array.getElem?_eq_some_iff.1 HO3.out.rd.cells).1; omega)
                     clear hbt hrd hsp)
                  | (refine step_append_lies _ (by rfl) _ _ _ (by rfl) (w.heap.size + 4) 5 i0 _ 1 1 Tryz.underlying23 hi hz0 hz1 hz2 rfl (by decide) _ body.length (Lib.byteCells body) (by rfl)
                       HOW.out ⟨x, o, none⟩ n c' (Lib.byteCells M) (by rfl) (by rw [byteCells_len, HRL.out, Nat.mul_one]) HBT.out.cells (byteCells_one M) (by omega) HL1.out HL2.out HSB.out w3.heap.size rfl ?_
                     intro gg cg w4 hown' hgrow _ _
                     have ho4 : Row8 (w.heap.size + 4) w4 (.slice (some ⟨gg, 0, none⟩) (body.length + n) cg) (body ++ M) := by unfold Row8; rw [List.length_append, byteCells_app, HRL.out]; exact hown'
                     have hp4 := HO3.out.append ho4 hgrow (by rw [List.length_append, HRL.out]; omega)
                     have f4 : w4.frozen? ⟨w.heap.size, 0, none⟩ = false := Lib.frozen_of_heap hp4.1 0
                     have c4 : w4.cell? ⟨w.heap.size, 0, none⟩ = some (.slice av bn cv) := (Lib.cell_of_heap hp4.1 0).trans rfl
                     have HP4 := Lib.hid hp4.2
                     clear hown' hgrow ho4 hp4))
              all_goals
                refine NoPanic.normal ?_
                obtain ⟨w5, hw5⟩ : ∃ w5, w4.setCell ⟨w.heap.size, 0, none⟩ (.slice (some ⟨gg, 0, none⟩) (body.length + n) cg) = w5 := ⟨_, rfl⟩
                rw [hw5] at HP4 ⊢
                have HJR : Hid (j + 2 ≤ j1) := Lib.hid (by
                  have h1 := HLT.out.1
                  have h2 := HO1.out.rd.le
                  rw [HJ1.out, List.length_drop, List.length_drop] at h1
                  omega)
                clear hw5 c4 f4 d3 d0' HT2 HBT HOW HSB HOD HL1 HL2
                have cE := expect_any HP4.out.rd 13
                cases h13 : wantF 13 (b.drop (j1 + n)) with
                | error x =>
                  rw [h13] at cE
                  unfold WantPost at cE
                  have HE : Hid (R = .error x) := Lib.hid (HMR.out.trans (restG_one h13))
                  clear h13
                  go_wp2_with fail
                  refine cE.mono ?_
                  rintro e w6 ⟨rfl, hs⟩
                  have HO6 := Lib.hid (HP4.out.quiet hs)
                  clear hs cE
                  unfold FaultC
                  go_wp2
                  exact open_fell _ HE.out rfl rfl rfl HO6.out.b0 HO6.out.b1 HO6.out.b2 HO6.out.sp
                | ok r2 =>
                  rw [h13] at cE
                  unfold WantPost at cE
                  have H13 := Lib.hid h13
                  clear h13
                  go_wp2_with fail
                  refine cE.mono ?_
                  rintro e w6 ⟨rfl, hr2, hrd, hsp⟩
                  have HO6 := Lib.hid (HP4.out.fits hrd hsp)
                  have HR2 := Lib.hid hr2
                  clear hrd hsp hr2 cE
                  have cE2 := expect_any HO6.out.rd 10
                  rw [← HR2.out] at cE2
                  cases h10 : wantF 10 r2 with
                  | error x =>
                    rw [h10] at cE2
                    unfold WantPost at cE2
                    have HE : Hid (R = .error x) := Lib.hid (HMR.out.trans (restG_two H13.out h10))
                    clear h10
                    go_wp2_with fail
                    refine cE2.mono ?_
                    rintro e w7 ⟨rfl, hs⟩
                    have HO7 := Lib.hid (HO6.out.quiet hs)
                    clear hs cE2
                    unfold FaultC
                    go_wp2
                    exact open_fell _ HE.out rfl rfl rfl HO7.out.b0 HO7.out.b1 HO7.out.b2 HO7.out.sp
                  | ok r3 =>
                    rw [h10] at cE2
                    unfold WantPost at cE2
                    have HE : Hid (R = chunkG fieldB f (body ++ M) r3) := Lib.hid (HMR.out.trans (restG_ok H13.out h10))
                    clear h10
                    go_wp2_with fail
                    refine cE2.mono ?_
                    rintro e w7 ⟨rfl, hr3, hrd, hsp⟩
                    have HO7 := Lib.hid (HO6.out.fits hrd hsp)
                    have HE7 : Hid (R = chunkG fieldB f (body ++ M) (b.drop (j1 + n + 1 + 1)) ∧ (b.drop (j1 + n + 1 + 1)).length < f) := Lib.hid ⟨by rw [HE.out, hr3], by
                      have h1 := HR.out.2
                      have h2 := HJR.out
                      have h3 := hrd.le
                      rw [List.length_drop] at h1 ⊢
                      omega⟩
                    clear hrd hsp hr3 cE2
                    go_wp2
                    go_roundw
                    case rel => exact ⟨f, _, body ++ M, _, HE7, HO7⟩
                    case measure =>
                      rw [HMS.out _ _ _ _ HO7.out, HMS.out _ _ _ _ HO.out]
                      have h2 := HJR.out
                      have h3 := HO7.out.rd.le
                      have h4 := HBL.out
                      omega
end Go.Proofs.YtjpmofnnjdhamaaGreatDoor
