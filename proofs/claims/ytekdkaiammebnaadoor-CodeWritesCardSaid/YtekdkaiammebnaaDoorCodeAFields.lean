/-
  The reference's Fields: how many there are, then each name and value, behind a row of the call's own.
-/
import Derived.Test.YtekdkaiammebnaaDoorCodeWFields
import Derived.Deep.RegionHeld3
import Derived.Deep.RegionWith
namespace Go.Proofs.YtekdkaiammebnaaDoor
open Go.RowKit CodeMath

theorem step_conv_str {ops : Array Oper} {o : Oper} {a : Act} {w : World} {K : Act → World → Prop} {Q : Exit → Act → World → Prop} {E : Prop} (hgd : o.guard = none) (x : Operand) (ho : o.op = .convert 9 27 x) (s : ByteArray) (l : List UInt8) (hl : s.data.toList = l) (hx : a.eval x = .string s)
    (hK : ∀ c w', BytesAt w' (some ⟨w.heap.size, 0, none⟩) l → Spares nowhere w w' → K (a.put o.dst (.slice (some ⟨w.heap.size, 0, none⟩) l.length c)) w') : if Region.wanted o (yielded ops a.tmps) = true then Oper.wp Tryd.prog o a w K Q else E := by
  subst hl
  have hw : Region.wanted o (yielded ops a.tmps) = true := by simp [Region.wanted, hgd]
  rw [if_pos hw]
  obtain ⟨c, w', hrun, h1, h2⟩ := conv_str w s
  rw [← size_list] at hrun
  unfold Oper.wp
  simp [execOp, ho, hx, hrun, Result.andThen]
  exact hK c w' h1 h2
theorem App.new {v : Value} {w w' : World} (h : Spares nowhere w w') : App v w v w' := ⟨h.mono (fun _ h => by cases h), fun _ h => .inl h⟩
theorem bw_facts (W : World) (s : ByteArray) : BytesAt (Lib.bytesWorld W 5 s) (some ⟨W.heap.size, 0, none⟩) s.data.toList ∧ Spares nowhere W (Lib.bytesWorld W 5 s) := by
  refine ⟨?_, ?_, ?_, ?_, ?_, fun b hb _ => Lib.bytesWorld_at_old W _ s b hb⟩
  · intro k hk
    have hs : k < s.size := by rw [Array.length_toList] at hk; exact hk
    refine ⟨W.heap.size, 0, rfl, ?_⟩
    rw [Nat.zero_add, Lib.bytesWorld_cell W _ s k hs, List.getD_eq_getElem?_getD, List.getElem?_eq_getElem hk]
    rfl
  · simp [Lib.bytesWorld, World.freeze, World.alloc, World.drew, -World.alloc_eq, -World.drew_eq]
  · simp [Lib.bytesWorld, World.freeze, World.alloc, World.drew, -World.alloc_eq, -World.drew_eq]
  · simp [Lib.bytesWorld, World.freeze, World.alloc, World.drew, -World.alloc_eq, -World.drew_eq]
  · rw [Lib.bytesWorld_size]; omega
theorem cells_spared {F : Nat → Prop} {w w' : World} {b o : Nat} {x y : Value} (hs : Spares F w w') (hb : b < w.heap.size) (hn : ¬ F b) (h : w.cell? ⟨b, o, none⟩ = some x ∧ w.cell? ⟨b, o + 1, none⟩ = some y) : w'.cell? ⟨b, o, none⟩ = some x ∧ w'.cell? ⟨b, o + 1, none⟩ = some y :=
  ⟨(hs.cell (p := ⟨b, o, none⟩) hb hn).trans h.1, (hs.cell (p := ⟨b, o + 1, none⟩) hb hn).trans h.2⟩
set_option maxRecDepth 100000 in
set_option maxHeartbeats 1000000 in
theorem aFields_any (v : Value) (d : List UInt8) (fs : Fs) (a : Option Addr) (c n : Nat) (w : World) (h : OwnBytes w v d) (hat : FieldsAt w a fs) (hn : n = fs.length) (hsrc : 0 < fs.length → ∀ b off, a = some ⟨b, off, none⟩ → ¬ v.ownBlock = some b)
    (hd : d.length ≤ 1000000000) (hl : fs.length ≤ 1000000) (hsz : ∀ f ∈ fs, f.1.size ≤ 1000000 ∧ f.2.size ≤ 1000000) :
    Calls Tryd.prog 16 #[v, .slice a n c] w (AppPost v (d ++ fieldsF fs) w) := by
  have H := Lib.hid h
  have HA := Lib.hid hat
  have HN := Lib.hid hn
  have HSRC := Lib.hid hsrc
  have HSZ := Lib.hid hsz
  have hcv : IntKind.u64.wrap (n : Int) = (n : Int) := by rw [IntKind.wrap_u64]; omega
  have i1 : (n : Int) ≤ 1000000 := by omega
  have HNUM := Lib.hid (aNum_any v d n w h (by unfold U64; omega) (by omega))
  clear h hat hn hsrc hsz
  go_enter Tryd.func16, Tryd.ntmps16
  go_wp2_with fail
  refine HNUM.out.mono ?_
  rintro e w1 ⟨v1, rfl, ho1, ha1⟩
  have HO1 : Hid (OwnBytes w1 v1 (d ++ numF n ++ (fs.take 0).flatMap fieldF)) := Lib.hid (by simpa using ho1)
  have HA1 := Lib.hid ha1
  clear ho1 ha1 HNUM
  go_wp2
  go_loopw [0, 5] (fun u i wr => ∃ k : Nat, k ≤ n ∧ i = .int .i64 k ∧ Hid (OwnBytes wr u (d ++ numF n ++ (fs.take k).flatMap fieldF)) ∧ Hid (App v w u wr)) (fun _ i _ => n - (intOf i).toNat)
  case atStart => exact ⟨0, by omega, rfl, HO1, HA1⟩
  clear HO1 HA1
  case round =>
    obtain ⟨k, hk, rfl, HO, HP⟩ := hrel
    by_cases hlt : k < n
    · have hk2 : k < fs.length := by have := HN.out; omega
      obtain ⟨b, off, rfl, hc0, hc1⟩ := (HA.out.spares HP.out.1 (fun h0 b off e => HSRC.out h0 b off e)) k hk2
      have hsk := HSZ.out (fs[k]) (List.getElem_mem hk2)
      have hnx := fieldsF_take fs k hk2
      obtain ⟨s1, hs1⟩ : ∃ s, (fs[k]).1 = s := ⟨_, rfl⟩
      obtain ⟨s2, hs2⟩ : ∃ s, (fs[k]).2 = s := ⟨_, rfl⟩
      rw [hs1] at hc0
      rw [hs2] at hc1
      rw [hs1, hs2] at hsk hnx
      have hfl := fields_len (fs.take k) (fun f hf => HSZ.out f (List.mem_of_mem_take hf))
      have i2 : (k : Int) < (n : Int) := by omega
      obtain ⟨D, hD⟩ : ∃ D, d ++ numF n ++ (fs.take k).flatMap fieldF = D := ⟨_, rfl⟩
      have hDl : D.length ≤ 3000000000000 := by
        rw [← hD, List.length_append, List.length_append]
        have h1 := numF_len n
        have h3 : (fs.take k).length ≤ 1000000 := by rw [List.length_take]; omega
        omega
      rw [hD] at HO
      obtain ⟨l1, hl1⟩ : ∃ l, s1.data.toList = l := ⟨_, rfl⟩
      obtain ⟨l2, hl2⟩ : ∃ l, s2.data.toList = l := ⟨_, rfl⟩
      have hz1 : l1.length ≤ 1000000 := by rw [← hl1, size_list]; exact hsk.1
      have hz2 : l2.length ≤ 1000000 := by rw [← hl2, size_list]; exact hsk.2
      have hNB : ¬ u0.ownBlock = some b := fun h => by
        rcases HP.out.2 b h with h2 | h2
        · exact HSRC.out (by omega) b off rfl h2
        · obtain ⟨b', off', e', hb'⟩ := HA.out.lt (by omega)
          cases e'
          omega
      have HNX2 : Hid (d ++ numF n ++ (fs.take (k + 1)).flatMap fieldF = (D ++ textF l1) ++ textF l2) := Lib.hid (by rw [hnx, hl1, hl2, ← hD]; simp only [List.append_assoc])
      clear hs1 hs2 hnx hfl hk2 hsk hD
      go_upto_region 5 with (fail)
      have hconv : ∀ (W : World) (s : ByteArray), (convert 9 27 (.string s)).run Tryd.prog W = .ok (.slice (some ⟨W.heap.size, 0, none⟩) s.size (grownCap W s.size 0 5)) (Lib.bytesWorld W 5 s) := fun W s => Lib.run_convert_string_bytes W 9 27 5 s Tryd.underlying9 Tryd.underlying27 Tryd.underlying5
      have SP0 : Spares nowhere wr wr.drew := (Spares.refl _ wr).drew
      have HT : Hid (∀ (W : World) (g c : Nat), OwnBytes W u0 D → BytesAt W (some ⟨g, 0, none⟩) l1 → ¬ u0.ownBlock = some g → Calls Tryd.prog 14 #[u0, .slice (some ⟨g, 0, none⟩) s1.size c] W (AppPost u0 (D ++ textF l1) W)) := Lib.hid (fun W g c h1 h2 h3 => aText_any u0 D l1 (some ⟨g, 0, none⟩) c s1.size W h1 h2 (by rw [← hl1, size_list]) (fun e => by cases e) (fun _ b o e => by cases e; exact h3) (by omega) (by omega))
      have HT2 : Hid (∀ (v' : Value) (W : World) (g c : Nat), OwnBytes W v' (D ++ textF l1) → BytesAt W (some ⟨g, 0, none⟩) l2 → ¬ v'.ownBlock = some g → Calls Tryd.prog 14 #[v', .slice (some ⟨g, 0, none⟩) s2.size c] W (AppPost v' (D ++ textF l1 ++ textF l2) W)) := Lib.hid (fun v' W g c h1 h2 h3 => aText_any v' (D ++ textF l1) l2 (some ⟨g, 0, none⟩) c s2.size W h1 h2 (by rw [← hl2, size_list]) (fun e => by cases e) (fun _ b o e => by cases e; exact h3) (by have := textF_len l1; rw [List.length_append]; omega) (by omega))
      have HB1 : Hid (∀ W, BytesAt (Lib.bytesWorld W 5 s1) (some ⟨W.heap.size, 0, none⟩) l1) := Lib.hid (fun W => by rw [← hl1]; exact (bw_facts W s1).1)
      have HB2 : Hid (∀ W, BytesAt (Lib.bytesWorld W 5 s2) (some ⟨W.heap.size, 0, none⟩) l2) := Lib.hid (fun W => by rw [← hl2]; exact (bw_facts W s2).1)
      have hblt : b < wr.heap.size := cellOf_lt hc0
      have hnb : ¬ u0.ownBlock = some b := hNB
      have hdz : wr.drew.heap.size = wr.heap.size := rfl
      have hult : ∀ g, u0.ownBlock = some g → g < wr.heap.size := HO.out.lt
      have HU := Lib.hid hult
      have HNB := Lib.hid hnb
      clear hult hnb hNB hl1 hl2
      have hL1 : (Lib.bytesWorld wr.drew 5 s1).cell? ⟨b, off + k * 2 + 1, none⟩ = some (.string s2) := (cells_spared (F := nowhere) (SP0.trans (bw_facts wr.drew s1).2) hblt (fun h => h) ⟨hc0, hc1⟩).2
      have hL2 : (Lib.bytesWorld wr.drew 5 s2).cell? ⟨b, off + k * 2, none⟩ = some (.string s1) := (cells_spared (F := nowhere) (SP0.trans (bw_facts wr.drew s2).2) hblt (fun h => h) ⟨hc0, hc1⟩).1
      have hP0 : Hid (wr.cell? ⟨b, off + k * 2, none⟩ = some (.string s1) ∧ wr.cell? ⟨b, off + k * 2 + 1, none⟩ = some (.string s2)) := Lib.hid ⟨hc0, hc1⟩
      go_region_with
        (first
          | (go_at_call 14; (with_reducible show Calls _ _ #[_, .slice _ s1.size _] _ _); refine (HT.out _ _ _ (HO.out.spares (F := nowhere) (by (repeat refine Spares.trans ?_ (bw_facts _ _).2); exact SP0) (fun _ _ h => h)) (by first | exact HB1.out _ | exact (HB1.out wr.drew).spares (bw_facts _ _).2 (fun _ _ _ h => h)) (by intro h; have := HU.out _ h; (try simp only [Lib.bytesWorld_size] at this); omega)).mono ?_; rintro e w9 ⟨v9, rfl, ho9, ha9⟩; have hL9 := (show w9.cell? ⟨b, off + k * 2, none⟩ = some (.string s1) ∧ w9.cell? ⟨b, off + k * 2 + 1, none⟩ = some (.string s2) from (by refine cells_spared ha9.1 (by (try simp only [Lib.bytesWorld_size]); omega) HNB.out ?_; exact (cells_spared (F := nowhere) (by (repeat refine Spares.trans ?_ (bw_facts _ _).2); exact SP0) hblt (fun h => h) hP0.out))).2)
          | (go_at_call 14; (with_reducible show Calls _ _ #[_, .slice _ s2.size _] (Lib.bytesWorld _ _ _) _); refine (HT2.out _ _ _ _ (ho9.spares (bw_facts _ _).2 (fun _ _ h => h)) (HB2.out _) (fun h => by have := (ho9.lt _ h); omega)).mono ?_; rintro e w10 ⟨v10, rfl, ho10, ha10⟩)
          | (go_at_call 14; (with_reducible show Calls _ _ #[_, .slice _ s2.size _] _ _); refine (HT2.out _ _ _ _ ho9 (BytesAt.spares (by first | exact HB2.out _ | exact (HB2.out wr.drew).spares (bw_facts _ _).2 (fun _ _ _ h => h)) ha9.1 (fun b o e h => by cases e; have := HU.out _ h; (try simp only [Lib.bytesWorld_size] at this); omega)) (by intro h; have h3 := ha9.2 _ h; (try simp only [Lib.bytesWorld_size] at h3); rcases h3 with h2 | h2; (have := HU.out _ h2; omega); omega)).mono ?_; rintro e w10 ⟨v10, rfl, ho10, ha10⟩)
          | fail)
      all_goals
        have HO10 : Hid (OwnBytes w10 v10 (d ++ numF n ++ (fs.take (k + 1)).flatMap fieldF)) := Lib.hid (by rw [HNX2.out]; exact ho10)
        have HA10 : Hid (App v w v10 w10) := Lib.hid (by
          first
            | exact ((HP.out.trans (App.new (by (repeat refine Spares.trans ?_ (bw_facts _ _).2); exact SP0))).trans ha9).trans ha10
            | exact ((HP.out.trans (App.new (by (repeat refine Spares.trans ?_ (bw_facts _ _).2); exact SP0))).trans ha9).trans ((App.new (bw_facts _ _).2).trans ha10))
        clear ho9 ha9 ho10 ha10 HT HT2 HB1 HB2 hc0 hc1 HO HP hconv SP0 hL1 hL2 hL9
        go_wp2
        go_roundw
        case rel => exact ⟨k + 1, by omega, by go_num, HO10, HA10⟩
        case measure => simp [intOf]; omega
    · obtain rfl : k = n := by omega
      have HE : Hid (OwnBytes wr u0 (d ++ fieldsF fs)) := Lib.hid (by
        have := HO.out
        rw [List.take_of_length_le (by have := HN.out; omega), HN.out, List.append_assoc] at this
        exact this)
      go_wp2
      go_ret
      exact ⟨_, rfl, HE.out, HP.out⟩
end Go.Proofs.YtekdkaiammebnaaDoor
