/-
  The reference's Num and Text: bytes behind a row of the call's own.
-/
import Derived.Test.YtekdkaiammebnaaDoorCodeTexts
namespace Go.Proofs.YtekdkaiammebnaaDoor
open Go.RowKit CodeMath

/-- A row is grown: nothing else of what stood turns; it lies where it lay, or in a new block. -/
def App (v0 : Value) (w : World) (v : Value) (w' : World) : Prop := Spares (fun b => v0.ownBlock = some b) w w' ∧ ∀ g, v.ownBlock = some g → v0.ownBlock = some g ∨ w.heap.size ≤ g
theorem App.refl (v : Value) (w : World) : App v w v w := ⟨Spares.refl _ _, fun _ h => .inl h⟩
theorem App.trans {v0 v v' : Value} {w w1 w2 : World} (h : App v0 w v w1) (k : App v w1 v' w2) : App v0 w v' w2 :=
  ⟨h.1.trans' k.1 h.2, fun g hg => (k.2 g hg).elim (h.2 g) (fun hge => .inr (Nat.le_trans h.1.size hge))⟩
theorem App.grown {v v' : Value} {w w' : World} (hg : w.grownBy w' v.ownBlock) (hf : ∀ g, v'.ownBlock = some g → v.ownBlock = some g ∨ w.heap.size ≤ g) : App v w v' w' :=
  ⟨(Spares.refl _ w).grown hg (fun _ hk => .inl hk), hf⟩
theorem App.fresh {v v' : Value} {w w' : World} (o : Obj) (h : App v (w.alloc o) v' w') : App v w v' w' :=
  ⟨((Spares.refl _ w).alloc o).trans h.1, fun g hg => (h.2 g hg).elim .inl (fun hge => .inr (Nat.le_trans (by simp) hge))⟩
def AppPost (v : Value) (d : List UInt8) (w : World) (e : Ending) (w' : World) : Prop := ∃ v', e = .returned v' ∧ OwnBytes w' v' d ∧ App v w v' w'
set_option maxRecDepth 100000 in
set_option maxHeartbeats 1000000 in
theorem aNum_any (v : Value) (d : List UInt8) (n : Nat) (w : World) (h : OwnBytes w v d) (hn : U64 n) (hd : d.length ≤ 100000000000000) :
    Calls Tryd.prog 12 #[v, .int .u64 n] w (AppPost v (d ++ numF n) w) := by
  have H := Lib.hid h
  have HN := Lib.hid hn
  clear h hn
  go_enter Tryd.func12, Tryd.ntmps12
  go_wp2
  go_loopw [0, 1] (fun u i wr => ∃ (m f : Nat) (d' : List UInt8), i = .int .u64 m ∧ Hid (Fit m f ∧ f ≤ 9 ∧ d ++ numF n = d' ++ numG f m) ∧ d'.length + f ≤ d.length + 9 ∧ Hid (OwnBytes wr u d') ∧ Hid (App v w u wr)) (fun _ i _ => (intOf i).toNat)
  case atStart => exact ⟨n, 9, d, rfl, Lib.hid ⟨fit_start HN.out, by omega, rfl⟩, by omega, H, Lib.hid (App.refl _ _)⟩
  clear H
  case round =>
    obtain ⟨m, f, d', rfl, HM, hd', HO, HA⟩ := hrel
    by_cases hge : 128 ≤ m
    · obtain ⟨f', rfl⟩ : ∃ f', f = f' + 1 := by
        cases f with
        | zero => have := fit_zero HM.out.1; omega
        | succ f => exact ⟨f, rfl⟩
      have hx := low_byte m
      obtain ⟨x, hxe⟩ : ∃ x, UInt8.ofNat (m % 128 + 128) = x := ⟨_, rfl⟩
      rw [hxe] at hx
      have HX := Lib.hid hxe
      have hln : d'.length + 1 ≤ 140737488355328 := by omega
      clear hxe
      go_wp2_with ((with_reducible show wpList _ _ _ (⟨some 12, _, _, _, _, _⟩ :: _) _ _); refine wpList_append_bytes rfl _ _ rfl _ d' rfl (HO.out.spares (F := nowhere) ((Spares.refl _ _).alloc _) (fun _ _ h => h)) (some ⟨wr.heap.size, 0, none⟩) 1 [x] rfl (bytesAt_new wr x) (fun e => by cases e) hln ?_; intro ao c' w1 ho hg hf; have HO1 := Lib.hid ho; have HA1 := Lib.hid (App.fresh _ (App.grown hg hf)); clear ho hg hf)
      go_roundw
      case rel => exact ⟨m / 128, f', d' ++ [x], by go_num, Lib.hid ⟨fit_next HM.out.1, by have := HM.out.2.1; omega, by rw [HM.out.2.2, numG_next hge, ← HX.out]; simp⟩, by simp; omega, HO1, Lib.hid (HA.out.trans HA1.out)⟩
      case measure => simp [intOf]; omega
    · have HX := Lib.hid (numG_small (f := f) (show m < 128 by omega))
      obtain ⟨x, rfl⟩ : ∃ x : UInt8, m = x.toNat := ⟨UInt8.ofNat m, by rw [UInt8.toNat_ofNat']; omega⟩
      have hx : x.toNat ≤ 127 := by omega
      have hln : d'.length + 1 ≤ 140737488355328 := by omega
      have HE : Hid (d ++ numF n = d' ++ [x]) := Lib.hid (by rw [HM.out.2.2, HX.out, UInt8.ofNat_toNat])
      clear hge
      go_wp2_with ((with_reducible show wpList _ _ _ (⟨some 19, _, _, _, _, _⟩ :: _) _ _); refine wpList_append_bytes rfl _ _ rfl _ d' rfl (HO.out.spares (F := nowhere) ((Spares.refl _ _).alloc _) (fun _ _ h => h)) (some ⟨wr.heap.size, 0, none⟩) 1 [x] rfl (bytesAt_new wr x) (fun e => by cases e) hln ?_; intro ao c' w1 ho hg hf; have HO1 := Lib.hid ho; have HA1 := Lib.hid (App.fresh _ (App.grown hg hf)); clear ho hg hf)
      go_ret
      exact ⟨_, rfl, by rw [HE.out]; exact HO1.out, HA.out.trans HA1.out⟩
set_option maxRecDepth 100000 in
set_option maxHeartbeats 1000000 in
theorem aText_any (v : Value) (d l : List UInt8) (a : Option Addr) (c n : Nat) (w : World) (h : OwnBytes w v d) (hat : BytesAt w a l) (hnl : n = l.length) (hnil : a = none → c = 0) (hsrc : 0 < l.length → ∀ b off, a = some ⟨b, off, none⟩ → ¬ v.ownBlock = some b)
    (hd : d.length ≤ 10000000000000) (hl : l.length ≤ 10000000000000) :
    Calls Tryd.prog 14 #[v, .slice a n c] w (AppPost v (d ++ textF l) w) := by
  have H := Lib.hid h
  have HL := Lib.hid hat
  have HN := Lib.hid hnl
  have HNIL := Lib.hid hnil
  have HSRC := Lib.hid hsrc
  have HE : Hid (d ++ textF l = d ++ numF l.length ++ l) := Lib.hid (by unfold textF; rw [List.append_assoc])
  have hcv : IntKind.u64.wrap (n : Int) = (n : Int) := by rw [IntKind.wrap_u64]; omega
  have HNUM := Lib.hid (aNum_any v d n w h (by unfold U64; omega) (by omega))
  have i1 : (n : Int) ≤ 10000000000000 := by omega
  clear h hat hnl hnil hsrc
  go_enter Tryd.func14, Tryd.ntmps14
  go_wp2_with fail
  refine HNUM.out.mono ?_
  rintro e w1 ⟨v1, rfl, ho1, ha1⟩
  have HO1 := Lib.hid ho1
  have HA1 := Lib.hid ha1
  have HL1 := Lib.hid (HL.out.spares' ha1.1 (fun h0 b off e => HSRC.out h0 b off e))
  have hln : (d ++ numF n).length + l.length ≤ 140737488355328 := by have := numF_len n; rw [List.length_append]; omega
  obtain ⟨D, hD⟩ : ∃ D, d ++ numF n = D := ⟨_, rfl⟩
  rw [hD] at HO1 hln
  obtain ⟨m, hm⟩ : ∃ m, D.length + l.length = m := ⟨_, rfl⟩
  have HLN := Lib.hid hln
  have HEE : Hid (d ++ textF l = D ++ l) := Lib.hid (by rw [HE.out, ← HN.out, hD])
  clear ho1 ha1 HNUM hln hD HE
  go_wp2_with ((with_reducible show wpList _ _ _ (⟨some 11, _, _, _, _, _⟩ :: _) _ _); refine wpList_append_bytes rfl _ _ rfl v1 D rfl HO1.out a c l (by rw [← HN.out]; rfl) HL1.out HNIL.out HLN.out ?_; intro ao c' w2 ho hg hf; rw [hm] at ho hf; rw [hm]; have HO2 := Lib.hid ho; have HA2 := Lib.hid (App.grown hg hf); clear ho hg hf)
  go_ret
  exact ⟨_, rfl, by rw [HEE.out]; exact HO2.out, HA1.out.trans HA2.out⟩
end Go.Proofs.YtekdkaiammebnaaDoor
