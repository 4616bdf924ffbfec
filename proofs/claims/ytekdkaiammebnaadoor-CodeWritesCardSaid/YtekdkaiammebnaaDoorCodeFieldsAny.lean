/-
  Lists of fields read, whatever the Reader's state; fields held against themselves.
-/
import Derived.Test.YtekdkaiammebnaaDoorCodeFields
namespace Go.Proofs.YtekdkaiammebnaaDoor
open Go.RowKit CodeMath

set_option maxRecDepth 100000 in
set_option maxHeartbeats 1000000 in
theorem rFields_none (F : Nat → Prop) (p : Nat) (l : List UInt8) (w : World) (h : IsR F p l true w) :
    Calls Tryd.prog 23 #[.pointer (some ⟨p, 0, none⟩)] w (Listed F p (readFields none) w) := by
  have h' := (h.alloc (.cells #[.pointer (some ⟨p, 0, none⟩)] 40)).alloc (.cells #[.slice none 0 0] 29)
  have H := Lib.hid h'
  have hp : p < w.heap.size := h.2.1 p h.1
  have HF2 := Lib.hid h.2.1
  obtain ⟨e1, e2⟩ := box_cells w 40 29 (.pointer (some ⟨p, 0, none⟩)) (.slice none 0 0) _ _ rfl rfl
  have HD := Lib.hid (fun T hT => fields_door (w := w) (F := F) (p := p) (l3 := l) (f3 := true) (v := .slice none 0 0) T hT h' (((Spares.refl _ w).alloc _).alloc _) hp h.2.1 e1 e2)
  have hmf : ∀ (fn : Fn) (first cap : Array Value) (w : World), (Instr.makeFunc fn first cap).run Tryd.prog w = .ok (.func fn first cap) w := fun _ _ _ _ => rfl
  clear h h' e1 e2
  go_enter_defers Tryd.func23, Tryd.ntmps23
  go_wp2_with fail
  refine (count_failed F p l _ H.out).mono ?_
  rintro e w1 ⟨rfl, rfl⟩
  go_wp2
  exact HD.out _ rfl
theorem rFields_any (F : Nat → Prop) (p : Nat) (s : Option (List UInt8)) (w : World) (h : IsRS F p s w) (hl : ∀ l, s = some l → l.length ≤ 1000000) :
    Calls Tryd.prog 23 #[.pointer (some ⟨p, 0, none⟩)] w (Listed F p (readFields s) w) := by
  cases s with
  | some l => exact rFields_some F p l w h (hl l rfl)
  | none => obtain ⟨l, h⟩ := h; exact rFields_none F p l w h

def Drew (w : World) (v : Value) (e : Ending) (w' : World) : Prop := e = .returned v ∧ ∃ n, w' = w.drewN n
set_option maxRecDepth 100000 in
set_option maxHeartbeats 1000000 in
theorem fields_same (fs : Fs) (a b : Option Addr) (c d : Nat) (w : World) (hx : FieldsAt w a fs) (hy : FieldsAt w b fs) (hl : fs.length ≤ 140737488355328) :
    Calls Tryd.prog 22 #[.slice a fs.length c, .slice b fs.length d] w (Drew w (.bool true)) := by
  have HX := Lib.hid hx
  have HY := Lib.hid hy
  obtain ⟨n, hn⟩ : ∃ n, fs.length = n := ⟨_, rfl⟩
  have HN := Lib.hid hn
  rw [hn] at hl ⊢
  have q : ((n : Int) != (n : Int)) = false := by simp
  clear hx hy hn
  go_enter Tryd.func22, Tryd.ntmps22
  go_wp2
  go_loopw [5] (fun i wr => ∃ k : Nat, k ≤ n ∧ i = .int .i64 k ∧ ∃ m, Hid (wr = w.drewN m)) (fun i _ => n - (intOf i).toNat)
  case atStart => exact ⟨0, Nat.zero_le _, rfl, 0, Lib.hid rfl⟩
  case round =>
    obtain ⟨k, hk, rfl, m, HM⟩ := hrel
    by_cases hlt : k < n
    · have hlt' : k < fs.length := by rw [HN.out]; exact hlt
      obtain ⟨b1, o1, rfl, hc1, hc2⟩ := HX.out k hlt'
      obtain ⟨b2, o2, rfl, hd1, hd2⟩ := HY.out k hlt'
      obtain ⟨u, hu⟩ : ∃ u, fs[k].1 = u := ⟨_, rfl⟩
      obtain ⟨v, hv⟩ : ∃ v, fs[k].2 = v := ⟨_, rfl⟩
      rw [hu] at hc1 hd1
      rw [hv] at hc2 hd2
      have hw := HM.out
      have x1 : wr.cell? ⟨b1, o1 + k * 2, none⟩ = some (.string u) := by rw [hw]; exact hc1
      have x2 : wr.cell? ⟨b1, o1 + k * 2 + 1, none⟩ = some (.string v) := by rw [hw]; exact hc2
      have y1 : wr.cell? ⟨b2, o2 + k * 2, none⟩ = some (.string u) := by rw [hw]; exact hd1
      have y2 : wr.cell? ⟨b2, o2 + k * 2 + 1, none⟩ = some (.string v) := by rw [hw]; exact hd2
      have t1 : (u.toList == u.toList) = true := by simp
      have t2 : (v.toList == v.toList) = true := by simp
      have i1 : (k : Int) < (n : Int) := by omega
      clear hw hc1 hc2 hd1 hd2 hu hv
      go_wp2
      go_quiet (fail)
      go_wp2
      go_roundw
      case rel => exact ⟨k + 1, by omega, by go_num, _, Lib.hid (by rw [HM.out, World.drewN_drewN])⟩
      case measure => simp [intOf]; omega
    · obtain rfl : k = n := by omega
      go_wp2
      go_ret
      exact ⟨rfl, m, HM.out⟩
end Go.Proofs.YtekdkaiammebnaaDoor
