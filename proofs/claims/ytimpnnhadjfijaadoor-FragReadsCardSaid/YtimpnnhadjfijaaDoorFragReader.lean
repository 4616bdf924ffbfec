/-
  big.Of, the reference's Get, and frag's reader.
-/
import Derived.Test.YtimpnnhadjfijaaDoorFragWriter
namespace Go.Proofs.YtimpnnhadjfijaaDoor
open Go.RowKit

def Numbered (l : List UInt8) (w : World) (e : Ending) (w' : World) : Prop := e = .returned (.int .u64 (ofBE l : Nat)) ∧ w = w'
theorem u64_same {a b : Nat} (h : a = b) : (.int .u64 (a : Int) : Value) = .int .u64 (b : Int) := by rw [h]
theorem ofBE_top {l : List UInt8} {k : Nat} (hk : k < l.length) (h8 : l.length ≤ 8) : ofBE (l.take k) < 72057594037927936 := by
  have h := ofBE_takeLt l k (by omega)
  have : 256 ^ k ≤ 256 ^ 7 := Nat.pow_le_pow_right (by omega) (by omega)
  have e : 256 ^ 7 = 72057594037927936 := by decide
  omega

set_option maxRecDepth 100000 in
set_option maxHeartbeats 1000000 in
theorem bigOf_any (a : Option Addr) (n c : Nat) (l : List UInt8) (w : World) (hat : BytesAt w a l) (hn : n = l.length) (h8 : l.length ≤ 8) :
    Calls Tryd.prog 42 #[.slice a n c] w (Numbered l w) := by
  have HN := Lib.hid hn
  have HA := Lib.hid hat
  have H8 := Lib.hid h8
  have hn8 : n ≤ 8 := by omega
  clear hat hn h8
  go_enter Tryd.func42, Tryd.ntmps42
  go_wp2
  go_loopw [3, 8] (fun s i wr => ∃ k m : Nat, k ≤ n ∧ i = .int .i64 k ∧ s = .int .u64 m ∧ Hid (m = ofBE (l.take k)) ∧ wr = w) (fun _ i _ => n - (intOf i).toNat)
  case atStart => exact ⟨0, 0, by omega, rfl, rfl, Lib.hid rfl, rfl⟩
  case round =>
    obtain ⟨k, m, hk, rfl, rfl, HM, rfl⟩ := hrel
    by_cases hlt : k < n
    · have hk2 : k < l.length := by have := HN.out; omega
      obtain ⟨b, off, rfl, hc⟩ := HA.out k hk2
      obtain ⟨x, hx⟩ : ∃ x, l[k] = x := ⟨_, rfl⟩
      rw [hx] at hc
      have hm : m < 72057594037927936 := by rw [HM.out]; exact ofBE_top hk2 H8.out
      have hxl := x.toNat_lt
      have hor := shl_or m x hm
      have hw1 : IntKind.u64.wrap ((m : Int) * 256) = (m : Int) * 256 := by rw [IntKind.wrap_u64]; omega
      have hw2 : ((m : Int) * 256) % 18446744073709551616 = (m : Int) * 256 := by omega
      have HNX : Hid (m * 256 + x.toNat = ofBE (l.take (k + 1))) := Lib.hid (by rw [ofBE_take hk2, hx, HM.out])
      have i1 : (k : Int) < (n : Int) := by omega
      have hw3 : IntKind.u64.wrap (x.toNat : Int) = (x.toNat : Int) := by rw [IntKind.wrap_u64]; omega
      clear hx hm
      go_wp2
      go_roundw
      case rel => exact ⟨k + 1, m * 256 + x.toNat, by omega, by go_num, rfl, HNX, by trivial⟩
      case measure => simp [intOf]; omega
    · obtain rfl : k = n := by omega
      have HE : Hid (m = ofBE l) := Lib.hid (by rw [HM.out, List.take_of_length_le (by have := HN.out; omega)])
      go_wp2
      go_ret
      exact ⟨by rw [HE.out]; rfl, rfl⟩

set_option maxRecDepth 100000 in
set_option maxHeartbeats 1000000 in
theorem refGet_any (a : Option Addr) (n c : Nat) (l : List UInt8) (w : World) (hat : BytesAt w a l) (hn : n = l.length) (h8 : l.length ≤ 8) :
    Calls Tryd.prog 33 #[.slice a n c] w (Numbered l w) := by
  have HN := Lib.hid hn
  have HA := Lib.hid hat
  have H8 := Lib.hid h8
  have hn8 : n ≤ 8 := by omega
  clear hat hn h8
  go_enter Tryd.func33, Tryd.ntmps33
  go_wp2
  go_loopw [3, 4] (fun s i wr => ∃ k m : Nat, k ≤ n ∧ i = .int .i64 k ∧ s = .int .u64 m ∧ Hid (m = ofBE (l.take k)) ∧ wr = w) (fun _ i _ => n - (intOf i).toNat)
  case atStart => exact ⟨0, 0, by omega, rfl, rfl, Lib.hid rfl, rfl⟩
  case round =>
    obtain ⟨k, m, hk, rfl, rfl, HM, rfl⟩ := hrel
    by_cases hlt : k < n
    · have hk2 : k < l.length := by have := HN.out; omega
      obtain ⟨b, off, rfl, hc⟩ := HA.out k hk2
      obtain ⟨x, hx⟩ : ∃ x, l[k] = x := ⟨_, rfl⟩
      rw [hx] at hc
      have hm : m < 72057594037927936 := by rw [HM.out]; exact ofBE_top hk2 H8.out
      have hxl := x.toNat_lt
      have hor := shl_or m x hm
      have hw1 : IntKind.u64.wrap ((m : Int) * 256) = (m : Int) * 256 := by rw [IntKind.wrap_u64]; omega
      have hw2 : ((m : Int) * 256) % 18446744073709551616 = (m : Int) * 256 := by omega
      have HNX : Hid (m * 256 + x.toNat = ofBE (l.take (k + 1))) := Lib.hid (by rw [ofBE_take hk2, hx, HM.out])
      have i1 : (k : Int) < (n : Int) := by omega
      have hw3 : IntKind.u64.wrap (x.toNat : Int) = (x.toNat : Int) := by rw [IntKind.wrap_u64]; omega
      clear hx hm
      go_wp2
      go_roundw
      case rel => exact ⟨k + 1, m * 256 + x.toNat, by omega, by go_num, rfl, HNX, by trivial⟩
      case measure => simp [intOf]; omega
    · obtain rfl : k = n := by omega
      have HE : Hid (m = ofBE l) := Lib.hid (by rw [HM.out, List.take_of_length_le (by have := HN.out; omega)])
      go_wp2
      go_ret
      exact ⟨by rw [HE.out]; rfl, rfl⟩

/-- frag's reader in block p has l still to read, which lies in block b. -/
def IsFR (p b : Nat) (l : List UInt8) (w : World) : Prop :=
  b ≠ p ∧ p < w.heap.size ∧ ∃ off c, w.heap[p]? = some (.cells #[.slice (some ⟨b, off, none⟩) l.length c] 63 (0, 0)) ∧ BytesAt w (some ⟨b, off, none⟩) l ∧ l.length ≤ c
theorem IsFR.spares {p b : Nat} {l : List UInt8} {w w' : World} {F : Nat → Prop} (h : IsFR p b l w) (hs : Spares F w w') (hp : ¬ F p) (hb : ¬ F b) : IsFR p b l w' := by
  obtain ⟨h1, h2, off, c, h3, h4, h5⟩ := h
  exact ⟨h1, Nat.lt_of_lt_of_le h2 hs.size, off, c, hs.heap h3 hp, h4.spares hs (fun b' off' e => by injection e with e; injection e with e _ _; rw [← e]; exact hb), h5⟩
theorem bytesAt_dropF {w : World} {b off k : Nat} {l : List UInt8} (h : BytesAt w (some ⟨b, off, none⟩) l) : BytesAt w (some ⟨b, off + k, none⟩) (l.drop k) := by
  intro j hj
  have hj' : k + j < l.length := by simp at hj; omega
  obtain ⟨b', off', e, hc⟩ := h (k + j) hj'
  injection e with e
  injection e with e1 e2 e3
  subst e1; subst e2
  exact ⟨_, _, rfl, by rw [List.getElem_drop, Nat.add_assoc]; exact hc⟩
theorem bytesAt_takeF {w : World} {a : Option Addr} {l : List UInt8} (k : Nat) (h : BytesAt w a l) : BytesAt w a (l.take k) := by
  intro j hj
  have hj' : j < l.length := by simp at hj; omega
  obtain ⟨b', off', e, hc⟩ := h j hj'
  exact ⟨_, _, e, by rw [List.getElem_take]; exact hc⟩
theorem IsFR.step {p b off c off' c' k : Nat} {l : List UInt8} {w : World} (h1 : b ≠ p) (h2 : p < w.heap.size)
    (h3 : w.heap[p]? = some (.cells #[.slice (some ⟨b, off, none⟩) l.length c] 63 (0, 0))) (h4 : BytesAt w (some ⟨b, off', none⟩) (l.drop k)) (h6 : (l.drop k).length ≤ c') :
    IsFR p b (l.drop k) (w.setCell ⟨p, 0, none⟩ (.slice (some ⟨b, off', none⟩) (l.drop k).length c')) ∧ Spares (fun x => x = p) w (w.setCell ⟨p, 0, none⟩ (.slice (some ⟨b, off', none⟩) (l.drop k).length c')) := by
  have hs : Spares (fun x => x = p) w (w.setCell ⟨p, 0, none⟩ (.slice (some ⟨b, off', none⟩) (l.drop k).length c')) := Spares.setCell (F := fun x => x = p) (Spares.refl _ w) (p := ⟨p, 0, none⟩) (.inl rfl) _
  exact ⟨⟨h1, Nat.lt_of_lt_of_le h2 hs.size, off', c', heap_set h3 0 _, h4.spares hs (fun b' o' e => by injection e with e; injection e with e _ _; rw [← e]; exact h1), h6⟩, hs⟩

def FRText (p b : Nat) (l : List UInt8) (k : Nat) (w : World) (e : Ending) (w' : World) : Prop :=
  ∃ off, e = .returned (.slice (some ⟨b, off, none⟩) k k) ∧ BytesAt w' (some ⟨b, off, none⟩) (l.take k) ∧ IsFR p b (l.drop k) w' ∧ Spares (fun x => x = p) w w'

set_option maxHeartbeats 1000000 in
theorem frText_any (p b : Nat) (l : List UInt8) (k : Nat) (w : World) (h : IsFR p b l w) (hk : k ≤ l.length) (_hl : l.length ≤ 140737488355328) :
    Calls Tryd.prog 30 #[.pointer (some ⟨p, 0, none⟩), .int .i64 k] w (FRText p b l k w) := by
  obtain ⟨h1, h2, off, c, h3, h4, h5⟩ := h
  obtain ⟨n, hn⟩ : ∃ n, l.length = n := ⟨_, rfl⟩
  have hc0 : w.cell? ⟨p, 0, none⟩ = some (.slice (some ⟨b, off, none⟩) n c) := by rw [Lib.cell_of_heap h3, ← hn]; rfl
  have hfz : w.frozen? ⟨p, 0, none⟩ = false := Lib.frozen_of_heap h3 0
  have hld : (l.drop k).length = n - k := by rw [List.length_drop, hn]
  have HLD := Lib.hid hld
  rw [hn] at hk h5 _hl
  by_cases hck : c = k
  · subst hck
    obtain rfl : n = c := by omega
    have E := Lib.hid (IsFR.step (k := n) (off' := off) (c' := 0) h1 h2 h3 (by rw [List.drop_of_length_le (by omega)]; exact bytesAt_nil w _) (by rw [hld]; omega))
    rw [hld, Nat.sub_self] at E
    have HB : Hid (BytesAt (w.setCell ⟨p, 0, none⟩ (.slice (some ⟨b, off, none⟩) 0 0)) (some ⟨b, off, none⟩) (l.take n)) := Lib.hid ((bytesAt_takeF n h4).spares E.out.2 (fun b' o' e => by injection e with e; injection e with e _ _; rw [← e]; exact h1))
    clear h1 h2 h3 h4 hn hld
    go_enter Tryd.func30, Tryd.ntmps30
    go_wp2
    go_ret
    exact ⟨off, rfl, HB.out, E.out⟩
  · have E := Lib.hid (IsFR.step (k := k) (off' := off + k) (c' := c - k) h1 h2 h3 (bytesAt_dropF h4) (by rw [hld]; omega))
    rw [hld] at E
    have HB : Hid (BytesAt (w.setCell ⟨p, 0, none⟩ (.slice (some ⟨b, off + k, none⟩) (n - k) (c - k))) (some ⟨b, off, none⟩) (l.take k)) := Lib.hid ((bytesAt_takeF k h4).spares E.out.2 (fun b' o' e => by injection e with e; injection e with e _ _; rw [← e]; exact h1))
    clear h1 h2 h3 h4 hn hld
    go_enter Tryd.func30, Tryd.ntmps30
    go_wp2
    go_ret
    exact ⟨off, rfl, HB.out, E.out⟩

def FRNum (p b : Nat) (l : List UInt8) (k : Nat) (w : World) (e : Ending) (w' : World) : Prop :=
  e = .returned (.int .u64 (ofBE (l.take k) : Nat)) ∧ IsFR p b (l.drop k) w' ∧ Spares (fun x => x = p) w w'
set_option maxHeartbeats 1000000 in
theorem frNum_any (p b : Nat) (l : List UInt8) (k : Nat) (w : World) (h : IsFR p b l w) (hk : k ≤ l.length) (hk8 : k ≤ 8) (hl : l.length ≤ 140737488355328) :
    Calls Tryd.prog 31 #[.pointer (some ⟨p, 0, none⟩), .int .i64 k] w (FRNum p b l k w) := by
  have HC := Lib.hid (frText_any p b l k w h hk hl)
  have HT : Hid ((l.take k).length = k) := Lib.hid (by rw [List.length_take]; omega)
  clear h hl
  go_enter Tryd.func31, Tryd.ntmps31
  go_wp2_with fail
  refine HC.out.mono ?_
  rintro e w1 ⟨off, rfl, hb, hr, hs⟩
  have HR := Lib.hid hr
  have HS := Lib.hid hs
  have HG := Lib.hid (bigOf_any (some ⟨b, off, none⟩) k k (l.take k) w1 hb HT.out.symm (by rw [HT.out]; exact hk8))
  clear hb hr hs
  go_wp2_with fail
  refine HG.out.mono ?_
  rintro e w2 ⟨rfl, rfl⟩
  go_wp2
  go_ret
  exact ⟨rfl, HR.out, HS.out⟩
end Go.Proofs.YtimpnnhadjfijaaDoor
