/-
  ending: the last block or two of a text, padded.
  The reference's pad: a text as it is summed.
  The reference's Put: a number's bytes, the highest first, behind a row.
  Numbers as bytes, the highest first, and a fragment's bytes.
  big.Append, and frag's writer: what it holds, and what each of its calls writes.
  big.Of, the reference's Get, and frag's reader.
  The top bit of a turn, and the low bits of a tag.
  Two keys of 32 bytes, held against one another.
-/
import Derived.Laws.CopyOwn
import Derived.DeepKeys
import Derived.Test.YtihbjkdgfflnfaaMg1
import Derived.Test.YtihbjkdgfflnfaaMg3
namespace Go.Proofs.Ytihbjkdgfflnfaa
open Go.RowKit

def bytesV (l : List UInt8) : Array Value := (Lib.byteCells l).toArray
theorem bytesV_size (l : List UInt8) : (bytesV l).size = l.length := by simp [bytesV, Lib.byteCells]
theorem bytesV_get (l : List UInt8) (i : Nat) (h : i < l.length) : (bytesV l)[i]? = some (.int .u8 (l.getD i 0).toNat) := by
  simp [bytesV, Lib.byteCells, List.getD_eq_getElem?_getD, List.getElem?_eq_getElem h]
theorem bytesV_at {w : World} {g : Nat} {t : TypeId} {l : List UInt8} (h : w.heap[g]? = some (.cells (bytesV l) t (0, 0))) : BytesAt w (some ⟨g, 0, none⟩) l := by
  intro k hk
  refine ⟨g, 0, rfl, ?_⟩
  rw [Nat.zero_add, Lib.cell_of_heap h, bytesV_get l k hk, List.getD_eq_getElem?_getD, List.getElem?_eq_getElem hk]
  rfl
end Go.Proofs.Ytihbjkdgfflnfaa
namespace Go.Proofs.Ytihbjkdgfflnfaa
open Go.RowKit

theorem byte_shift (M j s : Nat) (hs : 8 * j = s) : ((M : Int) / 2 ^ s) % 256 = ((UInt8.ofNat (M / 256 ^ j)).toNat : Int) := by
  have e : (2 : Int) ^ s = ((256 ^ j : Nat) : Int) := by rw [← hs, show (256 : Nat) = 2 ^ 8 from rfl, ← Nat.pow_mul]; simp
  rw [UInt8.toNat_ofNat', e, ← Int.natCast_ediv]
  simp
end Go.Proofs.Ytihbjkdgfflnfaa
namespace Go.Proofs.Ytihbjkdgfflnfaa
open Go.RowKit

def beN (k M : Nat) : List UInt8 := (List.range k).map fun i => UInt8.ofNat (M / 256 ^ (k - 1 - i))
theorem beN_len (k M : Nat) : (beN k M).length = k := by simp [beN]
theorem beN_take (k M j i : Nat) (hj : j < k) (hi : k - 1 - j = i) : (beN k M).take (j + 1) = (beN k M).take j ++ [UInt8.ofNat (M / 256 ^ i)] := by
  rw [List.take_add_one, List.getElem?_eq_getElem (by rw [beN_len]; exact hj), ← hi]
  simp [beN]
set_option maxRecDepth 100000 in
set_option maxHeartbeats 1000000 in
theorem put_any (B : Nat) (v : Value) (d : List UInt8) (M k : Nat) (w : World) (hr : Row8 B w v d) (hB : B ≤ w.heap.size) (hk : k ≤ 8) (hd : d.length + k ≤ 140737488355328) :
    Calls Try.prog 44 #[v, .int .u64 M, .int .i64 k] w fun e w' => ∃ v', e = .returned v' ∧ Row8 B w' v' (d ++ beN k M) ∧ Spares (atLeast B) w w' := by
  have HR := Lib.hid hr
  have HD := Lib.hid hd
  clear hr hd
  have HR0 : Hid (Row8 B w v (d ++ (beN k M).take 0)) := Lib.hid (by rw [List.take_zero, List.append_nil]; exact HR.out)
  go_enter Try.func44, Try.ntmps44
  go_wp2
  go_loopw [0, 7] (fun v i wr => ∃ j : Nat, j ≤ k ∧ i = .int .i64 ((k : Int) - 1 - (j : Int)) ∧ Hid (Row8 B wr v (d ++ (beN k M).take j)) ∧ Hid (Spares (atLeast B) w wr)) (fun _ i _ => (intOf i + 1).toNat)
  case atStart => exact ⟨0, by omega, by simp, HR0, Lib.hid (Spares.refl _ _)⟩
  clear HR0 HR
  case round =>
    obtain ⟨j, hj, rfl, HR1, HS1⟩ := hrel
    by_cases hlt : j < k
    · obtain ⟨i, hi⟩ : ∃ i : Nat, k - 1 - j = i := ⟨_, rfl⟩
      have hii : (k : Int) - 1 - (j : Int) = (i : Int) := by omega
      rw [hii]
      obtain ⟨s, hs⟩ : ∃ s : Nat, 8 * i = s := ⟨_, rfl⟩
      have hsi : (8 : Int) * (i : Int) = (s : Int) := by omega
      have hs0 : s < 64 := by omega
      have hB1 := Nat.le_trans hB HS1.out.size
      obtain ⟨x, hx⟩ : ∃ x, UInt8.ofNat (M / 256 ^ i) = x := ⟨_, rfl⟩
      have hbt := byte_shift M i s hs
      rw [hx] at hbt
      have hbw : IntKind.u8.wrap ((M : Int) / 2 ^ s) = (x.toNat : Int) := by rw [← hbt, IntKind.wrap_u8]
      obtain ⟨Y, hY⟩ : ∃ Y, d ++ (beN k M).take j = Y := ⟨_, rfl⟩
      rw [hY] at HR1
      have hYl : Y.length + 1 ≤ 140737488355328 := by rw [← hY, List.length_append, List.length_take, beN_len]; have := HD.out; omega
      have HNXT : Hid (d ++ (beN k M).take (j + 1) = Y ++ [x]) := Lib.hid (by rw [beN_take k M j i hlt hi, ← List.append_assoc, hY, hx])
      have HYL := Lib.hid hYl
      have hj2 : (i : Int) - 1 = (k : Int) - 1 - ((j + 1 : Nat) : Int) := by omega
      have HJ2 := Lib.hid hj2
      clear hx hY hYl hi hii hs hj2
      go_wp2_with ((with_reducible show wpList _ _ _ (⟨some 21, _, _, _, _, _⟩ :: _) _ _); refine wpList_row_one rfl _ _ rfl B _ Y rfl HR1.out x _ rfl rfl HYL.out hB1 ?_; intro v9 w9 hr9 hs9; have HR9 := Lib.hid hr9; have HS9 := Lib.hid hs9; clear hr9 hs9)
      go_roundw
      case rel =>
        exact ⟨j + 1, by omega, by rw [HJ2.out], by rw [HNXT.out]; exact HR9, Lib.hid (HS1.out.trans HS9.out)⟩
      case measure => simp [intOf]
    · obtain rfl : j = k := by omega
      have e1 : (j : Int) - 1 - (j : Int) = -1 := by omega
      rw [e1]
      have HRF : Hid (Row8 B wr u0 (d ++ beN j M)) := Lib.hid (by
        have := HR1.out
        rw [List.take_of_length_le (by rw [beN_len]; omega)] at this
        exact this)
      go_wp2
      go_ret
      exact ⟨_, rfl, HRF.out, HS1.out⟩
end Go.Proofs.Ytihbjkdgfflnfaa
namespace Go.Proofs.Ytihbjkdgfflnfaa
open Go.RowKit

def ofBE (l : List UInt8) : Nat := l.foldl (fun n c => n * 256 + c.toNat) 0
theorem ofBE_snoc (l : List UInt8) (c : UInt8) : ofBE (l ++ [c]) = ofBE l * 256 + c.toNat := by unfold ofBE; rw [List.foldl_append]; rfl
theorem ofBE_take {l : List UInt8} {k : Nat} (h : k < l.length) : ofBE (l.take (k + 1)) = ofBE (l.take k) * 256 + l[k].toNat := by
  rw [List.take_add_one, List.getElem?_eq_getElem h]; exact ofBE_snoc _ _
theorem ofBE_takeLt (l : List UInt8) (k : Nat) (h : k ≤ l.length) : ofBE (l.take k) < 256 ^ k := by
  induction k with
  | zero => simp [ofBE]
  | succ k ih =>
    rw [ofBE_take (by omega)]
    have := ih (by omega)
    have hx := (l[k]).toNat_lt
    rw [Nat.pow_succ]
    omega
theorem ofBE_lt (l : List UInt8) : ofBE l < 256 ^ l.length := by
  have := ofBE_takeLt l l.length (Nat.le_refl _)
  rwa [List.take_length] at this
/-- One more byte below: n<<8 | c. -/
theorem shl_or (n : Nat) (c : UInt8) (h : n < 72057594037927936) : Go.bits .or .u64 ((n : Int) * 256) (c.toNat : Int) = ((n * 256 + c.toNat : Nat) : Int) := by
  rw [show ((n : Int) * 256) = ((n * 256 : Nat) : Int) by omega, u64_or_nat _ _ (by omega) (by have := c.toNat_lt; omega)]
  congr 1
  have hc := c.toNat_lt
  have := Nat.shiftLeft_add_eq_or_of_lt (i := 8) (b := c.toNat) (by omega) n
  rw [Nat.shiftLeft_eq] at this
  exact this.symm
end Go.Proofs.Ytihbjkdgfflnfaa
namespace Go.Proofs.Ytihbjkdgfflnfaa
open Go.RowKit

def Grows (v : Value) (d : List UInt8) (w : World) (e : Ending) (w' : World) : Prop :=
  ∃ v', e = .returned v' ∧ OwnBytes w' v' d ∧ Spares (fun b => v.ownBlock = some b) w w' ∧ ∀ g, v'.ownBlock = some g → v.ownBlock = some g ∨ w.heap.size ≤ g
theorem byteOne_at (w : World) (x : UInt8) : BytesAt (w.alloc (.cells #[.int .u8 (x.toNat : Int)] 5)) (some ⟨w.heap.size, 0, none⟩) [x] := by
  intro k hk
  have : k = 0 := by simpa using hk
  subst this
  exact ⟨_, _, rfl, (Lib.cell_of_heap (heap_alloc_new w _) 0).trans rfl⟩

set_option maxRecDepth 100000 in
set_option maxHeartbeats 1000000 in
theorem bigAppend_any (v : Value) (d : List UInt8) (M k : Nat) (w : World) (hr : OwnBytes w v d) (hk : k ≤ 8) (hd : d.length + k ≤ 140737488355328) :
    Calls Try.prog 42 #[v, .int .u64 M, .int .i64 k] w (Grows v (d ++ beN k M) w) := by
  have HD := Lib.hid hd
  have HR0 : Hid (OwnBytes w v (d ++ (beN k M).take 0)) := Lib.hid (by rw [List.take_zero, List.append_nil]; exact hr)
  clear hr hd
  go_enter Try.func42, Try.ntmps42
  go_wp2
  go_loopw [0, 7] (fun u i wr => ∃ j : Nat, j ≤ k ∧ i = .int .i64 ((k : Int) - 1 - (j : Int)) ∧ Hid (OwnBytes wr u (d ++ (beN k M).take j)) ∧ Hid (Spares (fun b => v.ownBlock = some b) w wr) ∧ Hid (∀ g, u.ownBlock = some g → v.ownBlock = some g ∨ w.heap.size ≤ g)) (fun _ i _ => (intOf i + 1).toNat)
  case atStart => exact ⟨0, by omega, by simp, HR0, Lib.hid (Spares.refl _ _), Lib.hid (fun g h => .inl h)⟩
  clear HR0
  case round =>
    obtain ⟨j, hj, rfl, HR1, HS1, HG1⟩ := hrel
    by_cases hlt : j < k
    · obtain ⟨i, hi⟩ : ∃ i : Nat, k - 1 - j = i := ⟨_, rfl⟩
      have hii : (k : Int) - 1 - (j : Int) = (i : Int) := by omega
      rw [hii]
      obtain ⟨s, hs⟩ : ∃ s : Nat, 8 * i = s := ⟨_, rfl⟩
      have hsi : (8 : Int) * (i : Int) = (s : Int) := by omega
      have hs0 : s < 64 := by omega
      obtain ⟨x, hx⟩ : ∃ x, UInt8.ofNat (M / 256 ^ i) = x := ⟨_, rfl⟩
      have hbt := byte_shift M i s hs
      rw [hx] at hbt
      have hbw : IntKind.u8.wrap ((M : Int) / 2 ^ s) = (x.toNat : Int) := by rw [← hbt, IntKind.wrap_u8]
      obtain ⟨Y, hY⟩ : ∃ Y, d ++ (beN k M).take j = Y := ⟨_, rfl⟩
      rw [hY] at HR1
      have hYl : Y.length + 1 ≤ 140737488355328 := by rw [← hY, List.length_append, List.length_take, beN_len]; have := HD.out; omega
      have HNXT : Hid (d ++ (beN k M).take (j + 1) = Y ++ [x]) := Lib.hid (by rw [beN_take k M j i hlt hi, ← List.append_assoc, hY, hx])
      have HYL := Lib.hid hYl
      have hj2 : (i : Int) - 1 = (k : Int) - 1 - ((j + 1 : Nat) : Int) := by omega
      have HJ2 := Lib.hid hj2
      clear hx hY hYl hi hii hs hj2
      go_wp2_with ((with_reducible show wpList _ _ _ (⟨some 21, _, _, _, _, _⟩ :: _) _ _); refine wpList_append_bytes rfl _ _ rfl _ Y rfl (HR1.out.spares (F := nowhere) ((Spares.refl _ _).alloc _) (fun _ _ h => h)) (some ⟨wr.heap.size, 0, none⟩) 1 [x] rfl (byteOne_at wr x) (fun e => by cases e) HYL.out ?_; intro ao c' w9 ho hg hf; have HO9 := Lib.hid ho; have HS9 := Lib.hid (((Spares.refl _ wr).alloc (.cells #[.int .u8 (x.toNat : Int)] 5)).grown hg (fun g h => .inl h)); have HF9 := Lib.hid hf; clear ho hg hf)
      go_roundw
      case rel =>
        refine ⟨j + 1, by omega, by rw [HJ2.out], by rw [HNXT.out]; exact HO9, Lib.hid (HS1.out.trans' HS9.out HG1.out), Lib.hid (fun g h => ?_)⟩
        rcases HF9.out g h with h | h
        · exact HG1.out g h
        · exact .inr (Nat.le_trans HS1.out.size (Nat.le_trans (by simp) h))
      case measure => simp [intOf]
    · obtain rfl : j = k := by omega
      have e1 : (j : Int) - 1 - (j : Int) = -1 := by omega
      rw [e1]
      have HRF : Hid (OwnBytes wr u0 (d ++ beN j M)) := Lib.hid (by
        have := HR1.out
        rw [List.take_of_length_le (by rw [beN_len]; omega)] at this
        exact this)
      go_wp2
      go_ret
      exact ⟨_, rfl, HRF.out, HS1.out, HG1.out⟩

/-- frag's writer in block p has written d; F: the blocks that it uses. -/
def IsFW (F : Nat → Prop) (p : Nat) (d : List UInt8) (w : World) : Prop :=
  F p ∧ (∀ k, F k → k < w.heap.size) ∧ ∃ v, w.heap[p]? = some (.cells #[v] 91 (0, 0)) ∧ OwnBytes w v d ∧ ∀ g, v.ownBlock = some g → F g
theorem IsFW.spares {F G : Nat → Prop} {p : Nat} {d : List UInt8} {w w' : World} (h : IsFW F p d w) (hs : Spares G w w') (hn : ∀ k, F k → ¬ G k) : IsFW F p d w' := by
  obtain ⟨h1, h2, v, h3, h4, h5⟩ := h
  exact ⟨h1, fun k hk => Nat.lt_of_lt_of_le (h2 k hk) hs.size, v, hs.heap h3 (hn _ h1), h4.spares hs (fun g hg => hn g (h5 g hg)), h5⟩
theorem IsFW.alloc {F : Nat → Prop} {p : Nat} {d : List UInt8} {w : World} (h : IsFW F p d w) (o : Obj) : IsFW F p d (w.alloc o) :=
  h.spares (G := nowhere) ((Spares.refl _ _).alloc o) (fun _ _ h => h)
def MovedF (F : Nat → Prop) (w : World) (F' : Nat → Prop) (w' : World) : Prop := Spares F w w' ∧ ∀ k, F' k → F k ∨ w.heap.size ≤ k
theorem MovedF.refl (F : Nat → Prop) (w : World) : MovedF F w F w := ⟨Spares.refl _ _, fun _ h => .inl h⟩
theorem MovedF.trans {F F' F'' : Nat → Prop} {w w' w'' : World} (h : MovedF F w F' w') (k : MovedF F' w' F'' w'') : MovedF F w F'' w'' :=
  ⟨h.1.trans' k.1 h.2, fun b hb => (k.2 b hb).elim (h.2 b) (fun hge => .inr (Nat.le_trans h.1.size hge))⟩
theorem MovedF.spares {F F' : Nat → Prop} {w w' w'' : World} (h : MovedF F w F' w') (k : Spares nowhere w' w'') : MovedF F w F' w'' := ⟨h.1.trans' k (fun _ h => by cases h), h.2⟩
theorem MovedF.alloc {F F' : Nat → Prop} {w w' : World} (h : MovedF F w F' w') (o : Obj) : MovedF F w F' (w'.alloc o) := ⟨h.1.alloc o, h.2⟩

/-- The bytes of the row are appended to, and the slice is stored where it was. -/
theorem IsFW.put {F : Nat → Prop} {p : Nat} {d d' : List UInt8} {w w1 : World} {v v' : Value} (h1 : F p) (h2 : ∀ k, F k → k < w.heap.size) (h3 : w.heap[p]? = some (.cells #[v] 91 (0, 0))) (h4 : OwnBytes w v d) (h5 : ∀ g, v.ownBlock = some g → F g)
    (ho : OwnBytes w1 v' d') (hg : Spares (fun b => v.ownBlock = some b) w w1) (hf : ∀ g, v'.ownBlock = some g → v.ownBlock = some g ∨ w.heap.size ≤ g) :
    w1.heap[p]? = some (.cells #[v] 91 (0, 0)) ∧ ∃ F', IsFW F' p d' (w1.setCell ⟨p, 0, none⟩ v') ∧ MovedF F w F' (w1.setCell ⟨p, 0, none⟩ v') := by
  have hp := h2 p h1
  have hvp : v.ownBlock ≠ some p := by
    intro e
    obtain ⟨cs, hcs⟩ := h4.kind p e
    rw [h3] at hcs
    injection hcs with hcs
    injection hcs with _ hcs _
    exact absurd hcs (by decide)
  have hw1 : w1.heap[p]? = some (.cells #[v] 91 (0, 0)) := by rw [hg.block p hp hvp]; exact h3
  have hvp' : ∀ g, v'.ownBlock = some g → g ≠ p := by
    intro g hgv e
    obtain ⟨cs, hcs⟩ := ho.kind g hgv
    rw [e, hw1] at hcs
    injection hcs with hcs
    injection hcs with _ hcs _
    exact absurd hcs (by decide)
  have hs1 : Spares F w w1 := hg.mono (fun k hk => .inl (h5 k hk))
  have hsp : Spares (fun b => b = p) w1 (w1.setCell ⟨p, 0, none⟩ v') := Spares.setCell (F := fun b => b = p) (Spares.refl _ w1) (p := ⟨p, 0, none⟩) (.inl rfl) v'
  refine ⟨hw1, fun k => F k ∨ v'.ownBlock = some k, ⟨.inl h1, ?_, v', ?_, ho.spares hsp (fun g hg e => hvp' g hg e), fun g hg => .inr hg⟩, hs1.trans' hsp (fun b hb => by subst hb; exact .inl h1), ?_⟩
  · rintro k (hk | hk)
    · exact Nat.lt_of_lt_of_le (h2 k hk) (Nat.le_trans hs1.size hsp.size)
    · exact Nat.lt_of_lt_of_le (ho.lt k hk) hsp.size
  · exact heap_set hw1 0 v'
  · rintro k (hk | hk)
    · exact .inl hk
    · exact (hf k hk).elim (fun e => .inl (h5 k e)) .inr

def FWPost (F : Nat → Prop) (p : Nat) (d : List UInt8) (w : World) (e : Ending) (w' : World) : Prop := e = .returned (.tuple #[]) ∧ ∃ F', IsFW F' p d w' ∧ MovedF F w F' w'

set_option maxHeartbeats 1000000 in
theorem fwNum_any (F : Nat → Prop) (p : Nat) (d : List UInt8) (M k : Nat) (w : World) (h : IsFW F p d w) (hk : k ≤ 8) (hd : d.length + k ≤ 140737488355328) :
    Calls Try.prog 51 #[.pointer (some ⟨p, 0, none⟩), .int .u64 M, .int .i64 k] w (FWPost F p (d ++ beN k M) w) := by
  obtain ⟨h1, h2, v, h3, h4, h5⟩ := h
  have hcell : w.cell? ⟨p, 0, none⟩ = some v := by rw [Lib.cell_of_heap h3]; rfl
  have HC := Lib.hid (bigAppend_any v d M k w h4 hk hd)
  have H1 := Lib.hid h1
  have H2 := Lib.hid h2
  have H3 := Lib.hid h3
  have H4 := Lib.hid h4
  have H5 := Lib.hid h5
  clear h1 h2 h3 h4 h5 hd
  go_enter Try.func51, Try.ntmps51
  go_wp2_with fail
  refine HC.out.mono ?_
  rintro e w9 ⟨v', rfl, ho, hg, hf⟩
  obtain ⟨hp1, F2, hW2, hM2⟩ := IsFW.put H1.out H2.out H3.out H4.out H5.out ho hg hf
  have hfz : w9.frozen? ⟨p, 0, none⟩ = false := Lib.frozen_of_heap hp1 0
  have hc1 : w9.cell? ⟨p, 0, none⟩ = some v := by rw [Lib.cell_of_heap hp1]; rfl
  obtain ⟨N, hN⟩ : ∃ N, (d ++ beN k M).length = N := ⟨_, rfl⟩
  obtain ⟨ao, c', hv, _⟩ := ho.shape
  rw [hN] at hv
  subst hv
  clear hN
  have HW2 := Lib.hid hW2
  have HM2 := Lib.hid hM2
  clear ho hg hf hW2 hM2 hp1 hcell HC
  go_wp2
  go_end0
  exact ⟨rfl, F2, HW2.out, HM2.out⟩
end Go.Proofs.Ytihbjkdgfflnfaa
namespace Go.Proofs.Ytihbjkdgfflnfaa
open Go.RowKit

def Numbered (l : List UInt8) (w : World) (e : Ending) (w' : World) : Prop := e = .returned (.int .u64 (ofBE l : Nat)) ∧ w = w'
theorem ofBE_top {l : List UInt8} {k : Nat} (hk : k < l.length) (h8 : l.length ≤ 8) : ofBE (l.take k) < 72057594037927936 := by
  have h := ofBE_takeLt l k (by omega)
  have : 256 ^ k ≤ 256 ^ 7 := Nat.pow_le_pow_right (by omega) (by omega)
  have e : 256 ^ 7 = 72057594037927936 := by decide
  omega

set_option maxRecDepth 100000 in
set_option maxHeartbeats 1000000 in
theorem bigOf_any (a : Option Addr) (n c : Nat) (l : List UInt8) (w : World) (hat : BytesAt w a l) (hn : n = l.length) (h8 : l.length ≤ 8) :
    Calls Try.prog 40 #[.slice a n c] w (Numbered l w) := by
  have HN := Lib.hid hn
  have HA := Lib.hid hat
  have H8 := Lib.hid h8
  have hn8 : n ≤ 8 := by omega
  clear hat hn h8
  go_enter Try.func40, Try.ntmps40
  go_wp2
  go_loopw [3, 8] (fun s i wr => ∃ k m : Nat, k ≤ n ∧ i = .int .i64 k ∧ s = .int .u64 m ∧ Hid (m = ofBE (l.take k)) ∧ wr = w) (fun _ i _ => n - (intOf i).toNat)
  case atStart => exact ⟨0, 0, by omega, rfl, rfl, Lib.hid rfl, rfl⟩
  case round =>
    obtain ⟨k, m, hk, rfl, rfl, HM, rfl⟩ := hrel
    by_cases hlt : k < n
    · have hk2 : k < l.length := by have := HN.out; omega
      obtain ⟨b, off, rfl, hc⟩ := HA.out k hk2
      obtain ⟨x, hx⟩ : ∃ x, l[k] = x := ⟨_, rfl⟩
      rw [hx] at hc
      have hm : m < 72057594037927936 := by rw [HM.out]; exact ofBE_top hk2 H8.out
      have hxl := x.toNat_lt
      have hor := shl_or m x hm
      have hw1 : IntKind.u64.wrap ((m : Int) * 256) = (m : Int) * 256 := by rw [IntKind.wrap_u64]; omega
      have hw2 : ((m : Int) * 256) % 18446744073709551616 = (m : Int) * 256 := by omega
      have HNX : Hid (m * 256 + x.toNat = ofBE (l.take (k + 1))) := Lib.hid (by rw [ofBE_take hk2, hx, HM.out])
      have i1 : (k : Int) < (n : Int) := by omega
      have hw3 : IntKind.u64.wrap (x.toNat : Int) = (x.toNat : Int) := by rw [IntKind.wrap_u64]; omega
      clear hx hm
      go_wp2
      go_roundw
      case rel => exact ⟨k + 1, m * 256 + x.toNat, by omega, by go_num, rfl, HNX, by trivial⟩
      case measure => simp [intOf]; omega
    · obtain rfl : k = n := by omega
      have HE : Hid (m = ofBE l) := Lib.hid (by rw [HM.out, List.take_of_length_le (by have := HN.out; omega)])
      go_wp2
      go_ret
      exact ⟨by rw [HE.out]; rfl, rfl⟩

set_option maxRecDepth 100000 in
set_option maxHeartbeats 1000000 in
theorem refGet_any (a : Option Addr) (n c : Nat) (l : List UInt8) (w : World) (hat : BytesAt w a l) (hn : n = l.length) (h8 : l.length ≤ 8) :
    Calls Try.prog 46 #[.slice a n c] w (Numbered l w) := by
  have HN := Lib.hid hn
  have HA := Lib.hid hat
  have H8 := Lib.hid h8
  have hn8 : n ≤ 8 := by omega
  clear hat hn h8
  go_enter Try.func46, Try.ntmps46
  go_wp2
  go_loopw [3, 4] (fun s i wr => ∃ k m : Nat, k ≤ n ∧ i = .int .i64 k ∧ s = .int .u64 m ∧ Hid (m = ofBE (l.take k)) ∧ wr = w) (fun _ i _ => n - (intOf i).toNat)
  case atStart => exact ⟨0, 0, by omega, rfl, rfl, Lib.hid rfl, rfl⟩
  case round =>
    obtain ⟨k, m, hk, rfl, rfl, HM, rfl⟩ := hrel
    by_cases hlt : k < n
    · have hk2 : k < l.length := by have := HN.out; omega
      obtain ⟨b, off, rfl, hc⟩ := HA.out k hk2
      obtain ⟨x, hx⟩ : ∃ x, l[k] = x := ⟨_, rfl⟩
      rw [hx] at hc
      have hm : m < 72057594037927936 := by rw [HM.out]; exact ofBE_top hk2 H8.out
      have hxl := x.toNat_lt
      have hor := shl_or m x hm
      have hw1 : IntKind.u64.wrap ((m : Int) * 256) = (m : Int) * 256 := by rw [IntKind.wrap_u64]; omega
      have hw2 : ((m : Int) * 256) % 18446744073709551616 = (m : Int) * 256 := by omega
      have HNX : Hid (m * 256 + x.toNat = ofBE (l.take (k + 1))) := Lib.hid (by rw [ofBE_take hk2, hx, HM.out])
      have i1 : (k : Int) < (n : Int) := by omega
      have hw3 : IntKind.u64.wrap (x.toNat : Int) = (x.toNat : Int) := by rw [IntKind.wrap_u64]; omega
      clear hx hm
      go_wp2
      go_roundw
      case rel => exact ⟨k + 1, m * 256 + x.toNat, by omega, by go_num, rfl, HNX, by trivial⟩
      case measure => simp [intOf]; omega
    · obtain rfl : k = n := by omega
      have HE : Hid (m = ofBE l) := Lib.hid (by rw [HM.out, List.take_of_length_le (by have := HN.out; omega)])
      go_wp2
      go_ret
      exact ⟨by rw [HE.out]; rfl, rfl⟩

/-- frag's reader in block p has l still to read, which lies in block b. -/
def IsFR (p b : Nat) (l : List UInt8) (w : World) : Prop :=
  b ≠ p ∧ p < w.heap.size ∧ ∃ off c, w.heap[p]? = some (.cells #[.slice (some ⟨b, off, none⟩) l.length c] 94 (0, 0)) ∧ BytesAt w (some ⟨b, off, none⟩) l ∧ l.length ≤ c
theorem IsFR.spares {p b : Nat} {l : List UInt8} {w w' : World} {F : Nat → Prop} (h : IsFR p b l w) (hs : Spares F w w') (hp : ¬ F p) (hb : ¬ F b) : IsFR p b l w' := by
  obtain ⟨h1, h2, off, c, h3, h4, h5⟩ := h
  exact ⟨h1, Nat.lt_of_lt_of_le h2 hs.size, off, c, hs.heap h3 hp, h4.spares hs (fun b' off' e => by injection e with e; injection e with e _ _; rw [← e]; exact hb), h5⟩
theorem bytesAt_dropF {w : World} {b off k : Nat} {l : List UInt8} (h : BytesAt w (some ⟨b, off, none⟩) l) : BytesAt w (some ⟨b, off + k, none⟩) (l.drop k) := by
  intro j hj
  have hj' : k + j < l.length := by simp at hj; omega
  obtain ⟨b', off', e, hc⟩ := h (k + j) hj'
  injection e with e
  injection e with e1 e2 e3
  subst e1; subst e2
  exact ⟨_, _, rfl, by rw [List.getElem_drop, Nat.add_assoc]; exact hc⟩
theorem bytesAt_takeF {w : World} {a : Option Addr} {l : List UInt8} (k : Nat) (h : BytesAt w a l) : BytesAt w a (l.take k) := by
  intro j hj
  have hj' : j < l.length := by simp at hj; omega
  obtain ⟨b', off', e, hc⟩ := h j hj'
  exact ⟨_, _, e, by rw [List.getElem_take]; exact hc⟩
theorem IsFR.step {p b off c off' c' k : Nat} {l : List UInt8} {w : World} (h1 : b ≠ p) (h2 : p < w.heap.size)
    (h3 : w.heap[p]? = some (.cells #[.slice (some ⟨b, off, none⟩) l.length c] 94 (0, 0))) (h4 : BytesAt w (some ⟨b, off', none⟩) (l.drop k)) (h6 : (l.drop k).length ≤ c') :
    IsFR p b (l.drop k) (w.setCell ⟨p, 0, none⟩ (.slice (some ⟨b, off', none⟩) (l.drop k).length c')) ∧ Spares (fun x => x = p) w (w.setCell ⟨p, 0, none⟩ (.slice (some ⟨b, off', none⟩) (l.drop k).length c')) := by
  have hs : Spares (fun x => x = p) w (w.setCell ⟨p, 0, none⟩ (.slice (some ⟨b, off', none⟩) (l.drop k).length c')) := Spares.setCell (F := fun x => x = p) (Spares.refl _ w) (p := ⟨p, 0, none⟩) (.inl rfl) _
  exact ⟨⟨h1, Nat.lt_of_lt_of_le h2 hs.size, off', c', heap_set h3 0 _, h4.spares hs (fun b' o' e => by injection e with e; injection e with e _ _; rw [← e]; exact h1), h6⟩, hs⟩

def FRText (p b : Nat) (l : List UInt8) (k : Nat) (w : World) (e : Ending) (w' : World) : Prop :=
  ∃ off, e = .returned (.slice (some ⟨b, off, none⟩) k k) ∧ BytesAt w' (some ⟨b, off, none⟩) (l.take k) ∧ IsFR p b (l.drop k) w' ∧ Spares (fun x => x = p) w w'

set_option maxHeartbeats 1000000 in
theorem frText_any (p b : Nat) (l : List UInt8) (k : Nat) (w : World) (h : IsFR p b l w) (hk : k ≤ l.length) (_hl : l.length ≤ 140737488355328) :
    Calls Try.prog 53 #[.pointer (some ⟨p, 0, none⟩), .int .i64 k] w (FRText p b l k w) := by
  obtain ⟨h1, h2, off, c, h3, h4, h5⟩ := h
  obtain ⟨n, hn⟩ : ∃ n, l.length = n := ⟨_, rfl⟩
  have hc0 : w.cell? ⟨p, 0, none⟩ = some (.slice (some ⟨b, off, none⟩) n c) := by rw [Lib.cell_of_heap h3, ← hn]; rfl
  have hfz : w.frozen? ⟨p, 0, none⟩ = false := Lib.frozen_of_heap h3 0
  have hld : (l.drop k).length = n - k := by rw [List.length_drop, hn]
  have HLD := Lib.hid hld
  rw [hn] at hk h5 _hl
  by_cases hck : c = k
  · subst hck
    obtain rfl : n = c := by omega
    have E := Lib.hid (IsFR.step (k := n) (off' := off) (c' := 0) h1 h2 h3 (by rw [List.drop_of_length_le (by omega)]; exact bytesAt_nil w _) (by rw [hld]; omega))
    rw [hld, Nat.sub_self] at E
    have HB : Hid (BytesAt (w.setCell ⟨p, 0, none⟩ (.slice (some ⟨b, off, none⟩) 0 0)) (some ⟨b, off, none⟩) (l.take n)) := Lib.hid ((bytesAt_takeF n h4).spares E.out.2 (fun b' o' e => by injection e with e; injection e with e _ _; rw [← e]; exact h1))
    clear h1 h2 h3 h4 hn hld
    go_enter Try.func53, Try.ntmps53
    go_wp2
    go_ret
    exact ⟨off, rfl, HB.out, E.out⟩
  · have E := Lib.hid (IsFR.step (k := k) (off' := off + k) (c' := c - k) h1 h2 h3 (bytesAt_dropF h4) (by rw [hld]; omega))
    rw [hld] at E
    have HB : Hid (BytesAt (w.setCell ⟨p, 0, none⟩ (.slice (some ⟨b, off + k, none⟩) (n - k) (c - k))) (some ⟨b, off, none⟩) (l.take k)) := Lib.hid ((bytesAt_takeF k h4).spares E.out.2 (fun b' o' e => by injection e with e; injection e with e _ _; rw [← e]; exact h1))
    clear h1 h2 h3 h4 hn hld
    go_enter Try.func53, Try.ntmps53
    go_wp2
    go_ret
    exact ⟨off, rfl, HB.out, E.out⟩

def FRNum (p b : Nat) (l : List UInt8) (k : Nat) (w : World) (e : Ending) (w' : World) : Prop :=
  e = .returned (.int .u64 (ofBE (l.take k) : Nat)) ∧ IsFR p b (l.drop k) w' ∧ Spares (fun x => x = p) w w'
set_option maxHeartbeats 1000000 in
theorem frNum_any (p b : Nat) (l : List UInt8) (k : Nat) (w : World) (h : IsFR p b l w) (hk : k ≤ l.length) (hk8 : k ≤ 8) (hl : l.length ≤ 140737488355328) :
    Calls Try.prog 52 #[.pointer (some ⟨p, 0, none⟩), .int .i64 k] w (FRNum p b l k w) := by
  have HC := Lib.hid (frText_any p b l k w h hk hl)
  have HT : Hid ((l.take k).length = k) := Lib.hid (by rw [List.length_take]; omega)
  clear h hl
  go_enter Try.func52, Try.ntmps52
  go_wp2_with fail
  refine HC.out.mono ?_
  rintro e w1 ⟨off, rfl, hb, hr, hs⟩
  have HR := Lib.hid hr
  have HS := Lib.hid hs
  have HG := Lib.hid (bigOf_any (some ⟨b, off, none⟩) k k (l.take k) w1 hb HT.out.symm (by rw [HT.out]; exact hk8))
  clear hb hr hs
  go_wp2_with fail
  refine HG.out.mono ?_
  rintro e w2 ⟨rfl, rfl⟩
  go_wp2
  go_ret
  exact ⟨rfl, HR.out, HS.out⟩
end Go.Proofs.Ytihbjkdgfflnfaa
namespace Go.Proofs.Ytihbjkdgfflnfaa
open Go.RowKit

theorem and_top (n : Nat) (h : n < 2 ^ 64) : n &&& 2 ^ 63 = if 2 ^ 63 ≤ n then 2 ^ 63 else 0 := by
  apply Nat.eq_of_testBit_eq
  intro i
  rw [Nat.testBit_and, Nat.testBit_two_pow]
  by_cases hi : 63 = i
  · subst hi
    by_cases hn : 2 ^ 63 ≤ n
    · have e : n.testBit 63 = true := by
        rw [Nat.testBit_eq_decide_div_mod_eq]
        simp only [decide_eq_true_eq]
        omega
      rw [if_pos hn, e, Nat.testBit_two_pow_self]
      rfl
    · rw [if_neg hn, Nat.testBit_lt_two_pow (by omega), Nat.zero_testBit]
      rfl
  · rw [decide_eq_false hi, Bool.and_false]
    split
    · rw [Nat.testBit_two_pow_of_ne hi]
    · rw [Nat.zero_testBit]
theorem top_and {n : Nat} (h : n < 18446744073709551616) : Go.bits .and .u64 (n : Int) 9223372036854775808 = if 9223372036854775808 ≤ n then 9223372036854775808 else 0 := by
  have e := and_top n (by omega)
  have e2 : (2 ^ 63 : Nat) = 9223372036854775808 := by decide
  rw [e2] at e
  rw [show (9223372036854775808 : Int) = ((9223372036854775808 : Nat) : Int) from rfl, u64_and_nat n _ h (by omega), e]
  split <;> rfl
theorem top_andNot {n : Nat} (h : n < 18446744073709551616) : Go.bits .andNot .u64 (n : Int) 9223372036854775808 = (n % 9223372036854775808 : Nat) := by
  rw [show (9223372036854775808 : Int) = ((9223372036854775808 : Nat) : Int) from rfl, u64_andNot_nat n _ h (by omega)]
  congr 1
  exact Nat.and_two_pow_sub_one_eq_mod n 63
theorem tag_and {t : Nat} (h : t < 65536) : Go.bits .and .u16 (t : Int) 4095 = (t % 4096 : Nat) := by
  rw [show (4095 : Int) = ((4095 : Nat) : Int) from rfl, u16_and_nat t _ h (by omega)]
  congr 1
  exact Nat.and_two_pow_sub_one_eq_mod t 12
end Go.Proofs.Ytihbjkdgfflnfaa
namespace Go.Proofs.Ytihbjkdgfflnfaa
open Go.RowKit

theorem cells_one : Try.prog.cellsOf 5 = 1 ∧ Try.prog.cellsOf 36 = 32 := ⟨by kernel_rfl, by kernel_rfl⟩
end Go.Proofs.Ytihbjkdgfflnfaa
