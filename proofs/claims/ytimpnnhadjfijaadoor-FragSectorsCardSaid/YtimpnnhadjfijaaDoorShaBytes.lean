/-
  Words read from bytes, and written as bytes.
-/
import Derived.Test.YtimpnnhadjfijaaDoorShaWords
namespace Go.Proofs.YtimpnnhadjfijaaDoor
open Go.RowKit

def beW (a b c d : UInt8) : UInt32 := UInt32.ofNat (a.toNat * 16777216 + b.toNat * 65536 + c.toNat * 256 + d.toNat)

theorem beW_int (a b c d : UInt8) : Go.bits .or .u32 (Go.bits .or .u32 (Go.bits .or .u32 ((a.toNat : Int) * 16777216) ((b.toNat : Int) * 65536)) ((c.toNat : Int) * 256)) (d.toNat : Int) = ((beW a b c d).toNat : Int) := by
  have ha := a.toNat_lt
  have hb := b.toNat_lt
  have hc := c.toNat_lt
  have hd := d.toNat_lt
  rw [show (a.toNat : Int) * 16777216 = ((a.toNat * 16777216 : Nat) : Int) by simp, show (b.toNat : Int) * 65536 = ((b.toNat * 65536 : Nat) : Int) by simp, show (c.toNat : Int) * 256 = ((c.toNat * 256 : Nat) : Int) by simp]
  rw [u32_or_nat _ _ (by omega) (by omega), nat_join 24 _ _ (by omega) (by omega), u32_or_nat _ _ (by omega) (by omega), nat_join 16 _ _ (by omega) (by omega), u32_or_nat _ _ (by omega) (by omega), nat_join 8 _ _ (by omega) (by omega)]
  unfold beW
  rw [u32_ofNat, Nat.mod_eq_of_lt (by omega)]

theorem heap_set {w : World} {g : Nat} {t : TypeId} {cs : Array Value} (h : w.heap[g]? = some (.cells cs t (0, 0))) (i : Nat) (u : Value) : (w.setCell ⟨g, i, none⟩ u).heap[g]? = some (.cells (cs.setIfInBounds i u) t (0, 0)) := by
  simp [World.setCell, Array.getElem?_modify, h]
set_option maxRecDepth 100000 in
theorem word_any (x0 x1 x2 x3 : UInt8) (b off n c : Nat) (w : World) (hn : 4 ≤ n) (h0 : w.cell? ⟨b, off, none⟩ = some (.int .u8 x0.toNat)) (h1 : w.cell? ⟨b, off + 1, none⟩ = some (.int .u8 x1.toNat)) (h2 : w.cell? ⟨b, off + 2, none⟩ = some (.int .u8 x2.toNat)) (h3 : w.cell? ⟨b, off + 3, none⟩ = some (.int .u8 x3.toNat)) :
    Calls Tryd.prog 50 #[.slice (some ⟨b, off, none⟩) n c] w fun e w' => e = .returned (.int .u32 (beW x0 x1 x2 x3).toNat) ∧ ∃ n, w' = w.drewN n := by
  have l0 := x0.toNat_lt
  have l1 := x1.toNat_lt
  have l2 := x2.toNat_lt
  have l3 := x3.toNat_lt
  have i0 : (0 : Int) < (n : Int) := by omega
  have i1 : (1 : Int) < (n : Int) := by omega
  have i2 : (2 : Int) < (n : Int) := by omega
  have i3 : (3 : Int) < (n : Int) := by omega
  go_enter Tryd.func50, Tryd.ntmps50
  go_wp2
  go_quiet (fail)
  go_wp2
  go_ret
  exact ⟨by rw [← beW_int]; rfl, _, rfl⟩

def byW (x : UInt32) (i : Nat) : UInt8 := UInt8.ofNat (x.toNat / 256 ^ (3 - i))
theorem byW_int (x : UInt32) : ((x.toNat : Int) / 16777216) % 256 = ((byW x 0).toNat : Int) ∧ ((x.toNat : Int) / 65536) % 256 = ((byW x 1).toNat : Int) ∧ ((x.toNat : Int) / 256) % 256 = ((byW x 2).toNat : Int) ∧ (x.toNat : Int) % 256 = ((byW x 3).toNat : Int) := by
  unfold byW
  simp only [UInt8.toNat_ofNat']
  refine ⟨?_, ?_, ?_, ?_⟩ <;> simp
def byCell (x : UInt32) (i : Nat) : Value := .int .u8 (byW x i).toNat
def put4 (w : World) (g off : Nat) (x : UInt32) : World := (((w.setCell ⟨g, off, none⟩ (byCell x 0)).setCell ⟨g, off + 1, none⟩ (byCell x 1)).setCell ⟨g, off + 2, none⟩ (byCell x 2)).setCell ⟨g, off + 3, none⟩ (byCell x 3)
def set4 (cs : Array Value) (off : Nat) (x : UInt32) : Array Value := (((cs.setIfInBounds off (byCell x 0)).setIfInBounds (off + 1) (byCell x 1)).setIfInBounds (off + 2) (byCell x 2)).setIfInBounds (off + 3) (byCell x 3)
theorem put4_heap {w : World} {g : Nat} {t : TypeId} {cs : Array Value} (h : w.heap[g]? = some (.cells cs t (0, 0))) (off : Nat) (x : UInt32) : (put4 w g off x).heap[g]? = some (.cells (set4 cs off x) t (0, 0)) :=
  heap_set (heap_set (heap_set (heap_set h off _) (off + 1) _) (off + 2) _) (off + 3) _
theorem spares_set {g : Nat} {w w' : World} (h : Spares (fun b => b = g) w w') (i : Nat) (u : Value) : Spares (fun b => b = g) w (w'.setCell ⟨g, i, none⟩ u) := h.setCell (p := ⟨g, i, none⟩) (.inl rfl) u
theorem put4_spares (w : World) (g off : Nat) (x : UInt32) : Spares (fun b => b = g) w (put4 w g off x) :=
  spares_set (spares_set (spares_set (spares_set (Spares.refl _ w) off _) (off + 1) _) (off + 2) _) (off + 3) _
set_option maxRecDepth 100000 in
theorem putWord_any (x : UInt32) (g off n c : Nat) (cs : Array Value) (t : TypeId) (w : World) (hn : 4 ≤ n) (hg : w.heap[g]? = some (.cells cs t (0, 0))) (hs : off + 4 ≤ cs.size) :
    Calls Tryd.prog 37 #[.slice (some ⟨g, off, none⟩) n c, .int .u32 x.toNat] w fun e w' => e = .returned (.tuple #[]) ∧ w' = put4 w g off x := by
  have i0 : (0 : Int) < (n : Int) := by omega
  have i1 : (1 : Int) < (n : Int) := by omega
  have i2 : (2 : Int) < (n : Int) := by omega
  have i3 : (3 : Int) < (n : Int) := by omega
  have f0 := Lib.frozen_of_heap hg off
  have f1 := Lib.frozen_of_heap hg (off + 1)
  have f2 := Lib.frozen_of_heap hg (off + 2)
  have f3 := Lib.frozen_of_heap hg (off + 3)
  have cell : ∀ i, i < 4 → ∃ u, w.cell? ⟨g, off + i, none⟩ = some u := fun i hi => ⟨cs[off + i]'(by omega), by rw [Lib.cell_of_heap hg]; exact Array.getElem?_eq_getElem _⟩
  obtain ⟨u0, c0⟩ := cell 0 (by omega)
  obtain ⟨u1, c1⟩ := cell 1 (by omega)
  obtain ⟨u2, c2⟩ := cell 2 (by omega)
  obtain ⟨u3, c3⟩ := cell 3 (by omega)
  rw [Nat.add_zero] at c0
  clear cell hg hs
  obtain ⟨b0, b1, b2, b3⟩ := byW_int x
  go_enter Tryd.func37, Tryd.ntmps37
  go_wp2
  go_end0
  exact ⟨rfl, rfl⟩
end Go.Proofs.YtimpnnhadjfijaaDoor
