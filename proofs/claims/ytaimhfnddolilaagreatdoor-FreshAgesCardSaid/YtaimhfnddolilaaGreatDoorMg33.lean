/-
  policy.May: a response may be kept just when all seven rules hold.
  What the laws' own literals say of what may be kept; mayF: the seven rules' conjunction.
-/
import Derived.Laws.EntriesVeiled
import Derived.Deep.RegionHeld3
import Derived.Deep.DeepCutAuto
import Derived.Test.YtaimhfnddolilaaGreatDoorMg29
import Derived.Test.YtaimhfnddolilaaGreatDoorMg30
import Derived.Test.YtaimhfnddolilaaGreatDoorMg32
namespace Go.Proofs.YtaimhfnddolilaaGreatDoor
open Go.RowKit HeadMath HeadS CtrlS VaryS

theorem stood0 {x : World} {b : Nat} {o p : Obj} (q : x.heap[b]? = some o) : (x.alloc p).heap[b]? = some o :=
  ((((Below.refl x.heap.size x).alloc (Nat.le_refl _) p).block _ (Array.getElem?_eq_some_iff.1 q).1)).trans q
theorem stood3 {x y : World} {b : Nat} {o : Obj} (h : Below x.heap.size x y) (q : x.heap[b]? = some o) : y.heap[b]? = some o := (h.block _ (Array.getElem?_eq_some_iff.1 q).1).trans q
theorem heap_other (g k : Nat) (hk : k ≠ g) : ∀ (vs : List Value) (o : Nat) (x : World), (x.setCells g o vs).heap[k]? = x.heap[k]?
  | [], _, _ => rfl
  | v :: r, o, x => by
    show ((x.setCell ⟨g, o, none⟩ v).setCells g (o + 1) r).heap[k]? = _
    rw [heap_other g k hk r, Below.heap_setCell _ _ _ _ hk]
theorem bl_set {v x : World} {b : Nat} {l : List Value} (h : Below v.heap.size v x) (hb : v.heap.size ≤ b) : Below v.heap.size v (x.setCells b 0 l) := by
  have : ∀ (l : List Value) (o : Nat) (y : World), Below v.heap.size v y → Below v.heap.size v (y.setCells b o l) := by
    intro l
    induction l with
    | nil => intro o y hy; exact hy
    | cons a r ih => intro o y hy; exact ih _ _ (below_cell hy hb _)
  exact this l 0 x h
theorem new1 (x : World) (o p : Obj) : ((x.alloc o).alloc p).heap[x.heap.size + 1]? = some p := by
  have e := heap_alloc_new (x.alloc o) p
  have hz : (x.alloc o).heap.size = x.heap.size + 1 := by simp
  rw [hz] at e
  exact e
end Go.Proofs.YtaimhfnddolilaaGreatDoor
namespace Go.Proofs.YtaimhfnddolilaaGreatDoor
open Go.RowKit HeadMath HeadS CtrlS VaryS

theorem parse_sing {n t : ByteArray} (hn : isNamed cacheN (n, t) = true) {l : List ByteArray} (hp : partsF t = l) : parseF [(n, t)] = ctlL l := by
  have ha : allF cacheN [(n, t)] = [t] := by
    unfold allF
    simp [hn]
  unfold CtrlS.parseF
  rw [ha, if_neg (by simp)]
  unfold listF
  rw [ha]
  show ctlL (partsF t ++ []) = _
  rw [List.append_nil, hp]
def ccL : ByteArray := ⟨#[99, 97, 99, 104, 101, 45, 99, 111, 110, 116, 114, 111, 108]⟩
def ccN : ByteArray := ⟨#[67, 97, 99, 104, 101, 45, 67, 111, 110, 116, 114, 111, 108]⟩
def vMaxAge5 : ByteArray := ⟨#[109, 97, 120, 45, 97, 103, 101, 61, 53]⟩
theorem parts_vMaxAge5 : partsF vMaxAge5 = [⟨#[109, 97, 120, 45, 97, 103, 101, 61, 53]⟩] := by
  have e1 : vMaxAge5 = arr ([109, 97, 120, 45, 97, 103, 101, 61, 53] ++ []) := rfl
  rw [e1, parts_step _ _ _ (plain_closed (by decide)) (.inl ⟨rfl, rfl⟩), partsF_nil (v := arr []) rfl]
  decide +kernel
theorem say_vMaxAge5 : ctlL (partsF vMaxAge5) = ⟨false, false, false, false, false, false, false, false, 5, -1, -1, -1⟩ := by rw [parts_vMaxAge5]; decide +kernel
theorem ctl_vMaxAge5_ccN : parseF [(ccN, vMaxAge5)] = ⟨false, false, false, false, false, false, false, false, 5, -1, -1, -1⟩ := (parse_sing (by decide +kernel) rfl).trans say_vMaxAge5
def vPublic : ByteArray := ⟨#[112, 117, 98, 108, 105, 99]⟩
def vNoStore : ByteArray := ⟨#[110, 111, 45, 115, 116, 111, 114, 101]⟩
def vPrivate : ByteArray := ⟨#[112, 114, 105, 118, 97, 116, 101]⟩
def vMaxAge9NoStore : ByteArray := ⟨#[109, 97, 120, 45, 97, 103, 101, 61, 57, 44, 32, 78, 111, 45, 83, 116, 111, 114, 101]⟩
end Go.Proofs.YtaimhfnddolilaaGreatDoor
