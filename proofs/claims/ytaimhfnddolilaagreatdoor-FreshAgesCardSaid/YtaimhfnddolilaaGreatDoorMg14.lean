/-
  The constants of a sum, laid once.
  The eight words of the state, where they lie, and the rounds one by one.
-/
import Derived.Great.BuildSlice
import Derived.Deep.RegionLaw
import Derived.Deep.MidRow
import Derived.Test.YtaimhfnddolilaaGreatDoorMg7
namespace Go.Proofs.YtaimhfnddolilaaGreatDoor
open Go.RowKit

def roundL : List Nat := [1116352408, 1899447441, 3049323471, 3921009573, 961987163, 1508970993, 2453635748, 2870763221, 3624381080, 310598401, 607225278, 1426881987, 1925078388, 2162078206, 2614888103, 3248222580, 3835390401, 4022224774, 264347078, 604807628, 770255983, 1249150122, 1555081692, 1996064986, 2554220882, 2821834349, 2952996808, 3210313671, 3336571891, 3584528711, 113926993, 338241895, 666307205, 773529912, 1294757372, 1396182291, 1695183700, 1986661051, 2177026350, 2456956037, 2730485921, 2820302411, 3259730800, 3345764771, 3516065817, 3600352804, 4094571909, 275423344, 430227734, 506948616, 659060556, 883997877, 958139571, 1322822218, 1537002063, 1747873779, 1955562222, 2024104815, 2227730452, 2361852424, 2428436474, 2756734187, 3204031479, 3329325298]
def roundV : Array Value := (roundL.map fun (n : Nat) => Value.int .u32 (n : Int)).toArray
theorem heap_setCells {g : Nat} {t : TypeId} : ∀ (vs pre mid post : List Value) (w : World), w.heap[g]? = some (.cells (pre ++ (mid ++ post)).toArray t (0, 0)) → mid.length = vs.length → (w.setCells g pre.length vs).heap[g]? = some (.cells (pre ++ (vs ++ post)).toArray t (0, 0))
  | [], pre, mid, post, w, h, hl => by
    obtain rfl : mid = [] := List.eq_nil_of_length_eq_zero (by simpa using hl)
    exact h
  | v :: vs, pre, mid, post, w, h, hl => by
    cases mid with
    | nil => simp at hl
    | cons m mid =>
      have h1 := heap_set h pre.length v
      have e : (pre ++ (m :: mid ++ post)).toArray.setIfInBounds pre.length v = ((pre ++ [v]) ++ (mid ++ post)).toArray := by simp
      rw [e] at h1
      have h2 := heap_setCells vs (pre ++ [v]) mid post _ h1 (by simpa using hl)
      rw [List.length_append] at h2
      simpa [World.setCells] using h2
theorem spares_setCells {g : Nat} {w : World} : ∀ (vs : List Value) (o : Nat) (w' : World), Spares (fun b => b = g) w w' → Spares (fun b => b = g) w (w'.setCells g o vs)
  | [], _, _, h => h
  | v :: vs, o, _, h => spares_setCells vs (o + 1) _ (spares_set h o v)
end Go.Proofs.YtaimhfnddolilaaGreatDoor
namespace Go.Proofs.YtaimhfnddolilaaGreatDoor

def wl (s : S8) : List UInt32 := [s.a, s.b, s.c, s.d, s.e, s.f, s.g, s.h]
def stV (s : S8) : List Value := (wl s).map v32
end Go.Proofs.YtaimhfnddolilaaGreatDoor
