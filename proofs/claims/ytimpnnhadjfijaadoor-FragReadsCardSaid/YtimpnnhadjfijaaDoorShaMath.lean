/-
  One block's sum, as plain mathematics over the words' own operations.
-/
import Derived.Test.YtimpnnhadjfijaaDoorShaBytes
namespace Go.Proofs.YtimpnnhadjfijaaDoor

def smallS (x : UInt32) : UInt32 := xorW (xorW (rotW x 7) (rotW x 18)) (shrW x 3)
def greatS (x : UInt32) : UInt32 := xorW (xorW (rotW x 17) (rotW x 19)) (shrW x 10)
/-- The next word of the schedule. -/
def nextW (l : List UInt32) : UInt32 := addW (addW (addW (l.getD (l.length - 16) 0) (smallS (l.getD (l.length - 15) 0))) (l.getD (l.length - 7) 0)) (greatS (l.getD (l.length - 2) 0))
def moreW : Nat → List UInt32 → List UInt32
  | 0, l => l
  | n + 1, l => moreW n (l ++ [nextW l])
theorem moreW_len (n : Nat) : ∀ l, (moreW n l).length = l.length + n := by
  induction n with
  | zero => intro l; rfl
  | succ n ih => intro l; rw [moreW, ih]; simp; omega

structure S8 where
  (a b c d e f g h : UInt32)
def bigE (x : UInt32) : UInt32 := xorW (xorW (rotW x 6) (rotW x 11)) (rotW x 25)
def bigA (x : UInt32) : UInt32 := xorW (xorW (rotW x 2) (rotW x 13)) (rotW x 22)
def choose3 (e f g : UInt32) : UInt32 := xorW (andW e f) (andW (notW e) g)
def most3 (a b c : UInt32) : UInt32 := xorW (xorW (andW a b) (andW a c)) (andW b c)
def oneW (s : S8) (k w : UInt32) : UInt32 := addW (addW (addW (addW s.h (bigE s.e)) (choose3 s.e s.f s.g)) k) w
def stepS (s : S8) (k w : UInt32) : S8 :=
  ⟨addW (addW (oneW s k w) (bigA s.a)) (most3 s.a s.b s.c), s.a, s.b, s.c, addW s.d (oneW s k w), s.e, s.f, s.g⟩
theorem addW_comm (x y : UInt32) : addW x y = addW y x := by unfold addW; exact UInt32.add_comm x y
theorem addW_assoc (x y z : UInt32) : addW (addW x y) z = addW x (addW y z) := by unfold addW; exact UInt32.add_assoc x y z
/-- The rounds over constants and words. -/
def roundsS : S8 → List UInt32 → List UInt32 → S8
  | s, k :: ks, w :: ws => roundsS (stepS s k w) ks ws
  | s, _, _ => s
def addS (s t : S8) : S8 := ⟨addW s.a t.a, addW s.b t.b, addW s.c t.c, addW s.d t.d, addW s.e t.e, addW s.f t.f, addW s.g t.g, addW s.h t.h⟩
def wordAt (l : List UInt8) (i : Nat) : UInt32 := beW (l.getD (4 * i) 0) (l.getD (4 * i + 1) 0) (l.getD (4 * i + 2) 0) (l.getD (4 * i + 3) 0)
def wordsOf (n : Nat) (l : List UInt8) : List UInt32 := (List.range n).map (wordAt l)
theorem wordsOf_len (n : Nat) (l : List UInt8) : (wordsOf n l).length = n := by simp [wordsOf]
theorem wordsOf_succ (n : Nat) (l : List UInt8) : wordsOf (n + 1) l = wordsOf n l ++ [wordAt l n] := by simp [wordsOf, List.range_succ]
def roundK : List UInt32 := ([1116352408, 1899447441, 3049323471, 3921009573, 961987163, 1508970993, 2453635748, 2870763221, 3624381080, 310598401, 607225278, 1426881987, 1925078388, 2162078206, 2614888103, 3248222580, 3835390401, 4022224774, 264347078, 604807628, 770255983, 1249150122, 1555081692, 1996064986, 2554220882, 2821834349, 2952996808, 3210313671, 3336571891, 3584528711, 113926993, 338241895, 666307205, 773529912, 1294757372, 1396182291, 1695183700, 1986661051, 2177026350, 2456956037, 2730485921, 2820302411, 3259730800, 3345764771, 3516065817, 3600352804, 4094571909, 275423344, 430227734, 506948616, 659060556, 883997877, 958139571, 1322822218, 1537002063, 1747873779, 1955562222, 2024104815, 2227730452, 2361852424, 2428436474, 2756734187, 3204031479, 3329325298] : List Nat).map UInt32.ofNat
def mixS (s : S8) (block : List UInt8) : S8 := addS s (roundsS s roundK (moreW 48 (wordsOf 16 block)))
/-- All whole blocks. -/
def takeS : Nat → S8 → List UInt8 → S8
  | 0, s, _ => s
  | n + 1, s, l => takeS n (mixS s (l.take 64)) (l.drop 64)
def startS : S8 := ⟨1779033703, 3144134277, 1013904242, 2773480762, 1359893119, 2600822924, 528734635, 1541459225⟩
def lenB (n : Nat) : List UInt8 := (List.range 8).map fun i => UInt8.ofNat (n * 8 / 256 ^ (7 - i))
/-- The text as it is summed. -/
def padS (l : List UInt8) : List UInt8 := l ++ [128] ++ List.replicate ((119 - l.length % 64) % 64) 0 ++ lenB l.length
def outS (s : S8) : List UInt8 := [s.a, s.b, s.c, s.d, s.e, s.f, s.g, s.h].flatMap fun x => [byW x 0, byW x 1, byW x 2, byW x 3]
def shaF (l : List UInt8) : List UInt8 := outS (takeS ((padS l).length / 64) startS (padS l))
theorem sha_abc : shaF [97, 98, 99] = [0xba, 0x78, 0x16, 0xbf, 0x8f, 0x01, 0xcf, 0xea, 0x41, 0x41, 0x40, 0xde, 0x5d, 0xae, 0x22, 0x23, 0xb0, 0x03, 0x61, 0xa3, 0x96, 0x17, 0x7a, 0x9c, 0xb4, 0x10, 0xff, 0x61, 0xf2, 0x00, 0x15, 0xad] := by decide +kernel
end Go.Proofs.YtimpnnhadjfijaaDoor
