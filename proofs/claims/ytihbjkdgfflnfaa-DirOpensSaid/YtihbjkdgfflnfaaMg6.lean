/-
  The sum of bytes that package code answers, as plain mathematics: four bits at once are four bits one by one.
-/
namespace Go.Proofs.CrcMath

def poly : Nat := 3988292384
def bit1 (c : Nat) : Nat := if c % 2 = 1 then c / 2 ^^^ poly else c / 2
def bit4 (c : Nat) : Nat := bit1 (bit1 (bit1 (bit1 c)))
def tab : List Nat := [0, 498536548, 997073096, 651767980, 1994146192, 1802195444, 1303535960, 1342533948, 3988292384, 4027552580, 3604390888, 3412177804, 2607071920, 2262029012, 2685067896, 3183342108]
/-- One byte more. -/
def crc1 (c : Nat) (b : UInt8) : Nat := bit4 (bit4 (c ^^^ b.toNat))
def crcG (l : List UInt8) : Nat := l.foldl crc1 4294967295
def crcF (l : List UInt8) : Nat := 4294967295 ^^^ crcG l
/-- k bits one by one. -/
def bits (k : Nat) (c : Nat) : Nat := match k with
  | 0 => c
  | k + 1 => bit1 (bits k c)
end Go.Proofs.CrcMath
