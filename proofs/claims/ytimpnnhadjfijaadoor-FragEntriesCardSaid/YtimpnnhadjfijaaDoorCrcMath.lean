/-
  The sum of bytes that package code answers, as plain mathematics: four bits at once are four bits one by one.
-/
namespace Go.Proofs.CrcMath

def poly : Nat := 3988292384
def bit1 (c : Nat) : Nat := if c % 2 = 1 then c / 2 ^^^ poly else c / 2
def bit4 (c : Nat) : Nat := bit1 (bit1 (bit1 (bit1 c)))
def tab : List Nat := [0, 498536548, 997073096, 651767980, 1994146192, 1802195444, 1303535960, 1342533948, 3988292384, 4027552580, 3604390888, 3412177804, 2607071920, 2262029012, 2685067896, 3183342108]
def step4 (c : Nat) : Nat := c / 16 ^^^ tab.getD (c % 16) 0

theorem xor_mod2 (x y : Nat) : (x ^^^ y) % 2 = (x % 2 + y % 2) % 2 := by
  have h := Nat.xor_mod_two_pow (a := x) (b := y) (n := 1)
  simp only [Nat.pow_one] at h
  rw [h]
  rcases Nat.mod_two_eq_zero_or_one x with a | a <;> rcases Nat.mod_two_eq_zero_or_one y with b | b <;> rw [a, b] <;> rfl
theorem xor_div2 (x y : Nat) : (x ^^^ y) / 2 = x / 2 ^^^ y / 2 := by
  have h := Nat.shiftRight_xor_distrib (a := x) (b := y) (i := 1)
  simpa [Nat.shiftRight_eq_div_pow] using h
theorem xor_swap (a b p : Nat) : (a ^^^ p) ^^^ b = (a ^^^ b) ^^^ p := by rw [Nat.xor_assoc, Nat.xor_comm p b, Nat.xor_assoc]
theorem bit1_xor (x y : Nat) : bit1 (x ^^^ y) = bit1 x ^^^ bit1 y := by
  unfold bit1
  rw [xor_mod2, xor_div2]
  rcases Nat.mod_two_eq_zero_or_one x with a | a <;> rcases Nat.mod_two_eq_zero_or_one y with b | b <;> rw [a, b] <;> simp
  · rw [Nat.xor_assoc]
  · rw [xor_swap]
  · rw [xor_swap, ← Nat.xor_assoc, Nat.xor_assoc (_ ^^^ _) poly poly, Nat.xor_self, Nat.xor_zero]
theorem bit4_xor (x y : Nat) : bit4 (x ^^^ y) = bit4 x ^^^ bit4 y := by unfold bit4; simp only [bit1_xor]
theorem bit1_even (x : Nat) : bit1 (2 * x) = x := by unfold bit1; rw [if_neg (by omega)]; omega
theorem bit4_16 (x : Nat) : bit4 (16 * x) = x := by
  unfold bit4
  rw [show 16 * x = 2 * (2 * (2 * (2 * x))) by omega, bit1_even, bit1_even, bit1_even, bit1_even]
theorem bit4_small (r : Nat) (h : r < 16) : bit4 r = tab.getD r 0 := by
  have h' : ∀ r : Fin 16, bit4 r.val = tab.getD r.val 0 := by decide +kernel
  exact h' ⟨r, h⟩
theorem join16 (q r : Nat) (h : r < 16) : 16 * q + r = 16 * q ^^^ r := by
  have := Nat.two_pow_add_eq_or_of_lt (i := 4) (b := r) (by omega) q
  have e : 16 * q &&& r = 0 := by
    apply Nat.eq_of_testBit_eq
    intro i
    rw [Nat.testBit_and, Nat.zero_testBit]
    by_cases hi : i < 4
    · have : (16 * q).testBit i = false := by
        rw [show 16 * q = 2 ^ 4 * q by rfl, Nat.testBit_two_pow_mul]; simp; omega
      rw [this]; rfl
    · have : r.testBit i = false := Nat.testBit_lt_two_pow (Nat.lt_of_lt_of_le (show r < 2 ^ 4 from h) (Nat.pow_le_pow_right (by omega) (by omega)))
      rw [this]; simp
  have o : 16 * q ||| r = 16 * q ^^^ r := by
    apply Nat.eq_of_testBit_eq
    intro i
    have hi := congrArg (fun n => n.testBit i) e
    simp only [Nat.testBit_and, Nat.zero_testBit] at hi
    rw [Nat.testBit_or, Nat.testBit_xor]
    cases h1 : (16 * q).testBit i <;> cases h2 : r.testBit i <;> simp_all
  rw [← o]; exact this
theorem step4_eq (c : Nat) : step4 c = bit4 c := by
  have h := join16 (c / 16) (c % 16) (Nat.mod_lt _ (by omega))
  have e : 16 * (c / 16) + c % 16 = c := Nat.div_add_mod c 16
  rw [e] at h
  conv => rhs; rw [h]
  rw [bit4_xor, bit4_16, bit4_small _ (Nat.mod_lt _ (by omega))]
  rfl
theorem bit1_lt {c : Nat} (h : c < 4294967296) : bit1 c < 4294967296 := by
  unfold bit1
  split
  · exact Nat.xor_lt_two_pow (n := 32) (by omega) (by decide)
  · omega
theorem bit4_lt {c : Nat} (h : c < 4294967296) : bit4 c < 4294967296 := bit1_lt (bit1_lt (bit1_lt (bit1_lt h)))
theorem step4_lt {c : Nat} (h : c < 4294967296) : step4 c < 4294967296 := by rw [step4_eq]; exact bit4_lt h
theorem tab_lt (r : Nat) (h : r < 16) : tab.getD r 0 < 4294967296 := by
  have h' : ∀ r : Fin 16, tab.getD r.val 0 < 4294967296 := by decide +kernel
  exact h' ⟨r, h⟩

/-- One byte more. -/
def crc1 (c : Nat) (b : UInt8) : Nat := bit4 (bit4 (c ^^^ b.toNat))
def crcG (l : List UInt8) : Nat := l.foldl crc1 4294967295
def crcF (l : List UInt8) : Nat := 4294967295 ^^^ crcG l
theorem mix_lt {c : Nat} (h : c < 4294967296) (b : UInt8) : c ^^^ b.toNat < 4294967296 :=
  Nat.xor_lt_two_pow (n := 32) (by omega) (by have := b.toNat_lt; omega)
theorem crc1_lt {c : Nat} (h : c < 4294967296) (b : UInt8) : crc1 c b < 4294967296 := bit4_lt (bit4_lt (mix_lt h b))
theorem crcG_lt (l : List UInt8) : crcG l < 4294967296 := by
  unfold crcG
  suffices ∀ (l : List UInt8) (c : Nat), c < 4294967296 → l.foldl crc1 c < 4294967296 from this l _ (by decide)
  intro l
  induction l with
  | nil => exact fun c h => h
  | cons b l ih => exact fun c h => ih _ (crc1_lt h b)
theorem crcG_snoc (l : List UInt8) (b : UInt8) : crcG (l ++ [b]) = crc1 (crcG l) b := by unfold crcG; rw [List.foldl_append]; rfl
theorem crcG_take {l : List UInt8} {k : Nat} (h : k < l.length) : crcG (l.take (k + 1)) = crc1 (crcG (l.take k)) l[k] := by
  rw [List.take_succ_eq_append_getElem h, crcG_snoc]
theorem crc1_steps (c : Nat) (b : UInt8) : crc1 c b = step4 (step4 (c ^^^ b.toNat)) := by rw [step4_eq, step4_eq]; rfl
/-- k bits one by one. -/
def bits (k : Nat) (c : Nat) : Nat := match k with
  | 0 => c
  | k + 1 => bit1 (bits k c)
theorem bits_lt {c : Nat} (h : c < 4294967296) (k : Nat) : bits k c < 4294967296 := by
  induction k with
  | zero => exact h
  | succ k ih => exact bit1_lt ih
theorem crc1_bits (c : Nat) (b : UInt8) : crc1 c b = bits 8 (c ^^^ b.toNat) := rfl
theorem crc_known : crcF [49, 50, 51, 52, 53, 54, 55, 56, 57] = 3421780262 := by decide +kernel

end Go.Proofs.CrcMath
