/-
  What frag's statements had besides: an entry's bytes back, and the reference's number written.
  A directory's bytes, and what bytes come to.
  Numbers written behind a row of bytes of the call's own: big.Append, the reference's Put.
  A directory's bytes, written.
  One bucket read from bytes.
  Open: a directory read from bytes.
  All entries, bucket by bucket.
  The reference's Purge.
  The reference's directory's bytes, written.
  Both directories, with blocks that neither reaches held as they are.
  What a script of a directory's calls wants: its acts, a key's own block.
  Acts that came in, opened.
  The reference's directory's bytes, as a row of the call's own.
-/
import Derived.Deep.AppendSrc
import Derived.Test.YtihbjkdgfflnfaaMg9
import Derived.Test.YtihbjkdgfflnfaaMg16
import Derived.Test.YtihbjkdgfflnfaaMg19
import Derived.Test.YtihbjkdgfflnfaaMg22
import Derived.Test.YtihbjkdgfflnfaaMg24
import Derived.Test.YtihbjkdgfflnfaaMg25
namespace Go.Proofs.Ytihbjkdgfflnfaa
open Go.RowKit

theorem beN_getElem (k M i : Nat) (h : i < k) : (beN k M)[i]'(by rw [beN_len]; exact h) = UInt8.ofNat (M / 256 ^ (k - 1 - i)) := by simp [beN]
theorem ofBE_beN_take (k M j : Nat) (hj : j ≤ k) (h : M < 256 ^ k) : ofBE ((beN k M).take j) = M / 256 ^ (k - j) := by
  induction j with
  | zero => rw [List.take_zero, Nat.sub_zero, Nat.div_eq_of_lt h]; rfl
  | succ j ih =>
    rw [ofBE_take (by rw [beN_len]; omega), ih (by omega), beN_getElem k M j (by omega), UInt8.toNat_ofNat']
    have e : k - j = (k - 1 - j) + 1 := by omega
    have e2 : k - (j + 1) = k - 1 - j := by omega
    rw [e, e2, Nat.pow_succ, ← Nat.div_div_eq_div_mul]
    generalize M / 256 ^ (k - 1 - j) = q
    omega
theorem ofBE_beN (k M : Nat) (h : M < 256 ^ k) : ofBE (beN k M) = M := by
  have := ofBE_beN_take k M k (Nat.le_refl _) h
  rwa [List.take_of_length_le (by rw [beN_len]; exact Nat.le_refl _), Nat.sub_self, Nat.pow_zero, Nat.div_one] at this
def orTop (n : Nat) : Nat := if 9223372036854775808 ≤ n then n else n + 9223372036854775808
theorem top_or {n : Nat} (h : n < 18446744073709551616) : Go.bits .or .u64 (n : Int) 9223372036854775808 = (orTop n : Nat) := by
  rw [show (9223372036854775808 : Int) = ((9223372036854775808 : Nat) : Int) from rfl, u64_or_nat n _ h (by omega)]
  congr 1
  have e2 : (2 ^ 63 : Nat) = 9223372036854775808 := by decide
  have hlow : ∀ m : Nat, m < 9223372036854775808 → m ||| 9223372036854775808 = m + 9223372036854775808 := fun m hm => by
    have := Nat.or_two_pow_eq_add_of_lt (a := m) (n := 63) (by rw [e2]; exact hm)
    rwa [e2] at this
  unfold orTop
  by_cases hn : 9223372036854775808 ≤ n
  · rw [if_pos hn]
    obtain ⟨m, rfl⟩ : ∃ m, n = m + 9223372036854775808 := ⟨n - 9223372036854775808, by omega⟩
    rw [← hlow m (by omega), Nat.or_assoc, Nat.or_self]
  · rw [if_neg hn]
    exact hlow n (by omega)
theorem entry_parts (T at_ sec U : Nat) (h2 : at_ < 4294967296) (h3 : sec < 65536) (hT : T < 65536) (hU : U < 18446744073709551616) :
    atE (entryF T at_ sec U) = at_ ∧ secE (entryF T at_ sec U) = sec ∧ tagE (entryF T at_ sec U) = T ∧ rawE (entryF T at_ sec U) = U := by
  have e4 : 256 ^ 4 = 4294967296 := by decide
  have e2 : 256 ^ 2 = 65536 := by decide
  have e8 : 256 ^ 8 = 18446744073709551616 := by decide
  have hE : entryF T at_ sec U = beN 4 at_ ++ (beN 2 sec ++ (beN 2 T ++ beN 8 U)) := by unfold entryF; simp only [List.append_assoc]
  have d4 : (entryF T at_ sec U).drop 4 = beN 2 sec ++ (beN 2 T ++ beN 8 U) := by rw [hE]; exact List.drop_left' (beN_len _ _)
  have d6 : ((entryF T at_ sec U).drop 4).drop 2 = beN 2 T ++ beN 8 U := by rw [d4]; exact List.drop_left' (beN_len _ _)
  have d8 : (((entryF T at_ sec U).drop 4).drop 2).drop 2 = beN 8 U := by rw [d6]; exact List.drop_left' (beN_len _ _)
  refine ⟨?_, ?_, ?_, ?_⟩
  · unfold atE; rw [hE, List.take_left' (beN_len _ _)]; exact ofBE_beN 4 _ (by rw [e4]; exact h2)
  · unfold secE; rw [d4, List.take_left' (beN_len _ _)]; exact ofBE_beN 2 _ (by rw [e2]; exact h3)
  · unfold tagE; rw [d6, List.take_left' (beN_len _ _)]; exact ofBE_beN 2 _ (by rw [e2]; exact hT)
  · unfold rawE; rw [d8, List.take_of_length_le (by rw [beN_len]; exact Nat.le_refl _)]; exact ofBE_beN 8 _ (by rw [e8]; exact hU)
theorem beN_ofBE : ∀ (l : List UInt8), beN l.length (ofBE l) = l := by
  intro l
  apply List.ext_getElem (by rw [beN_len])
  intro i h1 h2
  rw [beN_getElem _ _ _ h2]
  have h3 : ∀ (n : Nat) (l : List UInt8), l.length = n → ∀ i (h : i < l.length), UInt8.ofNat (ofBE l / 256 ^ (n - 1 - i)) = l[i] := by
    intro n
    induction n with
    | zero => intro l hl i hi; omega
    | succ n ih =>
      intro l hl i hi
      obtain ⟨t, x, rfl⟩ : ∃ t x, l = t ++ [x] := by
        refine ⟨l.take n, l[n]'(by omega), ?_⟩
        have := List.take_append_drop n l
        rw [List.drop_eq_getElem_cons (by omega), List.drop_of_length_le (by omega)] at this
        exact this.symm
      have ht : t.length = n := by simpa using hl
      rw [ofBE_snoc]
      have hx := x.toNat_lt
      by_cases hin : i < n
      · have e : n + 1 - 1 - i = (n - 1 - i) + 1 := by omega
        rw [e, Nat.pow_succ, Nat.mul_comm (256 ^ (n - 1 - i)) 256, ← Nat.div_div_eq_div_mul, show (ofBE t * 256 + x.toNat) / 256 = ofBE t by omega, List.getElem_append_left (by omega)]
        exact ih t ht i (by omega)
      · obtain rfl : i = n := by omega
        rw [show i + 1 - 1 - i = 0 by omega, Nat.pow_zero, Nat.div_one, List.getElem_append_right (by omega)]
        simp only [ht, Nat.sub_self, List.getElem_cons_zero]
        apply UInt8.toNat_inj.1
        rw [UInt8.toNat_ofNat']
        omega
  exact h3 l.length l rfl i h2
theorem entry_back (X : List UInt8) (h : X.length = 16) : entryF (tagE X) (atE X) (secE X) (rawE X) = X := by
  have h1 : (X.take 4).length = 4 := by simp; omega
  have h2 : ((X.drop 4).take 2).length = 2 := by simp; omega
  have h3 : (((X.drop 4).drop 2).take 2).length = 2 := by simp; omega
  have h4 : ((((X.drop 4).drop 2).drop 2).take 8).length = 8 := by simp; omega
  have e1 := beN_ofBE (X.take 4)
  have e2 := beN_ofBE ((X.drop 4).take 2)
  have e3 := beN_ofBE (((X.drop 4).drop 2).take 2)
  have e4 := beN_ofBE ((((X.drop 4).drop 2).drop 2).take 8)
  rw [h1] at e1; rw [h2] at e2; rw [h3] at e3; rw [h4] at e4
  unfold entryF atE secE tagE rawE
  rw [e1, e2, e3, e4]
  have e5 : (((X.drop 4).drop 2).drop 2).take 8 = ((X.drop 4).drop 2).drop 2 := List.take_of_length_le (by simp; omega)
  rw [e5]
  simp only [List.append_assoc]
  rw [List.take_append_drop, List.take_append_drop, List.take_append_drop]
theorem orTop_back {n : Nat} (h : 9223372036854775808 ≤ n) (h2 : n < 18446744073709551616) : orTop (n % 9223372036854775808) = n := by
  unfold orTop
  split <;> omega
theorem orTop_lt {n : Nat} (h : n < 18446744073709551616) : orTop n < 18446744073709551616 ∧ 9223372036854775808 ≤ orTop n ∧ orTop n % 9223372036854775808 = n % 9223372036854775808 := by
  unfold orTop
  split <;> omega
set_option maxRecDepth 100000 in
set_option maxHeartbeats 1000000 in
theorem refPutG_any (v : Value) (d : List UInt8) (M k : Nat) (w : World) (hr : OwnBytes w v d) (hk : k ≤ 8) (hd : d.length + k ≤ 140737488355328) :
    Calls Try.prog 44 #[v, .int .u64 M, .int .i64 k] w (Grows v (d ++ beN k M) w) := by
  have HD := Lib.hid hd
  have HR0 : Hid (OwnBytes w v (d ++ (beN k M).take 0)) := Lib.hid (by rw [List.take_zero, List.append_nil]; exact hr)
  clear hr hd
  go_enter Try.func44, Try.ntmps44
  go_wp2
  go_loopw [0, 7] (fun u i wr => ∃ j : Nat, j ≤ k ∧ i = .int .i64 ((k : Int) - 1 - (j : Int)) ∧ Hid (OwnBytes wr u (d ++ (beN k M).take j)) ∧ Hid (Spares (fun b => v.ownBlock = some b) w wr) ∧ Hid (∀ g, u.ownBlock = some g → v.ownBlock = some g ∨ w.heap.size ≤ g)) (fun _ i _ => (intOf i + 1).toNat)
  case atStart => exact ⟨0, by omega, by simp, HR0, Lib.hid (Spares.refl _ _), Lib.hid (fun g h => .inl h)⟩
  clear HR0
  case round =>
    obtain ⟨j, hj, rfl, HR1, HS1, HG1⟩ := hrel
    by_cases hlt : j < k
    · obtain ⟨i, hi⟩ : ∃ i : Nat, k - 1 - j = i := ⟨_, rfl⟩
      have hii : (k : Int) - 1 - (j : Int) = (i : Int) := by omega
      rw [hii]
      obtain ⟨s, hs⟩ : ∃ s : Nat, 8 * i = s := ⟨_, rfl⟩
      have hsi : (8 : Int) * (i : Int) = (s : Int) := by omega
      have hs0 : s < 64 := by omega
      obtain ⟨x, hx⟩ : ∃ x, UInt8.ofNat (M / 256 ^ i) = x := ⟨_, rfl⟩
      have hbt := byte_shift M i s hs
      rw [hx] at hbt
      have hbw : IntKind.u8.wrap ((M : Int) / 2 ^ s) = (x.toNat : Int) := by rw [← hbt, IntKind.wrap_u8]
      obtain ⟨Y, hY⟩ : ∃ Y, d ++ (beN k M).take j = Y := ⟨_, rfl⟩
      rw [hY] at HR1
      have hYl : Y.length + 1 ≤ 140737488355328 := by rw [← hY, List.length_append, List.length_take, beN_len]; have := HD.out; omega
      have HNXT : Hid (d ++ (beN k M).take (j + 1) = Y ++ [x]) := Lib.hid (by rw [beN_take k M j i hlt hi, ← List.append_assoc, hY, hx])
      have HYL := Lib.hid hYl
      have hj2 : (i : Int) - 1 = (k : Int) - 1 - ((j + 1 : Nat) : Int) := by omega
      have HJ2 := Lib.hid hj2
      clear hx hY hYl hi hii hs hj2
      go_wp2_with ((with_reducible show wpList _ _ _ (⟨some 21, _, _, _, _, _⟩ :: _) _ _); refine wpList_append_bytes rfl _ _ rfl _ Y rfl (HR1.out.spares (F := nowhere) ((Spares.refl _ _).alloc _) (fun _ _ h => h)) (some ⟨wr.heap.size, 0, none⟩) 1 [x] rfl (byteOne_at wr x) (fun e => by cases e) HYL.out ?_; intro ao c' w9 ho hg hf; have HO9 := Lib.hid ho; have HS9 := Lib.hid (((Spares.refl _ wr).alloc (.cells #[.int .u8 (x.toNat : Int)] 5)).grown hg (fun g h => .inl h)); have HF9 := Lib.hid hf; clear ho hg hf)
      go_roundw
      case rel =>
        refine ⟨j + 1, by omega, by rw [HJ2.out], by rw [HNXT.out]; exact HO9, Lib.hid (HS1.out.trans' HS9.out HG1.out), Lib.hid (fun g h => ?_)⟩
        rcases HF9.out g h with h | h
        · exact HG1.out g h
        · exact .inr (Nat.le_trans HS1.out.size (Nat.le_trans (by simp) h))
      case measure => simp [intOf]
    · obtain rfl : j = k := by omega
      have e1 : (j : Int) - 1 - (j : Int) = -1 := by omega
      rw [e1]
      have HRF : Hid (OwnBytes wr u0 (d ++ beN j M)) := Lib.hid (by
        have := HR1.out
        rw [List.take_of_length_le (by rw [beN_len]; omega)] at this
        exact this)
      go_wp2
      go_ret
      exact ⟨_, rfl, HRF.out, HS1.out, HG1.out⟩
end Go.Proofs.Ytihbjkdgfflnfaa
namespace Go.Proofs.Ytihbjkdgfflnfaa
open Go.RowKit

def entB (e : Ent) : List UInt8 := entryF (e.tag % 4096) e.at_ e.sec (orTop e.turn)
theorem entB_len (e : Ent) : (entB e).length = 16 := entryF_len ..
def rowB (r : List Ent) : List UInt8 := UInt8.ofNat r.length :: r.flatMap entB
def dirH (n s : Nat) : List UInt8 := [68, 73, 82, 49] ++ beN 4 n ++ beN 4 s
theorem dirH_len (n s : Nat) : (dirH n s).length = 12 := by simp [dirH, beN_len]
def dirB (n s : Nat) (E : List (List Ent)) : List UInt8 := dirH n s ++ E.flatMap rowB
theorem flatB_len (l : List Ent) : (l.flatMap entB).length = 16 * l.length := by
  induction l with
  | nil => rfl
  | cons e l ih => rw [List.flatMap_cons, List.length_append, entB_len, ih, List.length_cons]; omega
theorem rowB_len (r : List Ent) : (rowB r).length = 16 * r.length + 1 := by unfold rowB; rw [List.length_cons, flatB_len]
theorem rowsB_len (E : List (List Ent)) (h : ∀ r ∈ E, r.length ≤ 16) : (E.flatMap rowB).length ≤ 257 * E.length := by
  induction E with
  | nil => simp
  | cons r E ih =>
    have h1 := h r (by simp)
    have h2 := ih fun r hr => h r (by simp [hr])
    rw [List.flatMap_cons, List.length_append, rowB_len, List.length_cons]
    omega
def goodE (e : Ent) : Prop := e.tag < 4096 ∧ e.at_ < 4294967296 ∧ 0 < e.sec ∧ e.sec < 65536 ∧ e.turn < 9223372036854775808
theorem goodE.ok {e : Ent} (h : goodE e) : e.ok := ⟨by have := h.1; omega, h.2.1, h.2.2.2.1, by have := h.2.2.2.2; omega⟩
/-- Sixteen bytes as an entry. -/
def entO (X : List UInt8) : Option Ent := if okE X = true then some ⟨tagE X, atE X, secE X, rawE X % 9223372036854775808⟩ else none
def oeR : Option Ent → Value
  | some e => .tuple #[entV e, .int .i64 0]
  | none => .tuple #[entV Ent.zero, .int .i64 40]
theorem oeV_entO (X : List UInt8) : oeV X = oeR (entO X) := by
  unfold oeV entO
  by_cases h : okE X = true
  · rw [if_pos h, if_pos h]; rfl
  · rw [if_neg h, if_neg h]; rfl
theorem entO_entB {e : Ent} (h : goodE e) : entO (entB e) = some e := by
  obtain ⟨h1, h2, h3, h4, h5⟩ := h
  obtain ⟨u1, u2, u3⟩ := orTop_lt (n := e.turn) (by omega)
  obtain ⟨p1, p2, p3, p4⟩ := entry_parts (e.tag % 4096) e.at_ e.sec (orTop e.turn) h2 h4 (by omega) u1
  unfold entO entB
  have hok : okE (entryF (e.tag % 4096) e.at_ e.sec (orTop e.turn)) = true := by
    unfold okE
    rw [p2, p3, p4]
    simp only [Bool.and_eq_true, decide_eq_true_eq]
    omega
  rw [if_pos hok, p1, p2, p3, p4, u3, Nat.mod_eq_of_lt h1, Nat.mod_eq_of_lt h5]
theorem entB_entO {X : List UInt8} {e : Ent} (hX : X.length = 16) (h : entO X = some e) : entB e = X ∧ goodE e := by
  unfold entO at h
  by_cases hok : okE X = true
  · rw [if_pos hok] at h
    injection h with h
    subst h
    unfold okE at hok
    simp only [Bool.and_eq_true, decide_eq_true_eq] at hok
    obtain ⟨f1, f2, f3, f4⟩ := fieldE_lt X hX
    have hb := entry_back X hX
    refine ⟨?_, by simp only [goodE]; omega⟩
    unfold entB
    simp only
    rw [Nat.mod_eq_of_lt (by omega), orTop_back hok.1 f4]
    exact hb
  · rw [if_neg hok] at h; cases h
/-- The first j entries of b. -/
def opE (b : List UInt8) : Nat → Option (List Ent)
  | 0 => some []
  | j + 1 => match opE b j with
    | none => none
    | some l => if b.length < 16 * (j + 1) then none else match entO ((b.drop (16 * j)).take 16) with
      | none => none
      | some e => some (l ++ [e])
theorem opE_none {b : List UInt8} {j : Nat} (h : opE b j = none) : ∀ k, j ≤ k → opE b k = none := by
  intro k hk
  induction k with
  | zero => obtain rfl : j = 0 := by omega
            exact h
  | succ k ih =>
    by_cases e : j = k + 1
    · subst e; exact h
    · have := ih (by omega)
      unfold opE
      rw [this]
theorem opE_short {b : List UInt8} {j : Nat} (h : b.length < 16 * (j + 1)) : opE b (j + 1) = none := by
  unfold opE
  cases opE b j with
  | none => rfl
  | some l => simp only [if_pos h]
theorem opE_step {b : List UInt8} {j : Nat} {l : List Ent} (hl : opE b j = some l) (h : ¬ b.length < 16 * (j + 1)) : opE b (j + 1) = match entO ((b.drop (16 * j)).take 16) with
      | none => none
      | some e => some (l ++ [e]) := by
  rw [opE, hl]
  simp only [if_neg h]
theorem opE_back {b : List UInt8} : ∀ {j : Nat} {l : List Ent}, opE b j = some l → l.length = j ∧ 16 * j ≤ b.length ∧ b.take (16 * j) = l.flatMap entB ∧ ∀ e ∈ l, goodE e
  | 0, l, h => by
    rw [opE] at h
    injection h with h
    subst h
    simp
  | j + 1, l, h => by
    rw [opE] at h
    cases hj : opE b j with
    | none => rw [hj] at h; cases h
    | some l0 =>
      rw [hj] at h
      simp only at h
      obtain ⟨h1, h2, h3, h4⟩ := opE_back hj
      by_cases hs : b.length < 16 * (j + 1)
      · rw [if_pos hs] at h; cases h
      · rw [if_neg hs] at h
        cases he : entO ((b.drop (16 * j)).take 16) with
        | none => rw [he] at h; cases h
        | some e =>
          rw [he] at h
          simp only [Option.some.injEq] at h
          subst h
          obtain ⟨g1, g2⟩ := entB_entO (by rw [List.length_take, List.length_drop]; omega) he
          refine ⟨by simp [h1], by omega, ?_, fun x hx => ?_⟩
          · rw [show 16 * (j + 1) = 16 * j + 16 by omega, List.take_add, h3, List.flatMap_append, List.flatMap_singleton, g1]
          · rcases List.mem_append.1 hx with hx | hx
            · exact h4 x hx
            · rw [List.mem_singleton.1 hx]; exact g2
theorem opE_flat (l : List Ent) (hl : ∀ e ∈ l, goodE e) (rest : List UInt8) : ∀ j, j ≤ l.length → opE (l.flatMap entB ++ rest) j = some (l.take j)
  | 0, _ => by simp [opE]
  | j + 1, hj => by
    have hlen := flatB_len l
    rw [opE_step (opE_flat l hl rest j (by omega)) (by rw [List.length_append]; omega)]
    have hd : ((l.flatMap entB ++ rest).drop (16 * j)).take 16 = entB l[j] := by
      have e : l = l.take j ++ (l[j] :: l.drop (j + 1)) := by rw [← List.drop_eq_getElem_cons (by omega), List.take_append_drop]
      have h2 : l.flatMap entB ++ rest = (l.take j).flatMap entB ++ (entB l[j] ++ ((l.drop (j + 1)).flatMap entB ++ rest)) := by
        conv => lhs; rw [e]
        rw [List.flatMap_append, List.flatMap_cons]
        simp only [List.append_assoc]
      rw [h2, List.drop_left' (by rw [flatB_len, List.length_take]; omega), List.take_left' (entB_len _)]
    rw [hd, entO_entB (hl _ (List.getElem_mem _))]
    simp only
    rw [List.take_succ_eq_append_getElem (by omega)]
/-- One bucket's bytes, and what stands behind. -/
def rowO (s : Nat) : List UInt8 → Option (List Ent × List UInt8)
  | [] => none
  | c :: r => if s < c.toNat then none else match opE r c.toNat with
    | none => none
    | some l => some (l, r.drop (16 * c.toNat))
theorem rowO_rowB (s : Nat) (r : List Ent) (hr : ∀ e ∈ r, goodE e) (hs : r.length ≤ s) (hs16 : s ≤ 16) (rest : List UInt8) : rowO s (rowB r ++ rest) = some (r, rest) := by
  have hc : (UInt8.ofNat r.length).toNat = r.length := by rw [UInt8.toNat_ofNat']; omega
  unfold rowB rowO
  simp only [List.cons_append, hc]
  rw [if_neg (by omega), opE_flat r hr rest r.length (Nat.le_refl _)]
  simp only [List.take_length]
  rw [List.drop_left' (flatB_len r)]
theorem rowO_back {s : Nat} {b : List UInt8} {l : List Ent} {r : List UInt8} (h : rowO s b = some (l, r)) : b = rowB l ++ r ∧ l.length ≤ s ∧ ∀ e ∈ l, goodE e := by
  cases b with
  | nil => cases h
  | cons c b =>
    rw [rowO] at h
    by_cases hc : s < c.toNat
    · rw [if_pos hc] at h; cases h
    · rw [if_neg hc] at h
      cases ho : opE b c.toNat with
      | none => rw [ho] at h; cases h
      | some l0 =>
        rw [ho] at h
        simp only [Option.some.injEq, Prod.mk.injEq] at h
        obtain ⟨rfl, rfl⟩ := h
        obtain ⟨h1, h2, h3, h4⟩ := opE_back ho
        refine ⟨?_, by omega, h4⟩
        unfold rowB
        rw [h1, UInt8.ofNat_toNat, List.cons_append, ← h3, List.take_append_drop]
/-- The first i buckets, and what stands behind. -/
def rowsO (s : Nat) (b : List UInt8) : Nat → Option (List (List Ent) × List UInt8)
  | 0 => some ([], b)
  | i + 1 => match rowsO s b i with
    | none => none
    | some (E, r) => match rowO s r with
      | none => none
      | some (l, r') => some (E ++ [l], r')
theorem rowsO_none {s : Nat} {b : List UInt8} {i : Nat} (h : rowsO s b i = none) : ∀ k, i ≤ k → rowsO s b k = none := by
  intro k hk
  induction k with
  | zero => obtain rfl : i = 0 := by omega
            exact h
  | succ k ih =>
    by_cases e : i = k + 1
    · subst e; exact h
    · have := ih (by omega)
      unfold rowsO
      rw [this]
theorem rowsO_bad {s : Nat} {b : List UInt8} {i : Nat} {E : List (List Ent)} {r : List UInt8} (h : rowsO s b i = some (E, r)) (hr : rowO s r = none) : rowsO s b (i + 1) = none := by
  rw [rowsO, h]; simp only [hr]
theorem rowsO_good {s : Nat} {b : List UInt8} {i : Nat} {E : List (List Ent)} {r r' : List UInt8} {l : List Ent} (h : rowsO s b i = some (E, r)) (hr : rowO s r = some (l, r')) : rowsO s b (i + 1) = some (E ++ [l], r') := by
  rw [rowsO, h]; simp only [hr]
theorem rowsO_back {s : Nat} {b : List UInt8} : ∀ {i : Nat} {E : List (List Ent)} {r : List UInt8}, rowsO s b i = some (E, r) → b = E.flatMap rowB ++ r ∧ E.length = i ∧ (∀ l ∈ E, l.length ≤ s) ∧ ∀ l ∈ E, ∀ e ∈ l, goodE e
  | 0, E, r, h => by
    rw [rowsO] at h
    simp only [Option.some.injEq, Prod.mk.injEq] at h
    obtain ⟨rfl, rfl⟩ := h
    simp
  | i + 1, E, r, h => by
    rw [rowsO] at h
    cases hi : rowsO s b i with
    | none => rw [hi] at h; cases h
    | some x =>
      obtain ⟨E0, r0⟩ := x
      rw [hi] at h
      simp only at h
      obtain ⟨h1, h2, h3, h4⟩ := rowsO_back hi
      cases ho : rowO s r0 with
      | none => rw [ho] at h; cases h
      | some y =>
        obtain ⟨l, r'⟩ := y
        rw [ho] at h
        simp only [Option.some.injEq, Prod.mk.injEq] at h
        obtain ⟨rfl, rfl⟩ := h
        obtain ⟨g1, g2, g3⟩ := rowO_back ho
        refine ⟨?_, by simp [h2], fun x hx => ?_, fun x hx => ?_⟩
        · rw [h1, g1, List.flatMap_append, List.flatMap_singleton]; simp only [List.append_assoc]
        · rcases List.mem_append.1 hx with hx | hx
          · exact h3 x hx
          · rw [List.mem_singleton.1 hx]; exact g2
        · rcases List.mem_append.1 hx with hx | hx
          · exact h4 x hx
          · rw [List.mem_singleton.1 hx]; exact g3
theorem rowsO_flat (s : Nat) (E : List (List Ent)) (hs : ∀ l ∈ E, l.length ≤ s) (hg : ∀ l ∈ E, ∀ e ∈ l, goodE e) (hs16 : s ≤ 16) (rest : List UInt8) : ∀ i, i ≤ E.length → rowsO s (E.flatMap rowB ++ rest) i = some (E.take i, (E.drop i).flatMap rowB ++ rest)
  | 0, _ => by simp [rowsO]
  | i + 1, hi => by
    have hm : E[i] ∈ E := List.getElem_mem _
    refine (rowsO_good (rowsO_flat s E hs hg hs16 rest i (by omega)) (l := E[i]) (r' := (E.drop (i + 1)).flatMap rowB ++ rest) ?_).trans ?_
    · rw [List.drop_eq_getElem_cons (by omega), List.flatMap_cons, List.append_assoc]
      exact rowO_rowB s E[i] (hg _ hm) (hs _ hm) hs16 _
    · rw [List.take_succ_eq_append_getElem (by omega)]
def nO (b : List UInt8) : Nat := ofBE ((b.drop 4).take 4)
def sO (b : List UInt8) : Nat := ofBE ((b.drop 8).take 4)
def headO (b : List UInt8) : Bool := decide (12 ≤ b.length) && (b.take 4 == [68, 73, 82, 49]) && decide (1 ≤ nO b) && decide (nO b ≤ 4096) && decide (1 ≤ sO b) && decide (sO b ≤ 16)
/-- Bytes as a directory. -/
def dirO (b : List UInt8) : Option (Nat × Nat × List (List Ent)) :=
  if headO b = true then match rowsO (sO b) (b.drop 12) (nO b) with
    | some (E, []) => some (nO b, sO b, E)
    | _ => none
  else none
theorem dirO_head {b : List UInt8} (h : headO b = false) : dirO b = none := by unfold dirO; rw [h]; rfl
theorem dirO_rows {b : List UInt8} (hh : headO b = true) (h : rowsO (sO b) (b.drop 12) (nO b) = none) : dirO b = none := by unfold dirO; rw [if_pos hh, h]
theorem dirO_more {b : List UInt8} {E : List (List Ent)} {r : List UInt8} (hh : headO b = true) (h : rowsO (sO b) (b.drop 12) (nO b) = some (E, r)) (hr : r ≠ []) : dirO b = none := by
  unfold dirO; rw [if_pos hh, h]
  cases r with
  | nil => exact absurd rfl hr
  | cons c r => rfl
theorem dirO_good {b : List UInt8} {E : List (List Ent)} (hh : headO b = true) (h : rowsO (sO b) (b.drop 12) (nO b) = some (E, [])) : dirO b = some (nO b, sO b, E) := by unfold dirO; rw [if_pos hh, h]
theorem headO_all {b : List UInt8} (h : headO b = true) : 12 ≤ b.length ∧ b.take 4 = [68, 73, 82, 49] ∧ 1 ≤ nO b ∧ nO b ≤ 4096 ∧ 1 ≤ sO b ∧ sO b ≤ 16 := by
  unfold headO at h
  simp only [Bool.and_eq_true, decide_eq_true_eq, beq_iff_eq] at h
  obtain ⟨⟨⟨⟨⟨h1, h2⟩, h3⟩, h4⟩, h5⟩, h6⟩ := h
  exact ⟨h1, h2, h3, h4, h5, h6⟩
theorem dirO_back {b : List UInt8} {n s : Nat} {E : List (List Ent)} (h : dirO b = some (n, s, E)) : dirB n s E = b ∧ E.length = n ∧ (∀ l ∈ E, l.length ≤ s) ∧ (∀ l ∈ E, ∀ e ∈ l, goodE e) ∧ 1 ≤ n ∧ n ≤ 4096 ∧ 1 ≤ s ∧ s ≤ 16 := by
  unfold dirO at h
  by_cases hh : headO b = true
  · rw [if_pos hh] at h
    obtain ⟨h1, h2, h3, h4, h5, h6⟩ := headO_all hh
    cases ho : rowsO (sO b) (b.drop 12) (nO b) with
    | none => rw [ho] at h; cases h
    | some x =>
      obtain ⟨E0, r⟩ := x
      rw [ho] at h
      cases r with
      | cons c r => cases h
      | nil =>
        simp only [Option.some.injEq, Prod.mk.injEq] at h
        obtain ⟨rfl, rfl, rfl⟩ := h
        obtain ⟨g1, g2, g3, g4⟩ := rowsO_back ho
        refine ⟨?_, g2, g3, g4, h3, h4, h5, h6⟩
        rw [List.append_nil] at g1
        unfold dirB dirH nO sO
        have l4 : ((b.drop 4).take 4).length = 4 := by rw [List.length_take, List.length_drop]; omega
        have l8 : ((b.drop 8).take 4).length = 4 := by rw [List.length_take, List.length_drop]; omega
        have e1 := beN_ofBE ((b.drop 4).take 4)
        have e2 := beN_ofBE ((b.drop 8).take 4)
        rw [l4] at e1
        rw [l8] at e2
        rw [e1, e2, ← g1, ← h2]
        have d1 : b.drop 8 = (b.drop 4).drop 4 := by rw [List.drop_drop]
        have d2 : b.drop 12 = ((b.drop 4).drop 4).drop 4 := by rw [List.drop_drop, List.drop_drop]
        rw [d1, d2]
        simp only [List.append_assoc, List.take_append_drop]
  · rw [if_neg hh] at h; cases h
theorem dirO_dirB (n s : Nat) (E : List (List Ent)) (hn : E.length = n) (hs : ∀ l ∈ E, l.length ≤ s) (hg : ∀ l ∈ E, ∀ e ∈ l, goodE e) (h1 : 1 ≤ n) (h2 : n ≤ 4096) (h3 : 1 ≤ s) (h4 : s ≤ 16) : dirO (dirB n s E) = some (n, s, E) := by
  have e4 : 256 ^ 4 = 4294967296 := by decide
  have d4 : (dirB n s E).drop 4 = beN 4 n ++ (beN 4 s ++ E.flatMap rowB) := by unfold dirB dirH; simp only [List.append_assoc]; exact List.drop_left' rfl
  have d8 : (dirB n s E).drop 8 = beN 4 s ++ E.flatMap rowB := by
    rw [show (8 : Nat) = 4 + 4 from rfl, ← List.drop_drop, d4]; exact List.drop_left' (beN_len _ _)
  have d12 : (dirB n s E).drop 12 = E.flatMap rowB := by
    rw [show (12 : Nat) = 8 + 4 from rfl, ← List.drop_drop, d8]; exact List.drop_left' (beN_len _ _)
  have hn' : nO (dirB n s E) = n := by unfold nO; rw [d4, List.take_left' (beN_len _ _)]; exact ofBE_beN 4 _ (by rw [e4]; omega)
  have hs' : sO (dirB n s E) = s := by unfold sO; rw [d8, List.take_left' (beN_len _ _)]; exact ofBE_beN 4 _ (by rw [e4]; omega)
  have ht : (dirB n s E).take 4 = [68, 73, 82, 49] := by unfold dirB dirH; simp only [List.append_assoc]; exact List.take_left' rfl
  have hh : headO (dirB n s E) = true := by
    unfold headO
    rw [hn', hs', ht]
    have : 12 ≤ (dirB n s E).length := by unfold dirB; rw [List.length_append, dirH_len]; omega
    simp [this, h1, h2, h3, h4]
  have hr := rowsO_flat s E hs hg h4 [] n (by omega)
  rw [List.append_nil, List.drop_of_length_le (by omega), List.take_of_length_le (by omega)] at hr
  have := dirO_good (b := dirB n s E) (E := E) hh (by rw [hn', hs', d12, hr]; rfl)
  rw [this, hn', hs']
end Go.Proofs.Ytihbjkdgfflnfaa
namespace Go.Proofs.Ytihbjkdgfflnfaa
open Go.RowKit

def GrowT (B : Nat) (d : List UInt8) (w : World) (e : Ending) (w' : World) : Prop := ∃ v', e = .returned v' ∧ RowT B w' v' d ∧ Spares (fun b => B ≤ b) w w'
set_option maxRecDepth 100000 in
set_option maxHeartbeats 1000000 in
theorem bigAppendT_any (B : Nat) (v : Value) (d : List UInt8) (M k : Nat) (w : World) (hr : RowT B w v d) (hB : B ≤ w.heap.size) (hk : k ≤ 8) (hd : d.length + k ≤ 1000000) :
    Calls Try.prog 42 #[v, .int .u64 M, .int .i64 k] w (GrowT B (d ++ beN k M) w) := by
  have HD := Lib.hid hd
  have HB := Lib.hid hB
  have HR0 : Hid (RowT B w v (d ++ (beN k M).take 0)) := Lib.hid (by rw [List.take_zero, List.append_nil]; exact hr)
  clear hr hd hB
  go_enter Try.func42, Try.ntmps42
  go_wp2
  go_loopw [0, 7] (fun u i wr => ∃ j : Nat, j ≤ k ∧ i = .int .i64 ((k : Int) - 1 - (j : Int)) ∧ Hid (RowT B wr u (d ++ (beN k M).take j)) ∧ Hid (Spares (fun b => B ≤ b) w wr)) (fun _ i _ => (intOf i + 1).toNat)
  case atStart => exact ⟨0, by omega, by simp, HR0, Lib.hid (Spares.refl _ _)⟩
  clear HR0
  case round =>
    obtain ⟨j, hj, rfl, HR1, HS1⟩ := hrel
    by_cases hlt : j < k
    · obtain ⟨i, hi⟩ : ∃ i : Nat, k - 1 - j = i := ⟨_, rfl⟩
      have hii : (k : Int) - 1 - (j : Int) = (i : Int) := by omega
      rw [hii]
      obtain ⟨s, hs⟩ : ∃ s : Nat, 8 * i = s := ⟨_, rfl⟩
      have hsi : (8 : Int) * (i : Int) = (s : Int) := by omega
      have hs0 : s < 64 := by omega
      obtain ⟨x, hx⟩ : ∃ x, UInt8.ofNat (M / 256 ^ i) = x := ⟨_, rfl⟩
      have hbt := byte_shift M i s hs
      rw [hx] at hbt
      have hbw : IntKind.u8.wrap ((M : Int) / 2 ^ s) = (x.toNat : Int) := by rw [← hbt, IntKind.wrap_u8]
      obtain ⟨Y, hY⟩ : ∃ Y, d ++ (beN k M).take j = Y := ⟨_, rfl⟩
      rw [hY] at HR1
      have hYl : Y.length + ([x] : List UInt8).length ≤ 1000000 := by rw [← hY, List.length_append, List.length_take, beN_len]; have := HD.out; simp only [List.length_cons, List.length_nil]; omega
      have HNXT : Hid (d ++ (beN k M).take (j + 1) = Y ++ [x]) := Lib.hid (by rw [beN_take k M j i hlt hi, ← List.append_assoc, hY, hx])
      have HYL := Lib.hid hYl
      have hj2 : (i : Int) - 1 = (k : Int) - 1 - ((j + 1 : Nat) : Int) := by omega
      have HJ2 := Lib.hid hj2
      have hBw : B ≤ (wr.alloc (.cells #[.int .u8 (x.toNat : Int)] 5)).heap.size := Nat.le_trans HB.out (((HS1.out.alloc _).size))
      have HBW := Lib.hid hBw
      have hro : RowT B (wr.alloc (.cells #[.int .u8 (x.toNat : Int)] 5)) u0 Y := HR1.out.spares (F := nowhere) ((Spares.refl _ _).alloc _) (fun _ _ h => h)
      have HRO := Lib.hid hro
      clear hx hY hYl hi hii hs hj2 hBw hro
      go_wp2_with ((with_reducible show wpList _ _ _ (⟨some 21, _, _, _, _, _⟩ :: _) _ _); refine wpList_tail_bytes rfl _ _ rfl B _ Y rfl HRO.out (some ⟨wr.heap.size, 0, none⟩) 1 [x] rfl (byteOne_at wr x) HYL.out HBW.out ?_; intro v9 w9 ho hg; have HO9 := Lib.hid ho; have HS9 : Hid (Spares (fun b => B ≤ b) w w9) := Lib.hid ((HS1.out.alloc _).grown hg (fun g h => .inl (HRO.out.own g h))); clear ho hg)
      go_roundw
      case rel => exact ⟨j + 1, by omega, by rw [HJ2.out], by rw [HNXT.out]; exact HO9, HS9⟩
      case measure => simp [intOf]
    · obtain rfl : j = k := by omega
      have e1 : (j : Int) - 1 - (j : Int) = -1 := by omega
      rw [e1]
      have HRF : Hid (RowT B wr u0 (d ++ beN j M)) := Lib.hid (by
        have := HR1.out
        rw [List.take_of_length_le (by rw [beN_len]; omega)] at this
        exact this)
      go_wp2
      go_ret
      exact ⟨_, rfl, HRF.out, HS1.out⟩
set_option maxRecDepth 100000 in
set_option maxHeartbeats 1000000 in
theorem refPutT_any (B : Nat) (v : Value) (d : List UInt8) (M k : Nat) (w : World) (hr : RowT B w v d) (hB : B ≤ w.heap.size) (hk : k ≤ 8) (hd : d.length + k ≤ 1000000) :
    Calls Try.prog 44 #[v, .int .u64 M, .int .i64 k] w (GrowT B (d ++ beN k M) w) := by
  have HD := Lib.hid hd
  have HB := Lib.hid hB
  have HR0 : Hid (RowT B w v (d ++ (beN k M).take 0)) := Lib.hid (by rw [List.take_zero, List.append_nil]; exact hr)
  clear hr hd hB
  go_enter Try.func44, Try.ntmps44
  go_wp2
  go_loopw [0, 7] (fun u i wr => ∃ j : Nat, j ≤ k ∧ i = .int .i64 ((k : Int) - 1 - (j : Int)) ∧ Hid (RowT B wr u (d ++ (beN k M).take j)) ∧ Hid (Spares (fun b => B ≤ b) w wr)) (fun _ i _ => (intOf i + 1).toNat)
  case atStart => exact ⟨0, by omega, by simp, HR0, Lib.hid (Spares.refl _ _)⟩
  clear HR0
  case round =>
    obtain ⟨j, hj, rfl, HR1, HS1⟩ := hrel
    by_cases hlt : j < k
    · obtain ⟨i, hi⟩ : ∃ i : Nat, k - 1 - j = i := ⟨_, rfl⟩
      have hii : (k : Int) - 1 - (j : Int) = (i : Int) := by omega
      rw [hii]
      obtain ⟨s, hs⟩ : ∃ s : Nat, 8 * i = s := ⟨_, rfl⟩
      have hsi : (8 : Int) * (i : Int) = (s : Int) := by omega
      have hs0 : s < 64 := by omega
      obtain ⟨x, hx⟩ : ∃ x, UInt8.ofNat (M / 256 ^ i) = x := ⟨_, rfl⟩
      have hbt := byte_shift M i s hs
      rw [hx] at hbt
      have hbw : IntKind.u8.wrap ((M : Int) / 2 ^ s) = (x.toNat : Int) := by rw [← hbt, IntKind.wrap_u8]
      obtain ⟨Y, hY⟩ : ∃ Y, d ++ (beN k M).take j = Y := ⟨_, rfl⟩
      rw [hY] at HR1
      have hYl : Y.length + ([x] : List UInt8).length ≤ 1000000 := by rw [← hY, List.length_append, List.length_take, beN_len]; have := HD.out; simp only [List.length_cons, List.length_nil]; omega
      have HNXT : Hid (d ++ (beN k M).take (j + 1) = Y ++ [x]) := Lib.hid (by rw [beN_take k M j i hlt hi, ← List.append_assoc, hY, hx])
      have HYL := Lib.hid hYl
      have hj2 : (i : Int) - 1 = (k : Int) - 1 - ((j + 1 : Nat) : Int) := by omega
      have HJ2 := Lib.hid hj2
      have hBw : B ≤ (wr.alloc (.cells #[.int .u8 (x.toNat : Int)] 5)).heap.size := Nat.le_trans HB.out (((HS1.out.alloc _).size))
      have HBW := Lib.hid hBw
      have hro : RowT B (wr.alloc (.cells #[.int .u8 (x.toNat : Int)] 5)) u0 Y := HR1.out.spares (F := nowhere) ((Spares.refl _ _).alloc _) (fun _ _ h => h)
      have HRO := Lib.hid hro
      clear hx hY hYl hi hii hs hj2 hBw hro
      go_wp2_with ((with_reducible show wpList _ _ _ (⟨some 21, _, _, _, _, _⟩ :: _) _ _); refine wpList_tail_bytes rfl _ _ rfl B _ Y rfl HRO.out (some ⟨wr.heap.size, 0, none⟩) 1 [x] rfl (byteOne_at wr x) HYL.out HBW.out ?_; intro v9 w9 ho hg; have HO9 := Lib.hid ho; have HS9 : Hid (Spares (fun b => B ≤ b) w w9) := Lib.hid ((HS1.out.alloc _).grown hg (fun g h => .inl (HRO.out.own g h))); clear ho hg)
      go_roundw
      case rel => exact ⟨j + 1, by omega, by rw [HJ2.out], by rw [HNXT.out]; exact HO9, HS9⟩
      case measure => simp [intOf]
    · obtain rfl : j = k := by omega
      have e1 : (j : Int) - 1 - (j : Int) = -1 := by omega
      rw [e1]
      have HRF : Hid (RowT B wr u0 (d ++ beN j M)) := Lib.hid (by
        have := HR1.out
        rw [List.take_of_length_le (by rw [beN_len]; omega)] at this
        exact this)
      go_wp2
      go_ret
      exact ⟨_, rfl, HRF.out, HS1.out⟩
end Go.Proofs.Ytihbjkdgfflnfaa
namespace Go.Proofs.Ytihbjkdgfflnfaa
open Go.RowKit

theorem RowT.shapeC {B : Nat} {w : World} {v : Value} {d : List UInt8} (h : RowT B w v d) : ∃ g c, v = .slice (some ⟨g, 0, none⟩) d.length c ∧ B ≤ g ∧ BytesAt w (some ⟨g, 0, none⟩) d ∧ d.length ≤ c ∧ c ≤ 9223372036854775807 := by
  have h0 := h
  obtain ⟨g, cur, fz, hv, hB, hg, _, hle, hm, ht⟩ := h0
  obtain ⟨g', c', hv', _, hat, _⟩ := h.shape
  rw [hv] at hv'
  simp only [Value.slice.injEq, Option.some.injEq, Addr.mk.injEq] at hv'
  obtain ⟨⟨rfl, _⟩, _⟩ := hv'
  exact ⟨g, cur.size, hv, hB, hat, hle, Nat.le_trans hm (by decide)⟩
def BytesPost (D : List UInt8) (w : World) (e : Ending) (w' : World) : Prop := ∃ g c, e = .returned (.slice (some ⟨g, 0, none⟩) D.length c) ∧ BytesAt w' (some ⟨g, 0, none⟩) D ∧ D.length ≤ c ∧ c ≤ 9223372036854775807 ∧ Spares nowhere w w'
def preK (n s : Nat) (E : List (List Ent)) (k : Nat) : List UInt8 := dirH n s ++ (E.take k).flatMap rowB
theorem preK_zero (n s : Nat) (E : List (List Ent)) : preK n s E 0 = dirH n s := by simp [preK]
theorem preK_next (n s : Nat) (E : List (List Ent)) (k : Nat) (h : k < E.length) : preK n s E (k + 1) = preK n s E k ++ rowB E[k] := by
  unfold preK
  rw [List.take_succ_eq_append_getElem h, List.flatMap_append, List.flatMap_singleton, List.append_assoc]
theorem preK_all (n s : Nat) (E : List (List Ent)) : preK n s E E.length = dirB n s E := by unfold preK dirB; rw [List.take_length]
theorem preK_len (n s : Nat) (E : List (List Ent)) (k : Nat) : (preK n s E k).length ≤ (dirB n s E).length := by
  unfold preK dirB
  have e : E.flatMap rowB = (E.take k).flatMap rowB ++ (E.drop k).flatMap rowB := by rw [← List.flatMap_append, List.take_append_drop]
  rw [e]
  simp only [List.length_append]
  omega
def innK (Y : List UInt8) (r : List Ent) (j : Nat) : List UInt8 := Y ++ (UInt8.ofNat r.length :: (r.take j).flatMap entB)
theorem innK_zero (Y : List UInt8) (r : List Ent) : innK Y r 0 = Y ++ [UInt8.ofNat r.length] := by simp [innK]
theorem innK_next (Y : List UInt8) (r : List Ent) (j : Nat) (h : j < r.length) : innK Y r (j + 1) = innK Y r j ++ entB r[j] := by
  unfold innK
  rw [List.take_succ_eq_append_getElem h, List.flatMap_append, List.flatMap_singleton, List.append_assoc]
  rfl
theorem innK_all (Y : List UInt8) (r : List Ent) : innK Y r r.length = Y ++ rowB r := by unfold innK rowB; rw [List.take_length]
theorem innK_len (Y : List UInt8) (r : List Ent) (j : Nat) (h : j ≤ r.length) : (innK Y r j).length = Y.length + 1 + 16 * j := by
  unfold innK
  rw [List.length_append, List.length_cons, flatB_len, List.length_take]
  omega
/-- Sixteen bytes stored into a new variable. -/
def a16Z (w : World) : World := w.alloc (.cells (bytesV (List.replicate 16 0)) 82)
theorem a16Z_there (w : World) (X : List UInt8) (hX : X.length = 16) : (a16Z w).there w.heap.size 0 (bytesV X).size :=
  there_of (heap_alloc_new w _) 0 _ (by rw [bytesV_size, bytesV_size, hX]; simp)
theorem a16Z_heap (w : World) (X : List UInt8) (hX : X.length = 16) : ((a16Z w).setCells w.heap.size 0 (bytesV X).toList).heap[w.heap.size]? = some (.cells (bytesV X) 82 (0, 0)) := by
  have := heap_setCells (g := w.heap.size) (t := 82) (Lib.byteCells X) [] (Lib.byteCells (List.replicate 16 0)) [] (a16Z w) (by rw [List.append_nil]; exact heap_alloc_new w _) (by rw [byteCells_len, byteCells_len, hX]; simp)
  rw [List.append_nil] at this
  exact this
theorem a16Z_spares (w : World) (X : List UInt8) : Spares nowhere w ((a16Z w).setCells w.heap.size 0 (bytesV X).toList) :=
  ((Spares.refl nowhere w).alloc _).trans' (F' := fun b => b = w.heap.size) (spares_cells _ _ (Spares.refl _ _)) (fun b hb => .inr (by omega))
theorem infoA16 (X : List UInt8) (hX : X.length = 16) : (Try.prog.info? 82).map (·.size) = some (bytesV X).size := by rw [bytesV_size, hX]; kernel_rfl
theorem slice_a16 (q off : Nat) (w : World) : (Instr.sliceAt 82 (.pointer (some ⟨q, off, none⟩)) none none none).run Try.prog w = .ok (.slice (some ⟨q, off, none⟩) 16 16) w := by kernel_rfl
theorem entryB_any (x : Ent) (hx : x.ok) (w : World) : Calls Try.prog 43 #[entV x] w fun e w' => e = .returned (.agg (bytesV (entB x))) ∧ Spares nowhere w w' :=
  entry_any x.tag x.at_ x.sec x.turn (x.tag % 4096) (orTop x.turn) w (tag_and hx.1) (top_or hx.2.2.2) hx.1 hx.2.1 hx.2.2.1 (by omega)
theorem refEntryB_any (x : Ent) (hx : x.ok) (w : World) : Calls Try.prog 45 #[entV x] w fun e w' => e = .returned (.agg (bytesV (entB x))) ∧ Spares nowhere w w' :=
  refEntry_any x.tag x.at_ x.sec x.turn (x.tag % 4096) (orTop x.turn) w (tag_and hx.1) (top_or hx.2.2.2) hx.1 hx.2.1 hx.2.2.1 (by omega)
set_option maxRecDepth 100000 in
set_option maxHeartbeats 4000000 in
theorem dBytes_any (F : Nat → Prop) (p bk n s : Nat) (R : Nat → Row) (E : List (List Ent)) (w : World) (h : IsDir F p bk n s R E w) (hlen : (dirB n s E).length ≤ 1000000) :
    Calls Try.prog 23 #[.pointer (some ⟨p, 0, none⟩)] w (BytesPost (dirB n s E) w) := by
  have hEn := h.rows.len
  have hn0 := h.n0
  have hn1 := h.n1
  have hs1 := h.s1
  have hcell : ∀ V, Spares (fun b => w.heap.size ≤ b) w V → V.cell? ⟨p, 0, none⟩ = some (.int .i64 s) ∧ V.cell? ⟨p, 1, none⟩ = some (.slice (some ⟨bk, 0, none⟩) n n) ∧ ∀ k (hk : k < E.length), ∃ g off, V.cell? ⟨bk, k, none⟩ = some (.slice (some ⟨g, off, none⟩) E[k].length s) ∧ g < w.heap.size ∧ ∀ j (hj : j < E[k].length) m, m < 4 → V.cell? ⟨g, off + j * 4 + m, none⟩ = (entCells E[k][j])[m]? := fun V hV => by
    have h' := h.spares hV (fun b _ hlt hB => by omega)
    refine ⟨by rw [Lib.cell_of_heap h'.hd]; rfl, by rw [Lib.cell_of_heap h'.hd]; rfl, fun k hk => ?_⟩
    obtain ⟨hcp, ⟨g, off⟩, hra⟩ := h.cap k (by omega)
    have hc := (h'.rows.cell k hk).1
    have hr := (h'.rows.row k hk).ents g off hra
    refine ⟨g, off, by rw [hc, hcp]; simp [Row.ad, hra], ((h.rows.row k hk).room g off hra).2.lt, fun j hj m hm => hr j hj m hm⟩
  have HLE : Hid (∀ r ∈ E, r.length ≤ 16) := Lib.hid (fun r hr => Nat.le_trans (h.lens r hr) hs1)
  have HOK : Hid (∀ r ∈ E, ∀ e ∈ r, e.ok) := Lib.hid h.rows.ok
  obtain ⟨B, hB⟩ : ∃ B, w.heap.size = B := ⟨_, rfl⟩
  rw [hB] at hcell
  have HC := Lib.hid hcell
  have HB := Lib.hid hB
  have HLEN := Lib.hid hlen
  obtain ⟨w1, hw1⟩ : ∃ w1, w.alloc (.cells (Lib.byteCells [68, 73, 82, 49]).toArray 5 (4, 5)) = w1 := ⟨_, rfl⟩
  have hr1 : RowT B w1 (.slice (some ⟨w.heap.size, 0, none⟩) 4 4) [68, 73, 82, 49] := by rw [← hw1, ← hB]; exact rowT_lit w [68, 73, 82, 49] (by decide)
  have hs1' : Spares (fun b => B ≤ b) w w1 := by rw [← hw1]; exact (Spares.refl _ w).alloc _
  have HW1 := Lib.hid hw1
  have HR1 := Lib.hid hr1
  have HS1 := Lib.hid hs1'
  have kc := fun (w : World) (C : Array Value) (n c : Nat) => Lib.run_convert_bytes_const (P := Try.prog) w 49 5 C n c Try.underlying49 Try.underlying5
  have ks := slice_a16
  clear h hcell hw1 hr1 hs1' hlen hB
  go_enter Try.func23, Try.ntmps23
  go_upto_region 2 with (fail)
  change Code.wp _ _ _ _ (w.alloc (.cells (Lib.byteCells [68, 73, 82, 49]).toArray 5 (4, 5)))
  rw [HW1.out]
  have u0 : IntKind.u64.wrap (n : Int) = (n : Int) := by rw [IntKind.wrap_u64]; omega
  have u1 : IntKind.u64.wrap (s : Int) = (s : Int) := by rw [IntKind.wrap_u64]; omega
  have c1 := (HC.out w1 HS1.out).2.1
  go_wp2_with fail
  refine (bigAppendT_any B _ [68, 73, 82, 49] n 4 w1 HR1.out (by rw [← HB.out]; exact HS1.out.size) (by omega) (by simp)).mono ?_
  rintro e w2 ⟨v2, rfl, hr2, hs2⟩
  have HR2 := Lib.hid hr2
  have HS2 : Hid (Spares (fun b => B ≤ b) w w2) := Lib.hid (HS1.out.trans hs2)
  clear hr2 hs2 c1 HR1 HS1 HW1
  have c0 := (HC.out w2 HS2.out).1
  go_wp2_with fail
  refine (bigAppendT_any B v2 _ s 4 w2 HR2.out (by rw [← HB.out]; exact HS2.out.size) (by omega) (by simp [beN_len])).mono ?_
  rintro e w3 ⟨v3, rfl, hr3, hs3⟩
  have HR3 : Hid (RowT B w3 v3 (preK n s E 0)) := Lib.hid (by rw [preK_zero]; exact hr3)
  have HS3 : Hid (Spares (fun b => B ≤ b) w w3) := Lib.hid (HS2.out.trans hs3)
  clear hr3 hs3 c0 HR2 HS2 u0 u1
  have c1 := (HC.out w3 HS3.out).2.1
  go_wp2
  clear c1
  go_loopw [3, 31] (fun v i wr => ∃ k : Nat, k ≤ n ∧ i = .int .i64 k ∧ Hid (RowT B wr v (preK n s E k)) ∧ Hid (Spares (fun b => B ≤ b) w wr)) (fun _ i _ => n - (intOf i).toNat)
  case atStart => exact ⟨0, by omega, rfl, HR3, HS3⟩
  case round =>
    obtain ⟨k, hk, rfl, HR, HS⟩ := hrel
    by_cases hlt : k < n
    · have hkE : k < E.length := by omega
      obtain ⟨g, off, c2, hg, hents⟩ := (HC.out wr HS.out).2.2 k hkE
      have hl16 : E[k].length ≤ 16 := HLE.out _ (List.getElem_mem _)
      have hrok : ∀ e ∈ E[k], e.ok := HOK.out _ (List.getElem_mem _)
      have hYlen := preK_len n s E (k + 1)
      have hYn := preK_next n s E k hkE
      rw [hYn, List.length_append, rowB_len] at hYlen
      obtain ⟨Y, hY⟩ : ∃ Y, preK n s E k = Y := ⟨_, rfl⟩
      obtain ⟨r, hrr⟩ : ∃ r, E[k] = r := ⟨_, rfl⟩
      rw [hY] at HR hYlen hYn
      have hfin := innK_all Y r
      have hz := innK_zero Y r
      have hlenI := innK_len Y r
      have hnext := innK_next Y r
      have HEN : Hid (∀ V, Spares (fun b => B ≤ b) w V → ∀ j (hj : j < r.length) m, m < 4 → V.cell? ⟨g, off + j * 4 + m, none⟩ = (entCells r[j])[m]?) := Lib.hid (by
        subst hrr
        intro V hV j hj m hm
        have h1 := hents j hj m hm
        have h2 : V.cell? ⟨g, off + j * 4 + m, none⟩ = w.cell? ⟨g, off + j * 4 + m, none⟩ := hV.cell (p := ⟨g, off + j * 4 + m, none⟩) (by simp only; rw [HB.out]; exact hg) (by simp only; omega)
        have h3 : wr.cell? ⟨g, off + j * 4 + m, none⟩ = w.cell? ⟨g, off + j * 4 + m, none⟩ := HS.out.cell (p := ⟨g, off + j * 4 + m, none⟩) (by simp only; rw [HB.out]; exact hg) (by simp only; omega)
        rw [h2, ← h3]; exact h1)
      rw [hrr] at c2 hl16 hrok hYlen hYn
      obtain ⟨L, hL⟩ : ∃ L, r.length = L := ⟨_, rfl⟩
      rw [hL] at c2 hl16 hYlen
      have hYt : Y.length + 1 + 16 * L ≤ 1000000 := by have := HLEN.out; omega
      obtain ⟨c, hc⟩ : ∃ c, UInt8.ofNat r.length = c := ⟨_, rfl⟩
      have hcn : c.toNat = L := by rw [← hc, hL, UInt8.toNat_ofNat']; omega
      have y2 : IntKind.u8.wrap (L : Int) = (L : Int) := by rw [IntKind.wrap_u8]; omega
      have y3 : (L : Int) % 256 = (L : Int) := by omega
      rw [hc] at hz
      have HRO : RowT B (wr.alloc (.cells #[.int .u8 (c.toNat : Int)] 5)) u3 Y := HR.out.spares (F := nowhere) ((Spares.refl _ _).alloc _) (fun _ _ h => h)
      have hby := byteOne_at wr c
      rw [hcn] at HRO hby
      have HRO' := Lib.hid HRO
      have HBY := Lib.hid hby
      have HZ := Lib.hid hz
      have HN := Lib.hid hnext
      have HLI := Lib.hid hlenI
      have HFI := Lib.hid hfin
      have HYN := Lib.hid hYn
      have HL := Lib.hid hL
      have HRK := Lib.hid hrok
      have HYT := Lib.hid hYt
      have HBW : Hid (B ≤ (wr.alloc (.cells #[.int .u8 (L : Int)] 5)).heap.size) := Lib.hid (by rw [← HB.out]; exact (HS.out.alloc _).size)
      clear HRO hby hz hnext hlenI hfin hYn hL hrok hYlen hYt hc hents hrr hY
      go_wp2_with ((with_reducible show wpList _ _ _ (⟨some 40, _, _, _, _, _⟩ :: _) _ _); refine wpList_tail_bytes rfl _ _ rfl B _ Y rfl HRO'.out (some ⟨wr.heap.size, 0, none⟩) 1 [c] rfl HBY.out (by have := HYT.out; simp only [List.length_cons, List.length_nil]; omega) HBW.out ?_; intro v9 w9 ho hg9; have HO9 := Lib.hid ho; have HS9 : Hid (Spares (fun b => B ≤ b) w w9) := Lib.hid ((HS.out.alloc _).grown hg9 (fun g h => .inl (HRO'.out.own g h))); clear ho hg9)
      go_loopw [3, 43] (fun v i wr => ∃ j : Nat, j ≤ L ∧ i = .int .i64 j ∧ Hid (RowT B wr v (innK Y r j)) ∧ Hid (Spares (fun b => B ≤ b) w wr)) (fun _ i _ => L - (intOf i).toNat)
      case atStart => exact ⟨0, by omega, rfl, by rw [HZ.out]; exact HO9, HS9⟩
      case round =>
        obtain ⟨j, hj, rfl, HRJ, HSJ⟩ := hrel
        by_cases hltj : j < L
        · have hjr : j < r.length := by rw [HL.out]; exact hltj
          have cE := HEN.out _ HSJ.out j hjr
          have hxok := HRK.out _ (List.getElem_mem hjr)
          have hnx := HN.out j hjr
          have hli := HLI.out j (by omega)
          obtain ⟨x, hx⟩ : ∃ x, r[j] = x := ⟨_, rfl⟩
          rw [hx] at cE hxok hnx
          obtain ⟨Z, hZ⟩ : ∃ Z, innK Y r j = Z := ⟨_, rfl⟩
          rw [hZ] at HRJ hnx hli
          have hXl := entB_len x
          obtain ⟨X, hX⟩ : ∃ X, entB x = X := ⟨_, rfl⟩
          have CE := fun V => entryB_any x hxok V
          rw [hX] at hnx hXl CE
          obtain ⟨t0, ht0⟩ : ∃ t0, x.tag = t0 := ⟨_, rfl⟩
          obtain ⟨t1, ht1⟩ : ∃ t1, x.at_ = t1 := ⟨_, rfl⟩
          obtain ⟨t2, ht2⟩ : ∃ t2, x.sec = t2 := ⟨_, rfl⟩
          obtain ⟨t3, ht3⟩ : ∃ t3, x.turn = t3 := ⟨_, rfl⟩
          have e0 : wr.cell? ⟨g, off + j * 4, none⟩ = some (.int .u16 t0) := by rw [← ht0]; exact cE 0 (by omega)
          have e1 : wr.cell? ⟨g, off + j * 4 + 1, none⟩ = some (.int .u32 t1) := by rw [← ht1]; exact cE 1 (by omega)
          have e2 : wr.cell? ⟨g, off + j * 4 + 2, none⟩ = some (.int .u16 t2) := by rw [← ht2]; exact cE 2 (by omega)
          have e3 : wr.cell? ⟨g, off + j * 4 + 3, none⟩ = some (.int .u64 t3) := by rw [← ht3]; exact cE 3 (by omega)
          unfold entV at CE
          rw [ht0, ht1, ht2, ht3] at CE
          have HCE := Lib.hid CE
          have HNX := Lib.hid hnx
          have HLJ := Lib.hid hli
          have HXL := Lib.hid hXl
          clear CE cE hxok hnx hli hx hZ hX hXl ht0 ht1 ht2 ht3
          go_wp2_with fail
          refine (HCE.out _).mono ?_
          rintro e w4 ⟨rfl, hs4⟩
          have HS4 : Hid (Spares (fun b => B ≤ b) w w4) := Lib.hid ((HSJ.out.alloc _).trans' hs4 (fun _ h => h.elim))
          have HR4 : Hid (RowT B w4 u3 Z) := Lib.hid ((HRJ.out.spares (F := nowhere) ((Spares.refl _ _).alloc _) (fun _ _ h => h)).spares hs4 (fun _ _ h => h))
          have HTH := Lib.hid (a16Z_there w4 X HXL.out)
          have HIA := Lib.hid (infoA16 X HXL.out)
          clear hs4 e0 e1 e2 e3
          go_upto_region 12 with ((with_reducible show wpList _ _ _ (⟨none, .store 82 _ _, _, _, _, _⟩ :: _) _ _); refine wpList_store_mid rfl 82 (.tmp 8) (.tmp 48) rfl w4.heap.size 0 (bytesV X) rfl rfl HTH.out HIA.out (bytesV_one _) ?_)
          obtain ⟨w5, hw5⟩ : ∃ w5, (a16Z w4).setCells w4.heap.size 0 (bytesV X).toList = w5 := ⟨_, rfl⟩
          have hh5 := a16Z_heap w4 X HXL.out
          have hs5 := a16Z_spares w4 X
          rw [hw5] at hh5 hs5
          have HW5 := Lib.hid hw5
          have hat5 : BytesAt w5 (some ⟨w4.heap.size, 0, none⟩) X := fun q hq => ⟨_, _, rfl, by rw [Lib.cell_of_heap hh5, Nat.zero_add]; simp [bytesV, Lib.byteCells, hq]⟩
          have HAT5 := Lib.hid hat5
          have HS5 : Hid (Spares (fun b => B ≤ b) w w5) := Lib.hid (HS4.out.trans' hs5 (fun _ h => h.elim))
          have HR5 : Hid (RowT B w5 u3 Z) := Lib.hid (HR4.out.spares hs5 (fun _ _ h => h))
          have HB5 : Hid (B ≤ w5.heap.size) := Lib.hid (by rw [← HB.out]; exact HS5.out.size)
          have hX16 : 16 = X.length := HXL.out.symm
          have HX16 := Lib.hid hX16
          clear hw5 hh5 hs5 hat5 hX16 HR4 HS4
          change Code.wp _ _ _ _ ((a16Z w4).setCells w4.heap.size 0 (bytesV X).toList)
          rw [HW5.out]
          simp only [Act.put]
          go_wp2_with ((with_reducible show wpList _ _ _ (⟨some 51, _, _, _, _, _⟩ :: _) _ _); refine wpList_tail_bytes rfl _ _ rfl B _ Z rfl HR5.out (some ⟨w4.heap.size, 0, none⟩) 16 X (by rw [← HX16.out]; rfl) HAT5.out (by rw [HLJ.out, ← HX16.out]; have := HYT.out; omega) HB5.out ?_; intro v6 w6 ho hg6; have HO6 := Lib.hid ho; have HS6 : Hid (Spares (fun b => B ≤ b) w w6) := Lib.hid (HS5.out.grown hg6 (fun g h => .inl (HR5.out.own g h))); clear ho hg6)
          go_roundw
          case rel => exact ⟨j + 1, by omega, rfl, by rw [HNX.out]; exact HO6, HS6⟩
          case measure => simp [intOf]; omega
        · obtain rfl : j = L := by omega
          go_wp2
          go_roundw
          case rel => exact ⟨k + 1, by omega, rfl, Lib.hid (by rw [HYN.out, ← HFI.out, HL.out]; exact HRJ.out), HSJ⟩
          case measure => simp [intOf]; omega
    · obtain rfl : k = n := by omega
      go_wp2
      go_ret
      have hfin : preK k s E k = dirB k s E := by rw [← preK_all, hEn]
      have hr := HR.out
      rw [hfin] at hr
      obtain ⟨g, c, hv, hg, hat, hc, hcm⟩ := hr.shapeC
      exact ⟨g, c, by rw [hv]; rfl, hat, hc, hcm, HS.out.mono (fun b hb => .inr (by rw [HB.out]; exact hb))⟩
end Go.Proofs.Ytihbjkdgfflnfaa
namespace Go.Proofs.Ytihbjkdgfflnfaa
open Go.RowKit

theorem append_in_place {F : Nat → Prop} {w : World} {r : Row} {l : List Ent} (h : RowAt F w r l) {g off : Nat} (hra : r.a = some (g, off)) (x : Ent) (A : Addr) (ty : TypeId) (hA : ∀ j u, (entCells x)[j]? = some u → w.cell? (A.add j) = some u) (hroom : l.length + 1 ≤ r.cap) :
    ∃ w', (Builtin.append_ #[38, 38] ty #[.slice (some ⟨g, off, none⟩) l.length r.cap, .slice (some A) 1 1]).run Try.prog w = .ok (.slice (some ⟨g, off, none⟩) (l.length + 1) r.cap) w' ∧ RowAt F w' r (l ++ [x]) ∧
      Spares (fun k => k = g) w w' ∧ (∀ F2 r2 l2, RowAt F2 w r2 l2 → r2.apart r → RowAt F2 w' r2 l2) := by
  obtain ⟨i0, hi, hz0, hz1, hz2⟩ := info_parts entInfo
  have ones : ∀ u ∈ entCells x, u.oneCell' = true := fun u hu => by rw [← rowCells_single] at hu; exact rowCells_one _ u hu
  have h4 : (entCells x).length = 4 := rfl
  have hrm := (h.room g off hra).2
  have hrun := run_append_room_cells (P := Try.prog) w 38 ty 41 i0 Try.underlying38 hi g off l.length r.cap A 1 1 (entCells x) (by rw [hz1]; rfl) hA ones hroom
    (fun j hj => (hrm.cell _ (by rw [hz1]; omega)).1) (fun j hj => (hrm.cell _ (by rw [hz1]; omega)).2)
  rw [hz1] at hrun
  refine ⟨_, hrun, ?_, spares_cells _ _ (Spares.refl _ _), fun F2 r2 l2 h2 hap => h2.sets _ _ _ fun b' o' e => ?_⟩
  · have := h.store hra (k0 := l.length) [x] (Nat.le_refl _) (by rw [List.length_singleton]; omega)
    rw [List.take_length, rowCells_single] at this
    exact this
  · have := hap b' o' g off e hra
    rw [h4]
    omega
/-- What stands behind k bytes of a slice. -/
theorem bytes_from {w : World} {g o : Nat} {b : List UInt8} (h : BytesAt w (some ⟨g, o, none⟩) b) (k c : Nat) (hk : k ≤ b.length) (hc : b.length ≤ c) : ∃ o', (if c = k then (some ⟨g, o, none⟩ : Option Addr) else some ⟨g, o + k, none⟩) = some ⟨g, o', none⟩ ∧ BytesAt w (some ⟨g, o', none⟩) (b.drop k) := by
  by_cases he : c = k
  · refine ⟨o, by rw [if_pos he], fun j hj => ?_⟩
    rw [List.length_drop] at hj
    omega
  · refine ⟨o + k, by rw [if_neg he], fun j hj => ?_⟩
    rw [List.length_drop] at hj
    obtain ⟨b2, o2, e, hcell⟩ := h (k + j) (by omega)
    simp only [Option.some.injEq, Addr.mk.injEq] at e
    obtain ⟨rfl, rfl, _⟩ := e
    refine ⟨_, _, rfl, ?_⟩
    rw [show o + k + j = o + (k + j) by omega, hcell, List.getElem_drop]
/-- One bucket's post. -/
def OpenBPost (F : Nat → Prop) (g off a1 : Nat) (r : Row) (o : Option (List Ent × List UInt8)) (w : World) (e : Ending) (w' : World) : Prop :=
  Spares (fun k => k = g) w w' ∧ (∀ F2 r2 l2, RowAt F2 w r2 l2 → r2.apart r → RowAt F2 w' r2 l2) ∧
  ((∃ l rest q c, o = some (l, rest) ∧ e = .returned (.tuple #[.slice (some ⟨g, off, none⟩) l.length r.cap, .slice (some ⟨a1, q, none⟩) rest.length c, .int .i64 0]) ∧ RowAt F w' r l ∧ BytesAt w' (some ⟨a1, q, none⟩) rest ∧ rest.length ≤ c ∧ c ≤ 9223372036854775807) ∨
   (o = none ∧ ∃ v1 v2, e = .returned (.tuple #[v1, v2, .int .i64 40])))
/-- What holds when j entries are read. -/
structure OB (F : Nat → Prop) (g : Nat) (w : World) (r : Row) (R : List UInt8) (j a1 o : Nat) (wr : World) : Prop where
  row : ∃ l, opE R j = some l ∧ RowAt F wr r l
  at_ : BytesAt wr (some ⟨a1, o, none⟩) (R.drop (16 * j))
  sp : Spares (fun b => b = g) w wr
  rest : ∀ F2 r2 l2, RowAt F2 w r2 l2 → r2.apart r → RowAt F2 wr r2 l2
set_option maxRecDepth 100000 in
set_option maxHeartbeats 4000000 in
theorem openB_any (F : Nat → Prop) (g off a1 a2 : Nat) (r : Row) (b : List UInt8) (c : Nat) (w : World) (h : RowAt F w r []) (hra : r.a = some (g, off)) (hcap : r.cap ≤ 16) (hat : BytesAt w (some ⟨a1, a2, none⟩) b) (hag : a1 ≠ g) (hc : b.length ≤ c) (hbig : c ≤ 9223372036854775807) :
    Calls Try.prog 41 #[.slice (some ⟨g, off, none⟩) 0 r.cap, .slice (some ⟨a1, a2, none⟩) b.length c] w (OpenBPost F g off a1 r (rowO r.cap b) w) := by
  cases b with
  | nil =>
    go_enter Try.func41, Try.ntmps41
    go_wp2
    go_ret3
    exact ⟨Spares.refl _ _, fun _ _ _ h _ => h, .inr ⟨rfl, _, _, rfl⟩⟩
  | cons x R =>
    obtain ⟨b2, o2, e2, hx0⟩ := hat 0 (by simp)
    simp only [Option.some.injEq, Addr.mk.injEq] at e2
    obtain ⟨rfl, rfl, _⟩ := e2
    simp only [Nat.add_zero, List.getElem_cons_zero] at hx0
    obtain ⟨n, hn⟩ : ∃ n, x.toNat = n := ⟨_, rfl⟩
    rw [hn] at hx0
    have hn256 : n < 256 := by rw [← hn]; exact UInt8.toNat_lt _
    obtain ⟨c, rfl⟩ : ∃ c', c = c' + 1 := ⟨c - 1, by simp only [List.length_cons] at hc; omega⟩
    simp only [List.length_cons] at hc
    obtain ⟨o1, hA1, hB1⟩ := bytes_from hat 1 (c + 1) (by simp) (by simp only [List.length_cons]; omega)
    rw [List.drop_one, List.tail_cons] at hB1
    obtain ⟨L, hL⟩ : ∃ L, R.length = L := ⟨_, rfl⟩
    rw [show (x :: R).length = L + 1 by rw [← hL]; rfl]
    rw [hL] at hc
    obtain ⟨rc, hrc⟩ : ∃ rc, r.cap = rc := ⟨_, rfl⟩
    have hL0 : (((L : Int) + 1) == 0) = false := by simp; omega
    rw [hrc] at hcap ⊢
    by_cases hcn : rc < n
    · have i1 : (rc : Int) < (n : Int) := by omega
      go_enter Try.func41, Try.ntmps41
      go_wp2
      go_ret3
      exact ⟨Spares.refl _ _, fun _ _ _ h _ => h, .inr ⟨by rw [rowO, if_pos (by rw [hn]; exact hcn)], _, _, rfl⟩⟩
    · have i1 : ¬ (rc : Int) < (n : Int) := by omega
      have hA2 : (if c = 0 then (some ⟨a1, a2, none⟩ : Option Addr) else some ⟨a1, a2 + 1, none⟩) = some ⟨a1, o1, none⟩ := by
        rw [← hA1]
        by_cases hc0 : c = 0
        · rw [if_pos hc0, if_pos (by omega)]
        · rw [if_neg hc0, if_neg (by omega)]
      have hro1 : opE R n = none → rowO rc (x :: R) = none := fun h => by rw [rowO, if_neg (by rw [hn]; exact hcn), hn, h]
      have hro2 : ∀ l, opE R n = some l → rowO rc (x :: R) = some (l, R.drop (16 * n)) := fun l h => by rw [rowO, if_neg (by rw [hn]; exact hcn), hn, h]
      have H0 : Hid (OB F g w r R 0 a1 o1 w) := Lib.hid ⟨⟨[], rfl, h⟩, by simpa using hB1, Spares.refl _ _, fun _ _ _ h _ => h⟩
      have HRO1 := Lib.hid hro1
      have HRO2 := Lib.hid hro2
      have HRA := Lib.hid hra
      have HL := Lib.hid hL
      have HRC := Lib.hid hrc
      clear hat hB1 h hra hL hrc hro1 hro2 hn
      have g1 : (0 : Int) ≤ (L : Int) + 1 := by omega
      have ka := arr16
      go_enter Try.func41, Try.ntmps41
      go_wp2
      go_loopw [0, 1, 29] (fun l0 b1 i wr => ∃ j m q cc : Nat, j ≤ n ∧ m + 16 * j = L ∧ i = .int .i64 j ∧ l0 = .slice (some ⟨g, off, none⟩) j rc ∧ b1 = .slice (some ⟨a1, q, none⟩) m cc ∧ m ≤ cc ∧ cc ≤ 9223372036854775807 ∧ Hid (OB F g w r R j a1 q wr)) (fun _ _ i _ => n - (intOf i).toNat)
      case atStart => exact ⟨0, L, o1, c, by omega, by omega, rfl, rfl, rfl, by omega, by omega, H0⟩
      case round =>
        obtain ⟨j, m, q, cc, hj, hm, rfl, rfl, rfl, hmc, hcb, HI⟩ := hrel
        by_cases hlt : j < n
        · by_cases h16 : m < 16
          · have i2 : (m : Int) < 16 := by omega
            go_wp2
            go_ret3
            have hI := HI.out
            exact ⟨hI.sp, hI.rest, .inr ⟨HRO1.out (opE_none (opE_short (j := j) (by rw [HL.out]; omega)) n (by omega)), _, _, rfl⟩⟩
          · have i2 : ¬ (m : Int) < 16 := by omega
            obtain ⟨m, rfl⟩ : ∃ m', m = m' + 16 := ⟨m - 16, by omega⟩
            obtain ⟨cc, rfl⟩ : ∃ c', cc = c' + 16 := ⟨cc - 16, by omega⟩
            have hI := HI.out
            obtain ⟨l, hl, hr⟩ := hI.row
            have hll := (opE_back hl).1
            have hdl : (R.drop (16 * j)).length = m + 16 := by rw [List.length_drop, HL.out]; omega
            obtain ⟨q2, hA16, hB16⟩ := bytes_from hI.at_ 16 (cc + 16) (by omega) (by omega)
            have hA17 : (if cc = 0 then (some ⟨a1, q, none⟩ : Option Addr) else some ⟨a1, q + 16, none⟩) = some ⟨a1, q2, none⟩ := by
              rw [← hA16]
              by_cases hc0 : cc = 0
              · rw [if_pos hc0, if_pos (by omega)]
              · rw [if_neg hc0, if_neg (by omega)]
            rw [List.drop_drop, show 16 * j + 16 = 16 * (j + 1) by omega] at hB16
            obtain ⟨X, hX⟩ : ∃ X, (R.drop (16 * j)).take 16 = X := ⟨_, rfl⟩
            have hXl : X.length = 16 := by rw [← hX, List.length_take]; omega
            have hrg : wr.rangeAt a1 q (Lib.byteCells X) := by
              intro z u hz
              rw [← hX] at hz
              have hzl : z < 16 := by
                have := (List.getElem?_eq_some_iff.1 hz).1
                rw [byteCells_len, hX, hXl] at this; exact this
              obtain ⟨b2, o2, e2, hcell⟩ := hI.at_ z (by omega)
              simp only [Option.some.injEq, Addr.mk.injEq] at e2
              obtain ⟨rfl, rfl, _⟩ := e2
              rw [hcell]
              unfold Lib.byteCells at hz
              rw [List.getElem?_map, List.getElem?_take, if_pos hzl, List.getElem?_eq_getElem (by omega)] at hz
              simpa using hz
            have hstep := opE_step hl (show ¬ R.length < 16 * (j + 1) by rw [HL.out]; omega)
            rw [hX] at hstep
            have COE := openEntry_any X
            have HRG := Lib.hid hrg
            have HIA : Hid ((Try.prog.info? 82).map (·.size) = some (Lib.byteCells X).length) := Lib.hid (by rw [byteCells_len, hXl]; kernel_rfl)
            have HXL := Lib.hid hXl
            have HST := Lib.hid hstep
            have HB16 := Lib.hid hB16
            have HR := Lib.hid hr
            have HLL := Lib.hid hll
            have HCOE := Lib.hid COE
            clear hI hl hr hll hdl hA16 hB16 hX hXl hrg hstep COE
            go_wp2_with ((with_reducible show wpList _ _ _ (⟨some 38, _, _, _, _, _⟩ :: _) _ _); refine wpList_load_mid rfl 82 (.tmp 37) rfl a1 q rfl (Lib.byteCells X) _ HRG.out Try.underlying82 rfl HIA.out ?_)
            refine (HCOE.out wr HXL.out).mono ?_
            rintro e w2 ⟨rfl, hs2⟩
            rw [oeV_entO]
            have hI2 : OB F g w r R j a1 q w2 := ⟨by obtain ⟨l9, h1, h2⟩ := HI.out.row; exact ⟨l9, h1, h2.spares hs2 (fun _ _ _ h => h)⟩, HI.out.at_.spares hs2 (fun _ _ _ h => h), HI.out.sp.trans' hs2 (fun _ h => h.elim), fun F2 r2 l2 h2 ha => (HI.out.rest F2 r2 l2 h2 ha).spares hs2 (fun _ _ _ h => h)⟩
            have HI2 := Lib.hid hI2
            clear hI2 HCOE HRG HIA
            cases ho : entO X with
            | none =>
              unfold oeR entV
              go_wp2
              go_ret3
              exact ⟨HI2.out.sp.alloc _, fun F2 r2 l2 h2 ha => (HI2.out.rest F2 r2 l2 h2 ha).spares ((Spares.refl nowhere _).alloc _) (fun _ _ _ h => h), .inr ⟨HRO1.out (opE_none (j := j + 1) (by rw [HST.out, ho]) n (by omega)), _, _, rfl⟩⟩
            | some x9 =>
              have HST2 : Hid (opE R (j + 1) = some (l ++ [x9])) := Lib.hid (by rw [HST.out, ho])
              have hxok : x9.ok := (entB_entO HXL.out ho).2.ok
              have HXO := Lib.hid hxok
              have HB17 := Lib.hid (HB16.out.spares hs2 (fun _ _ _ h => h))
              have HR2 := Lib.hid (HR.out.spares hs2 (fun _ _ _ h => h))
              clear ho hxok hs2 HST HB16 HR
              obtain ⟨t0, t1, t2, t3⟩ := x9
              unfold oeR entV
              simp only
              obtain ⟨v, hv⟩ : ∃ v, w2.alloc (.cells #[.int .u16 t0, .int .u32 t1, .int .u16 t2, .int .u64 t3] 41) = v := ⟨_, rfl⟩
              have hsv : Spares nowhere w2 v := by rw [← hv]; exact (Spares.refl _ _).alloc _
              have hbx : v.heap[w2.heap.size]? = some (.cells #[.int .u16 t0, .int .u32 t1, .int .u16 t2, .int .u64 t3] 41 (0, 0)) := by rw [← hv]; exact heap_alloc_new _ _
              have hg2 : g < w2.heap.size := (HR2.out.room g off HRA.out).2.lt
              have hsW : Spares nowhere w2 (v.alloc (.cells #[.int .u16 t0, .int .u32 t1, .int .u16 t2, .int .u64 t3] 41)).drew := (hsv.alloc _).drew
              obtain ⟨w9, hrun, hr9, hs9, hk9⟩ := append_in_place (HR2.out.spares hsW (fun _ _ _ h => h)) HRA.out ⟨t0, t1, t2, t3⟩ ⟨v.heap.size, 0, none⟩ 38 (fun j u hj => ent_new v ⟨t0, t1, t2, t3⟩ j u hj) (by rw [HRC.out, HLL.out]; omega)
              rw [HLL.out, HRC.out] at hrun
              have HKEEP : Hid (∀ V, Spares (fun k => k = g) v V → V.cell? ⟨w2.heap.size, 0, none⟩ = some (.int .u16 t0) ∧ V.cell? ⟨w2.heap.size, 1, none⟩ = some (.int .u32 t1) ∧ V.cell? ⟨w2.heap.size, 2, none⟩ = some (.int .u16 t2) ∧ V.cell? ⟨w2.heap.size, 3, none⟩ = some (.int .u64 t3)) := Lib.hid (fun V hV => by
                have hb := hV.heap hbx (by omega)
                exact ⟨by rw [Lib.cell_of_heap hb]; rfl, by rw [Lib.cell_of_heap hb]; rfl, by rw [Lib.cell_of_heap hb]; rfl, by rw [Lib.cell_of_heap hb]; rfl⟩)
              have SD : Hid (Spares (fun k => k = g) v v.drew) := Lib.hid (Spares.refl _ _).drew
              have SA : Hid (Spares (fun k => k = g) v (v.alloc (.cells #[.int .u16 t0, .int .u32 t1, .int .u16 t2, .int .u64 t3] 41)).drew) := Lib.hid ((Spares.refl _ _).alloc _).drew
              have SN : Hid (Spares (fun k => k = g) v w9) := Lib.hid (SA.out.trans hs9)
              have hs29 : Spares (fun k => k = g) w2 w9 := (hsW.mono (fun _ h => h.elim)).trans hs9
              have HFN : Hid (OB F g w r R (j + 1) a1 q2 w9) := Lib.hid ⟨⟨_, HST2.out, hr9⟩, HB17.out.spares hs29 (fun b o e => by cases e; exact hag), HI2.out.sp.trans hs29, fun F2 r2 l2 h2 ha => hk9 F2 r2 l2 ((HI2.out.rest F2 r2 l2 h2 ha).spares hsW (fun _ _ _ h => h)) ha⟩
              have HV := Lib.hid hv
              have w1' : IntKind.i64.wrap ((j : Int) + 1) = (j : Int) + 1 := by rw [IntKind.wrap_i64]; omega
              clear hv hsv hbx hg2 hsW hr9 hs9 hk9 hs29
              go_upto_region 12 with (fail)
              rw [HV.out]
              -- GEN
              refine wp_region_held_drew (S := fun V => V.cell? ⟨w2.heap.size, 0, none⟩ = some (.int .u16 t0) ∧ V.cell? ⟨w2.heap.size, 1, none⟩ = some (.int .u32 t1) ∧ V.cell? ⟨w2.heap.size, 2, none⟩ = some (.int .u16 t2) ∧ V.cell? ⟨w2.heap.size, 3, none⟩ = some (.int .u64 t3)) (by kernel_rfl) (HKEEP.out _ SD.out) (fun hS0 => ?_)
              refine wpAnyH_take (i := 0) (v := ?_) rfl (by kernel_rfl) (by kernel_rfl) (by kernel_rfl) (fun _ _ _ h => h) (Or.inl ⟨by rfl, ?_⟩) (by assumption) ?_
              rotate_left
              · intro w9 hS9
                obtain ⟨z0, z1, z2, z3⟩ := hS9
                go_simp
                try with_reducible rfl
              simp only [List.getElem_toArray, List.getElem_cons_zero, Act.put, List.setIfInBounds_toArray, List.set_cons_succ, List.set_cons_zero]
              refine wpAnyH_take (i := 1) (v := ?_) rfl (by kernel_rfl) (by kernel_rfl) (by kernel_rfl) (fun _ _ _ h => h) (Or.inl ⟨by rfl, ?_⟩) (by assumption) ?_
              rotate_left
              · intro w9 hS9
                obtain ⟨z0, z1, z2, z3⟩ := hS9
                go_simp
                try with_reducible rfl
              simp only [List.getElem_toArray, List.getElem_cons_succ, List.getElem_cons_zero, Act.put, List.setIfInBounds_toArray, List.set_cons_succ, List.set_cons_zero]
              refine wpAnyH_take (i := 4) (v := ?_) rfl (by kernel_rfl) (by kernel_rfl) (by kernel_rfl) (fun _ _ _ h => h) (Or.inl ⟨by rfl, ?_⟩) (by assumption) ?_
              rotate_left
              · intro w9 hS9
                obtain ⟨z0, z1, z2, z3⟩ := hS9
                go_simp
                try with_reducible rfl
              simp only [List.getElem_toArray, List.getElem_cons_succ, List.getElem_cons_zero, Act.put, List.setIfInBounds_toArray, List.set_cons_succ, List.set_cons_zero]
              refine wpAnyH_take (i := 5) (v := ?_) rfl (by kernel_rfl) (by kernel_rfl) (by kernel_rfl) (fun _ _ _ h => h) (Or.inl ⟨by rfl, ?_⟩) (by assumption) ?_
              rotate_left
              · intro w9 hS9
                obtain ⟨z0, z1, z2, z3⟩ := hS9
                go_simp
                try with_reducible rfl
              simp only [List.getElem_toArray, List.getElem_cons_succ, List.getElem_cons_zero, Act.put, List.setIfInBounds_toArray, List.set_cons_succ, List.set_cons_zero]
              refine wpAnyH_ready (rs := [2]) (by kernel_rfl) (by simp) ?_
              refine AllReadyH.cons rfl (fun K9 hK9 => ?_) ?_
              · go_simp
                refine hK9.out _ _ ?_ (fun hS9 => ?_)
                · exact HKEEP.out _ SA.out
                clear hK9 K9
                refine wpAnyH_ready (rs := [3]) (by kernel_rfl) (by simp) ?_
                refine AllReadyH.cons rfl (fun K9 hK9 => ?_) ?_
                · refine step_append_fact (by rfl) (.tmp 45) (.tmp 47) 38 (by rfl) (.slice (some ⟨g, off, none⟩) j rc) (.slice (some ⟨v.heap.size, 0, none⟩) 1 1) (by rfl) (by rfl) hrun ?_
                  try go_simp
                  refine hK9.out _ _ ?_ (fun hS9 => ?_)
                  · exact HKEEP.out _ SN.out
                  clear hK9 K9
                  refine wpAnyH_take (i := 6) (v := ?_) rfl (by kernel_rfl) (by kernel_rfl) (by kernel_rfl) (fun _ _ _ h => h) (Or.inl ⟨by rfl, ?_⟩) (by assumption) ?_
                  rotate_left
                  · intro w9 hS9
                    obtain ⟨z0, z1, z2, z3⟩ := hS9
                    go_simp
                    try with_reducible rfl
                  simp only [List.getElem_toArray, List.getElem_cons_succ, List.getElem_cons_zero, Act.put, List.setIfInBounds_toArray, List.set_cons_zero]
                  refine wpAnyH_take (i := 7) (v := ?_) rfl (by kernel_rfl) (by kernel_rfl) (by kernel_rfl) (fun _ _ _ h => h) (Or.inl ⟨by rfl, ?_⟩) (by assumption) ?_
                  rotate_left
                  · intro w9 hS9
                    obtain ⟨z0, z1, z2, z3⟩ := hS9
                    go_simp
                    try with_reducible rfl
                  simp only [List.getElem_toArray, List.getElem_cons_succ, List.getElem_cons_zero, Act.put, List.setIfInBounds_toArray, List.set_cons_succ, List.set_cons_zero]
                  refine wpAnyH_done (by kernel_rfl) ?_ _
                  go_wp2
                  go_roundw
                  case rel => exact ⟨j + 1, m, q2, cc, by omega, by omega, rfl, rfl, by simp, by omega, by omega, HFN⟩
                  case measure => simp [intOf]; omega
                exact AllReadyH.nil
              exact AllReadyH.nil
              -- GEN END
        · obtain rfl : j = n := by omega
          go_wp2
          go_ret3
          have hI := HI.out
          obtain ⟨l, hl, hr⟩ := hI.row
          have hb := opE_back hl
          refine ⟨hI.sp, hI.rest, .inl ⟨l, R.drop (16 * j), q, cc, HRO2.out l hl, ?_, hr, hI.at_, ?_, hcb⟩⟩
          · rw [hb.1, List.length_drop, HL.out, HRC.out, show L - 16 * j = m by omega]; rfl
          · rw [List.length_drop, HL.out]; omega
end Go.Proofs.Ytihbjkdgfflnfaa
namespace Go.Proofs.Ytihbjkdgfflnfaa
open Go.RowKit

theorem dmark_eq (l : List UInt8) : ((⟨(l.take 4).toArray⟩ : ByteArray).toList == [68, 73, 82, 49]) = (l.take 4 == [68, 73, 82, 49]) := by
  rw [Lib.toList_data]
theorem set_more (E : List (List Ent)) (k : Nat) (l : List Ent) : (E ++ List.replicate (k + 1) []).set E.length l = (E ++ [l]) ++ List.replicate k [] := by
  rw [List.set_append_right _ _ (Nat.le_refl _), Nat.sub_self, List.replicate_succ, List.set_cons_zero, List.append_assoc]
  rfl
def OpenPost (b : List UInt8) (w : World) (e : Ending) (w' : World) : Prop :=
  Spares nowhere w w' ∧ ((∃ n s E p F bk R, dirO b = some (n, s, E) ∧ e = .returned (.tuple #[.pointer (some ⟨p, 0, none⟩), .int .i64 0]) ∧ IsDir F p bk n s R E w' ∧ ∀ k, F k → w.heap.size ≤ k ∧ k < w'.heap.size) ∨
    (dirO b = none ∧ e = .returned (.tuple #[.pointer none, .int .i64 40])))
theorem openPost_no {b : List UInt8} {w w' : World} (h : dirO b = none) (hs : Spares nowhere w w') : OpenPost b w (.returned (.tuple #[.pointer none, .int .i64 40])) w' := ⟨hs, .inr ⟨h, rfl⟩⟩
theorem headO_no {b : List UInt8} (h : ¬ (12 ≤ b.length ∧ b.take 4 = [68, 73, 82, 49] ∧ 1 ≤ nO b ∧ nO b ≤ 4096 ∧ 1 ≤ sO b ∧ sO b ≤ 16)) : dirO b = none := by
  refine dirO_head ?_
  cases hh : headO b with
  | false => rfl
  | true => exact absurd (headO_all hh) h
theorem headO_yes {b : List UInt8} (h : 12 ≤ b.length ∧ b.take 4 = [68, 73, 82, 49] ∧ 1 ≤ nO b ∧ nO b ≤ 4096 ∧ 1 ≤ sO b ∧ sO b ≤ 16) : headO b = true := by
  obtain ⟨h1, h2, h3, h4, h5, h6⟩ := h
  unfold headO
  rw [h2]
  simp [h1, h3, h4, h5, h6]
/-- What holds when i buckets are read. -/
structure OD (F : Nat → Prop) (p bk n s : Nat) (R : Nat → Row) (b : List UInt8) (w : World) (i a1 q : Nat) (r : List UInt8) (wr : World) : Prop where
  dir : ∃ E, rowsO s (b.drop 12) i = some (E, r) ∧ IsDir F p bk n s R (E ++ List.replicate (n - i) []) wr
  at_ : BytesAt wr (some ⟨a1, q, none⟩) r
  sp : Spares nowhere w wr
  lt : ∀ k, F k → k < wr.heap.size
theorem OD.spares {F : Nat → Prop} {p bk n s : Nat} {R : Nat → Row} {b : List UInt8} {w : World} {i a1 q : Nat} {r : List UInt8} {wr W : World} (h : OD F p bk n s R b w i a1 q r wr) (hs : Spares nowhere wr W) : OD F p bk n s R b w i a1 q r W :=
  ⟨by obtain ⟨E, h1, h2⟩ := h.dir; exact ⟨E, h1, h2.spares hs (fun _ _ _ h => h)⟩, h.at_.spares hs (fun _ _ _ h => h), h.sp.trans' hs (fun _ h => h.elim), fun k hk => Nat.lt_of_lt_of_le (h.lt k hk) hs.size⟩
theorem OD.row {F : Nat → Prop} {p bk n s : Nat} {R : Nat → Row} {b : List UInt8} {w : World} {i a1 q : Nat} {r : List UInt8} {wr : World} (h : OD F p bk n s R b w i a1 q r wr) (hi : i < n) {g off : Nat} (hR : (R i).a = some (g, off)) :
    RowAt F wr (R i) [] ∧ F g ∧ wr.cell? ⟨p, 1, none⟩ = some (.slice (some ⟨bk, 0, none⟩) n n) ∧ wr.cell? ⟨bk, i, none⟩ = some (.slice (some ⟨g, off, none⟩) 0 s) ∧ wr.frozen? ⟨bk, i, none⟩ = false := by
  obtain ⟨E, h1, h2⟩ := h.dir
  obtain ⟨_, hl, _⟩ := rowsO_back h1
  have hlt : i < (E ++ List.replicate (n - i) []).length := by simp; omega
  have he : (E ++ List.replicate (n - i) ([] : List Ent))[i] = [] := by
    rw [List.getElem_append_right (by omega)]
    simp
  have hr := h2.rows.row i hlt
  rw [he] at hr
  have hc := h2.rows.cell i hlt
  rw [he, (h2.cap i hi).1] at hc
  have e2 : (R i).ad = some ⟨g, off, none⟩ := by unfold Row.ad; rw [hR]; rfl
  rw [e2] at hc
  exact ⟨hr, (hr.room g off hR).1, by rw [Lib.cell_of_heap h2.hd]; rfl, hc.1, hc.2⟩
theorem OD.next {F : Nat → Prop} {p bk n s : Nat} {R : Nat → Row} {b : List UInt8} {w : World} {i a1 q : Nat} {r : List UInt8} {wr w1 : World} (h : OD F p bk n s R b w i a1 q r wr) (hi : i < n) {g off : Nat} (hR : (R i).a = some (g, off)) (hF : ∀ k, F k → w.heap.size ≤ k)
    {l : List Ent} {rest : List UInt8} (hro : rowO s r = some (l, rest)) {q2 : Nat} (hsp : Spares (fun k => k = g) wr w1) (hrest : ∀ F2 r2 l2, RowAt F2 wr r2 l2 → r2.apart (R i) → RowAt F2 w1 r2 l2) (hr : RowAt F w1 (R i) l) (hat : BytesAt w1 (some ⟨a1, q2, none⟩) rest) (ha1 : a1 < w.heap.size) :
    w1.cell? ⟨p, 1, none⟩ = some (.slice (some ⟨bk, 0, none⟩) n n) ∧ w1.cell? ⟨bk, i, none⟩ = some (.slice (some ⟨g, off, none⟩) 0 s) ∧ w1.frozen? ⟨bk, i, none⟩ = false ∧
      OD F p bk n s R b w (i + 1) a1 q2 rest (w1.setCell ⟨bk, i, none⟩ (.slice (some ⟨g, off, none⟩) l.length s)) := by
  obtain ⟨h0, hgF, hc1, hc2, hc3⟩ := h.row hi hR
  obtain ⟨E, h1, h2⟩ := h.dir
  obtain ⟨_, hl, _⟩ := rowsO_back h1
  have hgbk := h2.rows.off i hi g off hR
  have hgp := h2.offp i hi g off hR
  have hok : ∀ e ∈ l, e.ok := fun e he => ((rowO_back hro).2.2 e he).ok
  have ht := turn_dir h2 hi hR hr hsp hrest hok
  have hset : (E ++ List.replicate (n - i) ([] : List Ent)).set i l = (E ++ [l]) ++ List.replicate (n - (i + 1)) [] := by
    obtain ⟨k, hk⟩ : ∃ k, n - i = k + 1 := ⟨n - i - 1, by omega⟩
    rw [hk, show n - (i + 1) = k by omega, ← set_more E k l, hl]
  rw [hset] at ht
  obtain ⟨cur, hg, _, _⟩ := h2.rows.blk
  have hh := hsp.block bk h2.rows.lt (fun e => hgbk e.symm)
  have hbk := hF bk h2.rows.inF
  have hs1 : Spares (fun k => k = g ∨ k = bk) wr w1 := hsp.mono fun _ h => .inl (.inl h)
  have hs2 : Spares (fun k => k = g ∨ k = bk) wr (w1.setCell ⟨bk, i, none⟩ (.slice (some ⟨g, off, none⟩) l.length s)) := hs1.setCell (p := ⟨bk, i, none⟩) (Or.inl (Or.inr rfl)) _
  refine ⟨(hsp.cell (p := ⟨p, 1, none⟩) (cellB_lt hc1) (fun e => hgp e.symm)).trans hc1, (hsp.cell (p := ⟨bk, i, none⟩) (cellB_lt hc2) (fun e => hgbk e.symm)).trans hc2, Lib.frozen_of_heap (hh.trans hg) i, ⟨⟨E ++ [l], rowsO_good h1 hro, ht⟩, ?_, ?_, ?_⟩⟩
  · exact hat.spares ((Spares.refl (fun k => k = bk) w1).setCell (p := ⟨bk, i, none⟩) (.inl rfl) _) (fun b o e => by cases e; omega)
  · refine h.sp.trans' hs2 fun k hk => .inr ?_
    rcases hk with rfl | rfl
    · exact hF _ hgF
    · exact hbk
  · exact fun k hk => Nat.lt_of_lt_of_le (h.lt k hk) hs2.size
set_option maxRecDepth 100000 in
set_option maxHeartbeats 8000000 in
theorem open_any (a0 : Option Addr) (b : List UInt8) (c : Nat) (w : World) (hat : BytesAt w a0 b) (hc : b.length ≤ c) (hbig : c ≤ 9223372036854775807) :
    Calls Try.prog 22 #[.slice a0 b.length c] w (OpenPost b w) := by
  obtain ⟨L, hL⟩ : ∃ L, b.length = L := ⟨_, rfl⟩
  rw [hL] at hc ⊢
  by_cases h12 : L < 12
  · have i0 : (L : Int) < 12 := by omega
    have HNO : Hid (dirO b = none) := Lib.hid (headO_no (fun h => by have := h.1; omega))
    go_enter Try.func22, Try.ntmps22
    go_wp2
    go_ret2
    exact openPost_no HNO.out (Spares.refl _ _)
  · have i0 : ¬ (L : Int) < 12 := by omega
    obtain ⟨a1, a2, rfl, hx0⟩ := hat 0 (by omega)
    have ha1 : a1 < w.heap.size := cellB_lt hx0
    obtain ⟨X, hX⟩ : ∃ X : ByteArray, (⟨(b.take 4).toArray⟩ : ByteArray) = X := ⟨_, rfl⟩
    have hcv := conv_bytes (bytesAt_takeF 4 hat) c
    rw [List.length_take, show min 4 b.length = 4 by omega, hX] at hcv
    obtain ⟨m, hm⟩ : ∃ m : Bool, (X.toList == [68, 73, 82, 49]) = m := ⟨_, rfl⟩
    have hm2 : (b.take 4 == [68, 73, 82, 49]) = m := by rw [← hm, ← hX]; exact (dmark_eq b).symm
    have HM2 := Lib.hid hm2
    have HL := Lib.hid hL
    cases m with
    | false =>
      have HNO : Hid (dirO b = none) := Lib.hid (headO_no (fun h => by rw [h.2.1] at hm2; simp at hm2))
      clear hX hm2 hat hx0 hL
      go_enter Try.func22, Try.ntmps22
      go_wp2
      go_ret2
      exact openPost_no HNO.out (Spares.refl _ _)
    | true =>
      have h4 : b.take 4 = [68, 73, 82, 49] := by simpa using hm2
      have hb1 := bytesAt_cut hat 4 4
      have hb2 := bytesAt_cut hat 8 4
      obtain ⟨q0, hA0, hB0⟩ := bytes_from hat 12 c (by omega) (by omega)
      have C1 : Hid (Calls Try.prog 40 #[.slice (some ⟨a1, a2 + 4, none⟩) 4 (c - 4)] w.drew fun e w' => e = .returned (.int .u64 (nO b : Nat)) ∧ w' = w.drew) := Lib.hid ((bigOf_any _ 4 (c - 4) ((b.drop 4).take 4) w.drew (hb1.spares (Spares.refl nowhere w).drew (fun _ _ _ h => h)) (by rw [List.length_take, List.length_drop]; omega) (by rw [List.length_take]; omega)).mono (by rintro e w' ⟨rfl, rfl⟩; exact ⟨rfl, rfl⟩))
      have C2 : Hid (Calls Try.prog 40 #[.slice (some ⟨a1, a2 + 8, none⟩) 4 (c - 8)] w.drew fun e w' => e = .returned (.int .u64 (sO b : Nat)) ∧ w' = w.drew) := Lib.hid ((bigOf_any _ 4 (c - 8) ((b.drop 8).take 4) w.drew (hb2.spares (Spares.refl nowhere w).drew (fun _ _ _ h => h)) (by rw [List.length_take, List.length_drop]; omega) (by rw [List.length_take]; omega)).mono (by rintro e w' ⟨rfl, rfl⟩; exact ⟨rfl, rfl⟩))
      have HB0 := Lib.hid hB0
      have H4 := Lib.hid h4
      obtain ⟨n, hn⟩ : ∃ n, nO b = n := ⟨_, rfl⟩
      obtain ⟨s, hs⟩ : ∃ s, sO b = s := ⟨_, rfl⟩
      rw [hn] at C1
      rw [hs] at C2
      have HN := Lib.hid hn
      have HSS := Lib.hid hs
      have hc4 : ¬ c = 4 := by omega
      have hc8 : ¬ c = 8 := by omega
      have g4 : (4 : Int) ≤ (c : Int) := by omega
      have g8 : (8 : Int) ≤ (c : Int) := by omega
      have g12 : (12 : Int) ≤ (c : Int) := by omega
      have g12' : (12 : Int) ≤ (L : Int) := by omega
      have hL12 : b.length = L := hL
      have HL12 := Lib.hid hL12
      clear hX hx0 hm2 hat hb1 hb2 hB0 h4 hn hs hL hL12
      go_enter Try.func22, Try.ntmps22
      go_upto_region 3 with (fail)
      -- GEN
      refine wp_region_held_drew (S := fun _ => True) (by kernel_rfl) (trivial) (fun hS0 => ?_)
      refine wpAnyH_take (i := 0) (v := ?_) rfl (by kernel_rfl) (by kernel_rfl) (by kernel_rfl) (fun _ _ _ h => h) (Or.inl ⟨by rfl, ?_⟩) (by assumption) ?_
      rotate_left
      · intro w9 hS9
        skip
        go_simp
        try with_reducible rfl
      simp only [List.getElem_toArray, List.getElem_cons_zero, Act.put, List.setIfInBounds_toArray, List.set_cons_succ, List.set_cons_zero]
      refine wpAnyH_take (i := 1) (v := ?_) rfl (by kernel_rfl) (by kernel_rfl) (by kernel_rfl) (fun _ _ _ h => h) (Or.inl ⟨by rfl, ?_⟩) (by assumption) ?_
      rotate_left
      · intro w9 hS9
        skip
        go_simp
        try with_reducible rfl
      simp only [List.getElem_toArray, List.getElem_cons_succ, List.getElem_cons_zero, Act.put, List.setIfInBounds_toArray, List.set_cons_succ, List.set_cons_zero]
      refine wpAnyH_take (i := 3) (v := ?_) rfl (by kernel_rfl) (by kernel_rfl) (by kernel_rfl) (fun _ _ _ h => h) (Or.inl ⟨by rfl, ?_⟩) (by assumption) ?_
      rotate_left
      · intro w9 hS9
        skip
        go_simp
        try with_reducible rfl
      simp only [List.getElem_toArray, List.getElem_cons_succ, List.getElem_cons_zero, Act.put, List.setIfInBounds_toArray, List.set_cons_succ, List.set_cons_zero]
      refine wpAnyH_take (i := 4) (v := ?_) rfl (by kernel_rfl) (by kernel_rfl) (by kernel_rfl) (fun _ _ _ h => h) (Or.inl ⟨by rfl, ?_⟩) (by assumption) ?_
      rotate_left
      · intro w9 hS9
        skip
        go_simp
        try with_reducible rfl
      simp only [List.getElem_toArray, List.getElem_cons_succ, List.getElem_cons_zero, Act.put, List.setIfInBounds_toArray, List.set_cons_succ, List.set_cons_zero]
      refine wpAnyH_ready (rs := [2]) (by kernel_rfl) (by simp) ?_
      refine AllReadyH.cons rfl (fun K9 hK9 => ?_) ?_
      · go_simp
        go_at_call 40
        with_reducible refine Calls.mono C1.out ?_
        rintro e v1 ⟨rfl, rfl⟩
        try go_simp
        refine hK9.out _ _ ?_ (fun hS9 => ?_)
        · exact trivial
        clear hK9 K9
        refine wpAnyH_ready (rs := [5]) (by kernel_rfl) (by simp) ?_
        refine AllReadyH.cons rfl (fun K9 hK9 => ?_) ?_
        · go_simp
          go_at_call 40
          with_reducible refine Calls.mono C2.out ?_
          rintro e v1 ⟨rfl, rfl⟩
          try go_simp
          refine hK9.out _ _ ?_ (fun hS9 => ?_)
          · exact trivial
          clear hK9 K9
          refine wpAnyH_take (i := 6) (v := ?_) rfl (by kernel_rfl) (by kernel_rfl) (by kernel_rfl) (fun _ _ _ h => h) (Or.inl ⟨by rfl, ?_⟩) (by assumption) ?_
          rotate_left
          · intro w9 hS9
            skip
            go_simp
            try with_reducible rfl
          simp only [List.getElem_toArray, List.getElem_cons_succ, List.getElem_cons_zero, Act.put, List.setIfInBounds_toArray, List.set_cons_succ, List.set_cons_zero]
          refine wpAnyH_take (i := 7) (v := ?_) rfl (by kernel_rfl) (by kernel_rfl) (by kernel_rfl) (fun _ _ _ h => h) (Or.inl ⟨by rfl, ?_⟩) (by assumption) ?_
          rotate_left
          · intro w9 hS9
            skip
            go_simp
            try with_reducible rfl
          simp only [List.getElem_toArray, List.getElem_cons_succ, List.getElem_cons_zero, Act.put, List.setIfInBounds_toArray, List.set_cons_succ, List.set_cons_zero]
          refine wpAnyH_done (by kernel_rfl) ?_ _
          by_cases m1 : n < 1
          · have j1 : (n : Int) < 1 := by omega
            have HNO : dirO b = none := headO_no (fun h => by have := h.2.2.1; rw [HN.out] at this; omega)
            go_wp2
            go_ret2
            exact openPost_no HNO (Spares.refl _ _).drew
          have j1 : ¬ (n : Int) < 1 := by omega
          by_cases m2 : 4096 < n
          · have j2 : (4096 : Int) < (n : Int) := by omega
            have HNO : dirO b = none := headO_no (fun h => by have := h.2.2.2.1; rw [HN.out] at this; omega)
            go_wp2
            go_ret2
            exact openPost_no HNO (Spares.refl _ _).drew
          have j2 : ¬ (4096 : Int) < (n : Int) := by omega
          by_cases m3 : s < 1
          · have j3 : (s : Int) < 1 := by omega
            have HNO : dirO b = none := headO_no (fun h => by have := h.2.2.2.2.1; rw [HSS.out] at this; omega)
            go_wp2
            go_ret2
            exact openPost_no HNO (Spares.refl _ _).drew
          have j3 : ¬ (s : Int) < 1 := by omega
          by_cases m4 : 16 < s
          · have j4 : (16 : Int) < (s : Int) := by omega
            have HNO : dirO b = none := headO_no (fun h => by have := h.2.2.2.2.2; rw [HSS.out] at this; omega)
            go_wp2
            go_ret2
            exact openPost_no HNO (Spares.refl _ _).drew
          have j4 : ¬ (16 : Int) < (s : Int) := by omega
          have HYES : Hid (headO b = true) := Lib.hid (headO_yes ⟨by rw [HL.out]; omega, H4.out, by rw [HN.out]; omega, by rw [HN.out]; omega, by rw [HSS.out]; omega, by rw [HSS.out]; omega⟩)
          have wn : IntKind.i64.wrap (n : Int) = (n : Int) := by rw [IntKind.wrap_i64]; omega
          have ws : IntKind.i64.wrap (s : Int) = (s : Int) := by rw [IntKind.wrap_i64]; omega
          have NEW : Hid (∀ W, Spares nowhere w W → Calls Try.prog 12 #[.int .i64 (n : Int), .int .i64 (s : Int)] W fun e v => ∃ F p bk R, e = .returned (.pointer (some ⟨p, 0, none⟩)) ∧ v.cell? ⟨p, 1, none⟩ = some (.slice (some ⟨bk, 0, none⟩) n n) ∧ Hid (∀ k, F k → w.heap.size ≤ k) ∧ Hid (∀ i, i < n → (R i).cap = s ∧ ∃ x, (R i).a = some x) ∧ Hid (OD F p bk n s R b w 0 a1 q0 (b.drop 12) v)) := Lib.hid (fun W hW => (new_any (n : Int) (s : Int) n s W (by omega) (by omega)).mono (by
            rintro e v ⟨F, p, bk, R, rfl, hd, hsp, hlo, hhi⟩
            exact ⟨F, p, bk, R, rfl, by rw [Lib.cell_of_heap hd.hd]; rfl, Lib.hid (fun k hk => Nat.le_trans hW.size (hlo k hk)), Lib.hid hd.cap, Lib.hid ⟨⟨[], rfl, by simpa using hd⟩, (HB0.out.spares hW (fun _ _ _ h => h)).spares hsp (fun _ _ _ h => h), hW.trans' hsp (fun _ h => h.elim), hhi⟩⟩))
          have hL0 : (b.drop 12).length = L - 12 := by rw [List.length_drop, HL12.out]
          go_wp2_with fail
          refine (NEW.out _ (Spares.refl _ _).drew).mono ?_
          rintro e v ⟨F, p, bk, R, rfl, cp, HF, HSH, HI0⟩
          go_wp2
          obtain ⟨r0, hr0⟩ : ∃ r0, b.drop 12 = r0 := ⟨_, rfl⟩
          rw [hr0] at HI0 hL0
          go_loopw [7, 53] (fun r7 i wr => ∃ k q cc : Nat, ∃ r : List UInt8, k ≤ n ∧ i = .int .i64 k ∧ r7 = .slice (some ⟨a1, q, none⟩) r.length cc ∧ r.length ≤ cc ∧ cc ≤ 9223372036854775807 ∧ Hid (OD F p bk n s R b w k a1 q r wr)) (fun _ i _ => n - (intOf i).toNat)
          case atStart => exact ⟨0, q0, c - 12, r0, by omega, rfl, by simp; omega, by omega, by omega, HI0⟩
          case round =>
            obtain ⟨k, q, cc, r, hk, rfl, rfl, hrc, hcc, HI⟩ := hrel
            by_cases hlt : k < n
            · obtain ⟨hcp, ⟨g, off⟩, hRa⟩ := HSH.out k hlt
              obtain ⟨_, hgF, c1, c2, c3⟩ := HI.out.row hlt hRa
              have hag : a1 ≠ g := by have := HF.out g hgF; omega
              have OB := fun W (hW : Spares nowhere wr W) => openB_any F g off a1 q (R k) r cc W (((HI.out.spares hW).row hlt hRa).1) hRa (by omega) (HI.out.spares hW).at_ hag hrc hcc
              cases ho : rowO s r with
              | none =>
                have C : Hid (∀ W, Spares nowhere wr W → Calls Try.prog 41 #[.slice (some ⟨g, off, none⟩) 0 s, .slice (some ⟨a1, q, none⟩) r.length cc] W fun e w1 => ∃ v1 v2, e = .returned (.tuple #[v1, v2, .int .i64 40]) ∧ Hid (Spares nowhere w w1)) := Lib.hid (fun W hW => by
                  have hC := OB W hW
                  rw [hcp] at hC
                  refine hC.mono ?_
                  rintro e w1 ⟨hs1, _, ⟨l, rest, q2, c2, e1, _⟩ | ⟨_, v1, v2, rfl⟩⟩
                  · rw [ho] at e1; cases e1
                  · exact ⟨v1, v2, rfl, Lib.hid ((HI.out.spares hW).sp.trans' hs1 (fun k hk => .inr (by rw [hk]; exact HF.out g hgF)))⟩)
                have HNO : Hid (dirO b = none) := Lib.hid (dirO_rows HYES.out (by
                  obtain ⟨E, h1, _⟩ := HI.out.dir
                  rw [HN.out, HSS.out]
                  exact rowsO_none (rowsO_bad h1 ho) n (by omega)))
                clear OB ho
                obtain ⟨rl, hrl⟩ : ∃ rl, r.length = rl := ⟨_, rfl⟩
                rw [hrl] at C hrc ⊢
                go_wp2_with fail
                refine (C.out _ (Spares.refl _ _)).mono ?_
                rintro e w1 ⟨v1, v2, rfl, HSP⟩
                go_wp2
                go_ret2
                exact openPost_no HNO.out HSP.out
              | some lr =>
                obtain ⟨l, rest⟩ := lr
                have C : Hid (∀ W, Spares nowhere wr W → Calls Try.prog 41 #[.slice (some ⟨g, off, none⟩) 0 s, .slice (some ⟨a1, q, none⟩) r.length cc] W fun e w1 => ∃ q2 c9 : Nat, e = .returned (.tuple #[.slice (some ⟨g, off, none⟩) l.length s, .slice (some ⟨a1, q2, none⟩) rest.length c9, .int .i64 0]) ∧ rest.length ≤ c9 ∧ c9 ≤ 9223372036854775807 ∧
                    w1.cell? ⟨p, 1, none⟩ = some (.slice (some ⟨bk, 0, none⟩) n n) ∧ w1.cell? ⟨bk, k, none⟩ = some (.slice (some ⟨g, off, none⟩) 0 s) ∧ w1.frozen? ⟨bk, k, none⟩ = false ∧ Hid (OD F p bk n s R b w (k + 1) a1 q2 rest (w1.setCell ⟨bk, k, none⟩ (.slice (some ⟨g, off, none⟩) l.length s)))) := Lib.hid (fun W hW => by
                  have hC := OB W hW
                  rw [hcp] at hC
                  refine hC.mono ?_
                  rintro e w1 ⟨hs1, hr1, ⟨l', rest', q2, c9, e1, rfl, h1, h2, h3, h4⟩ | ⟨e1, _⟩⟩
                  · rw [ho] at e1
                    simp only [Option.some.injEq, Prod.mk.injEq] at e1
                    obtain ⟨rfl, rfl⟩ := e1
                    rw [hcp]
                    obtain ⟨d1, d2, d3, d4⟩ := (HI.out.spares hW).next hlt hRa HF.out ho hs1 hr1 h1 h2 ha1
                    exact ⟨q2, c9, rfl, h3, h4, d1, d2, d3, Lib.hid d4⟩
                  · rw [ho] at e1; cases e1)
                clear OB ho
                obtain ⟨rl, hrl⟩ : ∃ rl, r.length = rl := ⟨_, rfl⟩
                obtain ⟨ll, hll⟩ : ∃ ll, l.length = ll := ⟨_, rfl⟩
                rw [hrl] at C hrc ⊢
                rw [hll] at C
                have wk : IntKind.i64.wrap ((k : Int) + 1) = (k : Int) + 1 := by rw [IntKind.wrap_i64]; omega
                go_wp2_with fail
                refine (C.out _ (Spares.refl _ _)).mono ?_
                rintro e w1 ⟨q2, c9, rfl, z1, z2, d1, d2, d3, HN9⟩
                go_wp2
                go_roundw
                case rel => exact ⟨k + 1, q2, c9, rest, by omega, by simp, rfl, z1, z2, HN9⟩
                case measure => simp [intOf]; omega
            · obtain rfl : k = n := by omega
              obtain ⟨E, h1, h2⟩ := HI.out.dir
              have HSP := HI.out.sp
              have hlt9 := HI.out.lt
              cases r with
              | cons x y =>
                have HNO : dirO b = none := dirO_more HYES.out (by rw [HN.out, HSS.out]; exact h1) (List.cons_ne_nil _ _)
                have i9 : (0 : Int) < (y.length : Int) + 1 := by omega
                simp only [List.length_cons] at hrc ⊢
                go_wp2
                go_ret2
                exact openPost_no HNO HSP
              | nil =>
                have HYS : dirO b = some (k, s, E) := by
                  have := dirO_good HYES.out (E := E) (by rw [HN.out, HSS.out]; exact h1)
                  rw [HN.out, HSS.out] at this
                  exact this
                rw [Nat.sub_self, List.replicate_zero, List.append_nil] at h2
                have HF' := HF.out
                simp only [List.length_nil] at hrc ⊢
                go_wp2
                go_ret2
                exact ⟨HSP, .inl ⟨k, s, E, p, F, bk, R, HYS, rfl, h2, fun j hj => ⟨HF' j hj, hlt9 j hj⟩⟩⟩
        exact AllReadyH.nil
      exact AllReadyH.nil
      -- GEN END
end Go.Proofs.Ytihbjkdgfflnfaa
namespace Go.Proofs.Ytihbjkdgfflnfaa
open Go.RowKit

theorem append_ents {F : Nat → Prop} {w : World} {r : Row} {l : List Ent} (h : RowAt F w r l) (xs : List Ent) (ad : Option Addr) (c : Nat) (ty : TypeId) (hA : EntsV w ad xs) (hl : l.length + xs.length ≤ 100000) :
    ∃ r' w', (Builtin.append_ #[38, 38] ty #[.slice r.ad l.length r.cap, .slice ad xs.length c]).run Try.prog w = .ok (.slice r'.ad (l.length + xs.length) r'.cap) w' ∧ RowAt (NewF F w w') w' r' (l ++ xs) ∧ Spares (fun k => ∃ o, r.a = some (k, o)) w w' := by
  obtain ⟨i0, hi, hz0, hz1, hz2⟩ := info_parts entInfo
  have hzs : (entV Ent.zero).cells.size = 4 := rfl
  by_cases he : xs = []
  · subst he
    have hsrc : Src Try.prog i0.size 38 (.slice ad 0 c) 0 [] w := by
      cases ad with
      | none => exact Src.ofNil w Try.underlying38 c
      | some A => exact Src.ofSlice w Try.underlying38 A 0 c [] (by simp) (fun j u hj => by simp at hj) (fun u hu => by cases hu)
    have hrun := run_append_nothing (P := Try.prog) w 38 38 ty 41 i0 Try.underlying38 hi r.ad l.length r.cap h.le (.slice ad 0 c) hsrc
    exact ⟨r, w, hrun, by rw [List.append_nil]; exact h.mono (fun _ h => .inl h), Spares.refl _ _⟩
  · obtain ⟨ab, ao, rfl, _⟩ := hA 0 (List.length_pos_iff.2 he)
    have hpos := List.length_pos_iff.2 he
    have hnews : ∀ j u, (rowCells xs)[j]? = some u → w.cell? ((⟨ab, ao, none⟩ : Addr).add j) = some u := fun j u hj => by
      have hlen := rowCells_len xs
      have hj' := (List.getElem?_eq_some_iff.1 hj).1
      have hk : j / 4 < xs.length := by omega
      obtain ⟨b2, o2, e2, he2⟩ := hA (j / 4) hk
      simp only [Option.some.injEq, Addr.mk.injEq] at e2
      obtain ⟨rfl, rfl, _⟩ := e2
      have h1 := he2 (j % 4) (Nat.mod_lt _ (by omega))
      have hr := rowCells_at xs (j / 4) hk (j % 4) (Nat.mod_lt _ (by omega))
      have e4 : j / 4 * 4 + j % 4 = j := by omega
      rw [e4] at hr
      rw [Addr.add_lit, show ao + j = ao + j / 4 * 4 + j % 4 by omega, h1, ← hr]
      exact hj
    have ones : ∀ u ∈ rowCells xs, u.oneCell' = true := rowCells_one xs
    have hnl : (rowCells xs).length = xs.length * i0.size := by rw [rowCells_len, hz1]
    by_cases hroom : l.length + xs.length ≤ r.cap
    · cases ha : r.a with
      | none => have := h.nil ha; omega
      | some q =>
        obtain ⟨b, off⟩ := q
        have had : r.ad = some ⟨b, off, none⟩ := by unfold Row.ad; rw [ha]; rfl
        have hrm := (h.room b off ha).2
        have hrun := run_append_room_cells (P := Try.prog) w 38 ty 41 i0 Try.underlying38 hi b off l.length r.cap ⟨ab, ao, none⟩ xs.length c (rowCells xs) hnl hnews ones hroom
          (fun j hj => (hrm.cell _ (by rw [hz1]; rw [rowCells_len] at hj; omega)).1) (fun j hj => (hrm.cell _ (by rw [hz1]; rw [rowCells_len] at hj; omega)).2)
        rw [hz1] at hrun
        refine ⟨r, _, by rw [had]; exact hrun, ?_, ?_⟩
        · have := h.store ha (k0 := l.length) xs (Nat.le_refl _) hroom
          rw [List.take_length] at this
          exact this.mono fun _ h => .inl h
        · exact (spares_cells (g := b) _ _ (Spares.refl _ _)).mono fun k hk => .inl ⟨off, by rw [hk]⟩
    · have grown : ∀ gc, l.length + xs.length ≤ gc → ∀ cs, cs = (rowCells (l ++ xs)).toArray ++ Builtin.zeroCells (entV Ent.zero).cells (gc - (l.length + xs.length)) →
          RowAt (NewF F w (w.drew.alloc (.cells cs 41))) (w.drew.alloc (.cells cs 41)) ⟨some (w.heap.size, 0), gc⟩ (l ++ xs) ∧ Spares (fun k => ∃ o, r.a = some (k, o)) w (w.drew.alloc (.cells cs 41)) := fun gc hgc cs hcs => by
        have hsp : Spares nowhere w (w.drew.alloc (.cells cs 41)) := ((Spares.refl _ w).drew).alloc _
        exact ⟨new_row (l ++ xs) gc (by simpa using hgc) _ hzs _ cs (by rw [hcs]; simp), hsp.mono (fun _ h => h.elim)⟩
      cases ha : r.a with
      | none =>
        have hc0 := h.nil ha
        have hl0 : l.length = 0 := by have := h.le; omega
        obtain rfl : l = [] := List.eq_nil_of_length_eq_zero hl0
        have had : r.ad = none := by unfold Row.ad; rw [ha]; rfl
        have hrun := run_append_nil (P := Try.prog) (w := w) 38 ty 41 i0 (entV Ent.zero) Try.underlying38 hi hz0 ⟨ab, ao, none⟩ xs.length c (rowCells xs) hnl hnews hpos (by simp only [List.length_nil] at hl; omega) (by rw [hz2]; simp only [List.length_nil] at hl; omega)
        obtain ⟨g1, g2⟩ := grown (grownCap w xs.length 0 41) (by simpa using grownCap_ge w xs.length 0 _) _ rfl
        simp only [List.nil_append, List.length_nil, Nat.zero_add] at g1 g2 ⊢
        rw [ha] at g2
        exact ⟨_, _, by rw [had, hc0]; exact hrun, g1, g2⟩
      | some q =>
        obtain ⟨b, off⟩ := q
        have had : r.ad = some ⟨b, off, none⟩ := by unfold Row.ad; rw [ha]; rfl
        have holds : ∀ j v, (rowCells l)[j]? = some v → w.cell? ((⟨b, off, none⟩ : Addr).add j) = some v := fun j v hj => by
          have hlen := rowCells_len l
          have hj' := (List.getElem?_eq_some_iff.1 hj).1
          have hk : j / 4 < l.length := by omega
          have he := h.ents b off ha (j / 4) hk (j % 4) (Nat.mod_lt _ (by omega))
          have hr := rowCells_at l (j / 4) hk (j % 4) (Nat.mod_lt _ (by omega))
          have e4 : j / 4 * 4 + j % 4 = j := by omega
          rw [e4] at hr
          rw [Addr.add_lit, show off + j = off + j / 4 * 4 + j % 4 by omega, he, ← hr]
          exact hj
        have hle := h.le
        have hrun := run_append_grow (P := Try.prog) (w := w) 38 ty 41 i0 (entV Ent.zero) Try.underlying38 hi hz0 ⟨b, off, none⟩ l.length r.cap (rowCells l) (by rw [rowCells_len, hz1]) holds ⟨ab, ao, none⟩ xs.length c (rowCells xs) hnl hnews (by omega) (by omega) (by rw [hz2]; exact growslice_fits (by omega) (by omega))
        obtain ⟨g1, g2⟩ := grown (grownCap w (l.length + xs.length) r.cap 41) (grownCap_ge w (l.length + xs.length) r.cap _) ((rowCells l).toArray ++ (rowCells xs).toArray ++ Builtin.zeroCells (entV Ent.zero).cells (grownCap w (l.length + xs.length) r.cap 41 - (l.length + xs.length))) (by rw [rowCells_app]; simp)
        rw [ha] at g2
        exact ⟨_, _, by rw [had]; exact hrun, g1, g2⟩
def AllPost (E : List (List Ent)) (w : World) (e : Ending) (w' : World) : Prop := ∃ a c, e = .returned (.slice a E.flatten.length c) ∧ Told w' a E.flatten ∧ Spares nowhere w w'
theorem flat_next (E : List (List Ent)) (k : Nat) (h : k < E.length) : (E.take (k + 1)).flatten = (E.take k).flatten ++ E[k] := by
  rw [List.take_succ_eq_append_getElem h, List.flatten_append]; simp
theorem flat_len (E : List (List Ent)) (s : Nat) (h : ∀ r ∈ E, r.length ≤ s) : E.flatten.length ≤ E.length * s := by
  have := lenF_le E s h
  have e : E.flatten.length = lenF E := by unfold lenF; rw [List.length_flatten]
  omega
theorem flat_take (E : List (List Ent)) (k : Nat) : (E.take k).flatten.length ≤ E.flatten.length := by
  have e : E.flatten = (E.take k).flatten ++ (E.drop k).flatten := by rw [← List.flatten_append, List.take_append_drop]
  rw [e, List.length_append]; omega
set_option maxRecDepth 100000 in
set_option maxHeartbeats 4000000 in
theorem all_any (F : Nat → Prop) (p bk n s : Nat) (R : Nat → Row) (E : List (List Ent)) (w : World) (h : IsDir F p bk n s R E w) :
    Calls Try.prog 32 #[.pointer (some ⟨p, 0, none⟩)] w (AllPost E w) := by
  have hEn := h.rows.len
  have hmax : E.flatten.length ≤ 65536 := Nat.le_trans (flat_len E s h.lens) (by rw [hEn]; exact Nat.le_trans (Nat.mul_le_mul h.n1 h.s1) (by omega))
  obtain ⟨B, hB⟩ : ∃ B, w.heap.size = B := ⟨_, rfl⟩
  have hcell : ∀ V, Spares (fun b => B ≤ b) w V → V.cell? ⟨p, 1, none⟩ = some (.slice (some ⟨bk, 0, none⟩) n n) ∧ ∀ k (hk : k < E.length), V.cell? ⟨bk, k, none⟩ = some (.slice (R k).ad E[k].length (R k).cap) ∧ EntsV V (R k).ad E[k] := fun V hV => by
    have h' := h.spares hV (fun b _ hlt hB' => by omega)
    exact ⟨by rw [Lib.cell_of_heap h'.hd]; rfl, fun k hk => ⟨(h'.rows.cell k hk).1, (h'.rows.row k hk).ents_v⟩⟩
  have HC := Lib.hid hcell
  have HB := Lib.hid hB
  have hn1 := h.n1
  clear h hcell hB
  go_enter Try.func32, Try.ntmps32
  have c1 := (HC.out w (Spares.refl _ _)).1
  go_wp2
  go_loopw [3, 11] (fun v i wr => ∃ (k : Nat) (r : Row), k ≤ n ∧ i = .int .i64 k ∧ v = .slice r.ad (E.take k).flatten.length r.cap ∧ Hid (RowAt (fun b => B ≤ b) wr r (E.take k).flatten) ∧ Hid (Spares (fun b => B ≤ b) w wr)) (fun _ i _ => n - (intOf i).toNat)
  case atStart =>
    exact ⟨0, ⟨none, 0⟩, by omega, rfl, rfl, Lib.hid ⟨by simp, fun _ => rfl, fun b o e => by simp at e, fun b o e => by simp at e⟩, Lib.hid (Spares.refl _ _)⟩
  case round =>
    obtain ⟨k, r, hk, rfl, rfl, HR, HS⟩ := hrel
    have c1 := (HC.out wr HS.out).1
    by_cases hlt : k < n
    · have hkE : k < E.length := by omega
      obtain ⟨c2, hents⟩ := (HC.out wr HS.out).2 k hkE
      have hfn := flat_next E k hkE
      have hfl := flat_take E (k + 1)
      rw [hfn, List.length_append] at hfl
      obtain ⟨r9, w9, hrun, hr9, hs9⟩ := append_ents HR.out E[k] (R k).ad (R k).cap 38 hents (by omega)
      have HR9 : Hid (RowAt (fun b => B ≤ b) w9 r9 (E.take (k + 1)).flatten) := Lib.hid (by
        rw [hfn]
        refine hr9.mono fun b hb => ?_
        rcases hb with hb | ⟨rfl, _⟩
        · exact hb
        · rw [← HB.out]; exact HS.out.size)
      have HS9 : Hid (Spares (fun b => B ≤ b) w w9) := Lib.hid (HS.out.trans' hs9 (fun b ⟨o, e⟩ => .inl (HR.out.room b o e).1))
      have hl1 : (E.take (k + 1)).flatten.length = (E.take k).flatten.length + E[k].length := by rw [hfn, List.length_append]
      have HL1 := Lib.hid hl1
      obtain ⟨ad, had⟩ : ∃ ad, (R k).ad = ad := ⟨_, rfl⟩
      obtain ⟨cp, hcp⟩ : ∃ cp, (R k).cap = cp := ⟨_, rfl⟩
      obtain ⟨m, hm⟩ : ∃ m, E[k].length = m := ⟨_, rfl⟩
      obtain ⟨d, hd⟩ : ∃ d, (E.take k).flatten.length = d := ⟨_, rfl⟩
      rw [had, hcp, hm] at c2
      rw [had, hcp, hm, hd] at hrun
      rw [hm, hd] at HL1
      rw [hd]
      clear hents hr9 hs9 hfn hfl hl1 had hcp hm hd
      go_wp2_with ((with_reducible show wpList _ _ _ (⟨some 17, _, _, _, _, _⟩ :: _) _ _); refine wpList_append_fact rfl _ _ 38 rfl (.slice r.ad d r.cap) (.slice ad m cp) rfl rfl hrun ?_)
      go_roundw
      case rel => exact ⟨k + 1, r9, by omega, rfl, by rw [HL1.out], HR9, HS9⟩
      case measure => simp [intOf]; omega
    · obtain rfl : k = n := by omega
      have HF : Hid (Told wr r.ad E.flatten) := Lib.hid (by
        have := HR.out.told
        rwa [List.take_of_length_le (by omega)] at this)
      rw [List.take_of_length_le (by omega)]
      go_wp2
      go_ret
      exact ⟨_, _, rfl, HF.out, HS.out.mono (fun b hb => .inr (by rw [HB.out]; exact hb))⟩
set_option maxRecDepth 100000 in
set_option maxHeartbeats 4000000 in
theorem refAll_any (F : Nat → Prop) (p bk n s : Nat) (R : Nat → Row) (E : List (List Ent)) (w : World) (h : IsRef F p bk n s R E w) :
    Calls Try.prog 29 #[.pointer (some ⟨p, 0, none⟩)] w (AllPost E w) := by
  have hEn := h.rows.len
  have hmax : E.flatten.length ≤ 65536 := Nat.le_trans (flat_len E s h.lens) (by rw [hEn]; exact Nat.le_trans (Nat.mul_le_mul h.n1 h.s1) (by omega))
  obtain ⟨B, hB⟩ : ∃ B, w.heap.size = B := ⟨_, rfl⟩
  have hcell : ∀ V, Spares (fun b => B ≤ b) w V → V.cell? ⟨p, 0, none⟩ = some (.slice (some ⟨bk, 0, none⟩) n n) ∧ ∀ k (hk : k < E.length), V.cell? ⟨bk, k, none⟩ = some (.slice (R k).ad E[k].length (R k).cap) ∧ EntsV V (R k).ad E[k] := fun V hV => by
    have h' := h.spares hV (fun b _ hlt hB' => by omega)
    exact ⟨by rw [Lib.cell_of_heap h'.hd]; rfl, fun k hk => ⟨(h'.rows.cell k hk).1, (h'.rows.row k hk).ents_v⟩⟩
  have HC := Lib.hid hcell
  have HB := Lib.hid hB
  have hn1 := h.n1
  clear h hcell hB
  go_enter Try.func29, Try.ntmps29
  have c1 := (HC.out w (Spares.refl _ _)).1
  go_wp2
  go_loopw [3, 4] (fun v i wr => ∃ (k : Nat) (r : Row), k ≤ n ∧ i = .int .i64 k ∧ v = .slice r.ad (E.take k).flatten.length r.cap ∧ Hid (RowAt (fun b => B ≤ b) wr r (E.take k).flatten) ∧ Hid (Spares (fun b => B ≤ b) w wr)) (fun _ i _ => n - (intOf i).toNat)
  case atStart =>
    exact ⟨0, ⟨none, 0⟩, by omega, rfl, rfl, Lib.hid ⟨by simp, fun _ => rfl, fun b o e => by simp at e, fun b o e => by simp at e⟩, Lib.hid (Spares.refl _ _)⟩
  case round =>
    obtain ⟨k, r, hk, rfl, rfl, HR, HS⟩ := hrel
    have c1 := (HC.out wr HS.out).1
    by_cases hlt : k < n
    · have hkE : k < E.length := by omega
      obtain ⟨c2, hents⟩ := (HC.out wr HS.out).2 k hkE
      have hfn := flat_next E k hkE
      have hfl := flat_take E (k + 1)
      rw [hfn, List.length_append] at hfl
      obtain ⟨r9, w9, hrun, hr9, hs9⟩ := append_ents HR.out E[k] (R k).ad (R k).cap 38 hents (by omega)
      have HR9 : Hid (RowAt (fun b => B ≤ b) w9 r9 (E.take (k + 1)).flatten) := Lib.hid (by
        rw [hfn]
        refine hr9.mono fun b hb => ?_
        rcases hb with hb | ⟨rfl, _⟩
        · exact hb
        · rw [← HB.out]; exact HS.out.size)
      have HS9 : Hid (Spares (fun b => B ≤ b) w w9) := Lib.hid (HS.out.trans' hs9 (fun b ⟨o, e⟩ => .inl (HR.out.room b o e).1))
      have hl1 : (E.take (k + 1)).flatten.length = (E.take k).flatten.length + E[k].length := by rw [hfn, List.length_append]
      have HL1 := Lib.hid hl1
      obtain ⟨ad, had⟩ : ∃ ad, (R k).ad = ad := ⟨_, rfl⟩
      obtain ⟨cp, hcp⟩ : ∃ cp, (R k).cap = cp := ⟨_, rfl⟩
      obtain ⟨m, hm⟩ : ∃ m, E[k].length = m := ⟨_, rfl⟩
      obtain ⟨d, hd⟩ : ∃ d, (E.take k).flatten.length = d := ⟨_, rfl⟩
      rw [had, hcp, hm] at c2
      rw [had, hcp, hm, hd] at hrun
      rw [hm, hd] at HL1
      rw [hd]
      clear hents hr9 hs9 hfn hfl hl1 had hcp hm hd
      go_wp2_with ((with_reducible show wpList _ _ _ (⟨some 22, _, _, _, _, _⟩ :: _) _ _); refine wpList_append_fact rfl _ _ 38 rfl (.slice r.ad d r.cap) (.slice ad m cp) rfl rfl hrun ?_)
      go_roundw
      case rel => exact ⟨k + 1, r9, by omega, rfl, by rw [HL1.out], HR9, HS9⟩
      case measure => simp [intOf]; omega
    · obtain rfl : k = n := by omega
      have HF : Hid (Told wr r.ad E.flatten) := Lib.hid (by
        have := HR.out.told
        rwa [List.take_of_length_le (by omega)] at this)
      rw [List.take_of_length_le (by omega)]
      go_wp2
      go_ret
      exact ⟨_, _, rfl, HF.out, HS.out.mono (fun b hb => .inr (by rw [HB.out]; exact hb))⟩
end Go.Proofs.Ytihbjkdgfflnfaa
namespace Go.Proofs.Ytihbjkdgfflnfaa
open Go.RowKit

theorem goneF_iff (f t u : Nat) (x : Ent) : goneF f t u x = true ↔ x.at_ < t ∧ f < x.at_ + x.sec ∧ f < t ∧ x.turn < u := by
  unfold goneF
  simp only [Bool.and_eq_true, decide_eq_true_eq]
  constructor
  · rintro ⟨h1, h2, h3, h4⟩; exact ⟨h2, h3, h1, h4⟩
  · rintro ⟨h1, h2, h3, h4⟩; exact ⟨h3, h1, h2, h4⟩
theorem left_next (f t u : Nat) (l : List Ent) (j : Nat) (h : j < l.length) (x : Ent) (hx : l[j] = x) : (goneF f t u x = true → leftF f t u (l.take (j + 1)) = leftF f t u (l.take j)) ∧ (goneF f t u x = false → leftF f t u (l.take (j + 1)) = leftF f t u (l.take j) ++ [x]) := by
  unfold leftF
  rw [List.take_succ_eq_append_getElem h, List.filter_append, hx]
  constructor
  · intro hg; simp [hg]
  · intro hg; simp [hg]
def RefPurgePost (F : Nat → Prop) (p bk n s : Nat) (E : List (List Ent)) (f t turn : Nat) (w : World) (e : Ending) (w' : World) : Prop :=
  e = .returned (.int .i64 (goneN f t turn E : Nat)) ∧ Spares F w w' ∧ ∃ F' R, IsRef F' p bk n s R (sweepF f t turn E) w' ∧ ∀ k, F' k → F k ∨ (w.heap.size ≤ k ∧ k < w'.heap.size)
def RefSw (F : Nat → Prop) (p bk n s : Nat) (E : List (List Ent)) (f t turn : Nat) (w : World) (k : Nat) (wr : World) : Prop :=
  ∃ F' R, IsRef F' p bk n s R (sweepK f t turn E k) wr ∧ ∀ x, F' x → F x ∨ (w.heap.size ≤ x ∧ x < wr.heap.size)
set_option maxRecDepth 100000 in
set_option maxHeartbeats 4000000 in
theorem refPurge_any (F : Nat → Prop) (p bk n s : Nat) (R : Nat → Row) (E : List (List Ent)) (f t turn : Nat) (w : World) (h : IsRef F p bk n s R E w) (hf : f < 4294967296) (ht : t < 4294967296) :
    Calls Try.prog 21 #[.pointer (some ⟨p, 0, none⟩), .int .u32 f, .int .u32 t, .int .u64 turn] w (RefPurgePost F p bk n s E f t turn w) := by
  have hEn := h.rows.len
  have hn1 := h.n1
  have hmax : lenF E ≤ 65536 := Nat.le_trans (lenF_le E s h.lens) (by rw [hEn]; exact Nat.le_trans (Nat.mul_le_mul h.n1 h.s1) (by omega))
  have cp : w.cell? ⟨p, 0, none⟩ = some (.slice (some ⟨bk, 0, none⟩) n n) := by rw [Lib.cell_of_heap h.hd]; rfl
  have H0 : Hid (RefSw F p bk n s E f t turn w 0 w) := Lib.hid ⟨F, R, by rw [sweepK_zero]; exact h, fun x hx => .inl hx⟩
  have HOK : Hid (∀ r ∈ E, ∀ e ∈ r, e.ok) := Lib.hid h.rows.ok
  have HIN : Hid (F bk) := Lib.hid h.rows.inF
  have HSM : Hid (∀ r ∈ E, r.length ≤ s) := Lib.hid h.lens
  have hs16 := h.s1
  clear h
  go_enter Try.func21, Try.ntmps21
  go_wp2
  go_loopw [9, 10] (fun m i wr => ∃ k : Nat, k ≤ n ∧ i = .int .i64 k ∧ m = .int .i64 (goneN f t turn (E.take k) : Nat) ∧ Hid (RefSw F p bk n s E f t turn w k wr) ∧ Hid (Spares F w wr)) (fun _ i _ => n - (intOf i).toNat)
  case atStart => exact ⟨0, by omega, rfl, rfl, H0, Lib.hid (Spares.refl _ _)⟩
  case round =>
    obtain ⟨k, hk, rfl, rfl, HI, HW⟩ := hrel
    obtain ⟨wo, hwo⟩ : ∃ wo, wo = wr := ⟨_, rfl⟩
    subst hwo
    obtain ⟨F1, R1, hR1, hF1⟩ := HI.out
    have c1 : wo.cell? ⟨p, 0, none⟩ = some (.slice (some ⟨bk, 0, none⟩) n n) := by rw [Lib.cell_of_heap hR1.hd]; rfl
    by_cases hlt : k < n
    · have hkE : k < E.length := by omega
      have hrow : (sweepK f t turn E k)[k]'(by rw [sweepK_len]; exact hkE) = E[k] := by
        have hat := sweepK_at f t turn E k hkE
        rw [List.getElem?_eq_getElem (by rw [sweepK_len]; exact hkE)] at hat
        injection hat
      obtain ⟨row, hrr⟩ : ∃ row, E[k] = row := ⟨_, rfl⟩
      rw [hrr] at hrow
      obtain ⟨ad, had⟩ : ∃ ad, (R1 k).ad = ad := ⟨_, rfl⟩
      obtain ⟨cpp, hcpp⟩ : ∃ c, (R1 k).cap = c := ⟨_, rfl⟩
      have HCL : Hid (∀ V, Spares nowhere wo V → V.cell? ⟨p, 0, none⟩ = some (.slice (some ⟨bk, 0, none⟩) n n) ∧ V.cell? ⟨bk, k, none⟩ = some (.slice ad row.length cpp) ∧ EntsV V ad row) := Lib.hid (fun V hV => by
        have h' := hR1.spares hV (fun _ _ _ h => h)
        have hc := (h'.rows.cell k (by rw [sweepK_len]; exact hkE)).1
        have hr := (h'.rows.row k (by rw [sweepK_len]; exact hkE)).ents_v
        rw [hrow, had, hcpp] at hc
        rw [hrow, had] at hr
        exact ⟨by rw [Lib.cell_of_heap h'.hd]; rfl, hc, hr⟩)
      have hl16 : row.length ≤ 16 := by rw [← hrr]; exact Nat.le_trans (HSM.out _ (List.getElem_mem _)) hs16
      have hrok : ∀ e ∈ row, e.ok := by rw [← hrr]; exact HOK.out _ (List.getElem_mem _)
      have hgn := goneN_take (f := f) (t := t) (turn := turn) (E := E) hkE
      have hgm : goneN f t turn (E.take k) ≤ 65536 := Nat.le_trans (goneN_le _ _ _ _) (Nat.le_trans (lenF_mono E k) hmax)
      obtain ⟨m0, hm0⟩ : ∃ m0, goneN f t turn (E.take k) = m0 := ⟨_, rfl⟩
      rw [hm0, hrr] at hgn
      rw [hm0] at hgm ⊢
      obtain ⟨L, hL⟩ : ∃ L, row.length = L := ⟨_, rfl⟩
      rw [hL] at hl16 HCL hgn
      have HL := Lib.hid hL
      have HRK := Lib.hid hrok
      have HGN := Lib.hid hgn
      have HRR := Lib.hid hrr
      have HR1 := Lib.hid hR1
      have HF1 := Lib.hid hF1
      have HROW := Lib.hid hrow
      clear hrok hgn hL hm0 hrr hR1 hF1 had hcpp hrow
      go_wp2
      go_loopw [9, 11, 12] (fun m l i wx => ∃ (j d : Nat) (r : Row) (acc : List Ent), j ≤ L ∧ d + acc.length = j ∧ i = .int .i64 j ∧ m = .int .i64 ((m0 + d : Nat) : Int) ∧ l = .slice r.ad acc.length r.cap ∧ Hid (RowAt (fun b => wo.heap.size ≤ b) wx r acc) ∧ Hid (acc = leftF f t turn (row.take j)) ∧ Hid (Spares nowhere wo wx)) (fun _ _ i _ => L - (intOf i).toNat)
      case atStart =>
        exact ⟨0, 0, ⟨none, 0⟩, [], by omega, rfl, rfl, rfl, rfl, Lib.hid ⟨by simp, fun _ => rfl, fun b o e => by simp at e, fun b o e => by simp at e⟩, Lib.hid rfl, Lib.hid (Spares.refl _ _)⟩
      case round =>
        obtain ⟨j, d, r, acc, hj, hd, rfl, rfl, rfl, HR, HA, HS⟩ := hrel
        by_cases hltj : j < L
        · have hjr : j < row.length := by rw [HL.out]; exact hltj
          obtain ⟨c1, c2, hev⟩ := HCL.out _ HS.out
          obtain ⟨g, off, hadr, hce⟩ := hev j hjr
          subst hadr
          have hxok := HRK.out _ (List.getElem_mem hjr)
          obtain ⟨t0, ht0⟩ : ∃ t0, row[j].tag = t0 := ⟨_, rfl⟩
          obtain ⟨t1, ht1⟩ : ∃ t1, row[j].at_ = t1 := ⟨_, rfl⟩
          obtain ⟨t2, ht2⟩ : ∃ t2, row[j].sec = t2 := ⟨_, rfl⟩
          obtain ⟨t3, ht3⟩ : ∃ t3, row[j].turn = t3 := ⟨_, rfl⟩
          have hx4 : row[j] = ⟨t0, t1, t2, t3⟩ := Ent.four ht0 ht1 ht2 ht3
          have hnx := left_next f t turn row j hjr _ hx4
          have e0 : wr.cell? ⟨g, off + j * 4, none⟩ = some (.int .u16 t0) := by rw [← ht0]; exact hce 0 (by omega)
          have e1 : wr.cell? ⟨g, off + j * 4 + 1, none⟩ = some (.int .u32 t1) := by rw [← ht1]; exact hce 1 (by omega)
          have e2 : wr.cell? ⟨g, off + j * 4 + 2, none⟩ = some (.int .u16 t2) := by rw [← ht2]; exact hce 2 (by omega)
          have e3 : wr.cell? ⟨g, off + j * 4 + 3, none⟩ = some (.int .u64 t3) := by rw [← ht3]; exact hce 3 (by omega)
          rw [hx4] at hxok
          obtain ⟨q0, q1, q2, q3⟩ := hxok
          simp only at q0 q1 q2 q3
          have u1 : IntKind.u64.wrap (t1 : Int) = (t1 : Int) := by rw [IntKind.wrap_u64]; omega
          have u2 : IntKind.u64.wrap (t2 : Int) = (t2 : Int) := by rw [IntKind.wrap_u64]; omega
          have u3 : IntKind.u64.wrap ((t1 : Int) + (t2 : Int)) = (t1 : Int) + (t2 : Int) := by rw [IntKind.wrap_u64]; omega
          have u4 : IntKind.u64.wrap (f : Int) = (f : Int) := by rw [IntKind.wrap_u64]; omega
          have u5 : IntKind.u64.wrap (t : Int) = (t : Int) := by rw [IntKind.wrap_u64]; omega
          have u6 : IntKind.i64.wrap (((m0 + d : Nat) : Int) + 1) = ((m0 + d : Nat) : Int) + 1 := by rw [IntKind.wrap_i64]; omega
          have u7 : IntKind.i64.wrap ((j : Int) + 1) = (j : Int) + 1 := by rw [IntKind.wrap_i64]; omega
          obtain ⟨v, hv⟩ : ∃ v, wr.alloc (.cells #[.int .u16 t0, .int .u32 t1, .int .u16 t2, .int .u64 t3] 41) = v := ⟨_, rfl⟩
          have hsv : Spares nowhere wr v := by rw [← hv]; exact (Spares.refl _ _).alloc _
          have hbx : v.heap[wr.heap.size]? = some (.cells #[.int .u16 t0, .int .u32 t1, .int .u16 t2, .int .u64 t3] 41 (0, 0)) := by rw [← hv]; exact heap_alloc_new _ _
          have f1 : ∀ y : Kin v, y.wd.cell? ⟨wr.heap.size, 1, none⟩ = some (.int .u32 t1) := fun y => y.cell (by rw [Lib.cell_of_heap hbx]; rfl)
          have f2 : ∀ y : Kin v, y.wd.cell? ⟨wr.heap.size, 2, none⟩ = some (.int .u16 t2) := fun y => y.cell (by rw [Lib.cell_of_heap hbx]; rfl)
          have HV := Lib.hid hv
          have HBX := Lib.hid hbx
          have HSV := Lib.hid (HS.out.trans hsv)
          have HNX := Lib.hid hnx
          rw [← HA.out] at HNX
          have HGT : Hid ((t1 < t ∧ f < t1 + t2 ∧ f < t ∧ t3 < turn) → goneF f t turn ⟨t0, t1, t2, t3⟩ = true) := Lib.hid (fun h => (goneF_iff f t turn _).2 h)
          have HGF : Hid (¬ (t1 < t ∧ f < t1 + t2 ∧ f < t ∧ t3 < turn) → goneF f t turn ⟨t0, t1, t2, t3⟩ = false) := Lib.hid (fun h => by
            cases hg : goneF f t turn ⟨t0, t1, t2, t3⟩ with
            | false => rfl
            | true => exact absurd ((goneF_iff f t turn _).1 hg) h)
          clear hce hev ht0 ht1 ht2 ht3 hx4 hnx hv hbx hsv
          go_upto_region 10 with (fail)
          rw [HV.out]
          refine wp_region_kin (by kernel_rfl) (by kernel_rfl) ?_
          repeat (go_big_quiet_step (fail))
          refine wpQuiet_nil ?_
          intro _ hy
          obtain ⟨y, rfl⟩ := hy
          have hwy : Spares nowhere v y.wd := Below.spares y.below (fun k hk => .inr hk)
          have hSY := HSV.out.trans hwy
          have hbY := hwy.heap HBX.out (fun h => h)
          have b0 : y.wd.cell? ⟨wr.heap.size, 0, none⟩ = some (.int .u16 t0) := by rw [Lib.cell_of_heap hbY]; rfl
          have b1 : y.wd.cell? ⟨wr.heap.size, 1, none⟩ = some (.int .u32 t1) := by rw [Lib.cell_of_heap hbY]; rfl
          have b2 : y.wd.cell? ⟨wr.heap.size, 2, none⟩ = some (.int .u16 t2) := by rw [Lib.cell_of_heap hbY]; rfl
          have b3 : y.wd.cell? ⟨wr.heap.size, 3, none⟩ = some (.int .u64 t3) := by rw [Lib.cell_of_heap hbY]; rfl
          have hry : RowAt (fun b => wo.heap.size ≤ b) y.wd r acc := HR.out.spares ((by rw [← HV.out]; exact (Spares.refl nowhere wr).alloc _ : Spares nowhere wr v).trans hwy) (fun _ _ _ h => h)
          obtain ⟨r9, w9, hrun, hr9, hsp, _, _⟩ := append_ent (w := y.wd.alloc (.cells #[.int .u16 t0, .int .u32 t1, .int .u16 t2, .int .u64 t3] 41)) (hry.spares ((Spares.refl nowhere y.wd).alloc _) (fun _ _ _ h => h)) ⟨t0, t1, t2, t3⟩ ⟨y.wd.heap.size, 0, none⟩ 38 (ent_new y.wd ⟨t0, t1, t2, t3⟩) (by omega)
          have HR9 : Hid (RowAt (fun b => wo.heap.size ≤ b) w9 r9 (acc ++ [⟨t0, t1, t2, t3⟩])) := Lib.hid (hr9.mono (fun b hb => by
            rcases hb with hb | ⟨rfl, _⟩
            · exact hb
            · have := hSY.size; simp; omega))
          have HS9 : Hid (Spares nowhere wo w9) := Lib.hid ((hSY.alloc _).trans' hsp (fun b ⟨o, e⟩ => .inr (hry.room b o e).1))
          have HRY := Lib.hid hry
          have HSY := Lib.hid hSY
          clear hwy hSY hbY hry hr9 hsp f1 f2
          by_cases g1 : t1 < t
          · have k1 : (t1 : Int) < (t : Int) := by omega
            by_cases g2 : f < t1 + t2
            · have k2 : (f : Int) < (t1 : Int) + (t2 : Int) := by omega
              by_cases g3 : f < t
              · have k3 : (f : Int) < (t : Int) := by omega
                by_cases g4 : t3 < turn
                · have k4 : (t3 : Int) < (turn : Int) := by omega
                  go_wp2
                  go_roundw
                  case rel => exact ⟨j + 1, d + 1, r, acc, by omega, by omega, rfl, by rw [show m0 + (d + 1) = m0 + d + 1 by omega]; rfl, rfl, HRY, Lib.hid (by rw [HNX.out.1 (HGT.out ⟨g1, g2, g3, g4⟩)]), HSY⟩
                  case measure => simp [intOf]; omega
                · have k4 : ¬ (t3 : Int) < (turn : Int) := by omega
                  go_wp2_with ((with_reducible show wpList _ _ _ (⟨some 83, _, _, _, _, _⟩ :: _) _ _); refine wpList_append_fact rfl _ _ 38 rfl (.slice r.ad acc.length r.cap) (.slice (some ⟨y.wd.heap.size, 0, none⟩) 1 1) rfl rfl hrun ?_)
                  go_roundw
                  case rel => exact ⟨j + 1, d, r9, acc ++ [⟨t0, t1, t2, t3⟩], by omega, by simp; omega, rfl, rfl, by simp, HR9, Lib.hid (by rw [HNX.out.2 (HGF.out (fun h => g4 h.2.2.2))]), HS9⟩
                  case measure => simp [intOf]; omega
              · have k3 : ¬ (f : Int) < (t : Int) := by omega
                go_wp2_with ((with_reducible show wpList _ _ _ (⟨some 83, _, _, _, _, _⟩ :: _) _ _); refine wpList_append_fact rfl _ _ 38 rfl (.slice r.ad acc.length r.cap) (.slice (some ⟨y.wd.heap.size, 0, none⟩) 1 1) rfl rfl hrun ?_)
                go_roundw
                case rel => exact ⟨j + 1, d, r9, acc ++ [⟨t0, t1, t2, t3⟩], by omega, by simp; omega, rfl, rfl, by simp, HR9, Lib.hid (by rw [HNX.out.2 (HGF.out (fun h => g3 h.2.2.1))]), HS9⟩
                case measure => simp [intOf]; omega
            · have k2 : ¬ (f : Int) < (t1 : Int) + (t2 : Int) := by omega
              go_wp2_with ((with_reducible show wpList _ _ _ (⟨some 83, _, _, _, _, _⟩ :: _) _ _); refine wpList_append_fact rfl _ _ 38 rfl (.slice r.ad acc.length r.cap) (.slice (some ⟨y.wd.heap.size, 0, none⟩) 1 1) rfl rfl hrun ?_)
              go_roundw
              case rel => exact ⟨j + 1, d, r9, acc ++ [⟨t0, t1, t2, t3⟩], by omega, by simp; omega, rfl, rfl, by simp, HR9, Lib.hid (by rw [HNX.out.2 (HGF.out (fun h => g2 h.2.1))]), HS9⟩
              case measure => simp [intOf]; omega
          · have k1 : ¬ (t1 : Int) < (t : Int) := by omega
            go_wp2_with ((with_reducible show wpList _ _ _ (⟨some 83, _, _, _, _, _⟩ :: _) _ _); refine wpList_append_fact rfl _ _ 38 rfl (.slice r.ad acc.length r.cap) (.slice (some ⟨y.wd.heap.size, 0, none⟩) 1 1) rfl rfl hrun ?_)
            go_roundw
            case rel => exact ⟨j + 1, d, r9, acc ++ [⟨t0, t1, t2, t3⟩], by omega, by simp; omega, rfl, rfl, by simp, HR9, Lib.hid (by rw [HNX.out.2 (HGF.out (fun h => g1 h.1))]), HS9⟩
            case measure => simp [intOf]; omega
        · obtain rfl : j = L := by omega
          obtain ⟨c1, c2, _⟩ := HCL.out _ HS.out
          have hacc : acc = leftF f t turn row := by
            have := HA.out
            rwa [List.take_of_length_le (by rw [HL.out]; exact Nat.le_refl _)] at this
          have hDx := HR1.out.spares HS.out (fun _ _ _ h => h)
          have hlr := leftF_len f t turn row
          rw [← hacc, HL.out] at hlr
          obtain ⟨R9, hR9⟩ := put_refG HR1.out (w1 := wr) (b := k) hlt (F' := fun b => F1 b ∨ (wo.heap.size ≤ b ∧ b < wr.heap.size)) (fun _ h => .inl h) (r' := r) (l' := acc)
            ⟨HR.out.le, HR.out.nil, fun b o e => ⟨.inr ⟨(HR.out.room b o e).1, (HR.out.room b o e).2.lt⟩, (HR.out.room b o e).2⟩, HR.out.ents⟩ (HS.out.mono (fun _ h => h.elim)) (fun F2 r2 l2 h2 _ => h2.spares HS.out (fun _ _ _ h => h)) (.inr (fun b' o' e => (HR.out.room b' o' e).1)) (by rw [hacc]; exact leftF_ok (fun e he => HRK.out e he)) (by
              have h1 := HSM.out _ (List.getElem_mem hkE)
              rw [HRR.out, HL.out] at h1
              omega)
          have HR9 := Lib.hid hR9
          obtain ⟨cur, hcur, _, _⟩ := hDx.rows.blk
          have fz : wr.frozen? ⟨bk, k, none⟩ = false := Lib.frozen_of_heap hcur k
          have HSP : Hid (Spares F w (wr.setCell ⟨bk, k, none⟩ (.slice r.ad acc.length r.cap))) := Lib.hid ((HW.out.trans' HS.out (fun _ h => h.elim)).setCell (p := ⟨bk, k, none⟩) (.inl HIN.out) _)
          have HFN : Hid (RefSw F p bk n s E f t turn w (k + 1) (wr.setCell ⟨bk, k, none⟩ (.slice r.ad acc.length r.cap))) := Lib.hid (by
            refine ⟨fun b => F1 b ∨ (wo.heap.size ≤ b ∧ b < wr.heap.size), R9, ?_, fun x hx => ?_⟩
            · rw [← sweepK_next f t turn E k hkE, HRR.out, ← hacc]; exact HR9.out
            · rcases hx with hx | ⟨h1, h2⟩
              · rcases HF1.out x hx with h | ⟨h1, h2⟩
                · exact .inl h
                · exact .inr ⟨h1, by have := HS.out.size; simp; omega⟩
              · exact .inr ⟨Nat.le_trans HW.out.size h1, by simpa using h2⟩)
          have hgd : m0 + d = goneN f t turn (E.take (k + 1)) := by rw [HGN.out, ← hacc]; omega
          have HGD := Lib.hid hgd
          clear hDx hacc hR9 hcur hgd hlr
          go_wp2
          go_roundw
          case rel => exact ⟨k + 1, by omega, rfl, by rw [← HGD.out], HFN, HSP⟩
          case measure => simp [intOf]; omega
    · obtain rfl : k = n := by omega
      go_wp2
      go_ret
      rw [List.take_of_length_le (by omega)]
      refine ⟨rfl, HW.out, F1, R1, ?_, hF1⟩
      rw [← hEn, sweepK_all] at hR1
      rw [← hEn]
      exact hR1
end Go.Proofs.Ytihbjkdgfflnfaa
namespace Go.Proofs.Ytihbjkdgfflnfaa
open Go.RowKit

set_option maxRecDepth 100000 in
set_option maxHeartbeats 4000000 in
theorem refDBytes_any (F : Nat → Prop) (p bk n s : Nat) (R : Nat → Row) (E : List (List Ent)) (w : World) (h : IsRef F p bk n s R E w) (hlen : (dirB n s E).length ≤ 1000000) :
    Calls Try.prog 25 #[.pointer (some ⟨p, 0, none⟩)] w (BytesPost (dirB n s E) w) := by
  have hEn := h.rows.len
  have hn0 := h.n0
  have hn1 := h.n1
  have hs1 := h.s1
  have hcell : ∀ V, Spares (fun b => w.heap.size ≤ b) w V → V.cell? ⟨p, 1, none⟩ = some (.int .i64 s) ∧ V.cell? ⟨p, 0, none⟩ = some (.slice (some ⟨bk, 0, none⟩) n n) ∧ ∀ k (hk : k < E.length), V.cell? ⟨bk, k, none⟩ = some (.slice (R k).ad E[k].length (R k).cap) ∧ EntsV V (R k).ad E[k] := fun V hV => by
    have h' := h.spares hV (fun b _ hlt hB => by omega)
    exact ⟨by rw [Lib.cell_of_heap h'.hd]; rfl, by rw [Lib.cell_of_heap h'.hd]; rfl, fun k hk => ⟨(h'.rows.cell k hk).1, (h'.rows.row k hk).ents_v⟩⟩
  have HLE : Hid (∀ r ∈ E, r.length ≤ 16) := Lib.hid (fun r hr => Nat.le_trans (h.lens r hr) hs1)
  have HOK : Hid (∀ r ∈ E, ∀ e ∈ r, e.ok) := Lib.hid h.rows.ok
  obtain ⟨B, hB⟩ : ∃ B, w.heap.size = B := ⟨_, rfl⟩
  rw [hB] at hcell
  have HC := Lib.hid hcell
  have HB := Lib.hid hB
  have HLEN := Lib.hid hlen
  have kc := fun (w : World) (C : Array Value) (n c : Nat) => Lib.run_convert_bytes_const (P := Try.prog) w 49 5 C n c Try.underlying49 Try.underlying5
  have ks := slice_a16
  clear h hcell hlen hB
  go_enter Try.func25, Try.ntmps25
  go_upto_region 1 with (fail)
  have kcd : ∀ (w : World) (C : Array Value) (n c : Nat), (convert 49 49 (.slice (some ⟨w.heap.size, 0, none⟩) n c)).run Try.prog (w.alloc (.cells C 5)).drew = .ok (.slice (some ⟨w.heap.size, 0, none⟩) n c) (w.alloc (.cells C 5 (C.size, C.size + 1))).drew := fun w C n c => kc w.drew C n c
  have y0 : IntKind.u64.wrap (n : Int) = (n : Int) := by rw [IntKind.wrap_u64]; omega
  have y1 : IntKind.u64.wrap (s : Int) = (s : Int) := by rw [IntKind.wrap_u64]; omega
  have SD : Hid (Spares (fun b => B ≤ b) w w.drew) := Lib.hid (Spares.refl _ _).drew
  have SA : Hid (Spares (fun b => B ≤ b) w (w.alloc (.cells #[.int .u8 68, .int .u8 73, .int .u8 82, .int .u8 49] 5)).drew) := Lib.hid ((Spares.refl _ _).alloc _).drew
  have SB : Hid (Spares (fun b => B ≤ b) w (w.alloc (.cells (Lib.byteCells [68, 73, 82, 49]).toArray 5 (4, 5))).drew) := Lib.hid ((Spares.refl _ _).alloc _).drew
  have HKEEP : Hid (∀ V, Spares (fun b => B ≤ b) w V → V.cell? ⟨p, 0, none⟩ = some (.slice (some ⟨bk, 0, none⟩) n n) ∧ V.cell? ⟨p, 1, none⟩ = some (.int .i64 s)) := Lib.hid (fun V hV => ⟨(HC.out V hV).2.1, (HC.out V hV).1⟩)
  have CP1 : Hid (Calls Try.prog 44 #[.slice (some ⟨w.heap.size, 0, none⟩) 4 4, .int .u64 n, .int .i64 4] (w.alloc (.cells (Lib.byteCells [68, 73, 82, 49]).toArray 5 (4, 5))).drew fun e w' => ∃ v', e = .returned v' ∧ Hid (RowT B w' v' ([68, 73, 82, 49] ++ beN 4 n)) ∧ Hid (Spares (fun b => B ≤ b) w w')) := Lib.hid (by
    refine (refPutT_any B _ [68, 73, 82, 49] n 4 _ (by rw [← HB.out]; exact (rowT_lit w [68, 73, 82, 49] (by decide)).spares (F := nowhere) (Spares.refl _ _).drew (fun _ _ h => h)) (by rw [← HB.out]; exact SB.out.size) (by omega) (by simp)).mono ?_
    rintro e w' ⟨v', rfl, h1, h2⟩
    exact ⟨v', rfl, Lib.hid h1, Lib.hid (SB.out.trans h2)⟩)
  have CP2 : Hid (∀ V v, Hid (RowT B V v ([68, 73, 82, 49] ++ beN 4 n)) → Hid (Spares (fun b => B ≤ b) w V) → Calls Try.prog 44 #[v, .int .u64 s, .int .i64 4] V fun e w' => ∃ v', e = .returned v' ∧ Hid (RowT B w' v' (preK n s E 0)) ∧ Hid (Spares (fun b => B ≤ b) w w')) := Lib.hid (fun V v hr hs => by
    refine (refPutT_any B v _ s 4 V hr.out (by rw [← HB.out]; exact hs.out.size) (by omega) (by simp [beN_len])).mono ?_
    rintro e w' ⟨v', rfl, h1, h2⟩
    exact ⟨v', rfl, Lib.hid (by rw [preK_zero]; exact h1), Lib.hid (hs.out.trans h2)⟩)
  refine wp_region_held_drew (S := fun w' => w'.cell? ⟨p, 0, none⟩ = some (.slice (some ⟨bk, 0, none⟩) n n) ∧ w'.cell? ⟨p, 1, none⟩ = some (.int .i64 s)) (by kernel_rfl) (HKEEP.out _ SD.out) (fun hS0 => ?_)
  refine wpAnyH_take (i := 2) (v := ?_) rfl (by kernel_rfl) (by kernel_rfl) (by kernel_rfl) (fun _ _ _ h => h) (Or.inl ⟨by rfl, ?_⟩) (by assumption) ?_
  rotate_left
  · intro w9 hS9
    obtain ⟨hS8, hS7⟩ := hS9
    go_simp
    try with_reducible rfl
  simp only [List.getElem_toArray, List.getElem_cons_succ, List.getElem_cons_zero, Act.put, List.setIfInBounds_toArray, List.set_cons_succ, List.set_cons_zero]
  refine wpAnyH_take (i := 3) (v := ?_) rfl (by kernel_rfl) (by kernel_rfl) (by kernel_rfl) (fun _ _ _ h => h) (Or.inl ⟨by rfl, ?_⟩) (by assumption) ?_
  rotate_left
  · intro w9 hS9
    obtain ⟨hS8, hS7⟩ := hS9
    go_simp
    try with_reducible rfl
  simp only [List.getElem_toArray, List.getElem_cons_succ, List.getElem_cons_zero, Act.put, List.setIfInBounds_toArray, List.set_cons_succ, List.set_cons_zero]
  refine wpAnyH_take (i := 4) (v := ?_) rfl (by kernel_rfl) (by kernel_rfl) (by kernel_rfl) (fun _ _ _ h => h) (Or.inl ⟨by rfl, ?_⟩) (by assumption) ?_
  rotate_left
  · intro w9 hS9
    obtain ⟨hS8, hS7⟩ := hS9
    go_simp
    try with_reducible rfl
  simp only [List.getElem_toArray, List.getElem_cons_succ, List.getElem_cons_zero, Act.put, List.setIfInBounds_toArray, List.set_cons_succ, List.set_cons_zero]
  refine wpAnyH_take (i := 5) (v := ?_) rfl (by kernel_rfl) (by kernel_rfl) (by kernel_rfl) (fun _ _ _ h => h) (Or.inl ⟨by rfl, ?_⟩) (by assumption) ?_
  rotate_left
  · intro w9 hS9
    obtain ⟨hS8, hS7⟩ := hS9
    go_simp
    try with_reducible rfl
  simp only [List.getElem_toArray, List.getElem_cons_succ, List.getElem_cons_zero, Act.put, List.setIfInBounds_toArray, List.set_cons_succ, List.set_cons_zero]
  refine wpAnyH_take (i := 6) (v := ?_) rfl (by kernel_rfl) (by kernel_rfl) (by kernel_rfl) (fun _ _ _ h => h) (Or.inl ⟨by rfl, ?_⟩) (by assumption) ?_
  rotate_left
  · intro w9 hS9
    obtain ⟨hS8, hS7⟩ := hS9
    go_simp
    try with_reducible rfl
  simp only [List.getElem_toArray, List.getElem_cons_succ, List.getElem_cons_zero, Act.put, List.setIfInBounds_toArray, List.set_cons_succ, List.set_cons_zero]
  refine wpAnyH_take (i := 7) (v := ?_) rfl (by kernel_rfl) (by kernel_rfl) (by kernel_rfl) (fun _ _ _ h => h) (Or.inl ⟨by rfl, ?_⟩) (by assumption) ?_
  rotate_left
  · intro w9 hS9
    obtain ⟨hS8, hS7⟩ := hS9
    go_simp
    try with_reducible rfl
  simp only [List.getElem_toArray, List.getElem_cons_succ, List.getElem_cons_zero, Act.put, List.setIfInBounds_toArray, List.set_cons_succ, List.set_cons_zero]
  refine wpAnyH_take (i := 9) (v := ?_) rfl (by kernel_rfl) (by kernel_rfl) (by kernel_rfl) (fun _ _ _ h => h) (Or.inl ⟨by rfl, ?_⟩) (by assumption) ?_
  rotate_left
  · intro w9 hS9
    obtain ⟨hS8, hS7⟩ := hS9
    go_simp
    try with_reducible rfl
  simp only [List.getElem_toArray, List.getElem_cons_succ, List.getElem_cons_zero, Act.put, List.setIfInBounds_toArray, List.set_cons_succ, List.set_cons_zero]
  refine wpAnyH_take (i := 10) (v := ?_) rfl (by kernel_rfl) (by kernel_rfl) (by kernel_rfl) (fun _ _ _ h => h) (Or.inl ⟨by rfl, ?_⟩) (by assumption) ?_
  rotate_left
  · intro w9 hS9
    obtain ⟨hS8, hS7⟩ := hS9
    go_simp
    try with_reducible rfl
  simp only [List.getElem_toArray, List.getElem_cons_succ, List.getElem_cons_zero, Act.put, List.setIfInBounds_toArray, List.set_cons_succ, List.set_cons_zero]
  refine wpAnyH_take (i := 11) (v := ?_) rfl (by kernel_rfl) (by kernel_rfl) (by kernel_rfl) (fun _ _ _ h => h) (Or.inl ⟨by rfl, ?_⟩) (by assumption) ?_
  rotate_left
  · intro w9 hS9
    obtain ⟨hS8, hS7⟩ := hS9
    go_simp
    try with_reducible rfl
  simp only [List.getElem_toArray, List.getElem_cons_succ, List.getElem_cons_zero, Act.put, List.setIfInBounds_toArray, List.set_cons_succ, List.set_cons_zero]
  refine wpAnyH_take (i := 12) (v := ?_) rfl (by kernel_rfl) (by kernel_rfl) (by kernel_rfl) (fun _ _ _ h => h) (Or.inl ⟨by rfl, ?_⟩) (by assumption) ?_
  rotate_left
  · intro w9 hS9
    obtain ⟨hS8, hS7⟩ := hS9
    go_simp
    try with_reducible rfl
  simp only [List.getElem_toArray, List.getElem_cons_succ, List.getElem_cons_zero, Act.put, List.setIfInBounds_toArray, List.set_cons_succ, List.set_cons_zero]
  refine wpAnyH_take (i := 13) (v := ?_) rfl (by kernel_rfl) (by kernel_rfl) (by kernel_rfl) (fun _ _ _ h => h) (Or.inl ⟨by rfl, ?_⟩) (by assumption) ?_
  rotate_left
  · intro w9 hS9
    obtain ⟨hS8, hS7⟩ := hS9
    go_simp
    try with_reducible rfl
  simp only [List.getElem_toArray, List.getElem_cons_succ, List.getElem_cons_zero, Act.put, List.setIfInBounds_toArray, List.set_cons_succ, List.set_cons_zero]
  refine wpAnyH_ready (rs := [0]) (by kernel_rfl) (by simp) ?_
  refine AllReadyH.cons rfl (fun K9 hK9 => ?_) ?_
  · go_simp
    refine hK9.out _ _ ?_ (fun hS9 => ?_)
    · exact HKEEP.out _ SA.out
    clear hK9 K9
    refine wpAnyH_ready (rs := [1]) (by kernel_rfl) (by simp) ?_
    refine AllReadyH.cons rfl (fun K9 hK9 => ?_) ?_
    · go_simp
      change K9 _ (w.alloc (.cells (Lib.byteCells [68, 73, 82, 49]).toArray 5 (4, 5))).drew
      refine hK9.out _ _ ?_ (fun hS9 => ?_)
      · exact HKEEP.out _ SB.out
      clear hK9 K9
      refine wpAnyH_ready (rs := [8]) (by kernel_rfl) (by simp) ?_
      refine AllReadyH.cons rfl (fun K9 hK9 => ?_) ?_
      · go_simp
        go_at_call 44
        with_reducible refine Calls.mono CP1.out ?_
        rintro e x1 ⟨v1, rfl, hr1, hs1⟩
        try go_simp
        refine hK9.out _ _ ?_ (fun hS9 => ?_)
        · exact HKEEP.out _ hs1.out
        clear hK9 K9
        refine wpAnyH_ready (rs := [14]) (by kernel_rfl) (by simp) ?_
        refine AllReadyH.cons rfl (fun K9 hK9 => ?_) ?_
        · go_simp
          go_at_call 44
          with_reducible refine Calls.mono (CP2.out _ _ hr1 hs1) ?_
          rintro e x2 ⟨v2, rfl, hr2, hs2⟩
          try go_simp
          refine hK9.out _ _ ?_ (fun hS9 => ?_)
          · exact HKEEP.out _ hs2.out
          clear hK9 K9
          refine wpAnyH_take (i := 15) (v := ?_) rfl (by kernel_rfl) (by kernel_rfl) (by kernel_rfl) (fun _ _ _ h => h) (Or.inl ⟨by rfl, ?_⟩) (by assumption) ?_
          rotate_left
          · intro w9 hS9
            obtain ⟨hS8, hS7⟩ := hS9
            go_simp
            try with_reducible rfl
          simp only [List.getElem_toArray, List.getElem_cons_succ, List.getElem_cons_zero, Act.put, List.setIfInBounds_toArray, List.set_cons_succ, List.set_cons_zero]
          refine wpAnyH_done (by kernel_rfl) ?_ _
          go_wp2
          go_loopw [3, 4] (fun v i wr => ∃ k : Nat, k ≤ n ∧ i = .int .i64 k ∧ Hid (RowT B wr v (preK n s E k)) ∧ Hid (Spares (fun b => B ≤ b) w wr)) (fun _ i _ => n - (intOf i).toNat)
          case atStart => exact ⟨0, by omega, rfl, hr2, hs2⟩
          case round =>
            obtain ⟨k, hk, rfl, HR, HS⟩ := hrel
            by_cases hlt : k < n
            · have hkE : k < E.length := by omega
              obtain ⟨c2, hents⟩ := (HC.out wr HS.out).2.2 k hkE
              have c1 := (HC.out wr HS.out).2.1
              obtain ⟨ad, had⟩ : ∃ ad, (R k).ad = ad := ⟨_, rfl⟩
              obtain ⟨cp, hcp⟩ : ∃ cp, (R k).cap = cp := ⟨_, rfl⟩
              rw [had, hcp] at c2
              have hl16 : E[k].length ≤ 16 := HLE.out _ (List.getElem_mem _)
              have hrok : ∀ e ∈ E[k], e.ok := HOK.out _ (List.getElem_mem _)
              have hYlen := preK_len n s E (k + 1)
              have hYn := preK_next n s E k hkE
              rw [hYn, List.length_append, rowB_len] at hYlen
              obtain ⟨Y, hY⟩ : ∃ Y, preK n s E k = Y := ⟨_, rfl⟩
              obtain ⟨r, hrr⟩ : ∃ r, E[k] = r := ⟨_, rfl⟩
              rw [hY] at HR hYlen hYn
              have hfin := innK_all Y r
              have hz := innK_zero Y r
              have hlenI := innK_len Y r
              have hnext := innK_next Y r
              have HEN : Hid (∀ V, Spares (fun b => B ≤ b) w V → V.cell? ⟨p, 0, none⟩ = some (.slice (some ⟨bk, 0, none⟩) n n) ∧ V.cell? ⟨bk, k, none⟩ = some (.slice ad r.length cp) ∧ EntsV V ad r) := Lib.hid (by
                subst hrr
                intro V hV
                have h1 := (HC.out V hV).2.2 k hkE
                rw [had, hcp] at h1
                exact ⟨(HC.out V hV).2.1, h1.1, h1.2⟩)
              rw [hrr] at c2 hl16 hrok hYlen hYn
              obtain ⟨L, hL⟩ : ∃ L, r.length = L := ⟨_, rfl⟩
              rw [hL] at c2 hl16 hYlen
              have hYt : Y.length + 1 + 16 * L ≤ 1000000 := by have := HLEN.out; omega
              obtain ⟨c, hc⟩ : ∃ c, UInt8.ofNat r.length = c := ⟨_, rfl⟩
              have hcn : c.toNat = L := by rw [← hc, hL, UInt8.toNat_ofNat']; omega
              have y2 : IntKind.u8.wrap (L : Int) = (L : Int) := by rw [IntKind.wrap_u8]; omega
              have y3 : (L : Int) % 256 = (L : Int) := by omega
              rw [hc] at hz
              have HRO : RowT B (wr.alloc (.cells #[.int .u8 (c.toNat : Int)] 5)) u3 Y := HR.out.spares (F := nowhere) ((Spares.refl _ _).alloc _) (fun _ _ h => h)
              have hby := byteOne_at wr c
              rw [hcn] at HRO hby
              have HRO' := Lib.hid HRO
              have HBY := Lib.hid hby
              have HZ := Lib.hid hz
              have HN := Lib.hid hnext
              have HLI := Lib.hid hlenI
              have HFI := Lib.hid hfin
              have HYN := Lib.hid hYn
              have HL := Lib.hid hL
              have HRK := Lib.hid hrok
              have HYT := Lib.hid hYt
              have HBW : Hid (B ≤ (wr.alloc (.cells #[.int .u8 (L : Int)] 5)).heap.size) := Lib.hid (by rw [← HB.out]; exact (HS.out.alloc _).size)
              clear HRO hby hz hnext hlenI hfin hYn hL hrok hYlen hYt hc hents hrr hY had hcp
              go_wp2_with ((with_reducible show wpList _ _ _ (⟨some 42, _, _, _, _, _⟩ :: _) _ _); refine wpList_tail_bytes rfl _ _ rfl B _ Y rfl HRO'.out (some ⟨wr.heap.size, 0, none⟩) 1 [c] rfl HBY.out (by have := HYT.out; simp only [List.length_cons, List.length_nil]; omega) HBW.out ?_; intro v9 w9 ho hg9; have HO9 := Lib.hid ho; have HS9 : Hid (Spares (fun b => B ≤ b) w w9) := Lib.hid ((HS.out.alloc _).grown hg9 (fun g h => .inl (HRO'.out.own g h))); clear ho hg9)
              go_loopw [3, 5] (fun v i wr => ∃ j : Nat, j ≤ L ∧ i = .int .i64 j ∧ Hid (RowT B wr v (innK Y r j)) ∧ Hid (Spares (fun b => B ≤ b) w wr)) (fun _ i _ => L - (intOf i).toNat)
              case atStart => exact ⟨0, by omega, rfl, by rw [HZ.out]; exact HO9, HS9⟩
              case round =>
                obtain ⟨j, hj, rfl, HRJ, HSJ⟩ := hrel
                by_cases hltj : j < L
                · have hjr : j < r.length := by rw [HL.out]; exact hltj
                  obtain ⟨c1, c2, hEv⟩ := HEN.out _ HSJ.out
                  rw [HL.out] at c2
                  obtain ⟨g, off, hadr, cE⟩ := hEv j hjr
                  subst hadr
                  clear hEv
                  have hxok := HRK.out _ (List.getElem_mem hjr)
                  have hnx := HN.out j hjr
                  have hli := HLI.out j (by omega)
                  obtain ⟨x, hx⟩ : ∃ x, r[j] = x := ⟨_, rfl⟩
                  rw [hx] at cE hxok hnx
                  obtain ⟨Z, hZ⟩ : ∃ Z, innK Y r j = Z := ⟨_, rfl⟩
                  rw [hZ] at HRJ hnx hli
                  have hXl := entB_len x
                  obtain ⟨X, hX⟩ : ∃ X, entB x = X := ⟨_, rfl⟩
                  have CE := fun V => refEntryB_any x hxok V
                  rw [hX] at hnx hXl CE
                  obtain ⟨t0, ht0⟩ : ∃ t0, x.tag = t0 := ⟨_, rfl⟩
                  obtain ⟨t1, ht1⟩ : ∃ t1, x.at_ = t1 := ⟨_, rfl⟩
                  obtain ⟨t2, ht2⟩ : ∃ t2, x.sec = t2 := ⟨_, rfl⟩
                  obtain ⟨t3, ht3⟩ : ∃ t3, x.turn = t3 := ⟨_, rfl⟩
                  have e0 : wr.cell? ⟨g, off + j * 4, none⟩ = some (.int .u16 t0) := by rw [← ht0]; exact cE 0 (by omega)
                  have e1 : wr.cell? ⟨g, off + j * 4 + 1, none⟩ = some (.int .u32 t1) := by rw [← ht1]; exact cE 1 (by omega)
                  have e2 : wr.cell? ⟨g, off + j * 4 + 2, none⟩ = some (.int .u16 t2) := by rw [← ht2]; exact cE 2 (by omega)
                  have e3 : wr.cell? ⟨g, off + j * 4 + 3, none⟩ = some (.int .u64 t3) := by rw [← ht3]; exact cE 3 (by omega)
                  unfold entV at CE
                  rw [ht0, ht1, ht2, ht3] at CE
                  have HCE := Lib.hid CE
                  have HNX := Lib.hid hnx
                  have HLJ := Lib.hid hli
                  have HXL := Lib.hid hXl
                  clear CE cE hxok hnx hli hx hZ hX hXl ht0 ht1 ht2 ht3
                  go_wp2_with fail
                  refine (HCE.out _).mono ?_
                  rintro e w4 ⟨rfl, hs4⟩
                  have HS4 : Hid (Spares (fun b => B ≤ b) w w4) := Lib.hid (HSJ.out.trans' hs4 (fun _ h => h.elim))
                  have HR4 : Hid (RowT B w4 u3 Z) := Lib.hid (HRJ.out.spares hs4 (fun _ _ h => h))
                  have HTH := Lib.hid (a16Z_there w4 X HXL.out)
                  have HIA := Lib.hid (infoA16 X HXL.out)
                  clear hs4 e0 e1 e2 e3
                  go_upto_region 10 with ((with_reducible show wpList _ _ _ (⟨none, .store 82 _ _, _, _, _, _⟩ :: _) _ _); refine wpList_store_mid rfl 82 (.tmp 6) (.tmp 65) rfl w4.heap.size 0 (bytesV X) rfl rfl HTH.out HIA.out (bytesV_one _) ?_)
                  obtain ⟨w5, hw5⟩ : ∃ w5, (a16Z w4).setCells w4.heap.size 0 (bytesV X).toList = w5 := ⟨_, rfl⟩
                  have hh5 := a16Z_heap w4 X HXL.out
                  have hs5 := a16Z_spares w4 X
                  rw [hw5] at hh5 hs5
                  have HW5 := Lib.hid hw5
                  have hat5 : BytesAt w5 (some ⟨w4.heap.size, 0, none⟩) X := fun q hq => ⟨_, _, rfl, by rw [Lib.cell_of_heap hh5, Nat.zero_add]; simp [bytesV, Lib.byteCells, hq]⟩
                  have HAT5 := Lib.hid hat5
                  have HS5 : Hid (Spares (fun b => B ≤ b) w w5) := Lib.hid (HS4.out.trans' hs5 (fun _ h => h.elim))
                  have HR5 : Hid (RowT B w5 u3 Z) := Lib.hid (HR4.out.spares hs5 (fun _ _ h => h))
                  have HB5 : Hid (B ≤ w5.heap.size) := Lib.hid (by rw [← HB.out]; exact HS5.out.size)
                  have hX16 : 16 = X.length := HXL.out.symm
                  have HX16 := Lib.hid hX16
                  clear hw5 hh5 hs5 hat5 hX16 HR4 HS4
                  change Code.wp _ _ _ _ ((a16Z w4).setCells w4.heap.size 0 (bytesV X).toList)
                  rw [HW5.out]
                  simp only [Act.put]
                  go_wp2_with ((with_reducible show wpList _ _ _ (⟨some 68, _, _, _, _, _⟩ :: _) _ _); refine wpList_tail_bytes rfl _ _ rfl B _ Z rfl HR5.out (some ⟨w4.heap.size, 0, none⟩) 16 X (by rw [← HX16.out]; rfl) HAT5.out (by rw [HLJ.out, ← HX16.out]; have := HYT.out; omega) HB5.out ?_; intro v6 w6 ho hg6; have HO6 := Lib.hid ho; have HS6 : Hid (Spares (fun b => B ≤ b) w w6) := Lib.hid (HS5.out.grown hg6 (fun g h => .inl (HR5.out.own g h))); clear ho hg6)
                  go_roundw
                  case rel => exact ⟨j + 1, by omega, rfl, by rw [HNX.out]; exact HO6, HS6⟩
                  case measure => simp [intOf]; omega
                · obtain rfl : j = L := by omega
                  obtain ⟨c1, c2, _⟩ := HEN.out _ HSJ.out
                  rw [HL.out] at c2
                  go_wp2
                  go_roundw
                  case rel => exact ⟨k + 1, by omega, rfl, Lib.hid (by rw [HYN.out, ← HFI.out, HL.out]; exact HRJ.out), HSJ⟩
                  case measure => simp [intOf]; omega
            · obtain rfl : k = n := by omega
              have c1 := (HC.out wr HS.out).2.1
              go_wp2
              go_ret
              have hfin : preK k s E k = dirB k s E := by rw [← preK_all, hEn]
              have hr := HR.out
              rw [hfin] at hr
              obtain ⟨g, c, hv, hg, hat, hc, hcm⟩ := hr.shapeC
              exact ⟨g, c, by rw [hv]; rfl, hat, hc, hcm, HS.out.mono (fun b hb => .inr (by rw [HB.out]; exact hb))⟩
        exact AllReadyH.nil
      exact AllReadyH.nil
    exact AllReadyH.nil
  exact AllReadyH.nil
end Go.Proofs.Ytihbjkdgfflnfaa
namespace Go.Proofs.Ytihbjkdgfflnfaa
open Go.RowKit

def BothX (Q : List (Nat × Obj)) (n s : Nat) (w0 : World) (p p' : Nat) (Ed Er : List (List Ent)) (W : World) : Prop := ∃ F bk F' bk', BothAt n s w0 F p bk F' p' bk' Ed Er W ∧ ∀ x ∈ Q, W.heap[x.1]? = some x.2 ∧ ¬ F x.1 ∧ ¬ F' x.1
theorem BothX.both {Q : List (Nat × Obj)} {n s : Nat} {w0 : World} {p p' : Nat} {Ed Er : List (List Ent)} {W : World} (h : BothX Q n s w0 p p' Ed Er W) : Both n s w0 p p' Ed Er W := by
  obtain ⟨F, bk, F', bk', h, _⟩ := h; exact ⟨F, bk, F', bk', h⟩
theorem Both.x {n s : Nat} {w0 : World} {p p' : Nat} {Ed Er : List (List Ent)} {W : World} (h : Both n s w0 p p' Ed Er W) : BothX [] n s w0 p p' Ed Er W := by
  obtain ⟨F, bk, F', bk', h⟩ := h; exact ⟨F, bk, F', bk', h, fun x hx => by cases hx⟩
theorem BothX.held {Q : List (Nat × Obj)} {n s : Nat} {w0 : World} {p p' : Nat} {Ed Er : List (List Ent)} {W : World} (h : BothX Q n s w0 p p' Ed Er W) {b : Nat} {o : Obj} (hq : (b, o) ∈ Q) : W.heap[b]? = some o := by
  obtain ⟨_, _, _, _, _, h⟩ := h; exact (h _ hq).1
theorem BothAt.quiet {n s : Nat} {w0 : World} {F : Nat → Prop} {p bk : Nat} {F' : Nat → Prop} {p' bk' : Nat} {Ed Er : List (List Ent)} {W V : World} (h : BothAt n s w0 F p bk F' p' bk' Ed Er W) (hs : Spares nowhere W V) : BothAt n s w0 F p bk F' p' bk' Ed Er V := by
  obtain ⟨⟨R, hd⟩, ⟨R', hr⟩, h1, h2, h3, h4⟩ := h
  exact ⟨⟨R, hd.spares hs (fun _ _ _ h => h)⟩, ⟨R', hr.spares hs (fun _ _ _ h => h)⟩, fun k hk => ⟨(h1 k hk).1, Nat.lt_of_lt_of_le (h1 k hk).2 hs.size⟩, fun k hk => ⟨(h2 k hk).1, Nat.lt_of_lt_of_le (h2 k hk).2 hs.size⟩, h3, h4.trans hs⟩
theorem BothX.quiet {Q : List (Nat × Obj)} {n s : Nat} {w0 : World} {p p' : Nat} {Ed Er : List (List Ent)} {W V : World} (h : BothX Q n s w0 p p' Ed Er W) (hs : Spares nowhere W V) : BothX Q n s w0 p p' Ed Er V := by
  obtain ⟨F, bk, F', bk', h, hq⟩ := h
  exact ⟨F, bk, F', bk', h.quiet hs, fun x hx => ⟨hs.heap (hq x hx).1 (fun h => h), (hq x hx).2⟩⟩
/-- A new block is held, too. -/
theorem BothX.box {Q : List (Nat × Obj)} {n s : Nat} {w0 : World} {p p' : Nat} {Ed Er : List (List Ent)} {W V : World} (h : BothX Q n s w0 p p' Ed Er W) (hs : Spares nowhere W V) {b : Nat} {o : Obj} (hb : W.heap.size ≤ b) (ho : V.heap[b]? = some o) : BothX ((b, o) :: Q) n s w0 p p' Ed Er V := by
  obtain ⟨F, bk, F', bk', h, hq⟩ := h
  refine ⟨F, bk, F', bk', h.quiet hs, fun x hx => ?_⟩
  rcases List.mem_cons.1 hx with rfl | hx
  · exact ⟨ho, fun hf => by have := (h.dF _ hf).2; omega, fun hf => by have := (h.rF _ hf).2; omega⟩
  · exact ⟨hs.heap (hq x hx).1 (fun h => h), (hq x hx).2⟩
theorem BothX.drop {Q Q' : List (Nat × Obj)} {n s : Nat} {w0 : World} {p p' : Nat} {Ed Er : List (List Ent)} {W : World} (h : BothX Q n s w0 p p' Ed Er W) (hQ : ∀ x ∈ Q', x ∈ Q) : BothX Q' n s w0 p p' Ed Er W := by
  obtain ⟨F, bk, F', bk', h, hq⟩ := h
  exact ⟨F, bk, F', bk', h, fun x hx => hq x (hQ x hx)⟩
/-- The program's directory turned. -/
theorem BothX.turned_d {Q : List (Nat × Obj)} {n s : Nat} {w0 : World} {p p' : Nat} {Ed Er Ed' : List (List Ent)} {W V : World} {F : Nat → Prop} {bk : Nat} {F' : Nat → Prop} {bk' : Nat} (h : BothAt n s w0 F p bk F' p' bk' Ed Er W) (hq : ∀ x ∈ Q, W.heap[x.1]? = some x.2 ∧ ¬ F x.1 ∧ ¬ F' x.1) (hs : Spares F W V) {R2 : Nat → Row} (hd : IsDir F p bk n s R2 Ed' V) : BothX Q n s w0 p p' Ed' Er V := by
  obtain ⟨_, ⟨R', hr⟩, h1, h2, h3, h4⟩ := h
  exact ⟨F, bk, F', bk', ⟨⟨R2, hd⟩, ⟨R', hr.spares hs (fun k hk _ hf => h3 k hf hk)⟩, fun k hk => ⟨(h1 k hk).1, Nat.lt_of_lt_of_le (h1 k hk).2 hs.size⟩, fun k hk => ⟨(h2 k hk).1, Nat.lt_of_lt_of_le (h2 k hk).2 hs.size⟩, h3, h4.trans' hs (fun k hk => .inr (h1 k hk).1)⟩, fun x hx => ⟨hs.heap (hq x hx).1 (hq x hx).2.1, (hq x hx).2⟩⟩
theorem BothX.turned_r {Q : List (Nat × Obj)} {n s : Nat} {w0 : World} {p p' : Nat} {Ed Er Er' : List (List Ent)} {W V : World} {F : Nat → Prop} {bk : Nat} {F' : Nat → Prop} {bk' : Nat} (h : BothAt n s w0 F p bk F' p' bk' Ed Er W) (hq : ∀ x ∈ Q, W.heap[x.1]? = some x.2 ∧ ¬ F x.1 ∧ ¬ F' x.1) (hs : Spares F' W V) {F2 : Nat → Prop} {R2 : Nat → Row} (hr : IsRef F2 p' bk' n s R2 Er' V) (h2 : ∀ k, F2 k → F' k ∨ (W.heap.size ≤ k ∧ k < V.heap.size)) : BothX Q n s w0 p p' Ed Er' V := by
  obtain ⟨⟨R, hd⟩, _, h1, h2', h3, h4⟩ := h
  refine ⟨F, bk, F2, bk', ⟨⟨R, hd.spares hs (fun k hk _ hf => h3 k hk hf)⟩, ⟨R2, hr⟩, fun k hk => ⟨(h1 k hk).1, Nat.lt_of_lt_of_le (h1 k hk).2 hs.size⟩, fun k hk => ?_, fun k hk hk2 => ?_, h4.trans' hs (fun k hk => .inr (h2' k hk).1)⟩, fun x hx => ⟨hs.heap (hq x hx).1 (hq x hx).2.2, (hq x hx).2.1, fun hf => ?_⟩⟩
  · rcases h2 k hk with hk | ⟨ha, hb⟩
    · exact ⟨(h2' k hk).1, Nat.lt_of_lt_of_le (h2' k hk).2 hs.size⟩
    · exact ⟨Nat.le_trans h4.size ha, hb⟩
  · rcases h2 k hk2 with hk2 | ⟨ha, _⟩
    · exact h3 k hk hk2
    · have := (h1 k hk).2; omega
  · rcases h2 _ hf with hf | ⟨ha, _⟩
    · exact (hq x hx).2.2 hf
    · have := (Array.getElem?_eq_some_iff.1 (hq x hx).1).1; omega
/-- The program's directory opened anew. -/
theorem BothX.opened {Q : List (Nat × Obj)} {n s : Nat} {w0 : World} {p p' : Nat} {Ed Er Ed' : List (List Ent)} {W V : World} (h : BothX Q n s w0 p p' Ed Er W) (hs : Spares nowhere W V) {F2 : Nat → Prop} {p2 bk2 : Nat} {R2 : Nat → Row} (hd : IsDir F2 p2 bk2 n s R2 Ed' V) (h2 : ∀ k, F2 k → W.heap.size ≤ k ∧ k < V.heap.size) : BothX Q n s w0 p2 p' Ed' Er V := by
  obtain ⟨F, bk, F', bk', ⟨_, ⟨R', hr⟩, h1, h2', h3, h4⟩, hq⟩ := h
  refine ⟨F2, bk2, F', bk', ⟨⟨R2, hd⟩, ⟨R', hr.spares hs (fun _ _ _ h => h)⟩, fun k hk => ⟨Nat.le_trans h4.size (h2 k hk).1, (h2 k hk).2⟩, fun k hk => ⟨(h2' k hk).1, Nat.lt_of_lt_of_le (h2' k hk).2 hs.size⟩, fun k hk hk2 => ?_, h4.trans hs⟩, fun x hx => ⟨hs.heap (hq x hx).1 (fun h => h), fun hf => ?_, (hq x hx).2.2⟩⟩
  · have := (h2 k hk).1; have := (h2' k hk2).2; omega
  · have := (h2 _ hf).1; have := (Array.getElem?_eq_some_iff.1 (hq x hx).1).1; omega
section
variable {Q : List (Nat × Obj)} {n s : Nat} {w0 : World} {p p' : Nat} {Ed Er : List (List Ent)} {W : World}
theorem heldX_insert_d (h : BothX Q n s w0 p p' Ed Er W) (K : List UInt8) (hK : K.length = 32) (a sc tn : Nat) (ha : a < 4294967296) (hsc : sc < 65536) (htn : tn < 18446744073709551616) :
    Calls Try.prog 16 #[.pointer (some ⟨p, 0, none⟩), .agg (bytesV K), .int .u32 a, .int .u16 sc, .int .u64 tn] W fun e w' => e = .returned (.int .i64 (insE s (atRow Ed (bktF K n)) sc tn : Nat)) ∧ Hid (BothX Q n s w0 p p' (insF s Ed (bktF K n) ⟨tagF K, a, sc, tn⟩) Er w') := by
  obtain ⟨F, bk, F', bk', hB, hq⟩ := h
  obtain ⟨R, hd⟩ := hB.d
  refine (insert_any F p bk n s R Ed K a sc tn W hd (fun b hb => (hB.dF b hb).2) hK ha hsc htn).mono ?_
  rintro e w' ⟨rfl, hs, R2, hd'⟩
  exact ⟨rfl, Lib.hid (BothX.turned_d hB hq hs hd')⟩
theorem heldX_delete_d (h : BothX Q n s w0 p p' Ed Er W) (K : List UInt8) (hK : K.length = 32) (a : Nat) :
    Calls Try.prog 18 #[.pointer (some ⟨p, 0, none⟩), .agg (bytesV K), .int .u32 a] W fun e w' => e = .returned (.bool (hitF (tagF K) a (atRow Ed (bktF K n))).isSome) ∧ Hid (BothX Q n s w0 p p' (Ed.set (bktF K n) (delF (tagF K) a (atRow Ed (bktF K n)))) Er w') := by
  obtain ⟨F, bk, F', bk', hB, hq⟩ := h
  obtain ⟨R, hd⟩ := hB.d
  refine (delete_any F p bk n s R Ed K a W hd (fun b hb => (hB.dF b hb).2) hK).mono ?_
  rintro e w' ⟨rfl, hs, hd'⟩
  exact ⟨rfl, Lib.hid (BothX.turned_d hB hq hs hd')⟩
theorem heldX_purge_d (h : BothX Q n s w0 p p' Ed Er W) (f t turn : Nat) (hf : f < 4294967296) :
    Calls Try.prog 20 #[.pointer (some ⟨p, 0, none⟩), .int .u32 f, .int .u32 t, .int .u64 turn] W fun e w' => e = .returned (.int .i64 (goneN f t turn Ed : Nat)) ∧ Hid (BothX Q n s w0 p p' (sweepF f t turn Ed) Er w') := by
  obtain ⟨F, bk, F', bk', hB, hq⟩ := h
  obtain ⟨R, hd⟩ := hB.d
  refine (purge_any F p bk n s R Ed f t turn W hd (fun b hb => (hB.dF b hb).2) hf).mono ?_
  rintro e w' ⟨rfl, hs, hd'⟩
  exact ⟨rfl, Lib.hid (BothX.turned_d hB hq hs hd')⟩
theorem heldX_insert_r (h : BothX Q n s w0 p p' Ed Er W) (K : List UInt8) (hK : K.length = 32) (a sc tn : Nat) (ha : a < 4294967296) (hsc : sc < 65536) (htn : tn < 18446744073709551616) :
    Calls Try.prog 17 #[.pointer (some ⟨p', 0, none⟩), .agg (bytesV K), .int .u32 a, .int .u16 sc, .int .u64 tn] W fun e w' => e = .returned (.int .i64 (insE s (atRow Er (bktF K n)) sc tn : Nat)) ∧ Hid (BothX Q n s w0 p p' Ed (insF s Er (bktF K n) ⟨tagF K, a, sc, tn⟩) w') := by
  obtain ⟨F, bk, F', bk', hB, hq⟩ := h
  obtain ⟨R', hr⟩ := hB.r
  refine (refInsert_any F' p' bk' n s R' Er K a sc tn W hr hK ha hsc htn).mono ?_
  rintro e w' ⟨rfl, hs, F2, R2, hr2, hf2⟩
  exact ⟨rfl, Lib.hid (BothX.turned_r hB hq hs hr2 hf2)⟩
theorem heldX_delete_r (h : BothX Q n s w0 p p' Ed Er W) (K : List UInt8) (hK : K.length = 32) (a : Nat) :
    Calls Try.prog 19 #[.pointer (some ⟨p', 0, none⟩), .agg (bytesV K), .int .u32 a] W fun e w' => e = .returned (.bool (hitF (tagF K) a (atRow Er (bktF K n))).isSome) ∧ Hid (BothX Q n s w0 p p' Ed (Er.set (bktF K n) (delF (tagF K) a (atRow Er (bktF K n)))) w') := by
  obtain ⟨F, bk, F', bk', hB, hq⟩ := h
  obtain ⟨R', hr⟩ := hB.r
  refine (refDelete_any F' p' bk' n s R' Er K a W hr hK).mono ?_
  rintro e w' ⟨rfl, hs, F2, R2, hr2, hf2⟩
  exact ⟨rfl, Lib.hid (BothX.turned_r hB hq hs hr2 hf2)⟩
theorem heldX_purge_r (h : BothX Q n s w0 p p' Ed Er W) (f t turn : Nat) (hf : f < 4294967296) (ht : t < 4294967296) :
    Calls Try.prog 21 #[.pointer (some ⟨p', 0, none⟩), .int .u32 f, .int .u32 t, .int .u64 turn] W fun e w' => e = .returned (.int .i64 (goneN f t turn Er : Nat)) ∧ Hid (BothX Q n s w0 p p' Ed (sweepF f t turn Er) w') := by
  obtain ⟨F, bk, F', bk', hB, hq⟩ := h
  obtain ⟨R', hr⟩ := hB.r
  refine (refPurge_any F' p' bk' n s R' Er f t turn W hr hf ht).mono ?_
  rintro e w' ⟨rfl, hs, F2, R2, hr2, hf2⟩
  exact ⟨rfl, Lib.hid (BothX.turned_r hB hq hs hr2 hf2)⟩
theorem heldX_probe_d (h : BothX Q n s w0 p p' Ed Er W) (K : List UInt8) (hK : K.length = 32) :
    Calls Try.prog 27 #[.pointer (some ⟨p, 0, none⟩), .agg (bytesV K)] W fun e w' => ∃ a c, e = .returned (.slice a (probeF (tagF K) (atRow Ed (bktF K n))).length c) ∧ Hid (Told w' a (probeF (tagF K) (atRow Ed (bktF K n)))) ∧ Hid (Spares nowhere W w') ∧ Hid (BothX Q n s w0 p p' Ed Er w') := by
  refine (both_probe_d h.both K hK).mono ?_
  rintro e w' ⟨a, c, rfl, h1, h2, _⟩
  exact ⟨a, c, rfl, h1, h2, Lib.hid (h.quiet h2.out)⟩
theorem heldX_probe_r (h : BothX Q n s w0 p p' Ed Er W) (K : List UInt8) (hK : K.length = 32) :
    Calls Try.prog 15 #[.pointer (some ⟨p', 0, none⟩), .agg (bytesV K)] W fun e w' => ∃ a c, e = .returned (.slice a (probeF (tagF K) (atRow Er (bktF K n))).length c) ∧ Hid (Told w' a (probeF (tagF K) (atRow Er (bktF K n)))) ∧ Hid (Spares nowhere W w') ∧ Hid (BothX Q n s w0 p p' Ed Er w') := by
  refine (both_probe_r h.both K hK).mono ?_
  rintro e w' ⟨a, c, rfl, h1, h2, _⟩
  exact ⟨a, c, rfl, h1, h2, Lib.hid (h.quiet h2.out)⟩
theorem heldX_bucket_d (h : BothX Q n s w0 p p' Ed Er W) (K : List UInt8) (hK : K.length = 32) :
    Calls Try.prog 30 #[.pointer (some ⟨p, 0, none⟩), .agg (bytesV K)] W fun e w' => e = .returned (.int .i64 (bktF K n : Nat)) ∧ Hid (BothX Q n s w0 p p' Ed Er w') := by
  refine (both_bucket_d h.both K hK).mono ?_
  rintro e w' ⟨rfl, h2⟩
  exact ⟨rfl, Lib.hid (h.quiet h2)⟩
theorem heldX_bucket_r (h : BothX Q n s w0 p p' Ed Er W) (K : List UInt8) (hK : K.length = 32) :
    Calls Try.prog 31 #[.pointer (some ⟨p', 0, none⟩), .agg (bytesV K)] W fun e w' => e = .returned (.int .i64 (bktF K n : Nat)) ∧ Hid (BothX Q n s w0 p p' Ed Er w') := by
  refine (both_bucket_r h.both K hK).mono ?_
  rintro e w' ⟨rfl, h2⟩
  exact ⟨rfl, Lib.hid (h.quiet h2)⟩
theorem heldX_len (h : BothX Q n s w0 p p' Ed Er W) :
    Calls Try.prog 28 #[.pointer (some ⟨p, 0, none⟩)] W fun e w' => e = .returned (.int .i64 (lenF Ed : Nat)) ∧ Hid (BothX Q n s w0 p p' Ed Er w') := by
  obtain ⟨F, bk, F', bk', hB, hq⟩ := h
  obtain ⟨R, hd⟩ := hB.d
  refine (len_any F p bk n s R Ed W hd).mono ?_
  rintro e w' ⟨rfl, rfl⟩
  exact ⟨rfl, Lib.hid ⟨F, bk, F', bk', hB, hq⟩⟩
theorem heldX_all_d (h : BothX Q n s w0 p p' Ed Er W) :
    Calls Try.prog 32 #[.pointer (some ⟨p, 0, none⟩)] W fun e w' => ∃ a c, e = .returned (.slice a Ed.flatten.length c) ∧ Hid (Told w' a Ed.flatten) ∧ Hid (Spares nowhere W w') ∧ Hid (BothX Q n s w0 p p' Ed Er w') := by
  have h0 := h
  obtain ⟨F, bk, F', bk', hB, hq⟩ := h
  obtain ⟨R, hd⟩ := hB.d
  refine (all_any F p bk n s R Ed W hd).mono ?_
  rintro e w' ⟨a, c, rfl, h1, h2⟩
  exact ⟨a, c, rfl, Lib.hid h1, Lib.hid h2, Lib.hid (h0.quiet h2)⟩
theorem heldX_all_r (h : BothX Q n s w0 p p' Ed Er W) :
    Calls Try.prog 29 #[.pointer (some ⟨p', 0, none⟩)] W fun e w' => ∃ a c, e = .returned (.slice a Er.flatten.length c) ∧ Hid (Told w' a Er.flatten) ∧ Hid (Spares nowhere W w') ∧ Hid (BothX Q n s w0 p p' Ed Er w') := by
  have h0 := h
  obtain ⟨F, bk, F', bk', hB, hq⟩ := h
  obtain ⟨R', hr⟩ := hB.r
  refine (refAll_any F' p' bk' n s R' Er W hr).mono ?_
  rintro e w' ⟨a, c, rfl, h1, h2⟩
  exact ⟨a, c, rfl, Lib.hid h1, Lib.hid h2, Lib.hid (h0.quiet h2)⟩
theorem heldX_bytes_d (h : BothX Q n s w0 p p' Ed Er W) (hlen : (dirB n s Ed).length ≤ 1000000) :
    Calls Try.prog 23 #[.pointer (some ⟨p, 0, none⟩)] W fun e w' => ∃ g c, e = .returned (.slice (some ⟨g, 0, none⟩) (dirB n s Ed).length c) ∧ Hid (BytesAt w' (some ⟨g, 0, none⟩) (dirB n s Ed)) ∧ (dirB n s Ed).length ≤ c ∧ c ≤ 9223372036854775807 ∧ Hid (Spares nowhere W w') ∧ Hid (BothX Q n s w0 p p' Ed Er w') := by
  have h0 := h
  obtain ⟨F, bk, F', bk', hB, hq⟩ := h
  obtain ⟨R, hd⟩ := hB.d
  refine (dBytes_any F p bk n s R Ed W hd hlen).mono ?_
  rintro e w' ⟨g, c, rfl, h1, h2, h4, h3⟩
  exact ⟨g, c, rfl, Lib.hid h1, h2, h4, Lib.hid h3, Lib.hid (h0.quiet h3)⟩
theorem heldX_bytes_r (h : BothX Q n s w0 p p' Ed Er W) (hlen : (dirB n s Er).length ≤ 1000000) :
    Calls Try.prog 25 #[.pointer (some ⟨p', 0, none⟩)] W fun e w' => ∃ g c, e = .returned (.slice (some ⟨g, 0, none⟩) (dirB n s Er).length c) ∧ Hid (BytesAt w' (some ⟨g, 0, none⟩) (dirB n s Er)) ∧ (dirB n s Er).length ≤ c ∧ c ≤ 9223372036854775807 ∧ Hid (Spares nowhere W w') ∧ Hid (BothX Q n s w0 p p' Ed Er w') := by
  have h0 := h
  obtain ⟨F, bk, F', bk', hB, hq⟩ := h
  obtain ⟨R', hr⟩ := hB.r
  refine (refDBytes_any F' p' bk' n s R' Er W hr hlen).mono ?_
  rintro e w' ⟨g, c, rfl, h1, h2, h4, h3⟩
  exact ⟨g, c, rfl, Lib.hid h1, h2, h4, Lib.hid h3, Lib.hid (h0.quiet h3)⟩
/-- What the program wrote, read by the program. -/
theorem heldX_open (h : BothX Q n s w0 p p' Ed Er W) {g c : Nat} (hat : BytesAt W (some ⟨g, 0, none⟩) (dirB n s Ed)) (hc : (dirB n s Ed).length ≤ c) (hbig : c ≤ 9223372036854775807) (hg : ∀ r ∈ Ed, ∀ e ∈ r, goodE e) :
    Calls Try.prog 22 #[.slice (some ⟨g, 0, none⟩) (dirB n s Ed).length c] W fun e w' => ∃ p2, e = .returned (.tuple #[.pointer (some ⟨p2, 0, none⟩), .int .i64 0]) ∧ Hid (Spares nowhere W w') ∧ Hid (BothX Q n s w0 p2 p' Ed Er w') := by
  have hb := h.both.bounds
  have hl := h.both.len
  refine (open_any (some ⟨g, 0, none⟩) (dirB n s Ed) c W hat hc hbig).mono ?_
  have hd := dirO_dirB n s Ed hl.1 hb.1 hg hb.2.2.1 hb.2.2.2.1 hb.2.2.2.2.1 hb.2.2.2.2.2
  rintro e w' ⟨hs, ⟨n', s', E, p2, F, bk, R, he, rfl, hd2, h2⟩ | ⟨he, _⟩⟩
  · rw [hd] at he
    simp only [Option.some.injEq, Prod.mk.injEq] at he
    obtain ⟨rfl, rfl, rfl⟩ := he
    exact ⟨p2, rfl, Lib.hid hs, Lib.hid (h.opened hs hd2 h2)⟩
  · rw [hd] at he; cases he
end
theorem BothX.small {Q : List (Nat × Obj)} {n s : Nat} {w0 : World} {p p' : Nat} {Ed Er : List (List Ent)} {W : World} (h : BothX Q n s w0 p p' Ed Er W) (hn : n ≤ 8) : (dirB n s Ed).length ≤ 3000 ∧ (dirB n s Er).length ≤ 3000 := by
  have hb := h.both.bounds
  have hl := h.both.len
  have h1 := rowsB_len Ed (fun r hr => Nat.le_trans (hb.1 r hr) hb.2.2.2.2.2)
  have h2 := rowsB_len Er (fun r hr => Nat.le_trans (hb.2.1 r hr) hb.2.2.2.2.2)
  rw [hl.1] at h1
  rw [hl.2] at h2
  unfold dirB
  rw [List.length_append, List.length_append, dirH_len]
  omega
theorem BothX.flat {Q : List (Nat × Obj)} {n s : Nat} {w0 : World} {p p' : Nat} {Ed Er : List (List Ent)} {W : World} (h : BothX Q n s w0 p p' Ed Er W) : Ed.flatten.length ≤ 65536 ∧ lenF Ed = Ed.flatten.length := by
  have hb := h.both.bounds
  have hl := h.both.len
  refine ⟨Nat.le_trans (flat_len Ed s hb.1) (by rw [hl.1]; exact Nat.le_trans (Nat.mul_le_mul hb.2.2.2.1 hb.2.2.2.2.2) (by omega)), ?_⟩
  unfold lenF
  rw [List.length_flatten]
/-- All entries as an entry of bytes has them. -/
def Good (E : List (List Ent)) : Prop := ∀ r ∈ E, ∀ e ∈ r, goodE e
theorem Good.new (n : Nat) : Good (List.replicate n []) := fun r hr e he => by rw [(List.mem_replicate.1 hr).2] at he; cases he
theorem Good.row {E : List (List Ent)} (h : Good E) (b : Nat) : ∀ e ∈ atRow E b, goodE e := by
  intro e he
  unfold atRow at he
  rw [List.getD_eq_getElem?_getD] at he
  cases hE : E[b]? with
  | none => rw [hE] at he; cases he
  | some r => rw [hE] at he; exact h r (List.mem_of_getElem? hE) e he
theorem Good.set {E : List (List Ent)} (h : Good E) (b : Nat) {l : List Ent} (hl : ∀ e ∈ l, goodE e) : Good (E.set b l) := by
  intro r hr
  rcases List.mem_or_eq_of_mem_set hr with h1 | h1
  · exact h r h1
  · rw [h1]; exact hl
theorem Good.ins {E : List (List Ent)} (h : Good E) (s b : Nat) {x : Ent} (h1 : x.tag < 4096) (h2 : x.at_ < 4294967296) (h3 : x.sec < 65536) : Good (insF s E b x) := by
  unfold insF
  split
  · rename_i hi
    unfold insE at hi
    split at hi
    · omega
    · rename_i hn
      refine h.set b fun e he => ?_
      rcases List.mem_append.1 he with he | he
      · exact h.row b e he
      · rw [List.mem_singleton.1 he]
        exact ⟨h1, h2, by omega, h3, by omega⟩
  · exact h
theorem Good.del {E : List (List Ent)} (h : Good E) (t a b : Nat) : Good (E.set b (delF t a (atRow E b))) := by
  refine h.set b fun e he => ?_
  unfold delF at he
  split at he
  · exact h.row b e (List.mem_of_mem_eraseIdx he)
  · exact h.row b e he
theorem Good.sweep {E : List (List Ent)} (h : Good E) (f t turn : Nat) : Good (sweepF f t turn E) := by
  intro r hr e he
  obtain ⟨r0, h0, rfl⟩ := List.mem_map.1 hr
  exact h r0 h0 e (List.mem_filter.1 he).1
end Go.Proofs.Ytihbjkdgfflnfaa
namespace Go.Proofs.Ytihbjkdgfflnfaa
open Go.RowKit

structure Ac where
  what : Int
  k : Nat
  at_ : Nat
  to : Nat
  sec : Nat
  turn : Nat
  own : Bool
def acCells (x : Ac) : List Value := [.int .i64 x.what, .int .u16 x.k, .int .u32 x.at_, .int .u32 x.to, .int .u16 x.sec, .int .u64 x.turn, .bool x.own]
def acIn (x : Ac) : Prop := x.k < 65536 ∧ x.at_ < 4294967296 ∧ x.to < 4294967296 ∧ x.sec < 65536 ∧ x.turn < 18446744073709551616
def ActsAt (W : World) (a : Option Addr) (l : List Ac) : Prop := ∀ i (h : i < l.length), acIn l[i] ∧ ∃ b off, a = some ⟨b, off, none⟩ ∧ ∀ j u, (acCells l[i])[j]? = some u → W.cell? ⟨b, off + i * 7 + j, none⟩ = some u
/-- Thirty-two bytes stored into a new variable. -/
def k32Z (w : World) : World := w.alloc (.cells (bytesV (List.replicate 32 0)) 36)
theorem k32Z_there (w : World) (X : List UInt8) (hX : X.length = 32) : (k32Z w).there w.heap.size 0 (bytesV X).size :=
  there_of (heap_alloc_new w _) 0 _ (by rw [bytesV_size, bytesV_size, hX]; simp)
theorem k32Z_heap (w : World) (X : List UInt8) (hX : X.length = 32) : ((k32Z w).setCells w.heap.size 0 (bytesV X).toList).heap[w.heap.size]? = some (.cells (bytesV X) 36 (0, 0)) := by
  have := heap_setCells (g := w.heap.size) (t := 36) (Lib.byteCells X) [] (Lib.byteCells (List.replicate 32 0)) [] (k32Z w) (by rw [List.append_nil]; exact heap_alloc_new w _) (by rw [byteCells_len, byteCells_len, hX]; simp)
  rw [List.append_nil] at this
  exact this
theorem k32Z_spares (w : World) (X : List UInt8) : Spares nowhere w ((k32Z w).setCells w.heap.size 0 (bytesV X).toList) :=
  ((Spares.refl nowhere w).alloc _).trans' (F' := fun b => b = w.heap.size) (spares_cells _ _ (Spares.refl _ _)) (fun b hb => .inr (by omega))
/-- A key's block, read. -/
theorem keyBlk {W : World} {kb : Nat} {K : List UInt8} (h : W.heap[kb]? = some (.cells (bytesV K) 36 (0, 0))) : W.rangeAt kb 0 (Lib.byteCells K) := by
  intro j u hj
  rw [Lib.cell_of_heap h, Nat.zero_add]
  simpa [bytesV] using hj
theorem probeF_mem (t : Nat) (l : List Ent) : ∀ e ∈ probeF t l, e ∈ l := fun e he => probeK_mem t l l.length e he
theorem atRow_len {E : List (List Ent)} {s : Nat} (h : ∀ r ∈ E, r.length ≤ s) (b : Nat) : (atRow E b).length ≤ s := by
  unfold atRow
  rw [List.getD_eq_getElem?_getD]
  cases hE : E[b]? with
  | none => simp
  | some r => exact h r (List.mem_of_getElem? hE)
theorem light_any (a : Option Addr) (L c : Nat) (w : World) : Calls Try.prog 10 #[.slice a L c] w fun e w' => e = .returned (.bool (decide ((L : Int) ≤ 60))) ∧ w = w' := by
  go_enter Try.func10, Try.ntmps10
  go_wp2
  go_ret
  exact ⟨rfl, rfl⟩
end Go.Proofs.Ytihbjkdgfflnfaa
namespace Go.Proofs.Ytihbjkdgfflnfaa
open Go.ChangeShapes Go.WideShapes Go.ChangeAt Go.RowKit Go.Deep

theorem list_choose {α : Type} {Pr : Nat → α → Prop} : ∀ n, (∀ i, i < n → ∃ x, Pr i x) → ∃ l : List α, l.length = n ∧ ∀ i (h : i < l.length), Pr i l[i]
  | 0, _ => ⟨[], rfl, fun i h => absurd h (Nat.not_lt_zero _)⟩
  | n + 1, h => by
    obtain ⟨l, hl, hP⟩ := list_choose n (fun i hi => h i (by omega))
    obtain ⟨x, hx⟩ := h n (by omega)
    refine ⟨l ++ [x], by simp [hl], fun i hi => ?_⟩
    by_cases hin : i < l.length
    · rw [List.getElem_append_left hin]
      exact hP i hin
    · obtain rfl : i = l.length := by simp at hi; omega
      rw [List.getElem_append_right (Nat.le_refl _)]
      simp only [Nat.sub_self, List.getElem_cons_zero]
      rw [hl]
      exact hx
/-- A slice of acts that came in. -/
theorem acts_open {H : Type} {W : World} {enc : TypeId × Value → H} {v : Value} {d : DataW H} {p : List MemPlace} {fuel : Nat} {a : Option Addr} {len cap : Nat} (hv : v = .slice a len cap)
    (hf : DataW.trod enc Try.prog W 0 (fun _ => true) true fuel 22 v.cells.toList = some (d, p)) :
    ∃ l : List Ac, len = l.length ∧ ActsAt W a l ∧ len ≤ maxLen := by
  subst hv
  obtain ⟨hm, _, _, hx⟩ := structs_open Try.underlying22 Try.underlying34 (by kernel_rfl) (by kernel_rfl) (by decide) hf
  have hex : ∀ i, i < len → ∃ x : Ac, acIn x ∧ ∃ b off, a = some ⟨b, off, none⟩ ∧ ∀ j u, (acCells x)[j]? = some u → W.cell? ⟨b, off + i * 7 + j, none⟩ = some u := by
    intro i hi
    obtain ⟨b, off, rfl, n, hj⟩ := hx i hi
    obtain ⟨v0, y0, h0, t0⟩ := hj 0 _ rfl
    obtain ⟨v1, y1, h1, t1⟩ := hj 1 _ rfl
    obtain ⟨v2, y2, h2, t2⟩ := hj 2 _ rfl
    obtain ⟨v3, y3, h3, t3⟩ := hj 3 _ rfl
    obtain ⟨v4, y4, h4, t4⟩ := hj 4 _ rfl
    obtain ⟨v5, y5, h5, t5⟩ := hj 5 _ rfl
    obtain ⟨v6, y6, h6, t6⟩ := hj 6 _ rfl
    obtain ⟨z0, e0, _, w0⟩ := DataW.trod_int Try.underlying3 t0
    injection e0 with e0
    subst e0
    obtain ⟨z1, e1, _, w1⟩ := DataW.trod_int Try.underlying30 t1
    injection e1 with e1
    subst e1
    obtain ⟨z2, e2, _, w2⟩ := DataW.trod_int Try.underlying31 t2
    injection e2 with e2
    subst e2
    obtain ⟨z3, e3, _, w3⟩ := DataW.trod_int Try.underlying31 t3
    injection e3 with e3
    subst e3
    obtain ⟨z4, e4, _, w4⟩ := DataW.trod_int Try.underlying30 t4
    injection e4 with e4
    subst e4
    obtain ⟨z5, e5, _, w5⟩ := DataW.trod_int Try.underlying32 t5
    injection e5 with e5
    subst e5
    obtain ⟨z6, e6, _⟩ := DataW.trod_bool Try.underlying4 t6
    injection e6 with e6
    subst e6
    obtain ⟨k1, b1, rfl⟩ := u16_nat w1
    obtain ⟨k2, b2, rfl⟩ := u32_nat w2
    obtain ⟨k3, b3, rfl⟩ := u32_nat w3
    obtain ⟨k4, b4, rfl⟩ := u16_nat w4
    obtain ⟨k5, b5, rfl⟩ := u64_nat w5
    refine ⟨⟨z0, k1, k2, k3, k4, k5, z6⟩, ⟨b1, b2, b3, b4, b5⟩, b, off, rfl, fun j u hu => ?_⟩
    match j with
    | 0 => cases hu; exact h0
    | 1 => cases hu; exact h1
    | 2 => cases hu; exact h2
    | 3 => cases hu; exact h3
    | 4 => cases hu; exact h4
    | 5 => cases hu; exact h5
    | 6 => cases hu; exact h6
    | j + 7 => simp [acCells] at hu
  obtain ⟨l, hl, hP⟩ := list_choose len hex
  exact ⟨l, hl.symm, hP, hm⟩
end Go.Proofs.Ytihbjkdgfflnfaa
namespace Go.Proofs.Ytihbjkdgfflnfaa
open Go.RowKit

def RowPost (D : List UInt8) (w : World) (e : Ending) (w' : World) : Prop := ∃ v, e = .returned v ∧ RowT w.heap.size w' v D ∧ Spares nowhere w w'
set_option maxRecDepth 100000 in
set_option maxHeartbeats 4000000 in
theorem refDBytesT_any (F : Nat → Prop) (p bk n s : Nat) (R : Nat → Row) (E : List (List Ent)) (w : World) (h : IsRef F p bk n s R E w) (hlen : (dirB n s E).length ≤ 1000000) :
    Calls Try.prog 25 #[.pointer (some ⟨p, 0, none⟩)] w (RowPost (dirB n s E) w) := by
  have hEn := h.rows.len
  have hn0 := h.n0
  have hn1 := h.n1
  have hs1 := h.s1
  have hcell : ∀ V, Spares (fun b => w.heap.size ≤ b) w V → V.cell? ⟨p, 1, none⟩ = some (.int .i64 s) ∧ V.cell? ⟨p, 0, none⟩ = some (.slice (some ⟨bk, 0, none⟩) n n) ∧ ∀ k (hk : k < E.length), V.cell? ⟨bk, k, none⟩ = some (.slice (R k).ad E[k].length (R k).cap) ∧ EntsV V (R k).ad E[k] := fun V hV => by
    have h' := h.spares hV (fun b _ hlt hB => by omega)
    exact ⟨by rw [Lib.cell_of_heap h'.hd]; rfl, by rw [Lib.cell_of_heap h'.hd]; rfl, fun k hk => ⟨(h'.rows.cell k hk).1, (h'.rows.row k hk).ents_v⟩⟩
  have HLE : Hid (∀ r ∈ E, r.length ≤ 16) := Lib.hid (fun r hr => Nat.le_trans (h.lens r hr) hs1)
  have HOK : Hid (∀ r ∈ E, ∀ e ∈ r, e.ok) := Lib.hid h.rows.ok
  obtain ⟨B, hB⟩ : ∃ B, w.heap.size = B := ⟨_, rfl⟩
  rw [hB] at hcell
  have HC := Lib.hid hcell
  have HB := Lib.hid hB
  have HLEN := Lib.hid hlen
  have kc := fun (w : World) (C : Array Value) (n c : Nat) => Lib.run_convert_bytes_const (P := Try.prog) w 49 5 C n c Try.underlying49 Try.underlying5
  have ks := slice_a16
  clear h hcell hlen hB
  go_enter Try.func25, Try.ntmps25
  go_upto_region 1 with (fail)
  have kcd : ∀ (w : World) (C : Array Value) (n c : Nat), (convert 49 49 (.slice (some ⟨w.heap.size, 0, none⟩) n c)).run Try.prog (w.alloc (.cells C 5)).drew = .ok (.slice (some ⟨w.heap.size, 0, none⟩) n c) (w.alloc (.cells C 5 (C.size, C.size + 1))).drew := fun w C n c => kc w.drew C n c
  have y0 : IntKind.u64.wrap (n : Int) = (n : Int) := by rw [IntKind.wrap_u64]; omega
  have y1 : IntKind.u64.wrap (s : Int) = (s : Int) := by rw [IntKind.wrap_u64]; omega
  have SD : Hid (Spares (fun b => B ≤ b) w w.drew) := Lib.hid (Spares.refl _ _).drew
  have SA : Hid (Spares (fun b => B ≤ b) w (w.alloc (.cells #[.int .u8 68, .int .u8 73, .int .u8 82, .int .u8 49] 5)).drew) := Lib.hid ((Spares.refl _ _).alloc _).drew
  have SB : Hid (Spares (fun b => B ≤ b) w (w.alloc (.cells (Lib.byteCells [68, 73, 82, 49]).toArray 5 (4, 5))).drew) := Lib.hid ((Spares.refl _ _).alloc _).drew
  have HKEEP : Hid (∀ V, Spares (fun b => B ≤ b) w V → V.cell? ⟨p, 0, none⟩ = some (.slice (some ⟨bk, 0, none⟩) n n) ∧ V.cell? ⟨p, 1, none⟩ = some (.int .i64 s)) := Lib.hid (fun V hV => ⟨(HC.out V hV).2.1, (HC.out V hV).1⟩)
  have CP1 : Hid (Calls Try.prog 44 #[.slice (some ⟨w.heap.size, 0, none⟩) 4 4, .int .u64 n, .int .i64 4] (w.alloc (.cells (Lib.byteCells [68, 73, 82, 49]).toArray 5 (4, 5))).drew fun e w' => ∃ v', e = .returned v' ∧ Hid (RowT B w' v' ([68, 73, 82, 49] ++ beN 4 n)) ∧ Hid (Spares (fun b => B ≤ b) w w')) := Lib.hid (by
    refine (refPutT_any B _ [68, 73, 82, 49] n 4 _ (by rw [← HB.out]; exact (rowT_lit w [68, 73, 82, 49] (by decide)).spares (F := nowhere) (Spares.refl _ _).drew (fun _ _ h => h)) (by rw [← HB.out]; exact SB.out.size) (by omega) (by simp)).mono ?_
    rintro e w' ⟨v', rfl, h1, h2⟩
    exact ⟨v', rfl, Lib.hid h1, Lib.hid (SB.out.trans h2)⟩)
  have CP2 : Hid (∀ V v, Hid (RowT B V v ([68, 73, 82, 49] ++ beN 4 n)) → Hid (Spares (fun b => B ≤ b) w V) → Calls Try.prog 44 #[v, .int .u64 s, .int .i64 4] V fun e w' => ∃ v', e = .returned v' ∧ Hid (RowT B w' v' (preK n s E 0)) ∧ Hid (Spares (fun b => B ≤ b) w w')) := Lib.hid (fun V v hr hs => by
    refine (refPutT_any B v _ s 4 V hr.out (by rw [← HB.out]; exact hs.out.size) (by omega) (by simp [beN_len])).mono ?_
    rintro e w' ⟨v', rfl, h1, h2⟩
    exact ⟨v', rfl, Lib.hid (by rw [preK_zero]; exact h1), Lib.hid (hs.out.trans h2)⟩)
  refine wp_region_held_drew (S := fun w' => w'.cell? ⟨p, 0, none⟩ = some (.slice (some ⟨bk, 0, none⟩) n n) ∧ w'.cell? ⟨p, 1, none⟩ = some (.int .i64 s)) (by kernel_rfl) (HKEEP.out _ SD.out) (fun hS0 => ?_)
  refine wpAnyH_take (i := 2) (v := ?_) rfl (by kernel_rfl) (by kernel_rfl) (by kernel_rfl) (fun _ _ _ h => h) (Or.inl ⟨by rfl, ?_⟩) (by assumption) ?_
  rotate_left
  · intro w9 hS9
    obtain ⟨hS8, hS7⟩ := hS9
    go_simp
    try with_reducible rfl
  simp only [List.getElem_toArray, List.getElem_cons_succ, List.getElem_cons_zero, Act.put, List.setIfInBounds_toArray, List.set_cons_succ, List.set_cons_zero]
  refine wpAnyH_take (i := 3) (v := ?_) rfl (by kernel_rfl) (by kernel_rfl) (by kernel_rfl) (fun _ _ _ h => h) (Or.inl ⟨by rfl, ?_⟩) (by assumption) ?_
  rotate_left
  · intro w9 hS9
    obtain ⟨hS8, hS7⟩ := hS9
    go_simp
    try with_reducible rfl
  simp only [List.getElem_toArray, List.getElem_cons_succ, List.getElem_cons_zero, Act.put, List.setIfInBounds_toArray, List.set_cons_succ, List.set_cons_zero]
  refine wpAnyH_take (i := 4) (v := ?_) rfl (by kernel_rfl) (by kernel_rfl) (by kernel_rfl) (fun _ _ _ h => h) (Or.inl ⟨by rfl, ?_⟩) (by assumption) ?_
  rotate_left
  · intro w9 hS9
    obtain ⟨hS8, hS7⟩ := hS9
    go_simp
    try with_reducible rfl
  simp only [List.getElem_toArray, List.getElem_cons_succ, List.getElem_cons_zero, Act.put, List.setIfInBounds_toArray, List.set_cons_succ, List.set_cons_zero]
  refine wpAnyH_take (i := 5) (v := ?_) rfl (by kernel_rfl) (by kernel_rfl) (by kernel_rfl) (fun _ _ _ h => h) (Or.inl ⟨by rfl, ?_⟩) (by assumption) ?_
  rotate_left
  · intro w9 hS9
    obtain ⟨hS8, hS7⟩ := hS9
    go_simp
    try with_reducible rfl
  simp only [List.getElem_toArray, List.getElem_cons_succ, List.getElem_cons_zero, Act.put, List.setIfInBounds_toArray, List.set_cons_succ, List.set_cons_zero]
  refine wpAnyH_take (i := 6) (v := ?_) rfl (by kernel_rfl) (by kernel_rfl) (by kernel_rfl) (fun _ _ _ h => h) (Or.inl ⟨by rfl, ?_⟩) (by assumption) ?_
  rotate_left
  · intro w9 hS9
    obtain ⟨hS8, hS7⟩ := hS9
    go_simp
    try with_reducible rfl
  simp only [List.getElem_toArray, List.getElem_cons_succ, List.getElem_cons_zero, Act.put, List.setIfInBounds_toArray, List.set_cons_succ, List.set_cons_zero]
  refine wpAnyH_take (i := 7) (v := ?_) rfl (by kernel_rfl) (by kernel_rfl) (by kernel_rfl) (fun _ _ _ h => h) (Or.inl ⟨by rfl, ?_⟩) (by assumption) ?_
  rotate_left
  · intro w9 hS9
    obtain ⟨hS8, hS7⟩ := hS9
    go_simp
    try with_reducible rfl
  simp only [List.getElem_toArray, List.getElem_cons_succ, List.getElem_cons_zero, Act.put, List.setIfInBounds_toArray, List.set_cons_succ, List.set_cons_zero]
  refine wpAnyH_take (i := 9) (v := ?_) rfl (by kernel_rfl) (by kernel_rfl) (by kernel_rfl) (fun _ _ _ h => h) (Or.inl ⟨by rfl, ?_⟩) (by assumption) ?_
  rotate_left
  · intro w9 hS9
    obtain ⟨hS8, hS7⟩ := hS9
    go_simp
    try with_reducible rfl
  simp only [List.getElem_toArray, List.getElem_cons_succ, List.getElem_cons_zero, Act.put, List.setIfInBounds_toArray, List.set_cons_succ, List.set_cons_zero]
  refine wpAnyH_take (i := 10) (v := ?_) rfl (by kernel_rfl) (by kernel_rfl) (by kernel_rfl) (fun _ _ _ h => h) (Or.inl ⟨by rfl, ?_⟩) (by assumption) ?_
  rotate_left
  · intro w9 hS9
    obtain ⟨hS8, hS7⟩ := hS9
    go_simp
    try with_reducible rfl
  simp only [List.getElem_toArray, List.getElem_cons_succ, List.getElem_cons_zero, Act.put, List.setIfInBounds_toArray, List.set_cons_succ, List.set_cons_zero]
  refine wpAnyH_take (i := 11) (v := ?_) rfl (by kernel_rfl) (by kernel_rfl) (by kernel_rfl) (fun _ _ _ h => h) (Or.inl ⟨by rfl, ?_⟩) (by assumption) ?_
  rotate_left
  · intro w9 hS9
    obtain ⟨hS8, hS7⟩ := hS9
    go_simp
    try with_reducible rfl
  simp only [List.getElem_toArray, List.getElem_cons_succ, List.getElem_cons_zero, Act.put, List.setIfInBounds_toArray, List.set_cons_succ, List.set_cons_zero]
  refine wpAnyH_take (i := 12) (v := ?_) rfl (by kernel_rfl) (by kernel_rfl) (by kernel_rfl) (fun _ _ _ h => h) (Or.inl ⟨by rfl, ?_⟩) (by assumption) ?_
  rotate_left
  · intro w9 hS9
    obtain ⟨hS8, hS7⟩ := hS9
    go_simp
    try with_reducible rfl
  simp only [List.getElem_toArray, List.getElem_cons_succ, List.getElem_cons_zero, Act.put, List.setIfInBounds_toArray, List.set_cons_succ, List.set_cons_zero]
  refine wpAnyH_take (i := 13) (v := ?_) rfl (by kernel_rfl) (by kernel_rfl) (by kernel_rfl) (fun _ _ _ h => h) (Or.inl ⟨by rfl, ?_⟩) (by assumption) ?_
  rotate_left
  · intro w9 hS9
    obtain ⟨hS8, hS7⟩ := hS9
    go_simp
    try with_reducible rfl
  simp only [List.getElem_toArray, List.getElem_cons_succ, List.getElem_cons_zero, Act.put, List.setIfInBounds_toArray, List.set_cons_succ, List.set_cons_zero]
  refine wpAnyH_ready (rs := [0]) (by kernel_rfl) (by simp) ?_
  refine AllReadyH.cons rfl (fun K9 hK9 => ?_) ?_
  · go_simp
    refine hK9.out _ _ ?_ (fun hS9 => ?_)
    · exact HKEEP.out _ SA.out
    clear hK9 K9
    refine wpAnyH_ready (rs := [1]) (by kernel_rfl) (by simp) ?_
    refine AllReadyH.cons rfl (fun K9 hK9 => ?_) ?_
    · go_simp
      change K9 _ (w.alloc (.cells (Lib.byteCells [68, 73, 82, 49]).toArray 5 (4, 5))).drew
      refine hK9.out _ _ ?_ (fun hS9 => ?_)
      · exact HKEEP.out _ SB.out
      clear hK9 K9
      refine wpAnyH_ready (rs := [8]) (by kernel_rfl) (by simp) ?_
      refine AllReadyH.cons rfl (fun K9 hK9 => ?_) ?_
      · go_simp
        go_at_call 44
        with_reducible refine Calls.mono CP1.out ?_
        rintro e x1 ⟨v1, rfl, hr1, hs1⟩
        try go_simp
        refine hK9.out _ _ ?_ (fun hS9 => ?_)
        · exact HKEEP.out _ hs1.out
        clear hK9 K9
        refine wpAnyH_ready (rs := [14]) (by kernel_rfl) (by simp) ?_
        refine AllReadyH.cons rfl (fun K9 hK9 => ?_) ?_
        · go_simp
          go_at_call 44
          with_reducible refine Calls.mono (CP2.out _ _ hr1 hs1) ?_
          rintro e x2 ⟨v2, rfl, hr2, hs2⟩
          try go_simp
          refine hK9.out _ _ ?_ (fun hS9 => ?_)
          · exact HKEEP.out _ hs2.out
          clear hK9 K9
          refine wpAnyH_take (i := 15) (v := ?_) rfl (by kernel_rfl) (by kernel_rfl) (by kernel_rfl) (fun _ _ _ h => h) (Or.inl ⟨by rfl, ?_⟩) (by assumption) ?_
          rotate_left
          · intro w9 hS9
            obtain ⟨hS8, hS7⟩ := hS9
            go_simp
            try with_reducible rfl
          simp only [List.getElem_toArray, List.getElem_cons_succ, List.getElem_cons_zero, Act.put, List.setIfInBounds_toArray, List.set_cons_succ, List.set_cons_zero]
          refine wpAnyH_done (by kernel_rfl) ?_ _
          go_wp2
          go_loopw [3, 4] (fun v i wr => ∃ k : Nat, k ≤ n ∧ i = .int .i64 k ∧ Hid (RowT B wr v (preK n s E k)) ∧ Hid (Spares (fun b => B ≤ b) w wr)) (fun _ i _ => n - (intOf i).toNat)
          case atStart => exact ⟨0, by omega, rfl, hr2, hs2⟩
          case round =>
            obtain ⟨k, hk, rfl, HR, HS⟩ := hrel
            by_cases hlt : k < n
            · have hkE : k < E.length := by omega
              obtain ⟨c2, hents⟩ := (HC.out wr HS.out).2.2 k hkE
              have c1 := (HC.out wr HS.out).2.1
              obtain ⟨ad, had⟩ : ∃ ad, (R k).ad = ad := ⟨_, rfl⟩
              obtain ⟨cp, hcp⟩ : ∃ cp, (R k).cap = cp := ⟨_, rfl⟩
              rw [had, hcp] at c2
              have hl16 : E[k].length ≤ 16 := HLE.out _ (List.getElem_mem _)
              have hrok : ∀ e ∈ E[k], e.ok := HOK.out _ (List.getElem_mem _)
              have hYlen := preK_len n s E (k + 1)
              have hYn := preK_next n s E k hkE
              rw [hYn, List.length_append, rowB_len] at hYlen
              obtain ⟨Y, hY⟩ : ∃ Y, preK n s E k = Y := ⟨_, rfl⟩
              obtain ⟨r, hrr⟩ : ∃ r, E[k] = r := ⟨_, rfl⟩
              rw [hY] at HR hYlen hYn
              have hfin := innK_all Y r
              have hz := innK_zero Y r
              have hlenI := innK_len Y r
              have hnext := innK_next Y r
              have HEN : Hid (∀ V, Spares (fun b => B ≤ b) w V → V.cell? ⟨p, 0, none⟩ = some (.slice (some ⟨bk, 0, none⟩) n n) ∧ V.cell? ⟨bk, k, none⟩ = some (.slice ad r.length cp) ∧ EntsV V ad r) := Lib.hid (by
                subst hrr
                intro V hV
                have h1 := (HC.out V hV).2.2 k hkE
                rw [had, hcp] at h1
                exact ⟨(HC.out V hV).2.1, h1.1, h1.2⟩)
              rw [hrr] at c2 hl16 hrok hYlen hYn
              obtain ⟨L, hL⟩ : ∃ L, r.length = L := ⟨_, rfl⟩
              rw [hL] at c2 hl16 hYlen
              have hYt : Y.length + 1 + 16 * L ≤ 1000000 := by have := HLEN.out; omega
              obtain ⟨c, hc⟩ : ∃ c, UInt8.ofNat r.length = c := ⟨_, rfl⟩
              have hcn : c.toNat = L := by rw [← hc, hL, UInt8.toNat_ofNat']; omega
              have y2 : IntKind.u8.wrap (L : Int) = (L : Int) := by rw [IntKind.wrap_u8]; omega
              have y3 : (L : Int) % 256 = (L : Int) := by omega
              rw [hc] at hz
              have HRO : RowT B (wr.alloc (.cells #[.int .u8 (c.toNat : Int)] 5)) u3 Y := HR.out.spares (F := nowhere) ((Spares.refl _ _).alloc _) (fun _ _ h => h)
              have hby := byteOne_at wr c
              rw [hcn] at HRO hby
              have HRO' := Lib.hid HRO
              have HBY := Lib.hid hby
              have HZ := Lib.hid hz
              have HN := Lib.hid hnext
              have HLI := Lib.hid hlenI
              have HFI := Lib.hid hfin
              have HYN := Lib.hid hYn
              have HL := Lib.hid hL
              have HRK := Lib.hid hrok
              have HYT := Lib.hid hYt
              have HBW : Hid (B ≤ (wr.alloc (.cells #[.int .u8 (L : Int)] 5)).heap.size) := Lib.hid (by rw [← HB.out]; exact (HS.out.alloc _).size)
              clear HRO hby hz hnext hlenI hfin hYn hL hrok hYlen hYt hc hents hrr hY had hcp
              go_wp2_with ((with_reducible show wpList _ _ _ (⟨some 42, _, _, _, _, _⟩ :: _) _ _); refine wpList_tail_bytes rfl _ _ rfl B _ Y rfl HRO'.out (some ⟨wr.heap.size, 0, none⟩) 1 [c] rfl HBY.out (by have := HYT.out; simp only [List.length_cons, List.length_nil]; omega) HBW.out ?_; intro v9 w9 ho hg9; have HO9 := Lib.hid ho; have HS9 : Hid (Spares (fun b => B ≤ b) w w9) := Lib.hid ((HS.out.alloc _).grown hg9 (fun g h => .inl (HRO'.out.own g h))); clear ho hg9)
              go_loopw [3, 5] (fun v i wr => ∃ j : Nat, j ≤ L ∧ i = .int .i64 j ∧ Hid (RowT B wr v (innK Y r j)) ∧ Hid (Spares (fun b => B ≤ b) w wr)) (fun _ i _ => L - (intOf i).toNat)
              case atStart => exact ⟨0, by omega, rfl, by rw [HZ.out]; exact HO9, HS9⟩
              case round =>
                obtain ⟨j, hj, rfl, HRJ, HSJ⟩ := hrel
                by_cases hltj : j < L
                · have hjr : j < r.length := by rw [HL.out]; exact hltj
                  obtain ⟨c1, c2, hEv⟩ := HEN.out _ HSJ.out
                  rw [HL.out] at c2
                  obtain ⟨g, off, hadr, cE⟩ := hEv j hjr
                  subst hadr
                  clear hEv
                  have hxok := HRK.out _ (List.getElem_mem hjr)
                  have hnx := HN.out j hjr
                  have hli := HLI.out j (by omega)
                  obtain ⟨x, hx⟩ : ∃ x, r[j] = x := ⟨_, rfl⟩
                  rw [hx] at cE hxok hnx
                  obtain ⟨Z, hZ⟩ : ∃ Z, innK Y r j = Z := ⟨_, rfl⟩
                  rw [hZ] at HRJ hnx hli
                  have hXl := entB_len x
                  obtain ⟨X, hX⟩ : ∃ X, entB x = X := ⟨_, rfl⟩
                  have CE := fun V => refEntryB_any x hxok V
                  rw [hX] at hnx hXl CE
                  obtain ⟨t0, ht0⟩ : ∃ t0, x.tag = t0 := ⟨_, rfl⟩
                  obtain ⟨t1, ht1⟩ : ∃ t1, x.at_ = t1 := ⟨_, rfl⟩
                  obtain ⟨t2, ht2⟩ : ∃ t2, x.sec = t2 := ⟨_, rfl⟩
                  obtain ⟨t3, ht3⟩ : ∃ t3, x.turn = t3 := ⟨_, rfl⟩
                  have e0 : wr.cell? ⟨g, off + j * 4, none⟩ = some (.int .u16 t0) := by rw [← ht0]; exact cE 0 (by omega)
                  have e1 : wr.cell? ⟨g, off + j * 4 + 1, none⟩ = some (.int .u32 t1) := by rw [← ht1]; exact cE 1 (by omega)
                  have e2 : wr.cell? ⟨g, off + j * 4 + 2, none⟩ = some (.int .u16 t2) := by rw [← ht2]; exact cE 2 (by omega)
                  have e3 : wr.cell? ⟨g, off + j * 4 + 3, none⟩ = some (.int .u64 t3) := by rw [← ht3]; exact cE 3 (by omega)
                  unfold entV at CE
                  rw [ht0, ht1, ht2, ht3] at CE
                  have HCE := Lib.hid CE
                  have HNX := Lib.hid hnx
                  have HLJ := Lib.hid hli
                  have HXL := Lib.hid hXl
                  clear CE cE hxok hnx hli hx hZ hX hXl ht0 ht1 ht2 ht3
                  go_wp2_with fail
                  refine (HCE.out _).mono ?_
                  rintro e w4 ⟨rfl, hs4⟩
                  have HS4 : Hid (Spares (fun b => B ≤ b) w w4) := Lib.hid (HSJ.out.trans' hs4 (fun _ h => h.elim))
                  have HR4 : Hid (RowT B w4 u3 Z) := Lib.hid (HRJ.out.spares hs4 (fun _ _ h => h))
                  have HTH := Lib.hid (a16Z_there w4 X HXL.out)
                  have HIA := Lib.hid (infoA16 X HXL.out)
                  clear hs4 e0 e1 e2 e3
                  go_upto_region 10 with ((with_reducible show wpList _ _ _ (⟨none, .store 82 _ _, _, _, _, _⟩ :: _) _ _); refine wpList_store_mid rfl 82 (.tmp 6) (.tmp 65) rfl w4.heap.size 0 (bytesV X) rfl rfl HTH.out HIA.out (bytesV_one _) ?_)
                  obtain ⟨w5, hw5⟩ : ∃ w5, (a16Z w4).setCells w4.heap.size 0 (bytesV X).toList = w5 := ⟨_, rfl⟩
                  have hh5 := a16Z_heap w4 X HXL.out
                  have hs5 := a16Z_spares w4 X
                  rw [hw5] at hh5 hs5
                  have HW5 := Lib.hid hw5
                  have hat5 : BytesAt w5 (some ⟨w4.heap.size, 0, none⟩) X := fun q hq => ⟨_, _, rfl, by rw [Lib.cell_of_heap hh5, Nat.zero_add]; simp [bytesV, Lib.byteCells, hq]⟩
                  have HAT5 := Lib.hid hat5
                  have HS5 : Hid (Spares (fun b => B ≤ b) w w5) := Lib.hid (HS4.out.trans' hs5 (fun _ h => h.elim))
                  have HR5 : Hid (RowT B w5 u3 Z) := Lib.hid (HR4.out.spares hs5 (fun _ _ h => h))
                  have HB5 : Hid (B ≤ w5.heap.size) := Lib.hid (by rw [← HB.out]; exact HS5.out.size)
                  have hX16 : 16 = X.length := HXL.out.symm
                  have HX16 := Lib.hid hX16
                  clear hw5 hh5 hs5 hat5 hX16 HR4 HS4
                  change Code.wp _ _ _ _ ((a16Z w4).setCells w4.heap.size 0 (bytesV X).toList)
                  rw [HW5.out]
                  simp only [Act.put]
                  go_wp2_with ((with_reducible show wpList _ _ _ (⟨some 68, _, _, _, _, _⟩ :: _) _ _); refine wpList_tail_bytes rfl _ _ rfl B _ Z rfl HR5.out (some ⟨w4.heap.size, 0, none⟩) 16 X (by rw [← HX16.out]; rfl) HAT5.out (by rw [HLJ.out, ← HX16.out]; have := HYT.out; omega) HB5.out ?_; intro v6 w6 ho hg6; have HO6 := Lib.hid ho; have HS6 : Hid (Spares (fun b => B ≤ b) w w6) := Lib.hid (HS5.out.grown hg6 (fun g h => .inl (HR5.out.own g h))); clear ho hg6)
                  go_roundw
                  case rel => exact ⟨j + 1, by omega, rfl, by rw [HNX.out]; exact HO6, HS6⟩
                  case measure => simp [intOf]; omega
                · obtain rfl : j = L := by omega
                  obtain ⟨c1, c2, _⟩ := HEN.out _ HSJ.out
                  rw [HL.out] at c2
                  go_wp2
                  go_roundw
                  case rel => exact ⟨k + 1, by omega, rfl, Lib.hid (by rw [HYN.out, ← HFI.out, HL.out]; exact HRJ.out), HSJ⟩
                  case measure => simp [intOf]; omega
            · obtain rfl : k = n := by omega
              have c1 := (HC.out wr HS.out).2.1
              go_wp2
              go_ret
              have hfin : preK k s E k = dirB k s E := by rw [← preK_all, hEn]
              have hr := HR.out
              rw [hfin] at hr
              rw [← HB.out] at hr
              exact ⟨_, rfl, by first | exact hr | (rw [HB.out]; exact hr), HS.out.mono (fun b hb => .inr (by rw [HB.out]; exact hb))⟩
        exact AllReadyH.nil
      exact AllReadyH.nil
    exact AllReadyH.nil
  exact AllReadyH.nil
end Go.Proofs.Ytihbjkdgfflnfaa
