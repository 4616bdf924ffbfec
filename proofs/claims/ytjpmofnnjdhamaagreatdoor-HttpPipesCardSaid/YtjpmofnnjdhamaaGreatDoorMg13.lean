/-
  The reference's trailers: lines read as fields, one more each time.
  The reference's head.
  The reference's words.
  The reference's reading of chunks.
-/
import Derived.Lib.AppendStr
import Derived.Laws.AppendOwn
import Derived.Deep.RegionLaw
import Derived.Test.YtjpmofnnjdhamaaGreatDoorMg1
import Derived.Test.YtjpmofnnjdhamaaGreatDoorMg3
import Derived.Test.YtjpmofnnjdhamaaGreatDoorMg4
import Derived.Test.YtjpmofnnjdhamaaGreatDoorMg6
import Derived.Test.YtjpmofnnjdhamaaGreatDoorMg7
import Derived.Test.YtjpmofnnjdhamaaGreatDoorMg12
import Derived.Test.YtjpmofnnjdhamaaGreatDoorMg15
namespace Go.Proofs.YtjpmofnnjdhamaaGreatDoor
open Go.RowKit HeadMath NormMath NormS HeadS ChunkMath

theorem atLeast_none {w w1 w2 : World} (h : Spares (atLeast w1.heap.size) w1 w2) (hl : w.heap.size ≤ w1.heap.size) (h1 : Spares nowhere w w1) : Spares nowhere w w2 := h1.trans' h (fun _ hk => .inr (Nat.le_trans hl hk))
theorem rowS_in {B : Nat} {w : World} {v : Value} {l : List ByteArray} (h : RowS B w v l) : ∃ a c, v = .slice a l.length c ∧ StrsIn w.heap.size w a l := by
  rcases h.shape with ⟨rfl, rfl⟩ | ⟨g, c, rfl, _, hg, _, hcell⟩
  · exact ⟨none, 0, rfl, fun j hj => absurd hj (Nat.not_lt_zero _)⟩
  · exact ⟨_, c, rfl, fun j hj => ⟨g, 0, rfl, hg, by rw [Nat.zero_add]; exact hcell j hj⟩⟩
def BadLine (T : ByteArray) (n : Nat) : Prop := (fieldOf T).isSome = false ∨ n = 100
theorem refLines_any (ls : List ByteArray) (T : ByteArray) (a : Option Addr) (c n : Nat) (w : World) (hin : StrsIn w.heap.size w a (ls ++ [T])) (hn : n = (ls ++ [T]).length) (hsm : Small (ls ++ [T])) (h100 : ls.length ≤ 100) (hp : (parseF ls).isSome = true) : Calls Tryz.prog 57 #[.slice a n c] w fun e w' => (∃ v z, e = .returned (.tuple #[v, .int .i64 z]) ∧ ((¬ BadLine T ls.length ∧ z = 0 ∧ (parseF (ls ++ [T])).isSome = true) ∨ (BadLine T ls.length ∧ (z = 91 ∨ z = 90)))) ∧ Spares nowhere w w' := by
  have hlen : (ls ++ [T]).length = ls.length + 1 := by simp
  refine (refParse_any (ls ++ [T]) a c n w hin hn hsm (by omega)).mono ?_
  have hsn := parseF_snoc ls T
  obtain ⟨fs0, hfs0⟩ := Option.isSome_iff_exists.1 hp
  rw [hfs0] at hsn
  rintro e w' ⟨hb, ⟨h, rfl⟩ | ⟨h, h1, rfl⟩ | ⟨h, fs, v, h1, rfl, _⟩⟩
  · exact ⟨⟨_, _, rfl, .inr ⟨.inr (by omega), .inl rfl⟩⟩, Below.spares hb (fun k hk => .inr hk)⟩
  · refine ⟨⟨_, _, rfl, .inr ⟨.inl ?_, .inr rfl⟩⟩, Below.spares hb (fun k hk => .inr hk)⟩
    rw [h1] at hsn
    cases hf : fieldOf T with
    | none => rfl
    | some f => rw [hf] at hsn; cases hsn
  · refine ⟨⟨_, _, rfl, .inl ⟨?_, rfl, by rw [h1]; rfl⟩⟩, Below.spares hb (fun k hk => .inr hk)⟩
    rintro (hf | hf)
    · rw [h1] at hsn
      cases hf2 : fieldOf T with
      | none => rw [hf2] at hsn; cases hsn
      | some f => rw [hf2] at hf; cases hf
    · omega
theorem line_drop {b t r : Bs} {j : Nat} (hj : j ≤ b.length) (h : lineF (b.drop j) = .ok (t, r)) : r = b.drop (b.length - r.length) ∧ j + 2 ≤ b.length - r.length ∧ r.length ≤ b.length ∧ t.length ≤ b.length := by
  obtain ⟨u, h1, h2, h3, _⟩ := lineG_split (b.drop j) [] t r h
  have hl := congrArg List.length h1
  rw [List.length_drop, List.length_append] at hl
  have e : b.length - r.length = j + u.length := by omega
  refine ⟨?_, by omega, by omega, by simp at h3; omega⟩
  rw [e, ← List.drop_drop, h1, List.drop_left]
theorem lineG_errQ : ∀ (s acc : Bs), lineG acc s ≠ .error 0
  | [], acc => by rw [lineG]; intro h; cases h
  | c :: s, acc => by
    by_cases h13 : c = 13
    · subst h13
      cases s with
      | nil => rw [lineG_cr]; intro h; cases h
      | cons d s =>
        by_cases h10 : d = 10
        · subst h10; rw [lineG_end]; intro h; cases h
        · rw [lineG_bad h10]; intro h; cases h
    · by_cases hb : c = 10 ∨ 1024 ≤ acc.length
      · rw [lineG, if_neg h13, if_pos hb]; intro h; cases h
      · rw [lineG, if_neg h13, if_neg hb]
        exact lineG_errQ s _
theorem lineF_err {s : Bs} {x : Nat} (hx : x = 0) : lineF s ≠ .error x := by subst hx; exact lineG_errQ s []
/-- Behind a chunk's bytes: what of CR LF is still to come. -/
def restH (F : Bs → Bool) (f : Nat) (body : Bs) : Nat → Bs → Except Nat (Bs × Bs)
  | 0, s => restG F f body s
  | 1, s => match wantF 10 s with
    | .error e => .error e
    | .ok r3 => chunkG F f body r3
  | _, s => chunkG F f body s
theorem restH_nil {F : Bs → Bool} {f m : Nat} {body : Bs} (hm : m < 2) : restH F f body m [] = .error 92 := by
  rcases (show m = 0 ∨ m = 1 by omega) with rfl | rfl <;> rfl
theorem restH_0 {F : Bs → Bool} {f : Nat} {body s : Bs} : restH F f body 0 (13 :: s) = restH F f body 1 s := rfl
theorem restH_1 {F : Bs → Bool} {f : Nat} {body s : Bs} : restH F f body 1 (10 :: s) = restH F f body 2 s := rfl
theorem restH_bad0 {F : Bs → Bool} {f : Nat} {body s : Bs} {d : UInt8} (h : d ≠ 13) : restH F f body 0 (d :: s) = .error 94 := restG_one (wantF_no h)
theorem restH_bad1 {F : Bs → Bool} {f : Nat} {body s : Bs} {d : UInt8} (h : d ≠ 10) : restH F f body 1 (d :: s) = .error 94 := by
  show (match wantF 10 (d :: s) with | .error e => (.error e : Except Nat (Bs × Bs)) | .ok r3 => chunkG F f body r3) = _
  rw [wantF_no h]
def afterT (body : Bs) : Except Nat Bs → Except Nat (Bs × Bs)
  | .error e => .error e
  | .ok r => .ok (body, r)
theorem chunkG_zeroT {F : Bs → Bool} {f : Nat} {body s t r : Bs} (h : lineF s = .ok (t, r)) (hn : lengthF t = some 0) : chunkG F (f + 1) body s = afterT body (trailG F (r.length + 1) 0 r) := by
  rw [chunkG_zero h hn]
  cases trailG F (r.length + 1) 0 r <;> rfl
theorem openPost_error {b : Bs} {r : Except Nat (Bs × Bs)} {n : Nat} {w w' : World} {e : Ending} (h : r = .error n) (he : e = .returned (.tuple #[.slice none 0 0, .int .i64 0, .int .i64 n])) (hs : Spares nowhere w w') : OpenPost b r w e w' := by subst h; exact ⟨he, hs⟩
theorem openPost_ok {b body s : Bs} {r : Except Nat (Bs × Bs)} {w w' : World} {e : Ending} {v : Value} (h : r = .ok (body, s)) (he : e = .returned (.tuple #[v, .int .i64 ((b.length - s.length : Nat) : Int), .int .i64 0])) (hr : Row8 w.heap.size w' v body) (hs : Spares nowhere w w') : OpenPost b r w e w' := by subst h; exact ⟨⟨v, he, hr⟩, hs⟩
end Go.Proofs.YtjpmofnnjdhamaaGreatDoor
namespace Go.Proofs.YtjpmofnnjdhamaaGreatDoor
open Go.RowKit HeadMath NormMath NormS HeadS ChunkMath HttpMath

def RHead (b : Bs) (r : Except Nat (List Bs × Bs)) (w : World) (e : Ending) (w' : World) : Prop := (match r with
  | .error n => e = .returned (.tuple #[.slice none 0 0, .int .i64 0, .int .i64 n])
  | .ok (ls, rest) => ∃ v, e = .returned (.tuple #[v, .int .i64 ((b.length - rest.length : Nat) : Int), .int .i64 0]) ∧ RowS w.heap.size w' v (ls.map ba)) ∧ Spares nowhere w w'
theorem rHead_error {b : Bs} {r : Except Nat (List Bs × Bs)} {w w' : World} {e : Ending} {n : Nat} (h : r = .error n) (he : e = .returned (.tuple #[.slice none 0 0, .int .i64 0, .int .i64 n])) (hs : Spares nowhere w w') : RHead b r w e w' := by subst h; exact ⟨he, hs⟩
theorem rHead_ok {b : Bs} {r : Except Nat (List Bs × Bs)} {ls : List Bs} {rest : Bs} {v : Value} {w w' : World} {e : Ending} (h : r = .ok (ls, rest)) (he : e = .returned (.tuple #[v, .int .i64 ((b.length - rest.length : Nat) : Int), .int .i64 0])) (hr : RowS w.heap.size w' v (ls.map ba)) (hs : Spares nowhere w w') : RHead b r w e w' := by subst h; exact ⟨⟨v, he, hr⟩, hs⟩
theorem u8_no {x : UInt8} {n : Nat} (h : x.toNat ≠ n) : ((x.toNat : Int) == (n : Int)) = false := by
  rw [beq_eq_false_iff_ne]; omega
set_option maxRecDepth 100000 in
set_option maxHeartbeats 8000000 in
theorem refHead_any (a : Option Addr) (c : Nat) (b : Bs) (w : World) (hb : BytesAt w a b) (hc : b.length ≤ c) (hz : b.length ≤ 1000000) : Calls Tryz.prog 54 #[.slice a b.length c] w (RHead b (headF b) w) := by
  have HB := Lib.hid hb
  obtain ⟨R, hR⟩ : ∃ R, headF b = R := ⟨_, rfl⟩
  rw [hR]
  have HR := Lib.hid hR
  obtain ⟨bl, hbl⟩ : ∃ bl, b.length = bl := ⟨_, rfl⟩
  have HBL := Lib.hid hbl
  rw [hbl] at hc hz ⊢
  clear hb hR hbl
  go_enter Tryz.func54, Tryz.ntmps54
  go_wp2
  go_loop [5, 6] (fun m1 i => ∃ j : Nat, m1 = .int .i64 (-1) ∧ i = .int .i64 j ∧ j ≤ bl ∧ j ≤ 8192 ∧ Hid (NoEnd b j)) (fun _ i => bl + 1 - (intOf i).toNat)
  case atStart => exact ⟨0, rfl, rfl, Nat.zero_le _, by omega, Lib.hid (fun m hm => absurd hm (Nat.not_lt_zero _))⟩
  case round =>
    obtain ⟨j, rfl, rfl, hjb, hj8, HN⟩ := hrel
    by_cases hl : j + 4 ≤ bl
    · have i1 : (j : Int) + 4 ≤ (bl : Int) := by omega
      by_cases h8 : j + 4 ≤ 8192
      · have i2 : (j : Int) + 4 ≤ 8192 := by omega
        obtain ⟨y, z, rfl, _⟩ := HB.out j (by have := HBL.out; omega)
        obtain ⟨T, hT⟩ : ∃ T, (b.drop j).take 4 = T := ⟨_, rfl⟩
        have hocc := occ_take4 b j (by rw [HBL.out]; exact hl)
        rw [hT] at hocc
        have hTl : T.length = 4 := by rw [← hT, List.length_take, List.length_drop, HBL.out]; omega
        have hcv : (convert 23 9 (.slice (some ⟨y, z + j, none⟩) 4 (c - j))).run Tryz.prog w = .ok (.string ⟨T.toArray⟩) w := by
          have h1 := conv_bytes (w := w) (a := some ⟨y, z + j, none⟩) (l := T) (by rw [← hT]; exact bytesAt_take8 (bytesAt_drop8 HB.out j) 4) (c - j)
          rw [hTl] at h1
          exact h1
        obtain ⟨SS, hSS⟩ : ∃ SS : ByteArray, (⟨T.toArray⟩ : ByteArray) = SS := ⟨_, rfl⟩
        rw [hSS] at hcv
        obtain ⟨q, hq⟩ : ∃ q, (T == end4) = q := ⟨_, rfl⟩
        have q1 : (SS.toList == [13, 10, 13, 10]) = q := by rw [Lib.toList_data, ← hSS]; exact hq
        rw [hq] at hocc
        have s1 : (j : Int) + 4 ≤ (c : Int) := by omega
        have s2 : (j : Int) ≤ (j : Int) + 4 := by omega
        clear hT hTl hSS hq
        cases q with
        | false =>
          have HN2 : Hid (NoEnd b (j + 1)) := Lib.hid (noEnd_step HN.out hocc)
          clear hocc
          go_wp2
          go_round
          case rel => exact ⟨j + 1, rfl, by go_num, by omega, by omega, HN2⟩
          case measure => simp [intOf]; omega
        | true =>
          have hat := noEnd_found HN.out (by rw [HBL.out]; exact hl) h8 hocc
          have HAT := Lib.hid hat
          obtain ⟨t, ht⟩ : ∃ t, b.take j = t := ⟨_, rfl⟩
          have htl : t.length = j := by rw [← ht, List.length_take, HBL.out]; omega
          have HT := Lib.hid ht
          have HTL := Lib.hid htl
          have hneg : ¬ ((j : Int) < 0) := by omega
          clear hocc hat ht htl
          go_wp2
          go_loopw [7, 8, 9] (fun r f i wr => ∃ (J F : Nat) (D : List Bs), i = .int .i64 J ∧ f = .int .i64 F ∧ Hid (RowS w.heap.size wr r (D.map ba)) ∧ Hid (Spares nowhere w wr) ∧ D.length ≤ J ∧ ((J ≤ j ∧ F ≤ J ∧ Hid (ScanAt t D F J)) ∨ (J = j + 2 ∧ Hid (cuts crlf2 t = D ∧ (cuts crlf2 t).all bareL = true)))) (fun _ _ i _ => j + 3 - (intOf i).toNat)
          case atStart => exact ⟨0, 0, [], rfl, rfl, Lib.hid (rowS_nil _ _), Lib.hid (Spares.refl _ _), Nat.le_refl _, .inl ⟨Nat.zero_le _, Nat.le_refl _, Lib.hid (scan_start t)⟩⟩
          case round =>
            obtain ⟨J, F, D, rfl, rfl, HROW, HS, hDJ, ⟨hJ, hFJ, HSC⟩ | ⟨hJ, HD⟩⟩ := hrel
            · have k1 : (J : Int) ≤ (j : Int) := by omega
              obtain ⟨M, hM⟩ : ∃ M, (t.drop F).take (J - F) = M := ⟨_, rfl⟩
              have HM := Lib.hid hM
              have hMl : M.length = J - F := by rw [← hM, List.length_take, List.length_drop, HTL.out]; omega
              have hMb : M = (b.drop F).take (J - F) := by rw [← hM, ← HT.out]; exact take_in hJ
              have hcv2 : (convert 23 9 (.slice (some ⟨y, z + F, none⟩) (J - F) (c - F))).run Tryz.prog wr = .ok (.string ⟨M.toArray⟩) wr := by
                have h1 := conv_bytes (w := wr) (a := some ⟨y, z + F, none⟩) (l := M) (by rw [hMb]; exact bytesAt_take8 (bytesAt_drop8 (HB.out.spares HS.out (fun _ _ _ h => h)) F) (J - F)) (c - F)
                rwa [hMl] at h1
              obtain ⟨MM, hMM⟩ : ∃ MM : ByteArray, (⟨M.toArray⟩ : ByteArray) = MM := ⟨_, rfl⟩
              rw [hMM] at hcv2
              have HMM := Lib.hid hMM
              have hMz : MM.size = J - F := by rw [← hMM, ← hMl]; show M.toArray.size = _; simp
              have HMZ := Lib.hid hMz
              have s3 : (J : Int) ≤ (c : Int) := by omega
              have s4 : (F : Int) ≤ (J : Int) := by omega
              clear hM hMl hMb hMM hMz
              by_cases hJe : J = j
              · subst hJe
                have HC : Hid (J = t.length ∨ crlf2.isPrefixOf (t.drop J) = true) := Lib.hid (.inl HTL.out.symm)
                have k2 : ((J : Int) == (J : Int)) = true := by simp
                go_wp2
                go_loop [11] (fun u => ∃ k : Nat, u = .int .i64 k ∧ k ≤ MM.size ∧ Hid (∀ m (x : UInt8), m < k → M[m]? = some x → x ≠ 13 ∧ x ≠ 10)) (fun u => MM.size - (intOf u).toNat)
                case atStart => exact ⟨0, rfl, Nat.zero_le _, Lib.hid (fun m _ hm => absurd hm (Nat.not_lt_zero _))⟩
                case round =>
                  obtain ⟨k, rfl, hk, HK⟩ := hrel
                  have kb : k ≤ 8192 := by have := HMZ.out; omega
                  by_cases hkn : k < MM.size
                  · obtain ⟨u, hu⟩ : ∃ u, M[k]? = some u := by
                      have : k < M.length := by
                        have h := HMM.out
                        have h2 : M.length = MM.size := by rw [← h]; show _ = M.toArray.size; simp
                        omega
                      exact ⟨M[k], List.getElem?_eq_getElem this⟩
                    have hug : MM[k]'hkn = u := by
                      have h := HMM.out
                      subst h
                      have := (List.getElem?_eq_some_iff.1 hu).2
                      rw [← this]
                      rfl
                    have m1 : (k : Int) < (MM.size : Int) := by omega
                    obtain ⟨q5, hq5⟩ : ∃ q, ((u.toNat : Int) == 13) = q := ⟨_, rfl⟩
                    obtain ⟨q6, hq6⟩ : ∃ q, ((u.toNat : Int) == 10) = q := ⟨_, rfl⟩
                    by_cases hbad : u = 13 ∨ u = 10
                    · have HE : Hid (R = .error 90) := Lib.hid (by
                        rw [← HR.out, headF_bad HAT.out (by rw [HT.out]; exact scan_bad HSC.out HC.out (by rw [HM.out]; exact bare_not hu hbad))])
                      rcases hbad with rfl | rfl
                      · clear hu hq5 hq6
                        go_wp2
                        go_ret3
                        exact rHead_error HE.out rfl HS.out
                      · clear hu hq5 hq6
                        go_wp2
                        go_ret3
                        exact rHead_error HE.out rfl HS.out
                    · have hb1 : u ≠ 13 := fun e => hbad (.inl e)
                      have hb2 : u ≠ 10 := fun e => hbad (.inr e)
                      have q5' : ((u.toNat : Int) == 13) = false := u8_no (n := 13) (fun e => hb1 (UInt8.toNat_inj.1 e))
                      have q6' : ((u.toNat : Int) == 10) = false := u8_no (n := 10) (fun e => hb2 (UInt8.toNat_inj.1 e))
                      have HK2 : Hid (∀ m (x : UInt8), m < k + 1 → M[m]? = some x → x ≠ 13 ∧ x ≠ 10) := Lib.hid (fun m x hm hx => by
                        rcases Nat.lt_or_ge m k with h | h
                        · exact HK.out m x h hx
                        · obtain rfl : m = k := by omega
                          rw [hu] at hx
                          injection hx with hx
                          subst hx
                          exact ⟨hb1, hb2⟩)
                      clear hu hq5 hq6 hbad hb1 hb2
                      go_wp2
                      go_round
                      case rel => exact ⟨k + 1, by go_num, by omega, HK2⟩
                      case measure => simp [intOf]; omega
                  · have HBR : Hid (bareL M = true) := Lib.hid (bare_all (fun m x hm => by
                      refine HK.out m x ?_ hm
                      have h := HMM.out
                      have h2 : M.length = MM.size := by rw [← h]; show _ = M.toArray.size; simp
                      have := (List.getElem?_eq_some_iff.1 hm).1
                      omega))
                    have m1 : ¬ (k : Int) < (MM.size : Int) := by omega
                    have HDL : Hid ((D.map ba).length + 1 ≤ 1000000000000) := Lib.hid (by rw [List.length_map]; omega)
                    have HZ1 := Lib.hid HS.out.size
                    go_wp2_with (first
                      | ((with_reducible show wpList _ _ _ (⟨some 84, _, _, _, _, _⟩ :: _) _ _); refine wpList_rowS_one rfl _ _ rfl w.heap.size _ (D.map ba) rfl HROW.out MM rfl HDL.out HZ1.out ?_; intro v9 w9 hr9 hs9; have HR9 := Lib.hid hr9; have HS9 : Hid (Spares nowhere w w9) := Lib.hid (atLeast_none (w1 := w) ((HS.out.mono (fun _ h => by cases h)).trans hs9) (Nat.le_refl _) (Spares.refl _ _)); clear hr9 hs9)
                      | fail)
                    go_roundw
                    case rel =>
                      have hS := scan_done (t := t) (D := D) (f := F) (by rw [HTL.out]; exact HSC.out) (by rw [HTL.out, HM.out]; exact HBR.out)
                      rw [HTL.out, HM.out] at hS
                      refine ⟨J + 2, J + 2, D ++ [M], by go_num, by go_num, Lib.hid ?_, HS9, by simp; omega, .inr ⟨rfl, Lib.hid hS⟩⟩
                      have h := HR9.out
                      rw [List.map_append, List.map_singleton]
                      have hm := HMM.out
                      rw [show ba M = MM from hm]
                      exact h
                    case measure => simp [intOf]; omega
              · have k2 : ((J : Int) == (j : Int)) = false := by rw [beq_eq_false_iff_ne]; omega
                have k2' : ¬ (J : Int) = (j : Int) := by omega
                obtain ⟨x, hx⟩ : ∃ x, b[J]? = some x := ⟨b[J]'(by have := HBL.out; omega), List.getElem?_eq_getElem _⟩
                obtain ⟨x', hx'⟩ : ∃ x', b[J + 1]? = some x' := ⟨b[J + 1]'(by have := HBL.out; omega), List.getElem?_eq_getElem _⟩
                have htx : t[J]? = some x := by rw [← HT.out, List.getElem?_take, if_pos (by omega)]; exact hx
                have c1 : wr.cell? ⟨y, z + J, none⟩ = some (.int .u8 x.toNat) := by
                  obtain ⟨y5, z5, e5, h5⟩ := (HB.out.spares HS.out (fun _ _ _ h => h)) J (by have := HBL.out; omega)
                  injection e5 with e5
                  injection e5 with e6 e7
                  subst e6
                  subst e7
                  rw [h5, (List.getElem?_eq_some_iff.1 hx).2]
                have c2 : wr.cell? ⟨y, z + (J + 1), none⟩ = some (.int .u8 x'.toNat) := by
                  obtain ⟨y5, z5, e5, h5⟩ := (HB.out.spares HS.out (fun _ _ _ h => h)) (J + 1) (by have := HBL.out; omega)
                  injection e5 with e5
                  injection e5 with e6 e7
                  subst e6
                  subst e7
                  rw [h5, (List.getElem?_eq_some_iff.1 hx').2]
                have c3 := c2
                rw [← Nat.add_assoc] at c3
                have n1 : (J : Int) < (bl : Int) := by omega
                have n2 : (J : Int) + 1 < (bl : Int) := by omega
                obtain ⟨q3, hq3⟩ : ∃ q, ((x.toNat : Int) == 13) = q := ⟨_, rfl⟩
                cases q3 with
                | false =>
                  have hx13 : x ≠ 13 := fun e => by subst e; cases hq3
                  have HSC2 : Hid (ScanAt t D F (J + 1)) := Lib.hid (scan_step HSC.out htx (by
                    have hl := (List.getElem?_eq_some_iff.1 htx).1
                    rw [List.drop_eq_getElem_cons hl, (List.getElem?_eq_some_iff.1 htx).2]
                    exact prefix_no hx13))
                  clear hx hx' htx hx13
                  go_wp2
                  go_roundw
                  case rel => exact ⟨J + 1, F, D, by go_num, rfl, HROW, HS, by omega, .inl ⟨by omega, by omega, HSC2⟩⟩
                  case measure => simp [intOf]; omega
                | true =>
                  have hx13 : x = 13 := UInt8.toNat_inj.1 (by show x.toNat = 13; simp at hq3; omega)
                  obtain ⟨q4, hq4⟩ : ∃ q, ((x'.toNat : Int) == 10) = q := ⟨_, rfl⟩
                  cases q4 with
                  | false =>
                    have hx10 : x' ≠ 10 := fun e => by subst e; cases hq4
                    have HSC2 : Hid (ScanAt t D F (J + 1)) := Lib.hid (scan_step HSC.out htx (by
                      by_cases hlast : J + 1 < j
                      · rw [crlf_at htx (show t[J + 1]? = some x' by rw [← HT.out, List.getElem?_take, if_pos hlast]; exact hx')]
                        simp [hx10]
                      · exact crlf_last (by rw [HTL.out]; omega)))
                    clear hx hx' htx hx13 hx10
                    go_wp2
                    go_roundw
                    case rel => exact ⟨J + 1, F, D, by go_num, rfl, HROW, HS, by omega, .inl ⟨by omega, by omega, HSC2⟩⟩
                    case measure => simp [intOf]; omega
                  | true =>
                    have hx10 : x' = 10 := UInt8.toNat_inj.1 (by show x'.toNat = 10; simp at hq4; omega)
                    have hJ2 : J + 1 < j := by
                      rcases Nat.lt_or_ge (J + 1) j with h | h
                      · exact h
                      · exfalso
                        have e1 : J + 1 = j := by omega
                        have ho := HAT.out
                        have h13 : b[j]? = some 13 := by
                          have hsp := Lib.index_spec (b.take 8192) end4
                          rcases hsp with ⟨h1, _⟩ | ⟨i, h1, h2, h3, _⟩
                          · unfold headAt at ho; omega
                          · unfold headAt at ho
                            obtain rfl : i = j := by omega
                            rw [occ_take _ _ _ (by omega)] at h3
                            have h4 := occ_take4 b i (by rw [HBL.out]; exact hl)
                            rw [h3] at h4
                            have h5 := beq_iff_eq.1 h4.symm
                            have h6 := congrArg (fun l : Bs => l[0]?) h5
                            simpa [List.getElem?_take, end4] using h6
                        rw [e1, h13] at hx'
                        injection hx' with hx'
                        subst hx'
                        cases hq4
                    have HC : Hid (J = t.length ∨ crlf2.isPrefixOf (t.drop J) = true) := Lib.hid (.inr (by
                      rw [crlf_at htx (show t[J + 1]? = some x' by rw [← HT.out, List.getElem?_take, if_pos hJ2]; exact hx'), hx13, hx10]
                      rfl))
                    have HC2 : Hid (crlf2.isPrefixOf (t.drop J) = true) := Lib.hid (by
                      rcases HC.out with h | h
                      · exact absurd (h.trans HTL.out) (by omega)
                      · exact h)
                    clear hx hx' htx hx13 hx10
                    go_wp2
                    go_loop [11] (fun u => ∃ k : Nat, u = .int .i64 k ∧ k ≤ MM.size ∧ Hid (∀ m (x : UInt8), m < k → M[m]? = some x → x ≠ 13 ∧ x ≠ 10)) (fun u => MM.size - (intOf u).toNat)
                    case atStart => exact ⟨0, rfl, Nat.zero_le _, Lib.hid (fun m _ hm => absurd hm (Nat.not_lt_zero _))⟩
                    case round =>
                      obtain ⟨k, rfl, hk, HK⟩ := hrel
                      have kb : k ≤ 8192 := by have := HMZ.out; omega
                      by_cases hkn : k < MM.size
                      · obtain ⟨u, hu⟩ : ∃ u, M[k]? = some u := by
                          have : k < M.length := by
                            have h := HMM.out
                            have h2 : M.length = MM.size := by rw [← h]; show _ = M.toArray.size; simp
                            omega
                          exact ⟨M[k], List.getElem?_eq_getElem this⟩
                        have hug : MM[k]'hkn = u := by
                          have h := HMM.out
                          subst h
                          have := (List.getElem?_eq_some_iff.1 hu).2
                          rw [← this]
                          rfl
                        have m1 : (k : Int) < (MM.size : Int) := by omega
                        obtain ⟨q5, hq5⟩ : ∃ q, ((u.toNat : Int) == 13) = q := ⟨_, rfl⟩
                        obtain ⟨q6, hq6⟩ : ∃ q, ((u.toNat : Int) == 10) = q := ⟨_, rfl⟩
                        by_cases hbad : u = 13 ∨ u = 10
                        · have HE : Hid (R = .error 90) := Lib.hid (by
                            rw [← HR.out, headF_bad HAT.out (by rw [HT.out]; exact scan_bad HSC.out HC.out (by rw [HM.out]; exact bare_not hu hbad))])
                          rcases hbad with rfl | rfl
                          · clear hu hq5 hq6
                            go_wp2
                            go_ret3
                            exact rHead_error HE.out rfl HS.out
                          · clear hu hq5 hq6
                            go_wp2
                            go_ret3
                            exact rHead_error HE.out rfl HS.out
                        · have hb1 : u ≠ 13 := fun e => hbad (.inl e)
                          have hb2 : u ≠ 10 := fun e => hbad (.inr e)
                          have q5' : ((u.toNat : Int) == 13) = false := u8_no (n := 13) (fun e => hb1 (UInt8.toNat_inj.1 e))
                          have q6' : ((u.toNat : Int) == 10) = false := u8_no (n := 10) (fun e => hb2 (UInt8.toNat_inj.1 e))
                          have HK2 : Hid (∀ m (x : UInt8), m < k + 1 → M[m]? = some x → x ≠ 13 ∧ x ≠ 10) := Lib.hid (fun m x hm hx => by
                            rcases Nat.lt_or_ge m k with h | h
                            · exact HK.out m x h hx
                            · obtain rfl : m = k := by omega
                              rw [hu] at hx
                              injection hx with hx
                              subst hx
                              exact ⟨hb1, hb2⟩)
                          clear hu hq5 hq6 hbad hb1 hb2
                          go_wp2
                          go_round
                          case rel => exact ⟨k + 1, by go_num, by omega, HK2⟩
                          case measure => simp [intOf]; omega
                      · have HBR : Hid (bareL M = true) := Lib.hid (bare_all (fun m x hm => by
                          refine HK.out m x ?_ hm
                          have h := HMM.out
                          have h2 : M.length = MM.size := by rw [← h]; show _ = M.toArray.size; simp
                          have := (List.getElem?_eq_some_iff.1 hm).1
                          omega))
                        have m1 : ¬ (k : Int) < (MM.size : Int) := by omega
                        have HDL : Hid ((D.map ba).length + 1 ≤ 1000000000000) := Lib.hid (by rw [List.length_map]; omega)
                        have HZ1 := Lib.hid HS.out.size
                        go_wp2_with (first
                          | ((with_reducible show wpList _ _ _ (⟨some 84, _, _, _, _, _⟩ :: _) _ _); refine wpList_rowS_one rfl _ _ rfl w.heap.size _ (D.map ba) rfl HROW.out MM rfl HDL.out HZ1.out ?_; intro v9 w9 hr9 hs9; have HR9 := Lib.hid hr9; have HS9 : Hid (Spares nowhere w w9) := Lib.hid (atLeast_none (w1 := w) ((HS.out.mono (fun _ h => by cases h)).trans hs9) (Nat.le_refl _) (Spares.refl _ _)); clear hr9 hs9)
                          | fail)
                        go_roundw
                        case rel =>
                          have hS := scan_hit HSC.out HC2.out (by rw [HM.out]; exact HBR.out)
                          rw [HM.out] at hS
                          refine ⟨J + 2, J + 2, D ++ [M], by go_num, by go_num, Lib.hid ?_, HS9, by simp; omega, .inl ⟨by omega, Nat.le_refl _, Lib.hid hS⟩⟩
                          have h := HR9.out
                          rw [List.map_append, List.map_singleton]
                          have hm := HMM.out
                          rw [show ba M = MM from hm]
                          exact h
                        case measure => simp [intOf]; omega
            · subst hJ
              have k1 : ¬ ((j : Int) + 2 ≤ (j : Int)) := by omega
              have HE : Hid (R = .ok (D, b.drop (j + 4))) := Lib.hid (by
                rw [← HR.out, headF_ok HAT.out (by rw [HT.out]; exact HD.out.2), HT.out, HD.out.1])
              have HRL : Hid (((bl - (b.drop (j + 4)).length : Nat) : Int) = (j : Int) + 4) := Lib.hid (by rw [List.length_drop, HBL.out]; omega)
              go_wp2
              go_ret3
              exact rHead_ok HE.out (by rw [HBL.out, HRL.out]; rfl) HROW.out HS.out
      · have i2 : ¬ ((j : Int) + 4 ≤ 8192) := by omega
        have hat := noEnd_none HN.out (.inr (by omega))
        have HE : Hid (R = .error 93) := Lib.hid (by rw [← HR.out, headF_none hat, if_neg (by rw [HBL.out]; omega)])
        have i3 : (8192 : Int) ≤ (bl : Int) := by omega
        clear hat
        go_wp2
        go_ret3
        exact rHead_error HE.out rfl (Spares.refl _ _)
    · have i1 : ¬ ((j : Int) + 4 ≤ (bl : Int)) := by omega
      have hat := noEnd_none HN.out (.inl (by rw [HBL.out]; omega))
      by_cases h8 : 8192 ≤ bl
      · have HE : Hid (R = .error 93) := Lib.hid (by rw [← HR.out, headF_none hat, if_neg (by rw [HBL.out]; omega)])
        have i3 : (8192 : Int) ≤ (bl : Int) := by omega
        clear hat
        go_wp2
        go_ret3
        exact rHead_error HE.out rfl (Spares.refl _ _)
      · have HE : Hid (R = .error 92) := Lib.hid (by rw [← HR.out, headF_none hat, if_pos (by rw [HBL.out]; omega)])
        have i3 : ¬ ((8192 : Int) ≤ (bl : Int)) := by omega
        clear hat
        go_wp2
        go_ret3
        exact rHead_error HE.out rfl (Spares.refl _ _)
end Go.Proofs.YtjpmofnnjdhamaaGreatDoor
namespace Go.Proofs.YtjpmofnnjdhamaaGreatDoor
open Go.RowKit HeadMath NormMath NormS HeadS ChunkMath HttpMath

def RWords (W : List Bs) (w : World) (e : Ending) (w' : World) : Prop := ∃ v, e = .returned v ∧ RowS w.heap.size w' v (W.map ba) ∧ Spares nowhere w w'
theorem ba_cut (s : ByteArray) (f j : Nat) : s.extract f j = ba ((s.data.toList.drop f).take (j - f)) := by
  apply ByteArray.ext
  rw [ByteArray.data_extract]
  apply Array.ext'
  rw [Array.toList_extract]
  rfl
theorem ba_tail (s : ByteArray) (f : Nat) : s.extract f s.size = ba (s.data.toList.drop f) := by
  rw [ba_cut, List.take_of_length_le]
  rw [List.length_drop, Array.length_toList]
  exact Nat.le_refl _
set_option maxRecDepth 100000 in
set_option maxHeartbeats 8000000 in
theorem refWords_any (s : ByteArray) (w : World) (hz : s.size ≤ 1000000) : Calls Tryz.prog 55 #[.string s] w (RWords (wordsR s.data.toList) w) := by
  obtain ⟨t, ht⟩ : ∃ t, s.data.toList = t := ⟨_, rfl⟩
  obtain ⟨R, hR⟩ : ∃ R, wordsR t = R := ⟨_, rfl⟩
  rw [ht, hR]
  have HT := Lib.hid ht
  have HR := Lib.hid hR
  have HTL : Hid (t.length = s.size) := Lib.hid (by rw [← ht]; simp)
  clear ht hR
  unfold RWords
  go_enter Tryz.func55, Tryz.ntmps55
  go_wp2
  go_loopw [3, 4, 5] (fun r f i wr => ∃ (J F : Nat) (D : List Bs), i = .int .i64 J ∧ f = .int .i64 F ∧ Hid (RowS w.heap.size wr r (D.map ba)) ∧ Hid (Spares nowhere w wr) ∧ J ≤ s.size ∧ F ≤ J ∧ D.length ≤ 2 ∧ Hid (WordAt t D F J)) (fun _ _ i _ => s.size + 1 - (intOf i).toNat)
  case atStart => exact ⟨0, 0, [], rfl, rfl, Lib.hid (rowS_nil _ _), Lib.hid (Spares.refl _ _), Nat.zero_le _, Nat.le_refl _, by simp, Lib.hid (word_start t)⟩
  case round =>
    obtain ⟨J, F, D, rfl, rfl, HROW, HS, hJ, hFJ, hD, HW⟩ := hrel
    obtain ⟨ar, cr, hv, _⟩ := rowS_in HROW.out
    rw [List.length_map] at hv
    subst hv
    have HDL : Hid ((D.map ba).length + 1 ≤ 1000000000000) := Lib.hid (by rw [List.length_map]; omega)
    have HZ1 := Lib.hid HS.out.size
    by_cases hgo : J < s.size ∧ D.length < 2
    · have hJs : J < s.size := hgo.1
      have hD2 : D.length < 2 := hgo.2
      have i1 : (J : Int) < (s.size : Int) := by omega
      have i2 : (D.length : Int) < 2 := by omega
      obtain ⟨u, hu⟩ : ∃ u, t[J]? = some u := ⟨t[J]'(by have := HTL.out; omega), List.getElem?_eq_getElem _⟩
      have hus : s[J]'hJs = u := by
        have h := HT.out
        subst h
        rw [← (List.getElem?_eq_some_iff.1 hu).2]
        rfl
      by_cases h32 : u = 32
      · subst h32
        obtain ⟨M, hM⟩ : ∃ M, (t.drop F).take (J - F) = M := ⟨_, rfl⟩
        have hx : s.extract F J = ba M := by rw [ba_cut, HT.out, hM]
        have HW2 : Hid (WordAt t (D ++ [M]) (J + 1) (J + 1)) := Lib.hid (by rw [← hM]; exact word_cut HW.out hD2 hu)
        have hd2 : D.length + 1 ≤ 2 := hD2
        have HX := Lib.hid hx
        clear hu hM hgo hx
        go_wp2_with (first
          | ((with_reducible show wpList _ _ _ (⟨some 27, _, _, _, _, _⟩ :: _) _ _); refine wpList_rowS_one rfl _ _ rfl w.heap.size _ (D.map ba) rfl HROW.out (s.extract F J) rfl HDL.out HZ1.out ?_; intro v9 w9 hr9 hs9; have HR9 := Lib.hid hr9; have HS9 : Hid (Spares nowhere w w9) := Lib.hid (atLeast_none (w1 := w) ((HS.out.mono (fun _ h => by cases h)).trans hs9) (Nat.le_refl _) (Spares.refl _ _)); clear hr9 hs9)
          | fail)
        go_roundw
        case rel =>
          refine ⟨J + 1, J + 1, D ++ [M], by go_num, by go_num, Lib.hid ?_, HS9, by omega, Nat.le_refl _, by simp; omega, HW2⟩
          have h := HR9.out
          rw [List.map_append, List.map_singleton, ← HX.out]
          exact h
        case measure => simp [intOf]; omega
      · have q : ((u.toNat : Int) == 32) = false := by
          rw [beq_eq_false_iff_ne]
          intro e
          exact h32 (UInt8.toNat_inj.1 (by show u.toNat = 32; omega))
        have HW2 : Hid (WordAt t D F (J + 1)) := Lib.hid (word_step HW.out hD2 hu h32)
        clear hu h32 hgo
        go_wp2
        go_roundw
        case rel => exact ⟨J + 1, F, D, by go_num, rfl, HROW, HS, by omega, by omega, hD, HW2⟩
        case measure => simp [intOf]; omega
    · have hend : J = t.length ∨ D.length = 2 := by have := HTL.out; omega
      have HE : Hid (R = D ++ [t.drop F]) := Lib.hid (by rw [← HR.out]; exact word_end HW.out hend)
      have hx : s.extract F s.size = ba (t.drop F) := by rw [ba_tail, HT.out]
      have HX := Lib.hid hx
      by_cases hJs : J < s.size
      · have i1 : (J : Int) < (s.size : Int) := by omega
        have i2 : ¬ (D.length : Int) < 2 := by omega
        clear hend hx hgo
        go_wp2_with (first
          | ((with_reducible show wpList _ _ _ (⟨some 35, _, _, _, _, _⟩ :: _) _ _); refine wpList_rowS_one rfl _ _ rfl w.heap.size _ (D.map ba) rfl HROW.out (s.extract F s.size) rfl HDL.out HZ1.out ?_; intro v9 w9 hr9 hs9; have HR9 := Lib.hid hr9; have HS9 : Hid (Spares nowhere w w9) := Lib.hid (atLeast_none (w1 := w) ((HS.out.mono (fun _ h => by cases h)).trans hs9) (Nat.le_refl _) (Spares.refl _ _)); clear hr9 hs9)
          | fail)
        go_ret
        refine ⟨_, rfl, ?_, HS9.out⟩
        have h := HR9.out
        rw [HX.out] at h
        rw [HE.out, List.map_append, List.map_singleton]
        exact h
      · have i1 : ¬ (J : Int) < (s.size : Int) := by omega
        clear hend hx hgo
        go_wp2_with (first
          | ((with_reducible show wpList _ _ _ (⟨some 35, _, _, _, _, _⟩ :: _) _ _); refine wpList_rowS_one rfl _ _ rfl w.heap.size _ (D.map ba) rfl HROW.out (s.extract F s.size) rfl HDL.out HZ1.out ?_; intro v9 w9 hr9 hs9; have HR9 := Lib.hid hr9; have HS9 : Hid (Spares nowhere w w9) := Lib.hid (atLeast_none (w1 := w) ((HS.out.mono (fun _ h => by cases h)).trans hs9) (Nat.le_refl _) (Spares.refl _ _)); clear hr9 hs9)
          | fail)
        go_ret
        refine ⟨_, rfl, ?_, HS9.out⟩
        have h := HR9.out
        rw [HX.out] at h
        rw [HE.out, List.map_append, List.map_singleton]
        exact h
end Go.Proofs.YtjpmofnnjdhamaaGreatDoor
namespace Go.Proofs.YtjpmofnnjdhamaaGreatDoor
open Go.RowKit HeadMath NormMath NormS HeadS ChunkMath

set_option maxRecDepth 100000 in
set_option maxHeartbeats 16000000 in
theorem refChunks_any (a : Option Addr) (c : Nat) (b : Bs) (w : World) (hb : BytesAt w a b) (hc : b.length ≤ c) (hz : b.length ≤ 1000000) (he : FitL b) : Calls Tryz.prog 60 #[.slice a b.length c] w (OpenPost b (openF fieldB b) w) := by
  have HB := Lib.hid hb
  have HEL := Lib.hid he
  obtain ⟨R, hR⟩ : ∃ R, openF fieldB b = R := ⟨_, rfl⟩
  rw [hR]
  have HR0 : Hid (R = chunkG fieldB (b.length + 1) [] (b.drop 0) ∧ (b.drop 0).length < b.length + 1) := Lib.hid ⟨by rw [← hR]; rfl, by simp⟩
  have CLN : Hid (∀ (j : Nat) (W : World), BytesAt W a b → j ≤ b.length → Calls Tryz.prog 83 #[.slice a b.length c, .int .i64 j] W (RefLine b (lineF (b.drop j)) W)) := Lib.hid (fun j W h1 h2 => refLine_any a c b j W h1 hc (by omega) h2 he)
  obtain ⟨bl, hbl⟩ : ∃ bl, b.length = bl := ⟨_, rfl⟩
  have HBL := Lib.hid hbl
  rw [hbl] at hc hz CLN ⊢
  clear hb he hR hbl
  go_enter Tryz.func60, Tryz.ntmps60
  go_wp2
  go_loopw [5, 6] (fun bd at_ wr => ∃ (f j : Nat) (body : Bs) (v : Value), v = bd ∧ at_ = .int .i64 j ∧ j ≤ bl ∧ Hid (R = chunkG fieldB f body (b.drop j) ∧ (b.drop j).length < f) ∧ Hid (Row8 w.heap.size wr v body) ∧ Hid (body.length ≤ 65536) ∧ Hid (Spares nowhere w wr)) (fun _ at_ _ => bl + 1 - (intOf at_).toNat)
  case atStart => exact ⟨_, 0, [], _, rfl, rfl, by omega, HR0, Lib.hid (row8_nil _ _), Lib.hid (by decide), Lib.hid (Spares.refl _ _)⟩
  case round =>
    obtain ⟨f, j, body, v, rfl, rfl, hj, HR, HROW, HLB, HS⟩ := hrel
    obtain ⟨f, rfl⟩ : ∃ g, f = g + 1 := ⟨f - 1, by have := HR.out.2; omega⟩
    have cL := CLN.out j wr (HB.out.spares HS.out (fun _ _ _ h => h)) (by have := HBL.out; omega)
    cases hl : lineF (b.drop j) with
    | error x =>
      rw [hl] at cL
      unfold RefLine at cL
      have HE : Hid (R = .error x) := Lib.hid (HR.out.1.trans (chunkG_line hl))
      have hx : ((x : Int) == 0) = false := by
        cases hd : (x : Int) == 0 with
        | false => rfl
        | true => exact absurd hl (lineF_err (by simpa using hd))
      have hx2 : ((x : Int) != 0) = true := by unfold bne; rw [hx]; rfl
      have hx3 : ¬ (x : Int) = 0 := by simpa using hx
      clear hl
      go_wp2_with fail
      refine cL.mono ?_
      rintro e w1 ⟨rfl, hw⟩
      subst hw
      go_wp2
      go_ret3
      exact openPost_error HE.out rfl HS.out
    | ok tr =>
      obtain ⟨t, r⟩ := tr
      rw [hl] at cL
      unfold RefLine at cL
      have hld := line_drop (by have := HBL.out; omega) hl
      obtain ⟨T, hT⟩ : ∃ T : ByteArray, (⟨t.toArray⟩ : ByteArray) = T := ⟨_, rfl⟩
      have hTd : T.data.toList = t := by rw [← hT]
      have hTz : T.size = t.length := by rw [← hTd]; simp
      have cN := fun W => refLength_any T W (by have := HBL.out; omega)
      rw [hTd] at cN
      rw [HBL.out] at hld
      obtain ⟨j1, hj1⟩ : ∃ j1, bl - r.length = j1 := ⟨_, rfl⟩
      simp only [hT, HBL.out, hj1] at cL
      rw [hj1] at hld
      obtain ⟨g1, g2, g3, g4⟩ := hld
      have j1b : j1 ≤ bl := by omega
      have HL := Lib.hid hl
      have HG1 := Lib.hid g1
      have HRLN : Hid (r.length = bl - j1) := Lib.hid (by omega)
      clear hl hT hTd hTz hj1 g1
      go_wp2_with fail
      refine cL.mono ?_
      rintro e w1 ⟨rfl, hw⟩
      subst hw
      clear cL
      unfold RefLen at cN
      cases hn : lengthF t with
      | none =>
        rw [hn] at cN
        unfold lenV at cN
        have HE : Hid (R = .error 94) := Lib.hid (HR.out.1.trans (chunkG_none HL.out hn))
        clear hn
        go_wp2_with fail
        refine (cN _).mono ?_
        rintro e w1 ⟨rfl, hw⟩
        subst hw
        go_wp2
        go_ret3
        exact openPost_error HE.out rfl HS.out
      | some n =>
        rw [hn] at cN
        unfold lenV at cN
        have HN := Lib.hid hn
        obtain ⟨av, cv, hv, _, _⟩ := HROW.out.shape
        subst hv
        obtain ⟨k, hk⟩ : ∃ k, body.length = k := ⟨_, rfl⟩
        have HK := Lib.hid hk
        have HLB2 := HLB.out
        rw [hk] at HLB2 HROW ⊢
        clear hn hk
        by_cases h0 : n = 0
        · subst h0
          have HT0 : Hid (R = afterT body (trailG fieldB (bl - j1 + 1) 0 (b.drop j1)) ∧ (b.drop j1).length < bl - j1 + 1) := Lib.hid ⟨by rw [HR.out.1, chunkG_zeroT HL.out HN.out, HRLN.out, ← HG1.out], by rw [List.length_drop, HBL.out]; omega⟩
          go_wp2_with fail
          refine (cN _).mono ?_
          rintro e w1 ⟨rfl, hw⟩
          subst hw
          clear cN
          obtain ⟨wo, hwo⟩ : ∃ wo, wo = wr := ⟨_, rfl⟩
          subst hwo
          go_wp2
          go_loopw [6, 13] (fun at_ ln wi => ∃ (f2 j2 q : Nat) (ls : List ByteArray) (v : Value), v = ln ∧ at_ = .int .i64 j2 ∧ j2 ≤ bl ∧ ls.length = q ∧ q ≤ 100 ∧ Hid (R = afterT body (trailG fieldB f2 q (b.drop j2)) ∧ (b.drop j2).length < f2) ∧ Hid (RowS wo.heap.size wi v ls) ∧ Hid ((parseF ls).isSome = true ∧ Small ls) ∧ Hid (Spares nowhere wo wi)) (fun at_ _ _ => bl + 1 - (intOf at_).toNat)
          case atStart => exact ⟨_, j1, 0, [], _, rfl, rfl, j1b, rfl, by omega, HT0, Lib.hid (rowS_nil _ _), Lib.hid ⟨rfl, fun j hj => absurd hj (Nat.not_lt_zero _)⟩, Lib.hid (Spares.refl _ _)⟩
          clear HT0
          case round =>
            obtain ⟨f2, j2, q, ls, v, rfl, rfl, hj2, hq, hq100, HT, HRS, HPS, HS2⟩ := hrel
            obtain ⟨f2, rfl⟩ : ∃ g, f2 = g + 1 := ⟨f2 - 1, by have := HT.out.2; omega⟩
            have cL2 := CLN.out j2 wr (HB.out.spares (HS.out.trans HS2.out) (fun _ _ _ h => h)) hj2
            have HSW := Lib.hid (HS.out.trans HS2.out)
            cases hl2 : lineF (b.drop j2) with
            | error x =>
              rw [hl2] at cL2
              unfold RefLine at cL2
              have HE : Hid (R = .error x) := Lib.hid (by rw [HT.out.1, trailG_line hl2]; rfl)
              have hx : ((x : Int) == 0) = false := by
                cases hd : (x : Int) == 0 with
                | false => rfl
                | true => exact absurd hl2 (lineF_err (by simpa using hd))
              have hx2 : ((x : Int) != 0) = true := by unfold bne; rw [hx]; rfl
              have hx3 : ¬ (x : Int) = 0 := by simpa using hx
              clear hl2
              go_wp2_with fail
              refine cL2.mono ?_
              rintro e w1 ⟨rfl, hw⟩
              subst hw
              go_wp2
              go_ret3
              exact openPost_error HE.out rfl HSW.out
            | ok tr2 =>
              obtain ⟨t2, r2⟩ := tr2
              rw [hl2] at cL2
              unfold RefLine at cL2
              have hld2 := line_drop (by rw [HBL.out]; exact hj2) hl2
              rw [HBL.out] at hld2
              have HL2 := Lib.hid hl2
              clear hl2
              cases t2 with
              | nil =>
                have HE : Hid (R = .ok (body, r2)) := Lib.hid (by rw [HT.out.1, trailG_end HL2.out]; rfl)
                obtain ⟨T2, hT2⟩ : ∃ T2 : ByteArray, (⟨([] : Bs).toArray⟩ : ByteArray) = T2 := ⟨_, rfl⟩
                have q1 : (T2.toList == []) = true := by rw [Lib.toList_data, ← hT2]; rfl
                have q2 : T2.toList.isEmpty = true := by rw [Lib.toList_data, ← hT2]; rfl
                simp only [hT2, HBL.out] at cL2
                clear hT2 hld2
                go_wp2_with fail
                refine cL2.mono ?_
                rintro e w1 ⟨rfl, hw⟩
                subst hw
                go_wp2
                go_ret3
                exact openPost_ok HE.out (by rw [HBL.out]; rfl) (HROW.out.spares HS2.out (fun _ _ h => h)) HSW.out
              | cons x t2 =>
                obtain ⟨T2, hT2⟩ : ∃ T2 : ByteArray, (⟨(x :: t2).toArray⟩ : ByteArray) = T2 := ⟨_, rfl⟩
                have q1 : (T2.toList == []) = false := by rw [Lib.toList_data, ← hT2]; rfl
                have q2 : T2.toList.isEmpty = false := by rw [Lib.toList_data, ← hT2]; rfl
                have hfb : fieldB (x :: t2) = (fieldOf T2).isSome := by unfold fieldB; rw [hT2]
                have HTZ : Hid (T2.size ≤ 140737488351232) := Lib.hid (by
                  rw [← hT2]
                  show (x :: t2).toArray.size ≤ _
                  have := hld2.2.2.2
                  simp at this ⊢
                  omega)
                obtain ⟨j3, hj3⟩ : ∃ j3, bl - r2.length = j3 := ⟨_, rfl⟩
                rw [hj3] at hld2
                simp only [hT2, HBL.out, hj3] at cL2
                obtain ⟨k1, k2, k3, _⟩ := hld2
                have k4 : j3 ≤ bl := by omega
                have HK1 := Lib.hid k1
                have HFB := Lib.hid hfb
                have HZ2 := Lib.hid HS2.out.size
                have HLS : Hid (ls.length + 1 ≤ 1000000000000) := Lib.hid (by omega)
                have HQ := Lib.hid hq
                clear hT2 hfb k1 hj3 hq
                go_wp2_with fail
                refine cL2.mono ?_
                rintro e w1 ⟨rfl, hw⟩
                subst hw
                clear cL2
                go_wp2_with (first
                  | ((with_reducible show wpList _ _ _ (⟨some 96, _, _, _, _, _⟩ :: _) _ _); refine wpList_rowS_one rfl _ _ rfl wo.heap.size _ ls rfl HRS.out T2 rfl HLS.out HZ2.out ?_; intro v9 w9 hr9 hs9; have HR9 := Lib.hid hr9; have HS9 := Lib.hid hs9; clear hr9 hs9)
                  | fail)
                obtain ⟨a9, c9, hv9, hin9⟩ := rowS_in HR9.out
                subst hv9
                have HSM : Hid (Small (ls ++ [T2])) := Lib.hid (by
                  intro i hi
                  rcases Nat.lt_or_ge i ls.length with h | h
                  · rw [List.getElem_append_left h]; exact HPS.out.2 i h
                  · have e : i = ls.length := by simp at hi; omega
                    subst e
                    simpa using HTZ.out)
                have cP := refLines_any ls T2 a9 c9 (ls ++ [T2]).length w9 hin9 rfl HSM.out (by rw [HQ.out]; exact hq100) HPS.out.1
                have HS10 : Hid (Spares nowhere wo w9) := Lib.hid (atLeast_none (w1 := wo) ((HS2.out.mono (fun _ h => by cases h)).trans HS9.out) (Nat.le_refl _) (Spares.refl _ _))
                clear hin9
                refine cP.mono ?_
                rintro e w10 ⟨⟨v10, z10, rfl, hz10⟩, hs10⟩
                have HS11 := Lib.hid (HS10.out.trans hs10)
                rw [HQ.out] at hz10
                have HR10 : Hid (RowS wo.heap.size w10 (.slice a9 (ls ++ [T2]).length c9) (ls ++ [T2])) := Lib.hid (HR9.out.spares hs10 (fun _ _ h => h))
                clear cP hs10
                rcases hz10 with ⟨hg, rfl, hp2⟩ | ⟨hbad, hz⟩
                · have HE : Hid (R = afterT body (trailG fieldB f2 (q + 1) (b.drop j3)) ∧ (b.drop j3).length < f2) := Lib.hid ⟨by rw [HT.out.1, trailG_on HL2.out (by simp) (by rw [HFB.out]; exact hg), HK1.out], by have := HT.out.2; rw [List.length_drop, HBL.out] at this ⊢; omega⟩
                  have HP2 : Hid ((parseF (ls ++ [T2])).isSome = true ∧ Small (ls ++ [T2])) := Lib.hid ⟨hp2, HSM.out⟩
                  have hq1 : q + 1 ≤ 100 := by
                    have : ¬ q = 100 := fun h => hg (.inr h)
                    omega
                  clear hp2 hg
                  go_wp2
                  go_roundw
                  case rel => exact ⟨f2, j3, q + 1, ls ++ [T2], _, rfl, rfl, k4, by rw [List.length_append, HQ.out]; rfl, hq1, HE, Lib.hid (by have := HR10.out; rwa [List.length_append, List.length_singleton] at this), HP2, HS11⟩
                  case measure => simp [intOf]; omega
                · have HE : Hid (R = .error 94) := Lib.hid (by rw [HT.out.1, trailG_bad HL2.out (by simp) (by rw [HFB.out]; exact hbad)]; rfl)
                  clear hbad
                  rcases hz with rfl | rfl
                  · go_wp2
                    go_ret3
                    exact openPost_error HE.out rfl (HS.out.trans HS11.out)
                  · go_wp2
                    go_ret3
                    exact openPost_error HE.out rfl (HS.out.trans HS11.out)
        · have n0 : ((n : Int) == 0) = false := by simpa using h0
          have n1 : ¬ (n : Int) = 0 := by omega
          by_cases hbig : 65536 < k + n
          · have HE : Hid (R = .error 93) := Lib.hid (HR.out.1.trans (chunkG_long HL.out HN.out h0 (by rw [HK.out]; exact hbig)))
            have l1 : (65536 : Int) - (k : Int) < (n : Int) := by omega
            clear h0
            go_wp2_with fail
            refine (cN _).mono ?_
            rintro e w1 ⟨rfl, hw⟩
            subst hw
            go_wp2
            go_ret3
            exact openPost_error HE.out rfl HS.out
          · have l1 : ¬ ((65536 : Int) - (k : Int) < (n : Int)) := by omega
            have nb : (n : Int) ≤ 65536 := by omega
            by_cases hsh : bl - j1 < n
            · have HE : Hid (R = .error 92) := Lib.hid (HR.out.1.trans (chunkG_short HL.out HN.out h0 (by rw [HK.out]; exact hbig) (by rw [HRLN.out]; exact hsh)))
              have l2 : (bl : Int) - (j1 : Int) < (n : Int) := by omega
              clear h0
              go_wp2_with fail
              refine (cN _).mono ?_
              rintro e w1 ⟨rfl, hw⟩
              subst hw
              go_wp2
              go_ret3
              exact openPost_error HE.out rfl HS.out
            · have l2 : ¬ ((bl : Int) - (j1 : Int) < (n : Int)) := by omega
              have HMR : Hid (R = restH fieldB f (body ++ r.take n) 0 (b.drop (j1 + n))) := Lib.hid (by rw [HR.out.1, chunkG_more HL.out HN.out h0 (by rw [HK.out]; exact hbig) (by rw [HRLN.out]; exact hsh), HG1.out, List.drop_drop]; rfl)
              obtain ⟨y, z, rfl, _⟩ := HB.out 0 (by have := HBL.out; omega)
              obtain ⟨M, hM⟩ : ∃ M, r.take n = M := ⟨_, rfl⟩
              have HML : Hid (n = M.length) := Lib.hid (by rw [← hM, List.length_take, HRLN.out]; omega)
              have HMA : Hid (BytesAt wr (some ⟨y, z + j1, none⟩) M) := Lib.hid (by
                rw [← hM, HG1.out]
                exact bytesAt_take8 (bytesAt_drop8 (HB.out.spares HS.out (fun _ _ _ h => h)) j1) n)
              rw [hM] at HMR
              have HML2 : Hid (j1 + n - j1 = M.length) := Lib.hid (by rw [Nat.add_sub_cancel_left]; exact HML.out)
              have HX1 : Hid (body.length + (j1 + n - j1) ≤ 140737488355328) := Lib.hid (by rw [HK.out]; omega)
              have HZ1 := Lib.hid HS.out.size
              have s1 : (j1 : Int) + (n : Int) ≤ (c : Int) := by omega
              have s2 : (j1 : Int) < (c : Int) := by omega
              have s3 : j1 < c := by omega
              clear h0 hM
              go_wp2_with fail
              refine (cN _).mono ?_
              rintro e w1 ⟨rfl, hw⟩
              subst hw
              clear cN
              go_wp2_with (first
                | ((with_reducible show wpList _ _ _ (⟨some 57, _, _, _, _, _⟩ :: _) _ _); refine wpList_row_bytes rfl _ _ rfl w.heap.size _ body rfl HROW.out (some ⟨y, z + j1, none⟩) (c - j1) (j1 + n - j1) M rfl HML2.out HMA.out (fun e => by cases e) HX1.out HZ1.out ?_; intro v2 w2 hr2 hs2; have HR2 := Lib.hid hr2; have HS2 : Hid (Spares nowhere w w2) := Lib.hid (HS.out.trans' hs2 (fun k hk => .inr hk)); clear hr2 hs2)
                | fail)
              go_loopw [6, 12] (fun at_ i wi => ∃ m J : Nat, m ≤ 2 ∧ i = .int .i64 m ∧ at_ = .int .i64 J ∧ J = j1 + n + m ∧ J ≤ bl ∧ Hid (R = restH fieldB f (body ++ M) m (b.drop J)) ∧ Hid (Spares nowhere w2 wi)) (fun _ i _ => 3 - (intOf i).toNat)
              case atStart => exact ⟨0, j1 + n, by omega, rfl, by go_num, rfl, by omega, HMR, Lib.hid (Spares.refl _ _)⟩
              clear HMR
              case round =>
                obtain ⟨m, J, hm, rfl, rfl, hJ, hJb, HRR, HSI⟩ := hrel
                have HSW := Lib.hid (HS2.out.trans HSI.out)
                have HJE := Lib.hid hJ
                clear hJ
                by_cases hm2 : m = 2
                · subst hm2
                  have HE : Hid (R = chunkG fieldB f (body ++ M) (b.drop J) ∧ (b.drop J).length < f) := Lib.hid ⟨HRR.out, by have := HR.out.2; have hJ := HJE.out; rw [List.length_drop, HBL.out] at this ⊢; omega⟩
                  have HR3 := Lib.hid (HR2.out.spares HSI.out (fun _ _ h => h))
                  have HB3 : Hid ((body ++ M).length ≤ 65536) := Lib.hid (by rw [List.length_append, HK.out, ← HML.out]; omega)
                  go_wp2
                  go_roundw
                  case rel => exact ⟨f, J, body ++ M, _, rfl, rfl, hJb, HE, HR3, HB3, HSW⟩
                  case measure => have hJ := HJE.out; simp [intOf]; omega
                · cases hd : b.drop J with
                  | nil =>
                    have HE : Hid (R = .error 92) := Lib.hid (by rw [HRR.out, hd, restH_nil (by omega)])
                    have i1 : (bl : Int) ≤ (J : Int) := by have := drop_end hd; have := HBL.out; omega
                    have i2 : (m : Int) < 2 := by omega
                    clear hd
                    go_wp2
                    go_ret3
                    exact openPost_error HE.out rfl HSW.out
                  | cons x r' =>
                    obtain ⟨g1, g2, g3⟩ := drop_get hd
                    have i1 : ¬ (bl : Int) ≤ (J : Int) := by have := HBL.out; omega
                    obtain ⟨y2, z2, e2, c1⟩ := HB.out J g2
                    injection e2 with e2
                    injection e2 with e3 e4
                    subst e3
                    subst e4
                    have hx1 : b[J] = x := by have := List.getElem?_eq_getElem g2; rw [g1] at this; exact (Option.some.inj this).symm
                    rw [hx1] at c1
                    have HD := Lib.hid hd
                    have HG3 := Lib.hid g3
                    have jb : J + 1 ≤ bl := by have := HBL.out; omega
                    have cw := (HSW.out.trans (Spares.refl nowhere wr)).size
                    have c2 : wr.cell? ⟨y, z + J, none⟩ = some (.int .u8 x.toNat) := by
                      obtain ⟨y5, z5, e5, h5⟩ := (HB.out.spares HSW.out (fun _ _ _ h => h)) J g2
                      injection e5 with e5
                      injection e5 with e6 e7
                      subst e6
                      subst e7
                      rw [h5, hx1]
                    clear hd g1 g3 hx1 c1 cw
                    rcases (show m = 0 ∨ m = 1 by omega) with rfl | rfl
                    · by_cases hx : x = 13
                      · subst hx
                        have HE : Hid (R = restH fieldB f (body ++ M) 1 (b.drop (J + 1))) := Lib.hid (by rw [HRR.out, HD.out, HG3.out]; rfl)
                        go_wp2
                        go_region
                        go_wp2
                        go_roundw
                        case rel => exact ⟨1, J + 1, by omega, by go_num, by go_num, by have hJ := HJE.out; omega, jb, HE, Lib.hid (HSI.out.drew)⟩
                        case measure => simp [intOf]
                      · have q : ((x.toNat : Int) == 13) = false := by
                          rw [beq_eq_false_iff_ne]
                          intro e
                          exact hx (UInt8.toNat_inj.1 (by show x.toNat = 13; omega))
                        have q2 : ((x.toNat : Int) != 13) = true := by unfold bne; rw [q]; rfl
                        have q3 : ((x.toNat : Int) != ((((⟨#[13, 10]⟩ : ByteArray)[0]'(by decide)).toNat : Nat) : Int)) = true := q2
                        have HE : Hid (R = .error 94) := Lib.hid (by rw [HRR.out, HD.out, restH_bad0 hx])
                        clear hx
                        go_wp2
                        go_region
                        go_wp2
                        go_ret3
                        exact openPost_error HE.out rfl (HSW.out.drew)
                    · by_cases hx : x = 10
                      · subst hx
                        have HE : Hid (R = restH fieldB f (body ++ M) 2 (b.drop (J + 1))) := Lib.hid (by rw [HRR.out, HD.out, HG3.out]; rfl)
                        go_wp2
                        go_region
                        go_wp2
                        go_roundw
                        case rel => exact ⟨2, J + 1, by omega, by go_num, by go_num, by have hJ := HJE.out; omega, jb, HE, Lib.hid (HSI.out.drew)⟩
                        case measure => simp [intOf]
                      · have q : ((x.toNat : Int) == 10) = false := by
                          rw [beq_eq_false_iff_ne]
                          intro e
                          exact hx (UInt8.toNat_inj.1 (by show x.toNat = 10; omega))
                        have q2 : ((x.toNat : Int) != 10) = true := by unfold bne; rw [q]; rfl
                        have q3 : ((x.toNat : Int) != ((((⟨#[13, 10]⟩ : ByteArray)[1]'(by decide)).toNat : Nat) : Int)) = true := q2
                        have HE : Hid (R = .error 94) := Lib.hid (by rw [HRR.out, HD.out, restH_bad1 hx])
                        clear hx
                        go_wp2
                        go_region
                        go_wp2
                        go_ret3
                        exact openPost_error HE.out rfl (HSW.out.drew)
end Go.Proofs.YtjpmofnnjdhamaaGreatDoor
