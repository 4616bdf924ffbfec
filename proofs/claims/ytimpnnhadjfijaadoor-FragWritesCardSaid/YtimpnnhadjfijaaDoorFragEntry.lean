/-
  An entry of the directory, written.
-/
import Derived.Test.YtimpnnhadjfijaaDoorFragSectors
import Derived.Test.YtimpnnhadjfijaaDoorShaSum
import Derived.Laws.Cover3
namespace Go.Proofs.YtimpnnhadjfijaaDoor
open Go.RowKit

def entryF (tag at_ sec turn : Nat) : List UInt8 := beN 4 at_ ++ beN 2 sec ++ beN 2 tag ++ beN 8 turn
theorem entryF_len (tag at_ sec turn : Nat) : (entryF tag at_ sec turn).length = 16 := by unfold entryF; simp [beN_len]
theorem newFW {w w1 : World} {q : Nat} (h : w1 = w.alloc (.cells #[.slice none 0 0] 56)) (hq : q = w.heap.size) : IsFW (fun k => k = q) q [] w1 := by
  subst h; subst hq
  refine ⟨rfl, fun k hk => by subst hk; simp, _, heap_alloc_new w _, ownBytes_nil _, fun g hg => by simp [Value.ownBlock] at hg⟩
theorem arr16 (a : Option Addr) (c : Nat) (w : World) : (Instr.arrayAt 45 (.slice a 16 c)).run Tryd.prog w = .ok (.pointer a) w := run_arrayAt w 45 _ 16 _ 16 c Tryd.underlying45 (by omega)
theorem info16 : (Tryd.prog.info? 45).map (·.size) = some 16 := by kernel_rfl
theorem BytesAt.range {w : World} {g off : Nat} {l : List UInt8} (h : BytesAt w (some ⟨g, off, none⟩) l) : w.rangeAt g off (Lib.byteCells l) := fun j v hj => by
  have := h.cells j v hj
  rwa [Addr.add_lit] at this
set_option maxRecDepth 100000 in
set_option maxHeartbeats 1000000 in
theorem entry_any (tag at_ sec turn T U : Nat) (w : World) (hT : Go.bits .and .u16 (tag : Int) 4095 = (T : Int)) (hU : Go.bits .or .u64 (turn : Int) 9223372036854775808 = (U : Int)) (_h1 : tag < 65536) (h2 : at_ < 4294967296) (h3 : sec < 65536) (hT2 : T < 65536) :
    Calls Tryd.prog 17 #[.agg #[.int .u16 tag, .int .u32 at_, .int .u16 sec, .int .u64 turn]] w fun e w' => e = .returned (.agg (bytesV (entryF T at_ sec U))) ∧ Spares nowhere w w' := by
  have w1 : IntKind.u64.wrap (at_ : Int) = (at_ : Int) := by rw [IntKind.wrap_u64]; omega
  have w2 : IntKind.u64.wrap (sec : Int) = (sec : Int) := by rw [IntKind.wrap_u64]; omega
  have w3 : IntKind.u64.wrap (T : Int) = (T : Int) := by rw [IntKind.wrap_u64]; omega
  obtain ⟨D, hD⟩ : ∃ D, entryF T at_ sec U = D := ⟨_, rfl⟩
  have hDl : D.length = 16 := by rw [← hD]; exact entryF_len ..
  rw [hD]
  have HD := Lib.hid hD
  obtain ⟨v3, hv3⟩ : ∃ v3, ((w.alloc (.cells #[.int .u16 tag, .int .u32 at_, .int .u16 sec, .int .u64 turn] 44)).alloc (.cells (bytesV (List.replicate 16 0)) 45)).alloc (.cells #[.slice none 0 0] 56) = v3 := ⟨_, rfl⟩
  have HV3 := Lib.hid hv3
  have hsz : v3.heap.size = w.heap.size + 3 := by rw [← hv3]; simp
  have HW0 : Hid (IsFW (fun k => k = w.heap.size + 1 + 1) (w.heap.size + 1 + 1) [] v3) := Lib.hid (newFW hv3.symm (by simp))
  have HQ0 : Hid (v3.heap[w.heap.size]? = some (.cells #[.int .u16 tag, .int .u32 at_, .int .u16 sec, .int .u64 turn] 44 (0, 0))) := Lib.hid (by
    rw [← hv3]
    exact (Below.heap_alloc _ _ _ (by simp; omega)).trans ((Below.heap_alloc _ _ _ (by simp)).trans (heap_alloc_new w _)))
  have HR0 : Hid (v3.heap[w.heap.size + 1]? = some (.cells (bytesV (List.replicate 16 0)) 45 (0, 0))) := Lib.hid (by
    rw [← hv3]
    refine (Below.heap_alloc _ _ _ (by simp)).trans ?_
    have := heap_alloc_new (w.alloc (.cells #[.int .u16 tag, .int .u32 at_, .int .u16 sec, .int .u64 turn] 44)) (.cells (bytesV (List.replicate 16 0)) 45)
    simpa using this)
  have HS0 : Hid (Spares nowhere w v3) := Lib.hid (by rw [← hv3]; exact (((Spares.refl _ w).alloc _).alloc _).alloc _)
  have HZ := Lib.hid hsz
  clear hv3 hD hsz
  go_enter Tryd.func17, Tryd.ntmps17
  go_wp2_with fail
  change Calls _ _ _ (((w.alloc (.cells #[.int .u16 tag, .int .u32 at_, .int .u16 sec, .int .u64 turn] 44)).alloc (.cells (bytesV (List.replicate 16 0)) 45)).alloc (.cells #[.slice none 0 0] 56)) _
  rw [HV3.out]
  refine (fwNum_any _ _ [] at_ 4 v3 HW0.out (by omega) (by simp)).mono ?_
  rintro e v4 ⟨rfl, F4, hW4, hM4⟩
  have hq4 := hM4.1.heap HQ0.out (fun h => by omega)
  have c4 : v4.cell? ⟨w.heap.size, 2, none⟩ = some (.int .u16 sec) := by rw [Lib.cell_of_heap hq4]; rfl
  have HW4 := Lib.hid hW4
  have HM4 := Lib.hid hM4
  clear hW4 hM4 hq4 HW0
  go_wp2_with fail
  refine (fwNum_any _ _ _ sec 2 v4 HW4.out (by omega) (by simp [beN_len])).mono ?_
  rintro e v5 ⟨rfl, F5, hW5, hM5⟩
  replace hM5 := HM4.out.trans hM5
  have hq5 := hM5.1.heap HQ0.out (fun h => by omega)
  have c5 : v5.cell? ⟨w.heap.size, 0, none⟩ = some (.int .u16 tag) := by rw [Lib.cell_of_heap hq5]; rfl
  have HW5 := Lib.hid hW5
  have HM5 := Lib.hid hM5
  clear hW5 hM5 hq5 HW4 HM4 c4
  go_wp2_with fail
  refine (fwNum_any _ _ _ T 2 v5 HW5.out (by omega) (by simp [beN_len])).mono ?_
  rintro e v6 ⟨rfl, F6, hW6, hM6⟩
  replace hM6 := HM5.out.trans hM6
  have hq6 := hM6.1.heap HQ0.out (fun h => by omega)
  have c6 : v6.cell? ⟨w.heap.size, 3, none⟩ = some (.int .u64 turn) := by rw [Lib.cell_of_heap hq6]; rfl
  have HW6 := Lib.hid hW6
  have HM6 := Lib.hid hM6
  clear hW6 hM6 hq6 HW5 HM5 c5
  go_wp2_with fail
  refine (fwNum_any _ _ _ U 8 v6 HW6.out (by omega) (by simp [beN_len])).mono ?_
  rintro e v7 ⟨rfl, F7, hW7, hM7⟩
  replace hM7 := HM6.out.trans hM7
  have hr7 := hM7.1.heap HR0.out (fun h => by omega)
  have hw7 : IsFW F7 (w.heap.size + 1 + 1) D v7 := by rw [← HD.out]; simpa [entryF] using hW7
  clear hW7
  obtain ⟨_, _, v, hv, ho, _⟩ := hw7
  obtain ⟨a9, c9, rfl, hat, _⟩ := ho.shape
  rw [hDl] at hv
  have c7 : v7.cell? ⟨w.heap.size + 1 + 1, 0, none⟩ = some (.slice a9 16 c9) := by rw [Lib.cell_of_heap hv]; rfl
  obtain ⟨g9, o9, rfl, _⟩ := hat 0 (by omega)
  have HA := Lib.hid hat.range
  have h16 := fun w => arr16 (some ⟨g9, o9, none⟩) c9 w
  have infoC : (Tryd.prog.info? 45).map (·.size) = some (Lib.byteCells D).length := by rw [byteCells_len, hDl]; exact info16
  have infoV : (Tryd.prog.info? 45).map (·.size) = some (bytesV D).size := by rw [bytesV_size, hDl]; exact info16
  have htq : v7.there (w.heap.size + 1) 0 (bytesV D).size := there_of hr7 0 _ (by rw [bytesV_size, bytesV_size, hDl]; simp)
  have hgq : (v7.setCells (w.heap.size + 1) 0 (Lib.byteCells D)).heap[w.heap.size + 1]? = some (.cells (bytesV D) 45 (0, 0)) := by
    have := heap_setCells (g := w.heap.size + 1) (t := 45) (Lib.byteCells D) [] (Lib.byteCells (List.replicate 16 0)) [] v7 (by rw [List.append_nil]; exact hr7) (by rw [byteCells_len, byteCells_len, hDl]; simp)
    rw [List.append_nil] at this
    exact this
  have HT := Lib.hid htq
  have HGQ := Lib.hid hgq
  have HI := Lib.hid infoC
  have HI2 := Lib.hid infoV
  have HM7 := Lib.hid hM7
  clear hM7 hr7 hv ho hat htq hgq infoC infoV HW6 HM6 c6
  go_wp2_with (first
    | ((with_reducible show wpList _ _ _ (⟨some 24, .load 45 _, _, _, _, _⟩ :: _) _ _); refine wpList_load_mid rfl 45 (.tmp 23) rfl g9 o9 rfl (Lib.byteCells D) _ HA.out Tryd.underlying45 rfl HI.out ?_)
    | ((with_reducible show wpList _ _ _ (⟨none, .store 45 _ _, _, _, _, _⟩ :: _) _ _); refine wpList_store_mid rfl 45 (.tmp 2) (.tmp 24) rfl (w.heap.size + 1) 0 (bytesV D) rfl rfl HT.out HI2.out (bytesV_one _) ?_))
  exact bodyPost_ret (v := .agg (bytesV D)) (results_cell_row rfl _ _ (w.heap.size + 1) 45 (bytesV D) (0, 0) _ rfl HGQ.out Tryd.underlying45 (by rfl) HI2.out) rfl ⟨rfl, (HS0.out.trans' HM7.out.1 (fun b hb => .inr (by omega))).trans' (F' := fun b => b = w.heap.size + 1) (spares_setCells _ _ _ (Spares.refl _ _)) (fun b hb => .inr (by omega))⟩
end Go.Proofs.YtimpnnhadjfijaaDoor
