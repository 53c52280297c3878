/- THE PROGRAM's BYTES, WRITTEN: numbers. -/
import Derived.Test.YtcclepohmhdpbaaGreatDoorBnBits
import Derived.Test.YtcclepohmhdpbaaGreatDoorStr
import Derived.Test.YtcclepohmhdpbaaGreatDoorFrame
import Derived.Laws.IdiomStrings
namespace Go.Proofs.YtcclepohmhdpbaaGreatDoor
set_option linter.all false
open Go.RowKit Go.Deep

namespace Bn
/-- The bytes of a number, of which k are written. -/
def part (lit : Bool) (n v k : Nat) : List UInt8 := if lit = true then (low n v).take k ++ List.replicate (n - k) 0 else List.replicate (n - k) 0 ++ ((low n v).take k).reverse
theorem part_length (lit : Bool) {n v k : Nat} (h : k ≤ n) : (part lit n v k).length = n := by
  unfold part
  split <;> simp [low_length] <;> omega
theorem part_zero (lit : Bool) (n v : Nat) : part lit n v 0 = List.replicate n 0 := by unfold part; split <;> simp
theorem part_end (lit : Bool) (n v : Nat) : part lit n v n = put lit n v := by
  unfold part put
  rw [Nat.sub_self, List.take_of_length_le (by rw [low_length]; omega)]
  split <;> simp
theorem low_at : ∀ (n v k : Nat), k < n → (low n v)[k]? = some (UInt8.ofNat (v / 256 ^ k % 256))
  | 0, _, _, h => by omega
  | n + 1, v, 0, _ => by simp [low]
  | n + 1, v, k + 1, h => by
    simp only [low, List.getElem?_cons_succ]
    rw [low_at n (v / 256) k (by omega), Nat.div_div_eq_div_mul, Nat.pow_succ, Nat.mul_comm 256]
theorem part_step (lit : Bool) {n v k : Nat} (h : k < n) : part lit n v (k + 1) = (part lit n v k).set (if lit = true then k else n - 1 - k) (UInt8.ofNat (v / 256 ^ k % 256)) := by
  have e1 : (low n v).take (k + 1) = (low n v).take k ++ [UInt8.ofNat (v / 256 ^ k % 256)] := Pl.take_one (low_at n v k h)
  have e2 : n - k = (n - (k + 1)) + 1 := by omega
  have e3 : ((low n v).take k).length = k := by rw [List.length_take, low_length]; omega
  cases lit
  · show List.replicate (n - (k + 1)) 0 ++ ((low n v).take (k + 1)).reverse = (List.replicate (n - k) 0 ++ ((low n v).take k).reverse).set (n - 1 - k) _
    rw [e1, e2, List.reverse_append, List.set_append_left _ _ (by simp; omega)]
    have : (List.replicate (n - (k + 1) + 1) (0 : UInt8)).set (n - 1 - k) (UInt8.ofNat (v / 256 ^ k % 256)) = List.replicate (n - (k + 1)) 0 ++ [UInt8.ofNat (v / 256 ^ k % 256)] := by
      rw [show n - 1 - k = n - (k + 1) by omega]
      generalize n - (k + 1) = m
      rw [List.replicate_succ', List.set_append_right _ _ (by simp)]
      simp
    rw [this]
    simp
  · show (low n v).take (k + 1) ++ List.replicate (n - (k + 1)) 0 = ((low n v).take k ++ List.replicate (n - k) 0).set k _
    rw [e1, e2, List.set_append_right _ _ (by omega), e3, Nat.sub_self, List.replicate_succ, List.set_cons_zero]
    simp
def cells (l : List UInt8) : List Value := l.map fun c => .int .u8 (c.toNat : Int)
theorem cells_set (l : List UInt8) (i : Nat) (c : UInt8) : cells (l.set i c) = (cells l).set i (.int .u8 (c.toNat : Int)) := by simp [cells]
theorem cells_at {l : List UInt8} {i : Nat} (h : i < l.length) : (cells l)[i]? = some (.int .u8 (l[i].toNat : Int)) := by simp [cells, h]
end Bn

theorem und_bytes : Tryz.prog.underlying 151 = some (.slice 5) := by kernel_rfl
theorem und_byte : Tryz.prog.underlying 5 = some (.int .u8) := by kernel_rfl
theorem und_str : Tryz.prog.underlying 9 = some .string := by kernel_rfl
theorem info_byte : (Tryz.prog.info? 5).map (fun i => (i.zero, i.size, i.bytes)) = some (some (.int .u8 0), 1, 1) := by kernel_rfl

theorem make_bytes (n : Nat) (hn : n ≤ 2097152) (w : World) :
    (Instr.makeSlice 151 (.int .i64 (n : Int)) (.int .i64 (n : Int))).run Tryz.prog w = .ok (.slice (some ⟨w.heap.size, 0, none⟩) n n) (w.alloc (.cells (Bn.cells (List.replicate n 0)).toArray 5)) := by
  rw [run_make_row' 151 5 _ 1 und_bytes info_byte rfl .i64 .i64 n (by omega) (by omega) w]
  congr 3
  rw [← Array.toArray_toList (xs := madeCells _ _), toList_madeCells_one]
  congr 1
  simp [Bn.cells]

theorem bytes_string {w : World} {b n : Nat} {l : List UInt8} (h : VRow w b 5 (Bn.cells l)) (hl : l.length = n) :
    (convert 151 9 (.slice (some ⟨b, 0, none⟩) n n)).run Tryz.prog w = .ok (.string (bs l)) w := by
  subst hl
  refine run_convert_bytes_back w _ _ _ ⟨b, 0, none⟩ l.length l und_bytes und_byte und_str fun j hj => ?_
  have : (⟨b, 0, none⟩ : Addr).add j = ⟨b, j, none⟩ := by unfold Addr.add; split <;> simp_all
  rw [this]
  exact h.cell (Bn.cells_at hj)

set_option maxRecDepth 100000 in
set_option maxHeartbeats 2000000 in
theorem wnum_any (n v : Nat) (o : Int) (lit : Bool) (w : World) (hlit : lit = (o == 1)) (hn : n ≤ 8) (hv : v < 18446744073709551616) :
    Calls Tryz.prog 189 #[.int .u64 v, .int .i64 n, .int .i64 o] w fun e w' => e = .returned (.string (bs (Bn.put lit n v))) ∧ Up w w' := by
  have hmk := make_bytes n (by omega)
  have HNW := hide (VRow.new w (Bn.cells (List.replicate n 0)) 5)
  go_enter Tryz.func189, Tryz.ntmps189
  go_wp2
  clear hmk
  go_loopw [8, 9] (fun r i wr => ∃ k : Nat, k ≤ n ∧ i = .int .i64 k ∧ r = .int .u64 (v / 256 ^ k : Nat) ∧ Hid (VRow wr w.heap.size 5 (Bn.cells (Bn.part lit n v k))) ∧ Hid (Up w wr)) (fun _ i _ => n - (intOf i).toNat)
  case atStart => exact ⟨0, Nat.zero_le _, rfl, by simp, by rw [Bn.part_zero]; exact HNW, (Up.refl w).alloc _⟩
  case round =>
    obtain ⟨k, hk, rfl, rfl, HV, HU⟩ := hrel
    by_cases hlt : k < n
    · have HS := hide (Bn.part_step lit (v := v) hlt)
      have hR : v / 256 ^ k < 18446744073709551616 := Nat.lt_of_le_of_lt (Nat.div_le_self _ _) hv
      have HD : Hid (v / 256 ^ (k + 1) = v / 256 ^ k / 256) := by show _ = _; rw [Nat.div_div_eq_div_mul, Nat.pow_succ]
      generalize v / 256 ^ k = R at *
      have hy : ((R : Int) % 256) = ((UInt8.ofNat (R % 256)).toNat : Int) := by simp
      generalize UInt8.ofNat (R % 256) = y at *
      have hpl := Bn.part_length lit (v := v) hk
      generalize Bn.part lit n v k = L at *
      cases lit
      · have ho := hlit.symm
        have c0 := HV.out.cell (Bn.cells_at (l := L) (i := n - 1 - k) (by omega))
        have f0 := HV.out.frozen (n - 1 - k)
        have HX : Hid (Bn.part false n v (k + 1) = L.set (n - 1 - k) y) := HS.out
        clear hlit HS
        go_wp2
        go_roundw
        case rel => exact ⟨k + 1, by omega, by go_num, by rw [HD.out]; simp, by rw [HX.out, Bn.cells_set]; exact HV.out.set _ _, HU.out.setCell (p := ⟨w.heap.size, n - 1 - k, none⟩) (Nat.le_refl _) _⟩
        case measure => simp [intOf]; omega
      · have ho := hlit.symm
        have c0 := HV.out.cell (Bn.cells_at (l := L) (i := k) (by omega))
        have f0 := HV.out.frozen k
        have HX : Hid (Bn.part true n v (k + 1) = L.set k y) := HS.out
        clear hlit HS
        go_wp2
        go_roundw
        case rel => exact ⟨k + 1, by omega, by go_num, by rw [HD.out]; simp, by rw [HX.out, Bn.cells_set]; exact HV.out.set _ _, HU.out.setCell (p := ⟨w.heap.size, k, none⟩) (Nat.le_refl _) _⟩
        case measure => simp [intOf]; omega
    · have hkn : k = n := by omega
      subst hkn
      rw [Bn.part_end] at HV
      have kc := bytes_string HV.out (Bn.put_length lit k v)
      clear hlit
      go_wp2
      go_ret
      exact ⟨rfl, HU.out⟩
end Go.Proofs.YtcclepohmhdpbaaGreatDoor
