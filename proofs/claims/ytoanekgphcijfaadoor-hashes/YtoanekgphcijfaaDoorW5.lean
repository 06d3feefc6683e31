import Derived.Test.YtoanekgphcijfaaDoorW4
namespace Go.Proofs.YtoanekgphcijfaaDoor
open Go.RowKit
open Sha

theorem run_mk44 (wx : World) (L C : Int) (h0 : 0 ≤ L) (h1 : L ≤ C) (h2 : C ≤ 1000) :
    (Instr.makeSlice 64 (.int .i64 L) (.int .i64 C)).run Tryd.prog wx = .ok (.slice (some ⟨wx.heap.size, 0, none⟩) L.toNat C.toNat) (wx.alloc (.cells (madeCells #[.int .u8 0] C.toNat) 5)) := by
  obtain ⟨i0, hi, hz0, hz1, hz2⟩ := info_parts info5'
  have := run_make (P := Tryd.prog) wx 64 5 i0 (.int .u8 0) und44 hi hz0 .i64 .i64 L C h0 h1 (by rw [hz2]; omega) (by omega)
  rw [this, hz1, Nat.mul_one]; rfl
def zeroRow (n : Nat) : Array Value := madeCells #[.int .u8 0] n
theorem zeroRow_size (n : Nat) : (zeroRow n).size = n := size_madeCells _ _
theorem zeroRow_at (n j : Nat) (h : j < n) : (zeroRow n)[j]? = some (.int .u8 0) := by simp [zeroRow, madeCells, h, Nat.mod_one]
theorem zeroRow_set (z : Nat) : ((zeroRow (z + 9)).setIfInBounds 0 (.int .u8 128)).toList.take (z + 1) = (128 :: List.replicate z 0 : List UInt8).map bcell := by
  apply List.ext_getElem?
  intro j
  rw [List.getElem?_take, List.getElem?_map]
  by_cases h : j < z + 1
  · rw [if_pos h, Array.getElem?_toList]
    cases j with
    | zero => rw [Array.getElem?_setIfInBounds_self_of_lt (by rw [zeroRow_size]; omega)]; rfl
    | succ j => rw [Array.getElem?_setIfInBounds_ne (by omega), zeroRow_at _ _ (by omega), List.getElem?_cons_succ, List.getElem?_replicate, if_pos (by omega)]; rfl
  · rw [if_neg h, List.getElem?_eq_none (by simp; omega)]; rfl
theorem ownB_first (w : World) (z : Nat) (hz : z < 64) : OwnB (w.alloc (.cells ((zeroRow (z + 9)).setIfInBounds 0 (.int .u8 128)) 5)) w.heap.size (.slice (some ⟨w.heap.size, 0, none⟩) (z + 1) (z + 9)) (128 :: List.replicate z 0) := by
  have hl : ((128 :: List.replicate z 0 : List UInt8).map bcell).length = z + 1 := by simp
  refine ⟨by simp, Or.inr ⟨w.heap.size, z + 9, _, by rw [hl], Nat.le_refl _, heap_alloc_new _ _, by rw [hl]; omega, by unfold maxLen; omega, by simp [zeroRow_size], ?_⟩⟩
  rw [hl, Nat.mul_one]; exact zeroRow_set z
theorem byte_val (n e : Nat) : Value.int .u8 ((n : Int) * 8 / 2 ^ e % 256) = bcell (UInt8.ofNat (8 * n / 2 ^ e)) := by
  have : (n : Int) * 8 / 2 ^ e % 256 = ((8 * n / 2 ^ e % 256 : Nat) : Int) := by rw [Nat.mul_comm 8 n]; simp
  rw [this]; unfold bcell; rw [UInt8.toNat_ofNat']
theorem take_len8 (n j : Nat) (h : j < 8) : (len8 n).take (j + 1) = (len8 n).take j ++ [UInt8.ofNat (n / 2 ^ (56 - 8 * j))] := by
  rw [List.take_succ_eq_append_getElem (by simp [len8]; omega)]
  simp [len8]
set_option maxHeartbeats 1000000 in
theorem padding_any (b n : Nat) (w : World) (hn : n < 2305843009213693952)
    (hh : w.cell? ⟨b, 72, none⟩ = some (.int .i64 ((n % 64 : Nat) : Int))) (ht : w.cell? ⟨b, 73, none⟩ = some (.int .u64 (n : Int))) (hlt : b < w.heap.size) :
    Calls Tryd.prog 111 #[.pointer (some ⟨b, 0, none⟩)] w fun r w' => r = .returned (.string ⟨(pad n).toArray⟩) ∧ Below w.heap.size w w' := by
  obtain ⟨k, hk⟩ : ∃ k, k = n % 64 := ⟨_, rfl⟩
  rw [← hk] at hh
  have hk64 : k < 64 := by omega
  have HK : Hid (k = n % 64) := hk
  clear hk
  obtain ⟨z, hz⟩ : ∃ z : Nat, z = (119 - k) % 64 := ⟨_, rfl⟩
  have hz64 : z < 64 := by omega
  have hmk : ∀ wx, (Instr.makeSlice 64 (.int .i64 (1 + (55 - (k : Int)) % 64)) (.int .i64 (1 + (55 - (k : Int)) % 64 + 8))).run Tryd.prog wx = .ok (.slice (some ⟨wx.heap.size, 0, none⟩) (z + 1) (z + 9)) (wx.alloc (.cells (zeroRow (z + 9)) 5)) := by
    intro wx
    have e : 1 + (55 - (k : Int)) % 64 = ((z + 1 : Nat) : Int) := by omega
    rw [e, show ((z + 1 : Nat) : Int) + 8 = ((z + 9 : Nat) : Int) by omega]
    exact run_mk44 wx _ _ (by omega) (by omega) (by omega)
  have hz0 := zeroRow_at (z + 9) 0 (by omega)
  have HZ : Hid (z = (119 - k) % 64) := hz
  clear hz
  go_enter Tryd.func111, Tryd.ntmps111
  go_wp2_with fail
  clear hmk hh ht
  have hl8 : (len8 (8 * n)).length = 8 := by simp [len8]
  go_loopw [5, 7] (fun v i wr => ∃ j : Nat, j ≤ 8 ∧ i = .int .i64 (56 - 8 * (j : Int)) ∧ OwnB wr w.heap.size v ((128 :: List.replicate z 0) ++ (len8 (8 * n)).take j) ∧ Below w.heap.size w wr) (fun _ i _ => (intOf i + 8).toNat)
  case atStart => exact ⟨0, by omega, rfl, by simpa using ownB_first w z hz64, (Below.refl _ _).alloc (Nat.le_refl _) _⟩
  case round =>
    obtain ⟨j, hj, rfl, hown, hbe⟩ := hrel
    by_cases hlt : j < 8
    · have hsz := hbe.size
      have hlen : ((128 :: List.replicate z 0) ++ (len8 (8 * n)).take j).length = z + 1 + j := by rw [List.length_append, List.length_take, hl8]; simp; omega
      have hv : #[Value.int .u8 ((n : Int) * 8 / 2 ^ (56 - 8 * j) % 256)].toList = [UInt8.ofNat (8 * n / 2 ^ (56 - 8 * j))].map bcell := by rw [byte_val]; rfl
      have HV : Hid (#[Value.int .u8 ((n : Int) * 8 / 2 ^ (56 - 8 * j) % 256)].toList = [UInt8.ofNat (8 * n / 2 ^ (56 - 8 * j))].map bcell) := hv
      have HL : Hid (((128 :: List.replicate z 0) ++ (len8 (8 * n)).take j).length = z + 1 + j) := hlen
      clear hv hlen
      go_wp2_with (first | (at_builtin; refine wpList_appB rfl (.tmp 33) (.tmp 38) rfl w.heap.size _ _ rfl hown _ _ 1 1 [UInt8.ofNat (8 * n / 2 ^ (56 - 8 * j))] rfl rfl HV.out (by rw [HL.out]; omega) hsz ?_; intro v' w1 hown1 hg1) | fail)
      have hb1 := hown.below hbe hg1 (Nat.le_refl _) hsz
      go_roundw
      case rel => exact ⟨j + 1, by omega, by go_num, by rw [take_len8 _ _ hlt, ← List.append_assoc]; exact hown1, hb1⟩
      case measure => simp [intOf]; omega
    · obtain rfl : j = 8 := by omega
      go_wp2_with (first | (refine wpList_strB rfl _ rfl w.heap.size _ _ rfl hown ?_) | fail)
      go_ret
      refine ⟨?_, hbe⟩
      rw [List.take_of_length_le (by omega)]
      rw [HK.out] at HZ
      unfold pad; rw [← HZ.out]; rfl
end Go.Proofs.YtoanekgphcijfaaDoor
