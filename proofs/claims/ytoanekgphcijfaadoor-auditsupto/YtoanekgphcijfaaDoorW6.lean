import Derived.Test.YtoanekgphcijfaaDoorW5
namespace Go.Proofs.YtoanekgphcijfaaDoor
open Go.RowKit
open Sha

theorem u8_val (x : Nat) : Value.int .u8 ((x : Int) % 256) = bcell (UInt8.ofNat x) := by
  have : (x : Int) % 256 = ((x % 256 : Nat) : Int) := by simp
  rw [this]; unfold bcell; rw [UInt8.toNat_ofNat']
theorem be4_val (x : Nat) (hx : x < 4294967296) : #[Value.int .u8 ((x : Int) / 16777216), Value.int .u8 ((x : Int) / 65536 % 256), Value.int .u8 ((x : Int) / 256 % 256), Value.int .u8 ((x : Int) % 256)].toList = (be4 x).map bcell := by
  have e0 : (x : Int) / 16777216 = ((x / 16777216 : Nat) : Int) % 256 := by omega
  have e1 : (x : Int) / 65536 % 256 = ((x / 65536 : Nat) : Int) % 256 := by omega
  have e2 : (x : Int) / 256 % 256 = ((x / 256 : Nat) : Int) % 256 := by omega
  rw [e0, e1, e2, u8_val, u8_val, u8_val, u8_val]; rfl
theorem ownB_empty (w : World) (n : Nat) (h : n ≤ 1000) : OwnB (w.alloc (.cells (zeroRow n) 5)) w.heap.size (.slice (some ⟨w.heap.size, 0, none⟩) 0 n) [] :=
  ⟨rfl, Or.inr ⟨w.heap.size, n, _, rfl, Nat.le_refl _, heap_alloc_new _ _, by simp, by unfold maxLen; omega, by simp [zeroRow_size], rfl⟩⟩
set_option maxHeartbeats 1000000 in
theorem finish_any (b : Nat) (cs : Array Value) (m : List UInt8) (w : World) (hr : Row w b 142 cs) (hh : HIs cs m m.length) (hm : m.length < 2305843009213693952)
    (hK : ∀ j, j < 64 → w.cell? ⟨0, j, none⟩ = some (.int .u32 (K j : Int))) (h0 : 0 < b) :
    Calls Tryd.prog 101 #[.pointer (some ⟨b, 0, none⟩)] w fun r w' => r = .returned (.string ⟨(sha m).toArray⟩) ∧ But b w w' := by
  have hw0 : 0 < w.heap.size := by have := hr.lt; omega
  have hlt := hr.lt
  go_enter Tryd.func101, Tryd.ntmps101
  go_wp2_with fail
  refine (padding_any b m.length w hm (by rw [hr.cell]; exact hh.held) (by rw [hr.cell]; exact hh.tot) hr.lt).mono ?_
  rintro e w1 ⟨rfl, hbe⟩
  go_wp2_with fail
  have hr1 := hr.below hbe hr.lt
  have hpl : (⟨(pad m.length).toArray⟩ : ByteArray).size = (pad m.length).length := by rw [← size_toList]
  have hpl2 := pad_length m.length
  refine (write_any b cs m m.length ⟨(pad m.length).toArray⟩ w1 hr1 hh (by rw [hpl]; unfold maxLen; omega) (by rw [hpl]; omega) (fun j hj => by rw [hbe.cell (p := ⟨0, j, none⟩) hw0]; exact hK j hj) h0).mono ?_
  rintro e w2 ⟨rfl, hb2, cs2, hr2, hh2⟩
  have hbut : But b w w2 := (But.of_below hbe).trans hb2
  have hst : ∀ j, j < 8 → cs2[j]? = some (.int .u32 ((absorb (padded m) ((padded m).length / 64)).nth j : Int)) := hh2.st
  have hok := absorb_ok (padded m) ((padded m).length / 64)
  have HF : Hid (sha m = outTo (absorb (padded m) ((padded m).length / 64)) 8) := rfl
  generalize absorb (padded m) ((padded m).length / 64) = t at *
  clear hh2 hb2 hr1 hbe hpl hpl2 hr hh hK
  have hmk : ∀ wx, (Instr.makeSlice 64 (.int .i64 0) (.int .i64 32)).run Tryd.prog wx = .ok (.slice (some ⟨wx.heap.size, 0, none⟩) 0 32) (wx.alloc (.cells (zeroRow 32) 5)) := fun wx => run_mk44 wx 0 32 (by omega) (by omega) (by omega)
  have hc8 : ∀ j v, [Value.int .u32 (t.a : Int), Value.int .u32 (t.b : Int), Value.int .u32 (t.c : Int), Value.int .u32 (t.d : Int), Value.int .u32 (t.e : Int), Value.int .u32 (t.f : Int), Value.int .u32 (t.g : Int), Value.int .u32 (t.h : Int)][j]? = some v → (w2.alloc (.cells (zeroRow 32) 5)).cell? ((⟨b, 0, none⟩ : Addr).add j) = some v := by
    intro j v hv
    rw [addr_add, Nat.zero_add, (hr2.alloc _).cell]
    match j, hv with
    | 0, hv | 1, hv | 2, hv | 3, hv | 4, hv | 5, hv | 6, hv | 7, hv => rw [hst _ (by omega)]; exact hv
  go_wp2_with (first | (refine wpList_load_part rfl 138 _ rfl ⟨b, 0, none⟩ rfl _ _ hc8 und67 rfl (by kernel_rfl) ?_) | fail)
  clear hc8 hmk hst
  go_loopw [3, 15] (fun v i wr => ∃ j : Nat, j ≤ 8 ∧ i = .int .i64 (j : Int) ∧ OwnB wr w2.heap.size v (outTo t j) ∧ Below w2.heap.size w2 wr) (fun _ i _ => 8 - (intOf i).toNat)
  case atStart => exact ⟨0, by omega, rfl, ownB_empty w2 32 (by omega), (Below.refl _ _).alloc (Nat.le_refl _) _⟩
  case round =>
    obtain ⟨j, hj, rfl, hown, hbe⟩ := hrel
    by_cases hlt8 : j < 8
    · have hix := index_st t j hlt8
      have hsz := hbe.size
      have hx := S8.nth_lt hok j
      have HO : Hid (outTo t (j + 1) = outTo t j ++ be4 (t.nth j)) := rfl
      have HL : Hid ((outTo t j).length = 4 * j) := outTo_length t j
      generalize t.nth j = x at *
      have HV : Hid (#[Value.int .u8 ((x : Int) / 16777216), Value.int .u8 ((x : Int) / 65536 % 256), Value.int .u8 ((x : Int) / 256 % 256), Value.int .u8 ((x : Int) % 256)].toList = (be4 x).map bcell) := be4_val x hx
      go_wp2_with (first | (at_builtin; refine wpList_appB rfl (.tmp 18) (.tmp 30) rfl w2.heap.size _ _ rfl hown _ _ 4 4 (be4 x) rfl rfl HV.out (by rw [HL.out]; omega) hsz ?_; intro v' w3 hown1 hg1) | fail)
      have hb1 := hown.below hbe hg1 (Nat.le_refl _) hsz
      go_roundw
      case rel => exact ⟨j + 1, by omega, by go_num, by rw [HO.out]; exact hown1, hb1⟩
      case measure => simp [intOf]; omega
    · obtain rfl : j = 8 := by omega
      go_wp2_with (first | (refine wpList_strB rfl _ rfl w2.heap.size _ _ rfl hown ?_) | fail)
      go_ret
      refine ⟨?_, hbut.trans (But.of_below hbe)⟩
      rw [HF.out]; rfl
end Go.Proofs.YtoanekgphcijfaaDoor
