import Derived.Test.YtoanekgphcijfaaDoorW1
import Derived.Test.YtoanekgphcijfaaDoorBytes
import Derived.BigRegion
import Derived.Test.YtoanekgphcijfaaDoorTree
namespace Go.Proofs.YtoanekgphcijfaaDoor
open Go.RowKit
open Sha

def dig (c : Int) : Int := if 97 ≤ c then c - 97 + 10 else c - 48
def hexw (b : Nat → Int) (i : Nat) : Nat → Int
  | 0 => 0
  | k + 1 => 16 * hexw b i k + dig (b (8 * i + k))
def byteAt (s : ByteArray) (j : Nat) : Int := ((s.data.toList.getD j 0).toNat : Int)
theorem byteAt_eq (s : ByteArray) (j : Nat) (h : j < s.size) : byteAt s j = ((s[j]'h).toNat : Int) := by
  unfold byteAt
  rw [List.getD_eq_getElem?_getD, List.getElem?_eq_getElem (by rw [size_toList]; exact h)]; rfl
theorem byteAt_lt (s : ByteArray) (j : Nat) : 0 ≤ byteAt s j ∧ byteAt s j < 256 := by
  unfold byteAt; have := UInt8.toNat_lt (s.data.toList.getD j 0); omega
set_option maxHeartbeats 1000000 in
set_option maxRecDepth 100000 in
theorem word_any (s : ByteArray) (i : Nat) (w : World) (hi : 8 * i + 8 ≤ s.size) (hm : s.size ≤ 100000) (hb : ∀ k, k ≤ 8 → 0 ≤ hexw (byteAt s) i k ∧ hexw (byteAt s) i k ≤ 100000000000) :
    Calls Tryd.prog 75 #[.string s, .int .i64 (i : Int)] w fun r w' => r = .returned (.int .i64 (hexw (byteAt s) i 8)) ∧ w' = w := by
  go_enter Tryd.func75, Tryd.ntmps75
  go_wp2
  go_loop [5, 6] (fun n k => ∃ j : Nat, j ≤ 8 ∧ k = .int .i64 j ∧ n = .int .i64 (hexw (byteAt s) i j)) (fun _ k => 8 - (intOf k).toNat)
  case atStart => exact ⟨0, by omega, rfl, rfl⟩
  case round =>
    obtain ⟨j, hj, rfl, rfl⟩ := hrel
    have b1 := hb j hj
    by_cases hlt : j < 8
    · have b2 := hb (j + 1) (by omega)
      have HS : Hid (hexw (byteAt s) i (j + 1) = 16 * hexw (byteAt s) i j + dig (byteAt s (8 * i + j))) := rfl
      have hbx := byteAt_lt s (8 * i + j)
      have HB : Hid (byteAt s (8 * i + j) = ((s[8 * i + j]'(by omega)).toNat : Int)) := byteAt_eq s _ _
      clear hb
      have hu : ((s[8 * i + j]'(by omega)).toNat : Int) < 256 := by rw [← HB.out]; exact hbx.2
      by_cases h97 : 97 ≤ ((s[8 * i + j]'(by omega)).toNat : Int)
      · have HD : Hid (dig (byteAt s (8 * i + j)) = ((s[8 * i + j]'(by omega)).toNat : Int) - 97 + 10) := by show _ = _; rw [HB.out]; exact if_pos h97
        go_wp2
        refine ⟨⟨j + 1, by omega, by go_num, ?_⟩, ?_⟩
        · rw [HS.out, HD.out]
        · simp [intOf]; omega
      · have HD : Hid (dig (byteAt s (8 * i + j)) = ((s[8 * i + j]'(by omega)).toNat : Int) - 48) := by show _ = _; rw [HB.out]; exact if_neg h97
        go_wp2
        refine ⟨⟨j + 1, by omega, by go_num, ?_⟩, ?_⟩
        · rw [HS.out, HD.out]
        · simp [intOf]; omega
    · obtain rfl : j = 8 := by omega
      clear hb
      go_wp2
      go_ret
      exact ⟨rfl, rfl⟩

theorem rsplit_any (n : Nat) (w : World) (h2 : 2 ≤ n) (h : n ≤ 1152921504606846976) :
    Calls Tryd.prog 40 #[.int .i64 (n : Int)] w fun r w' => r = .returned (.int .i64 ((spl n : Nat) : Int)) ∧ w' = w := by
  go_enter Tryd.func40, Tryd.ntmps40
  go_wp2
  go_loop [3] (fun k => ∃ j p : Nat, Hid (p = 2 ^ j) ∧ p < n ∧ 0 < p ∧ k = .int .i64 (p : Int)) (fun k => n - (intOf k).toNat)
  case atStart => exact ⟨0, 1, rfl, by omega, by omega, rfl⟩
  case round =>
    obtain ⟨j, p, hp, h1, h3, rfl⟩ := hrel
    by_cases hlt : 2 * p < n
    · go_wp2
      exact ⟨⟨j + 1, 2 * p, by show _ = _; rw [hp.out, Nat.pow_succ]; omega, hlt, by omega, by go_num⟩, by simp [intOf]; omega⟩
    · have HS : Hid (spl n = p) := by show _ = _; rw [hp.out]; exact spl_of n j (by rw [← hp.out]; exact h1) (by rw [Nat.pow_succ, ← hp.out]; omega)
      go_wp2
      go_ret
      exact ⟨by rw [HS.out]; rfl, rfl⟩
end Go.Proofs.YtoanekgphcijfaaDoor
