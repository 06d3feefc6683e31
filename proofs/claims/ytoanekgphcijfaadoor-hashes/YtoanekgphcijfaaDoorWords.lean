import Derived.Test.YtoanekgphcijfaaDoorR1
namespace Go.Proofs.YtoanekgphcijfaaDoor
open Go.RowKit
open Sha

def keys0 : List UInt8 := [52, 50, 56, 97, 50, 102, 57, 56, 55, 49, 51, 55, 52, 52, 57, 49, 98, 53, 99, 48, 102, 98, 99, 102, 101, 57, 98, 53, 100, 98, 97, 53, 51, 57, 53, 54, 99, 50, 53, 98, 53, 57, 102, 49, 49, 49, 102, 49, 57, 50, 51, 102, 56, 50, 97, 52, 97, 98, 49, 99, 53, 101, 100, 53]
def keys1 : List UInt8 := [100, 56, 48, 55, 97, 97, 57, 56, 49, 50, 56, 51, 53, 98, 48, 49, 50, 52, 51, 49, 56, 53, 98, 101, 53, 53, 48, 99, 55, 100, 99, 51, 55, 50, 98, 101, 53, 100, 55, 52, 56, 48, 100, 101, 98, 49, 102, 101, 57, 98, 100, 99, 48, 54, 97, 55, 99, 49, 57, 98, 102, 49, 55, 52]
def keys2 : List UInt8 := [101, 52, 57, 98, 54, 57, 99, 49, 101, 102, 98, 101, 52, 55, 56, 54, 48, 102, 99, 49, 57, 100, 99, 54, 50, 52, 48, 99, 97, 49, 99, 99, 50, 100, 101, 57, 50, 99, 54, 102, 52, 97, 55, 52, 56, 52, 97, 97, 53, 99, 98, 48, 97, 57, 100, 99, 55, 54, 102, 57, 56, 56, 100, 97]
def keys3 : List UInt8 := [57, 56, 51, 101, 53, 49, 53, 50, 97, 56, 51, 49, 99, 54, 54, 100, 98, 48, 48, 51, 50, 55, 99, 56, 98, 102, 53, 57, 55, 102, 99, 55, 99, 54, 101, 48, 48, 98, 102, 51, 100, 53, 97, 55, 57, 49, 52, 55, 48, 54, 99, 97, 54, 51, 53, 49, 49, 52, 50, 57, 50, 57, 54, 55]
def keys4 : List UInt8 := [50, 55, 98, 55, 48, 97, 56, 53, 50, 101, 49, 98, 50, 49, 51, 56, 52, 100, 50, 99, 54, 100, 102, 99, 53, 51, 51, 56, 48, 100, 49, 51, 54, 53, 48, 97, 55, 51, 53, 52, 55, 54, 54, 97, 48, 97, 98, 98, 56, 49, 99, 50, 99, 57, 50, 101, 57, 50, 55, 50, 50, 99, 56, 53]
def keys5 : List UInt8 := [97, 50, 98, 102, 101, 56, 97, 49, 97, 56, 49, 97, 54, 54, 52, 98, 99, 50, 52, 98, 56, 98, 55, 48, 99, 55, 54, 99, 53, 49, 97, 51, 100, 49, 57, 50, 101, 56, 49, 57, 100, 54, 57, 57, 48, 54, 50, 52, 102, 52, 48, 101, 51, 53, 56, 53, 49, 48, 54, 97, 97, 48, 55, 48]
def keys6 : List UInt8 := [49, 57, 97, 52, 99, 49, 49, 54, 49, 101, 51, 55, 54, 99, 48, 56, 50, 55, 52, 56, 55, 55, 52, 99, 51, 52, 98, 48, 98, 99, 98, 53, 51, 57, 49, 99, 48, 99, 98, 51, 52, 101, 100, 56, 97, 97, 52, 97, 53, 98, 57, 99, 99, 97, 52, 102, 54, 56, 50, 101, 54, 102, 102, 51]
def keys7 : List UInt8 := [55, 52, 56, 102, 56, 50, 101, 101, 55, 56, 97, 53, 54, 51, 54, 102, 56, 52, 99, 56, 55, 56, 49, 52, 56, 99, 99, 55, 48, 50, 48, 56, 57, 48, 98, 101, 102, 102, 102, 97, 97, 52, 53, 48, 54, 99, 101, 98, 98, 101, 102, 57, 97, 51, 102, 55, 99, 54, 55, 49, 55, 56, 102, 50]
def keysB : ByteArray := ⟨(keys0 ++ keys1 ++ keys2 ++ keys3 ++ keys4 ++ keys5 ++ keys6 ++ keys7).toArray⟩
def firstB : ByteArray := ⟨([54, 97, 48, 57, 101, 54, 54, 55, 98, 98, 54, 55, 97, 101, 56, 53, 51, 99, 54, 101, 102, 51, 55, 50, 97, 53, 52, 102, 102, 53, 51, 97, 53, 49, 48, 101, 53, 50, 55, 102, 57, 98, 48, 53, 54, 56, 56, 99, 49, 102, 56, 51, 100, 57, 97, 98, 53, 98, 101, 48, 99, 100, 49, 57] : List UInt8).toArray⟩
def keysOk : Bool := (List.range 64).all fun i => (hexw (byteAt keysB) i 8 == (K i : Int)) && ((List.range 9).all fun k => decide (0 ≤ hexw (byteAt keysB) i k ∧ hexw (byteAt keysB) i k ≤ 100000000000))
def firstOk : Bool := (List.range 8).all fun i => (hexw (byteAt firstB) i 8 == (init.nth i : Int)) && ((List.range 9).all fun k => decide (0 ≤ hexw (byteAt firstB) i k ∧ hexw (byteAt firstB) i k ≤ 100000000000))
theorem keysOk_true : keysOk = true := by decide +kernel
theorem firstOk_true : firstOk = true := by decide +kernel
theorem keysB_size : keysB.size = 512 := by decide +kernel
theorem firstB_size : firstB.size = 64 := by decide +kernel
theorem word_keys (S : ByteArray) (hS : S = keysB) (k : Nat) (hk : k < 64) (w : World) :
    Calls Tryd.prog 75 #[.string S, .int .i64 (k : Int)] w fun r w' => r = .returned (.int .i64 (K k : Int)) ∧ w' = w := by
  subst hS
  have h := keysOk_true
  unfold keysOk at h
  rw [List.all_eq_true] at h
  have h1 := h k (by simpa using hk)
  rw [Bool.and_eq_true, List.all_eq_true, beq_iff_eq] at h1
  have := word_any keysB k w (by rw [keysB_size]; omega) (by rw [keysB_size]; omega) (fun j hj => of_decide_eq_true (h1.2 j (by simp; omega)))
  rw [h1.1] at this; exact this
theorem word_first (S : ByteArray) (hS : S = firstB) (k : Nat) (hk : k < 8) (w : World) :
    Calls Tryd.prog 75 #[.string S, .int .i64 (k : Int)] w fun r w' => r = .returned (.int .i64 (init.nth k : Int)) ∧ w' = w := by
  subst hS
  have h := firstOk_true
  unfold firstOk at h
  rw [List.all_eq_true] at h
  have h1 := h k (by simpa using hk)
  rw [Bool.and_eq_true, List.all_eq_true, beq_iff_eq] at h1
  have := word_any firstB k w (by rw [firstB_size]; omega) (by rw [firstB_size]; omega) (fun j hj => of_decide_eq_true (h1.2 j (by simp; omega)))
  rw [h1.1] at this; exact this
end Go.Proofs.YtoanekgphcijfaaDoor
