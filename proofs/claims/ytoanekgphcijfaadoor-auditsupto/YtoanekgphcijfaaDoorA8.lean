import Derived.Test.YtoanekgphcijfaaDoorA7
namespace Go.Proofs.YtoanekgphcijfaaDoor
open Go.RowKit
open Sha

theorem extB_out (m n : Int) (old now : List UInt8) (rl : List (List UInt8)) (h : ¬ (1 ≤ m ∧ m ≤ n ∧ n ≤ 1073741824)) : extB m n old now rl = false := by unfold extB; rw [decide_eq_false h]; rfl
theorem extB_none (m n : Nat) (old now : List UInt8) (rl : List (List UInt8)) (h : bothR old m n true rl = none) : extB m n old now rl = false := by
  unfold extB; rw [Int.toNat_natCast, Int.toNat_natCast, h]; simp
theorem extB_some (m n : Nat) (old now : ByteArray) (rl : List (List UInt8)) (x y : List UInt8) (h1 : 1 ≤ m) (h2 : m ≤ n) (hn : n ≤ 1073741824) (h : bothR old.data.toList m n true rl = some (x, y)) : extB m n old.data.toList now.data.toList rl = (((str x).toList == old.toList) && ((str y).toList == now.toList)) := by
  unfold extB; rw [Int.toNat_natCast, Int.toNat_natCast, h, decide_eq_true (by omega), Bool.true_and, eqS_str, eqS_str]; simp
set_option maxHeartbeats 1000000 in
theorem extends_any (rs : List ByteArray) (old now : ByteArray) (m n : Int) (ao : Option Addr) (cap : Nat) (w : World) (hc : rs.length ≤ cap) (hm : rs.length ≤ 140737488355328) (hS : Strs w ao rs.reverse) (hF : Fit (old :: rs)) :
    Calls Tryd.prog 48 #[.int .i64 m, .int .i64 n, .string old, .string now, .slice ao rs.length cap] w fun r w' => r = .returned (.bool (extB m n old.data.toList now.data.toList (tol rs))) ∧ Below w.heap.size w w' := by
  by_cases h1 : m < 1
  · rw [extB_out _ _ _ _ _ (by omega)]
    clear hS hF
    go_enter Tryd.func48, Tryd.ntmps48
    go_wp2
    go_ret
    exact ⟨rfl, Below.refl _ _⟩
  by_cases h2 : m > n
  · rw [extB_out _ _ _ _ _ (by omega)]
    clear hS hF
    go_enter Tryd.func48, Tryd.ntmps48
    go_wp2
    go_ret
    exact ⟨rfl, Below.refl _ _⟩
  by_cases h3 : n > 1073741824
  · rw [extB_out _ _ _ _ _ (by omega)]
    clear hS hF
    go_enter Tryd.func48, Tryd.ntmps48
    go_wp2
    go_ret
    exact ⟨rfl, Below.refl _ _⟩
  obtain ⟨j, rfl⟩ := Int.eq_ofNat_of_zero_le (show 0 ≤ m by omega)
  obtain ⟨k, rfl⟩ := Int.eq_ofNat_of_zero_le (show 0 ≤ n by omega)
  have c := rboth_all rs old j k true ao cap w hc hm hS hF (by omega) (by omega) (by omega)
  have HN : Hid (bothR old.data.toList j k true (tol rs) = none → extB j k old.data.toList now.data.toList (tol rs) = false) := fun h => extB_none _ _ _ _ _ h
  have HS : Hid (∀ x y, bothR old.data.toList j k true (tol rs) = some (x, y) → extB j k old.data.toList now.data.toList (tol rs) = (((str x).toList == old.toList) && ((str y).toList == now.toList))) := fun x y h => extB_some _ _ _ _ _ _ _ (by omega) (by omega) (by omega) h
  clear hS hF
  go_enter Tryd.func48, Tryd.ntmps48
  go_wp2_with fail
  refine c.mono ?_
  clear c
  rintro e w1 ⟨s, t, b, rfl, hT, hfs, hft, hb1⟩
  clear hfs hft
  rcases hT with ⟨hN, rfl⟩ | ⟨x, y, hX, rfl, rfl, rfl⟩
  · have HO : Hid (extB j k old.data.toList now.data.toList (tol rs) = false) := HN.out hN
    clear hN
    go_wp2
    go_ret
    exact ⟨by rw [HO.out]; rfl, hb1⟩
  · have HO : Hid (extB j k old.data.toList now.data.toList (tol rs) = (((str x).toList == old.toList) && ((str y).toList == now.toList))) := HS.out x y hX
    clear hX
    generalize str x = xs at *
    generalize str y = ys at *
    by_cases e1 : xs = old
    · subst e1
      have q1 := eqS_refl xs
      rw [q1, Bool.true_and] at HO
      go_wp2
      go_ret
      exact ⟨by rw [HO.out]; rfl, hb1⟩
    · have q1 := eqS_ne e1
      rw [q1, Bool.false_and] at HO
      go_wp2
      go_ret
      exact ⟨by rw [HO.out]; rfl, hb1⟩
set_option maxHeartbeats 1000000 in
theorem showsStart_any (rs : List ByteArray) (old now : ByteArray) (m n : Int) (ao : Option Addr) (cap : Nat) (w : World) (hc : rs.length ≤ cap) (hm : rs.length ≤ 140737488355328) (hS : Strs w ao rs.reverse) (hs : ∀ s ∈ rs, s.size ≤ 140737488355328) (ho : old.size ≤ 140737488355328) (hK : Tab w) (h0 : 0 < w.heap.size) :
    Calls Tryd.prog 46 #[.slice ao rs.length cap, .int .i64 m, .string old, .int .i64 n, .string now] w fun r w' => r = .returned (.bool (extB m n old.data.toList now.data.toList (tol rs))) ∧ Below w.heap.size w w' := by
  by_cases h1 : m < 1
  · rw [extB_out _ _ _ _ _ (by omega)]
    clear hS hs hK
    go_enter Tryd.func46, Tryd.ntmps46
    go_wp2
    go_ret
    exact ⟨rfl, Below.refl _ _⟩
  by_cases h2 : m > n
  · rw [extB_out _ _ _ _ _ (by omega)]
    clear hS hs hK
    go_enter Tryd.func46, Tryd.ntmps46
    go_wp2
    go_ret
    exact ⟨rfl, Below.refl _ _⟩
  by_cases h3 : n > 1073741824
  · rw [extB_out _ _ _ _ _ (by omega)]
    clear hS hs hK
    go_enter Tryd.func46, Tryd.ntmps46
    go_wp2
    go_ret
    exact ⟨rfl, Below.refl _ _⟩
  obtain ⟨j, rfl⟩ := Int.eq_ofNat_of_zero_le (show 0 ≤ m by omega)
  obtain ⟨k, rfl⟩ := Int.eq_ofNat_of_zero_le (show 0 ≤ n by omega)
  have c := dboth_all rs old j k true ao cap w hc hm hS hs ho (by omega) (by omega) (by omega) hK h0
  have HN : Hid (bothR old.data.toList j k true (tol rs) = none → extB j k old.data.toList now.data.toList (tol rs) = false) := fun h => extB_none _ _ _ _ _ h
  have HS : Hid (∀ x y, bothR old.data.toList j k true (tol rs) = some (x, y) → extB j k old.data.toList now.data.toList (tol rs) = (((str x).toList == old.toList) && ((str y).toList == now.toList))) := fun x y h => extB_some _ _ _ _ _ _ _ (by omega) (by omega) (by omega) h
  clear hS hs hK
  go_enter Tryd.func46, Tryd.ntmps46
  go_wp2_with fail
  refine c.mono ?_
  clear c
  rintro e w1 ⟨s, t, b, rfl, hT, hfs, hft, hb1⟩
  have hb2 := hb1.alloc hb1.size (.cells #[.string s, .string t] 116)
  clear hfs hft
  rcases hT with ⟨hN, rfl⟩ | ⟨x, y, hX, rfl, rfl, rfl⟩
  · have HO : Hid (extB j k old.data.toList now.data.toList (tol rs) = false) := HN.out hN
    clear hN
    go_wp2
    go_ret
    exact ⟨by rw [HO.out]; rfl, hb2⟩
  · have HO : Hid (extB j k old.data.toList now.data.toList (tol rs) = (((str x).toList == old.toList) && ((str y).toList == now.toList))) := HS.out x y hX
    clear hX
    generalize str x = xs at *
    generalize str y = ys at *
    by_cases e1 : xs = old
    · subst e1
      have q1 := eqS_refl xs
      rw [q1, Bool.true_and] at HO
      go_wp2
      go_ret
      exact ⟨by rw [HO.out]; rfl, hb2⟩
    · have q1 := eqS_ne e1
      rw [q1, Bool.false_and] at HO
      go_wp2
      go_ret
      exact ⟨by rw [HO.out]; rfl, hb2⟩
end Go.Proofs.YtoanekgphcijfaaDoor
