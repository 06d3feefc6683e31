import Derived.Test.YtoanekgphcijfaaDoorA6
namespace Go.Proofs.YtoanekgphcijfaaDoor
open Go.RowKit
open Sha

theorem inclB_out (leaf : List UInt8) (i n : Int) (rl : List (List UInt8)) (root : List UInt8) (h : ¬ (0 ≤ i ∧ i < n ∧ n ≤ 1073741824)) : inclB leaf i n rl root = false := by unfold inclB; rw [decide_eq_false h]; rfl
theorem str_inj (a b : List UInt8) (h : str a = str b) : a = b := by rw [← str_toList a, h, str_toList]
theorem inclB_none (leaf : List UInt8) (i n : Nat) (rl : List (List UInt8)) (root : List UInt8) (h : showR leaf i n rl = none) : inclB leaf i n rl root = false := by
  unfold inclB; rw [Int.toNat_natCast, Int.toNat_natCast, h]; simp
theorem eqS_refl (a : ByteArray) : (a.toList == a.toList) = true := by simp
theorem eqS_ne {a b : ByteArray} (h : a ≠ b) : (a.toList == b.toList) = false := by
  rw [ByteArray.toList_eq, ByteArray.toList_eq]
  exact beq_false_of_ne fun e => h (by rw [← str_of a, e, str_of])
theorem eqS_str (x : List UInt8) (root : ByteArray) : ((str x).toList == root.toList) = decide (x = root.data.toList) := by
  by_cases e : str x = root
  · subst e; rw [eqS_refl, str_toList]; simp
  · rw [eqS_ne e, decide_eq_false (fun k => e (by rw [k, str_of]))]
theorem inclB_some (leaf : List UInt8) (i n : Nat) (rl : List (List UInt8)) (root : ByteArray) (x : List UInt8) (hi : i < n) (hn : n ≤ 1073741824) (h : showR leaf i n rl = some x) : inclB leaf i n rl root.data.toList = ((str x).toList == root.toList) := by
  unfold inclB; rw [Int.toNat_natCast, Int.toNat_natCast, h, decide_eq_true (by omega), Bool.true_and, eqS_str]; simp
theorem showsEntry_any (rs : List ByteArray) (leaf root : ByteArray) (i n : Int) (ao : Option Addr) (cap : Nat) (w : World) (hc : rs.length ≤ cap) (hm : rs.length ≤ 140737488355328) (hS : Strs w ao rs.reverse) (hs : ∀ s ∈ rs, s.size ≤ 140737488355328) (hl : leaf.size ≤ 140737488355328) (hK : Tab w) (h0 : 0 < w.heap.size) :
    Calls Tryd.prog 45 #[.slice ao rs.length cap, .string leaf, .int .i64 i, .int .i64 n, .string root] w fun r w' => r = .returned (.bool (inclB leaf.data.toList i n (tol rs) root.data.toList)) ∧ Below w.heap.size w w' := by
  by_cases h1 : i < 0
  · rw [inclB_out _ _ _ _ _ (by omega)]
    clear hS hs hK
    go_enter Tryd.func45, Tryd.ntmps45
    go_wp2
    go_ret
    exact ⟨rfl, Below.refl _ _⟩
  by_cases h2 : n ≤ i
  · rw [inclB_out _ _ _ _ _ (by omega)]
    clear hS hs hK
    go_enter Tryd.func45, Tryd.ntmps45
    go_wp2
    go_ret
    exact ⟨rfl, Below.refl _ _⟩
  by_cases h3 : n > 1073741824
  · rw [inclB_out _ _ _ _ _ (by omega)]
    clear hS hs hK
    go_enter Tryd.func45, Tryd.ntmps45
    go_wp2
    go_ret
    exact ⟨rfl, Below.refl _ _⟩
  obtain ⟨j, rfl⟩ := Int.eq_ofNat_of_zero_le (show 0 ≤ i by omega)
  obtain ⟨k, rfl⟩ := Int.eq_ofNat_of_zero_le (show 0 ≤ n by omega)
  have c := dshow_all rs leaf j k ao cap w hc hm hS hs hl (by omega) (by omega) hK h0
  have HN : Hid (showR leaf.data.toList j k (tol rs) = none → inclB leaf.data.toList j k (tol rs) root.data.toList = false) := fun h => inclB_none _ _ _ _ _ h
  have HS : Hid (∀ x, showR leaf.data.toList j k (tol rs) = some x → inclB leaf.data.toList j k (tol rs) root.data.toList = ((str x).toList == root.toList)) := fun x h => inclB_some _ _ _ _ _ _ (by omega) (by omega) h
  clear hS hs hK
  go_enter Tryd.func45, Tryd.ntmps45
  go_wp2_with fail
  refine c.mono ?_
  clear c
  rintro e w1 ⟨s, b, rfl, hT, hss, hb1⟩
  rcases hT with ⟨hN, rfl⟩ | ⟨x, hX, rfl, rfl⟩
  · have HO : Hid (inclB leaf.data.toList j k (tol rs) root.data.toList = false) := HN.out hN
    clear hN
    go_wp2
    go_ret
    exact ⟨by rw [HO.out]; rfl, hb1⟩
  · have HO : Hid (inclB leaf.data.toList j k (tol rs) root.data.toList = ((str x).toList == root.toList)) := HS.out x hX
    clear hX
    generalize str x = xs at *
    go_wp2
    go_ret
    exact ⟨by rw [HO.out]; rfl, hb1⟩
theorem included_any (rs : List ByteArray) (leaf root : ByteArray) (i n : Int) (ao : Option Addr) (cap : Nat) (w : World) (hc : rs.length ≤ cap) (hm : rs.length ≤ 140737488355328) (hS : Strs w ao rs.reverse) (hF : Fit (leaf :: rs)) :
    Calls Tryd.prog 47 #[.string leaf, .int .i64 i, .int .i64 n, .slice ao rs.length cap, .string root] w fun r w' => r = .returned (.bool (inclB leaf.data.toList i n (tol rs) root.data.toList)) ∧ Below w.heap.size w w' := by
  by_cases h1 : i < 0
  · rw [inclB_out _ _ _ _ _ (by omega)]
    clear hS hF
    go_enter Tryd.func47, Tryd.ntmps47
    go_wp2
    go_ret
    exact ⟨rfl, Below.refl _ _⟩
  by_cases h2 : n ≤ i
  · rw [inclB_out _ _ _ _ _ (by omega)]
    clear hS hF
    go_enter Tryd.func47, Tryd.ntmps47
    go_wp2
    go_ret
    exact ⟨rfl, Below.refl _ _⟩
  by_cases h3 : n > 1073741824
  · rw [inclB_out _ _ _ _ _ (by omega)]
    clear hS hF
    go_enter Tryd.func47, Tryd.ntmps47
    go_wp2
    go_ret
    exact ⟨rfl, Below.refl _ _⟩
  obtain ⟨j, rfl⟩ := Int.eq_ofNat_of_zero_le (show 0 ≤ i by omega)
  obtain ⟨k, rfl⟩ := Int.eq_ofNat_of_zero_le (show 0 ≤ n by omega)
  have c := rshow_all rs leaf j k ao cap w hc hm hS hF (by omega) (by omega)
  have HN : Hid (showR leaf.data.toList j k (tol rs) = none → inclB leaf.data.toList j k (tol rs) root.data.toList = false) := fun h => inclB_none _ _ _ _ _ h
  have HS : Hid (∀ x, showR leaf.data.toList j k (tol rs) = some x → inclB leaf.data.toList j k (tol rs) root.data.toList = ((str x).toList == root.toList)) := fun x h => inclB_some _ _ _ _ _ _ (by omega) (by omega) h
  clear hS hF
  go_enter Tryd.func47, Tryd.ntmps47
  go_wp2_with fail
  refine c.mono ?_
  clear c
  rintro e w1 ⟨s, b, rfl, hT, hss, hb1⟩
  rcases hT with ⟨hN, rfl⟩ | ⟨x, hX, rfl, rfl⟩
  · have HO : Hid (inclB leaf.data.toList j k (tol rs) root.data.toList = false) := HN.out hN
    clear hN
    go_wp2
    go_ret
    exact ⟨by rw [HO.out]; rfl, hb1⟩
  · have HO : Hid (inclB leaf.data.toList j k (tol rs) root.data.toList = ((str x).toList == root.toList)) := HS.out x hX
    clear hX
    generalize str x = xs at *
    go_wp2
    go_ret
    exact ⟨by rw [HO.out]; rfl, hb1⟩
end Go.Proofs.YtoanekgphcijfaaDoor
