import Derived.Test.YtoanekgphcijfaaDoorR5
import Derived.Test.YtoanekgphcijfaaDoorShows
import Derived.Deep.RegionWith
namespace Go.Proofs.YtoanekgphcijfaaDoor
open Go.RowKit
open Sha

/-- What a look gives: no root, or this one. -/
def Told (o : Option (List UInt8)) (s : ByteArray) (b : Bool) : Prop := (o = none ∧ b = false) ∨ ∃ x, o = some x ∧ b = true ∧ s = str x
theorem rev_len (last : ByteArray) (r : List ByteArray) : (last :: r).reverse.length = r.length + 1 := by simp
theorem rev_take (last : ByteArray) (r : List ByteArray) : (last :: r).reverse.take r.length = r.reverse := by simp
theorem Strs.rest {w : World} {ao : Option Addr} {last : ByteArray} {r : List ByteArray} (h : Strs w ao (last :: r).reverse) : Strs w ao r.reverse := by
  have := h.take r.length
  rwa [rev_take] at this
theorem Strs.last {w : World} {ao : Option Addr} {last : ByteArray} {r : List ByteArray} (h : Strs w ao (last :: r).reverse) : ∃ g o, ao = some ⟨g, o, none⟩ ∧ g < w.heap.size ∧ w.cell? ⟨g, o + r.length, none⟩ = some (.string last) := by
  obtain ⟨g, o, h1, h2, h3⟩ := h r.length (by rw [rev_len]; omega)
  exact ⟨g, o, h1, h2, by rw [h3]; simp⟩
theorem takeLast_any (g o n cap : Nat) (last : ByteArray) (w : World) (hc : n + 1 ≤ cap) (hm : n + 1 ≤ 140737488355328) (hcell : w.cell? ⟨g, o + n, none⟩ = some (.string last)) :
    Calls Tryd.prog 105 #[.slice (some ⟨g, o, none⟩) (n + 1) cap] w fun r w' => r = .returned (.tuple #[.slice (some ⟨g, o, none⟩) n cap, .string last]) ∧ ∃ k, w' = w.drewN k := by
  go_enter Tryd.func105, Tryd.ntmps105
  go_wp2
  go_quiet (fail)
  go_wp2
  go_ret2
  exact ⟨rfl, _, rfl⟩
theorem tol_cons (x : ByteArray) (r : List ByteArray) : tol (x :: r) = x.data.toList :: tol r := rfl
def DShow (rs : List ByteArray) : Prop := ∀ (leaf : ByteArray) (i n : Nat) (ao : Option Addr) (cap : Nat) (w : World), rs.length ≤ cap → rs.length ≤ 140737488355328 → Strs w ao rs.reverse → (∀ s ∈ rs, s.size ≤ 140737488355328) → leaf.size ≤ 140737488355328 → i < n → n ≤ 1073741824 → Tab w → 0 < w.heap.size →
  Calls Tryd.prog 79 #[.slice ao rs.length cap, .string leaf, .int .i64 (i : Int), .int .i64 (n : Int)] w fun r w' => ∃ s b, r = .returned (.tuple #[.string s, .bool b]) ∧ Told (showR leaf.data.toList i n (tol rs)) s b ∧ s.size ≤ 140737488355328 ∧ Below w.heap.size w w'
theorem str_small (l : List UInt8) (h : l.length = 32) : (str l).size ≤ 140737488355328 := by rw [str_size, h]; omega
theorem showR_one_nil (leaf : List UInt8) (i : Nat) : showR leaf i 1 [] = some leaf := rfl
theorem showR_one_cons (leaf : List UInt8) (i : Nat) (x : List UInt8) (r : List (List UInt8)) : showR leaf i 1 (x :: r) = none := rfl
theorem showR_nil (leaf : List UInt8) (i n : Nat) (h : n ≠ 1) : showR leaf i n [] = none := by unfold showR; rw [if_neg h]
theorem showR_low (leaf : List UInt8) (i n : Nat) (x : List UInt8) (r : List (List UInt8)) (h : n ≠ 1) (hi : i < spl n) : showR leaf i n (x :: r) = (showR leaf i (spl n) r).map (nodeH · x) := by rw [showR, if_neg h, if_pos hi]
theorem showR_high (leaf : List UInt8) (i n : Nat) (x : List UInt8) (r : List (List UInt8)) (h : n ≠ 1) (hi : ¬ i < spl n) : showR leaf i n (x :: r) = (showR leaf (i - spl n) (n - spl n) r).map (nodeH x ·) := by rw [showR, if_neg h, if_neg hi]
theorem dshow_nil : DShow [] := by
  intro leaf i n ao cap w hc hm hS hs hl hi hn hK h0
  by_cases h1 : n = 1
  · subst h1
    have HO : Hid (Told (showR leaf.data.toList i 1 (tol [])) leaf true) := Or.inr ⟨_, showR_one_nil _ _, rfl, (str_of leaf).symm⟩
    clear hS hs hK
    show Calls Tryd.prog 79 #[.slice ao 0 cap, .string leaf, .int .i64 (i : Int), .int .i64 1] w _
    go_enter Tryd.func79, Tryd.ntmps79
    go_wp2
    go_ret2
    exact ⟨_, _, rfl, HO.out, hl, Below.refl _ _⟩
  · have HO : Hid (Told (showR leaf.data.toList i n (tol [])) ⟨#[]⟩ false) := Or.inl ⟨showR_nil _ _ _ h1, rfl⟩
    clear hS hs hK
    have h1' : ¬ (n : Int) = 1 := by omega
    show Calls Tryd.prog 79 #[.slice ao 0 cap, .string leaf, .int .i64 (i : Int), .int .i64 (n : Int)] w _
    go_enter Tryd.func79, Tryd.ntmps79
    go_wp2
    go_ret2
    exact ⟨_, _, rfl, HO.out, by show 0 ≤ _; omega, Below.refl _ _⟩
set_option maxHeartbeats 1000000 in
theorem dshow_cons (last : ByteArray) (r : List ByteArray) (ih : DShow r) : DShow (last :: r) := by
  intro leaf i n ao cap w hc hm hS hs hl hi hn hK h0
  rw [List.length_cons] at hc hm ⊢
  obtain ⟨g, o, rfl, hg, hcell⟩ := hS.last
  have hS1 := hS.rest
  have hlast := hs last (by simp)
  have hs1 : ∀ s ∈ r, s.size ≤ 140737488355328 := fun s h => hs s (List.mem_cons_of_mem _ h)
  rw [tol_cons]
  have IH : Hid (DShow r) := ih
  clear hS hs ih
  by_cases h1 : n = 1
  · subst h1
    have HO : Hid (Told (showR leaf.data.toList i 1 (last.data.toList :: tol r)) leaf false) := Or.inl ⟨showR_one_cons _ _ _ _, rfl⟩
    clear hS1 hs1 hK hcell
    show Calls Tryd.prog 79 #[.slice (some ⟨g, o, none⟩) (r.length + 1) cap, .string leaf, .int .i64 (i : Int), .int .i64 1] w _
    go_enter Tryd.func79, Tryd.ntmps79
    go_wp2
    go_ret2
    exact ⟨_, _, rfl, HO.out, hl, Below.refl _ _⟩
  · have hk1 := spl_lt n (by omega)
    have hk2 := spl_pos n
    have HSP : Hid (∀ (w : World), 2 ≤ n → n ≤ 4611686018427387904 → Calls Tryd.prog 73 #[.int .i64 (n : Int)] w fun r w' => r = .returned (.int .i64 ((spl n : Nat) : Int)) ∧ w' = w) := split_any n
    have h1' : ¬ (n : Int) = 1 := by omega
    have HLo : Hid (i < spl n → showR leaf.data.toList i n (last.data.toList :: tol r) = (showR leaf.data.toList i (spl n) (tol r)).map (nodeH · last.data.toList)) := fun hi => showR_low _ _ _ _ _ h1 hi
    have HHi : Hid (¬ i < spl n → showR leaf.data.toList i n (last.data.toList :: tol r) = (showR leaf.data.toList (i - spl n) (n - spl n) (tol r)).map (nodeH last.data.toList ·)) := fun hi => showR_high _ _ _ _ _ h1 hi
    generalize spl n = k at *
    go_enter Tryd.func79, Tryd.ntmps79
    go_wp2_with fail
    refine (takeLast_any g o r.length cap last w hc hm hcell).mono ?_
    rintro e w1 ⟨rfl, n1, hw1⟩
    have hb1 : Below w.heap.size w w1 := by rw [hw1]; exact bel_drewN _ _ _
    have hsz1 := hb1.size
    clear hw1 hcell
    go_wp2_with fail
    refine (HSP.out w1 (by omega) (by omega)).mono ?_
    rintro e w2 ⟨rfl, hw2⟩
    subst hw2
    by_cases hik : i < k
    · have hik' : (i : Int) < (k : Int) := by omega
      go_wp2_with fail
      refine (IH.out leaf i k _ cap w2 (by omega) (by omega) (hS1.below hb1) hs1 hl hik (by omega) (hK.below hb1 h0) (by omega)).mono ?_
      rintro e w3 ⟨s, b, rfl, hT, hss, hb3'⟩
      have hb3 := hb1.trans (hb3'.mono hsz1)
      have hsz3 := hb3.size
      have hK3 := hK.below hb3 h0
      rcases hT with ⟨hN, rfl⟩ | ⟨x, hX, rfl, rfl⟩
      · have HO : Hid (Told (showR leaf.data.toList i n (last.data.toList :: tol r)) ⟨#[]⟩ false) := Or.inl ⟨by rw [HLo.out hik, hN]; rfl, rfl⟩
        clear hS1 hs1 hK hN hK3
        go_wp2
        go_ret2
        exact ⟨_, _, rfl, HO.out, by show 0 ≤ _; omega, hb3⟩
      · have HO : Hid (Told (showR leaf.data.toList i n (last.data.toList :: tol r)) (str (nodeH (str x).data.toList last.data.toList)) true) := Or.inr ⟨_, by rw [HLo.out hik, hX]; rfl, rfl, by rw [str_toList]⟩
        generalize str x = xs at *
        clear hS1 hs1 hK hX
        go_wp2_with fail
        refine (tnode_any xs last w3 (by omega) hK3 (by omega)).mono ?_
        rintro e w4 ⟨rfl, hb4⟩
        have hb5 := hb3.trans (hb4.mono hsz3)
        clear hb4 hK3
        go_wp2
        go_ret2
        exact ⟨_, _, rfl, HO.out, str_small _ (sha_length _), hb5⟩
    · have hik' : ¬ (i : Int) < (k : Int) := by omega
      have c := IH.out leaf (i - k) (n - k) (some ⟨g, o, none⟩) cap w2 (by omega) (by omega) (hS1.below hb1) hs1 hl (by omega) (by omega) (hK.below hb1 h0) (by omega)
      rw [Int.ofNat_sub (by omega), Int.ofNat_sub (by omega)] at c
      go_wp2_with fail
      refine c.mono ?_
      clear c
      rintro e w3 ⟨s, b, rfl, hT, hss, hb3'⟩
      have hb3 := hb1.trans (hb3'.mono hsz1)
      have hsz3 := hb3.size
      have hK3 := hK.below hb3 h0
      rcases hT with ⟨hN, rfl⟩ | ⟨x, hX, rfl, rfl⟩
      · have HO : Hid (Told (showR leaf.data.toList i n (last.data.toList :: tol r)) ⟨#[]⟩ false) := Or.inl ⟨by rw [HHi.out hik, hN]; rfl, rfl⟩
        clear hS1 hs1 hK hN hK3
        go_wp2
        go_ret2
        exact ⟨_, _, rfl, HO.out, by show 0 ≤ _; omega, hb3⟩
      · have HO : Hid (Told (showR leaf.data.toList i n (last.data.toList :: tol r)) (str (nodeH last.data.toList (str x).data.toList)) true) := Or.inr ⟨_, by rw [HHi.out hik, hX]; rfl, rfl, by rw [str_toList]⟩
        generalize str x = xs at *
        clear hS1 hs1 hK hX
        go_wp2_with fail
        refine (tnode_any last xs w3 (by omega) hK3 (by omega)).mono ?_
        rintro e w4 ⟨rfl, hb4⟩
        have hb5 := hb3.trans (hb4.mono hsz3)
        clear hb4 hK3
        go_wp2
        go_ret2
        exact ⟨_, _, rfl, HO.out, str_small _ (sha_length _), hb5⟩
theorem dshow_all (rs : List ByteArray) : DShow rs := by
  induction rs with
  | nil => exact dshow_nil
  | cons x r ih => exact dshow_cons x r ih
end Go.Proofs.YtoanekgphcijfaaDoor
