import Derived.Test.YtoanekgphcijfaaDoorA3
namespace Go.Proofs.YtoanekgphcijfaaDoor
open Go.RowKit
open Sha

def Told2 (o : Option (List UInt8 × List UInt8)) (s t : ByteArray) (b : Bool) : Prop := (o = none ∧ b = false) ∨ ∃ x y, o = some (x, y) ∧ b = true ∧ s = str x ∧ t = str y
def From (old : ByteArray) (rs : List ByteArray) (s : ByteArray) : Prop := s.size ≤ 32 ∨ s = old ∨ s ∈ rs
theorem From.fits {old last s : ByteArray} {r : List ByteArray} (h : From old r s) (hF : Fit (old :: last :: r)) : s.size + last.size ≤ 140737488355190 := by
  have h2 := hF.2 last (by simp)
  rcases h with h | rfl | h
  · omega
  · exact hF.two
  · have := (List.pairwise_cons.1 (List.pairwise_cons.1 hF.1).2).1 s h
    omega
theorem From.skip {old last s : ByteArray} {r : List ByteArray} (h : From old r s) : From old (last :: r) s := by
  rcases h with h | h | h
  · exact Or.inl h
  · exact Or.inr (Or.inl h)
  · exact Or.inr (Or.inr (List.mem_cons_of_mem _ h))
theorem from_hash (old : ByteArray) (rs : List ByteArray) (a b : List UInt8) : From old rs (str (nodeH a b)) := Or.inl (by rw [str_size]; exact Nat.le_of_eq (sha_length _))
theorem from_empty (old : ByteArray) (rs : List ByteArray) : From old rs ⟨#[]⟩ := Or.inl (by show 0 ≤ _; omega)
theorem bothR_all_nil (old : List UInt8) (n : Nat) : bothR old n n true [] = some (old, old) := by unfold bothR; rw [if_pos ⟨rfl, rfl⟩]
theorem bothR_not_nil (old : List UInt8) (n : Nat) : bothR old n n false [] = none := by unfold bothR; rw [if_neg (fun h => by cases h.2)]
theorem bothR_nil (old : List UInt8) (m n : Nat) (all : Bool) (h : m ≠ n) : bothR old m n all [] = none := by unfold bothR; rw [if_neg (fun k => h k.1)]
theorem bothR_all_cons (old : List UInt8) (n : Nat) (x : List UInt8) (r : List (List UInt8)) : bothR old n n true (x :: r) = none := by rw [bothR, if_pos rfl, if_pos rfl]
theorem bothR_not_one (old : List UInt8) (n : Nat) (x : List UInt8) : bothR old n n false [x] = some (x, x) := by rw [bothR, if_pos rfl, if_neg (by decide), if_pos rfl]
theorem bothR_not_more (old : List UInt8) (n : Nat) (x y : List UInt8) (r : List (List UInt8)) : bothR old n n false (x :: y :: r) = none := by rw [bothR, if_pos rfl, if_neg (by decide), if_neg (by simp)]
theorem bothR_low (old : List UInt8) (m n : Nat) (all : Bool) (x : List UInt8) (r : List (List UInt8)) (h : m ≠ n) (hm : m ≤ spl n) : bothR old m n all (x :: r) = (bothR old m (spl n) all r).map fun p => (p.1, nodeH p.2 x) := by rw [bothR, if_neg h, if_pos hm]
theorem bothR_high (old : List UInt8) (m n : Nat) (all : Bool) (x : List UInt8) (r : List (List UInt8)) (h : m ≠ n) (hm : ¬ m ≤ spl n) : bothR old m n all (x :: r) = (bothR old (m - spl n) (n - spl n) false r).map fun p => (nodeH x p.1, nodeH x p.2) := by rw [bothR, if_neg h, if_neg hm]
theorem Told2.left {o : Option (List UInt8 × List UInt8)} {s t : ByteArray} {b : Bool} (h : Told2 o s t b) (last : ByteArray) : Told2 (o.map fun p => (p.1, nodeH p.2 last.data.toList)) s (str (nodeH t.data.toList last.data.toList)) b := by
  rcases h with ⟨rfl, rfl⟩ | ⟨x, y, rfl, rfl, rfl, rfl⟩
  · exact Or.inl ⟨rfl, rfl⟩
  · exact Or.inr ⟨_, _, rfl, rfl, rfl, by rw [str_toList]⟩
theorem Told2.right {o : Option (List UInt8 × List UInt8)} {s t : ByteArray} {b : Bool} (h : Told2 o s t b) (last : ByteArray) : Told2 (o.map fun p => (nodeH last.data.toList p.1, nodeH last.data.toList p.2)) (str (nodeH last.data.toList s.data.toList)) (str (nodeH last.data.toList t.data.toList)) b := by
  rcases h with ⟨rfl, rfl⟩ | ⟨x, y, rfl, rfl, rfl, rfl⟩
  · exact Or.inl ⟨rfl, rfl⟩
  · exact Or.inr ⟨_, _, rfl, rfl, by rw [str_toList], by rw [str_toList]⟩
def RBoth (rs : List ByteArray) : Prop := ∀ (old : ByteArray) (m n : Nat) (all : Bool) (ao : Option Addr) (cap : Nat) (w : World), rs.length ≤ cap → rs.length ≤ 140737488355328 → Strs w ao rs.reverse → Fit (old :: rs) → 1 ≤ m → m ≤ n → n ≤ 1073741824 →
  Calls Tryd.prog 82 #[.int .i64 (m : Int), .int .i64 (n : Int), .bool all, .string old, .slice ao rs.length cap] w fun r w' => ∃ s t b, r = .returned (.tuple #[.string s, .string t, .bool b]) ∧ Told2 (bothR old.data.toList m n all (tol rs)) s t b ∧ From old rs s ∧ From old rs t ∧ Below w.heap.size w w'
theorem rboth_nil : RBoth [] := by
  intro old m n all ao cap w hc hm hS hF h1m hmn hn
  clear hS hF
  show Calls Tryd.prog 82 #[.int .i64 (m : Int), .int .i64 (n : Int), .bool all, .string old, .slice ao 0 cap] w _
  by_cases h : m = n
  · subst h
    cases all
    · have HO : Hid (Told2 (bothR old.data.toList m m false (tol [])) ⟨#[]⟩ ⟨#[]⟩ false) := Or.inl ⟨bothR_not_nil _ _, rfl⟩
      go_enter Tryd.func82, Tryd.ntmps82
      go_wp2
      go_ret3
      exact ⟨_, _, _, rfl, HO.out, from_empty _ _, from_empty _ _, Below.refl _ _⟩
    · have HO : Hid (Told2 (bothR old.data.toList m m true (tol [])) old old true) := Or.inr ⟨_, _, bothR_all_nil _ _, rfl, (str_of old).symm, (str_of old).symm⟩
      go_enter Tryd.func82, Tryd.ntmps82
      go_wp2
      go_ret3
      exact ⟨_, _, _, rfl, HO.out, Or.inr (Or.inl rfl), Or.inr (Or.inl rfl), Below.refl _ _⟩
  · have h' : ¬ (m : Int) = (n : Int) := by omega
    have HO : Hid (Told2 (bothR old.data.toList m n all (tol [])) ⟨#[]⟩ ⟨#[]⟩ false) := Or.inl ⟨bothR_nil _ _ _ _ h, rfl⟩
    go_enter Tryd.func82, Tryd.ntmps82
    go_wp2
    go_ret3
    exact ⟨_, _, _, rfl, HO.out, from_empty _ _, from_empty _ _, Below.refl _ _⟩
theorem rboth_eq (last : ByteArray) (r : List ByteArray) (old : ByteArray) (m : Nat) (all : Bool) (g o : Nat) (cap : Nat) (w : World) (hc : r.length + 1 ≤ cap) (hm : r.length + 1 ≤ 140737488355328) (hcell : w.cell? ⟨g, o + r.length, none⟩ = some (.string last)) (_h1m : 1 ≤ m) :
    Calls Tryd.prog 82 #[.int .i64 (m : Int), .int .i64 (m : Int), .bool all, .string old, .slice (some ⟨g, o, none⟩) (r.length + 1) cap] w fun e w' => ∃ s t b, e = .returned (.tuple #[.string s, .string t, .bool b]) ∧ Told2 (bothR old.data.toList m m all (last.data.toList :: tol r)) s t b ∧ From old (last :: r) s ∧ From old (last :: r) t ∧ Below w.heap.size w w' := by
  cases all
  · cases r with
    | nil =>
      have hcell' : w.cell? ⟨g, o, none⟩ = some (.string last) := hcell
      have HO : Hid (Told2 (bothR old.data.toList m m false (last.data.toList :: tol [])) last last true) := Or.inr ⟨_, _, bothR_not_one _ _ _, rfl, (str_of last).symm, (str_of last).symm⟩
      clear hcell
      show Calls Tryd.prog 82 #[.int .i64 (m : Int), .int .i64 (m : Int), .bool false, .string old, .slice (some ⟨g, o, none⟩) 1 cap] w _
      go_enter Tryd.func82, Tryd.ntmps82
      go_wp2
      go_quiet (fail)
      go_wp2
      go_ret3
      exact ⟨_, _, _, rfl, HO.out, Or.inr (Or.inr (by simp)), Or.inr (Or.inr (by simp)), bel_drewN _ _ _⟩
    | cons y r =>
      have HO : Hid (Told2 (bothR old.data.toList m m false (last.data.toList :: tol (y :: r))) ⟨#[]⟩ ⟨#[]⟩ false) := Or.inl ⟨bothR_not_more _ _ _ _ _, rfl⟩
      clear hcell
      rw [List.length_cons] at hc hm ⊢
      go_enter Tryd.func82, Tryd.ntmps82
      go_wp2
      go_ret3
      exact ⟨_, _, _, rfl, HO.out, from_empty _ _, from_empty _ _, Below.refl _ _⟩
  · have HO : Hid (Told2 (bothR old.data.toList m m true (last.data.toList :: tol r)) old old false) := Or.inl ⟨bothR_all_cons _ _ _ _, rfl⟩
    clear hcell
    go_enter Tryd.func82, Tryd.ntmps82
    go_wp2
    go_ret3
    exact ⟨_, _, _, rfl, HO.out, Or.inr (Or.inl rfl), Or.inr (Or.inl rfl), Below.refl _ _⟩
set_option maxHeartbeats 1000000 in
theorem rboth_cons (last : ByteArray) (r : List ByteArray) (ih : RBoth r) : RBoth (last :: r) := by
  intro old m n all ao cap w hc hm hS hF h1m hmn hn
  rw [List.length_cons] at hc hm ⊢
  obtain ⟨g, o, rfl, hg, hcell⟩ := hS.last
  have hS1 := hS.rest
  have HF : Hid (∀ s, From old r s → s.size + last.size ≤ 140737488355190) := fun s h => h.fits hF
  have hF1 := hF.skip
  rw [tol_cons]
  by_cases h : m = n
  · subst h
    exact rboth_eq last r old m all g o cap w hc hm hcell h1m
  · have hk1 := spl_lt n (by omega)
    have hk2 := spl_pos n
    have HSP : Hid (∀ (w : World), 2 ≤ n → n ≤ 1152921504606846976 → Calls Tryd.prog 40 #[.int .i64 (n : Int)] w fun r w' => r = .returned (.int .i64 ((spl n : Nat) : Int)) ∧ w' = w) := rsplit_any n
    have h' : ¬ (m : Int) = (n : Int) := by omega
    have HLo : Hid (m ≤ spl n → bothR old.data.toList m n all (last.data.toList :: tol r) = (bothR old.data.toList m (spl n) all (tol r)).map fun p => (p.1, nodeH p.2 last.data.toList)) := fun hi => bothR_low _ _ _ _ _ _ h hi
    have HHi : Hid (¬ m ≤ spl n → bothR old.data.toList m n all (last.data.toList :: tol r) = (bothR old.data.toList (m - spl n) (n - spl n) false (tol r)).map fun p => (nodeH last.data.toList p.1, nodeH last.data.toList p.2)) := fun hi => bothR_high _ _ _ _ _ _ h hi
    have IH : Hid (RBoth r) := ih
    clear hS hF ih
    generalize spl n = k at *
    go_enter Tryd.func82, Tryd.ntmps82
    go_wp2_with fail
    refine (HSP.out w (by omega) (by omega)).mono ?_
    rintro e w2 ⟨rfl, hw2⟩
    subst hw2
    clear hcell
    by_cases hik : m ≤ k
    · have hik' : (m : Int) ≤ (k : Int) := by omega
      go_wp2_with fail
      refine (IH.out old m k all _ cap w2 (by omega) (by omega) hS1 hF1 h1m hik (by omega)).mono ?_
      rintro e w3 ⟨s, t, b, rfl, hT, hfs, hft, hb3⟩
      have hsz3 := hb3.size
      have h3 := HF.out t hft
      have HO : Hid (Told2 (bothR old.data.toList m n all (last.data.toList :: tol r)) s (str (nodeH t.data.toList last.data.toList)) b) := by rw [HLo.out hik]; exact hT.left last
      have HS : Hid (From old (last :: r) s) := hfs.skip
      clear hS1 hF1 hT hfs hft
      go_wp2_with fail
      refine (rnode_any t last w3 h3).mono ?_
      rintro e w4 ⟨rfl, hb4⟩
      have hb5 := hb3.trans (hb4.mono hsz3)
      clear hb4
      go_wp2
      go_ret3
      exact ⟨_, _, _, rfl, HO.out, HS.out, from_hash _ _ _ _, hb5⟩
    · have hik' : ¬ (m : Int) ≤ (k : Int) := by omega
      have c := IH.out old (m - k) (n - k) false (some ⟨g, o, none⟩) cap w2 (by omega) (by omega) hS1 hF1 (by omega) (by omega) (by omega)
      rw [Int.ofNat_sub (by omega), Int.ofNat_sub (by omega)] at c
      go_wp2_with fail
      refine c.mono ?_
      clear c
      rintro e w3 ⟨s, t, b, rfl, hT, hfs, hft, hb3⟩
      have hsz3 := hb3.size
      have h3 := HF.out s hfs
      have h4 := HF.out t hft
      have HO : Hid (Told2 (bothR old.data.toList m n all (last.data.toList :: tol r)) (str (nodeH last.data.toList s.data.toList)) (str (nodeH last.data.toList t.data.toList)) b) := by rw [HHi.out hik]; exact hT.right last
      clear hS1 hF1 hT hfs hft
      go_wp2_with fail
      refine (rnode_any last s w3 (by omega)).mono ?_
      rintro e w4 ⟨rfl, hb4'⟩
      have hb4 := hb3.trans (hb4'.mono hsz3)
      have hsz4 := hb4.size
      go_wp2_with fail
      refine (rnode_any last t w4 (by omega)).mono ?_
      rintro e w5 ⟨rfl, hb5'⟩
      have hb5 := hb4.trans (hb5'.mono hsz4)
      clear hb4' hb5'
      go_wp2
      go_ret3
      exact ⟨_, _, _, rfl, HO.out, from_hash _ _ _ _, from_hash _ _ _ _, hb5⟩
theorem rboth_all (rs : List ByteArray) : RBoth rs := by
  induction rs with
  | nil => exact rboth_nil
  | cons x r ih => exact rboth_cons x r ih
end Go.Proofs.YtoanekgphcijfaaDoor
