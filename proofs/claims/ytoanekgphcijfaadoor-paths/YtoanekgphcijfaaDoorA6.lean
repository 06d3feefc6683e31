import Derived.Test.YtoanekgphcijfaaDoorA5
import Derived.Deep.RegionWith
import Derived.Deep.DeepCutAuto
namespace Go.Proofs.YtoanekgphcijfaaDoor
open Go.RowKit
open Sha

abbrev R0 : Array Value := #[.string ⟨#[]⟩, .string ⟨#[]⟩]
def DBoth (rs : List ByteArray) : Prop := ∀ (old : ByteArray) (m n : Nat) (all : Bool) (ao : Option Addr) (cap : Nat) (w : World), rs.length ≤ cap → rs.length ≤ 140737488355328 → Strs w ao rs.reverse → (∀ s ∈ rs, s.size ≤ 140737488355328) → old.size ≤ 140737488355328 → 1 ≤ m → m ≤ n → n ≤ 1073741824 → Tab w → 0 < w.heap.size →
  Calls Tryd.prog 80 #[.slice ao rs.length cap, .string old, .int .i64 (m : Int), .int .i64 (n : Int), .bool all] w (Roots (bothR old.data.toList m n all (tol rs)) w)
theorem Row.two {w : World} {b : Nat} {t : TypeId} {a c : Value} (h : Row w b t #[a, c]) (x y : Value) : Row ((w.setCell ⟨b, 0, none⟩ x).setCell ⟨b, 1, none⟩ y) b t #[x, y] := (h.setCell 0 x).setCell 1 y
theorem dboth_eq (rs : List ByteArray) (old : ByteArray) (m : Nat) (all : Bool) (ao : Option Addr) (cap : Nat) (w : World) (hc : rs.length ≤ cap) (hm : rs.length ≤ 140737488355328) (hS : Strs w ao rs.reverse) (hs : ∀ s ∈ rs, s.size ≤ 140737488355328) (ho : old.size ≤ 140737488355328) :
    Calls Tryd.prog 80 #[.slice ao rs.length cap, .string old, .int .i64 (m : Int), .int .i64 (m : Int), .bool all] w (Roots (bothR old.data.toList m m all (tol rs)) w) := by
  have hr0 : Row (w.alloc (.cells R0 116)) w.heap.size 116 R0 := Row.new _ _ _
  have hb0 : Below w.heap.size w (w.alloc (.cells R0 116)) := (Below.refl _ _).alloc (Nat.le_refl _) _
  have c := old_any rs m ao cap old all (w.alloc (.cells R0 116)) hc hm (hS.below hb0) hs ho
  go_enter Tryd.func80, Tryd.ntmps80
  go_wp2_with fail
  refine c.mono ?_
  clear c
  rintro e w1 ⟨s, t, b, rfl, hT, h1, h2, hb1⟩
  have hr1 := hr0.below hb1 hr0.lt
  have hlt := hr1.lt
  have c0 : w1.cell? ⟨w.heap.size, 0, none⟩ = some (.string ⟨#[]⟩) := hr1.cell 0
  have c1 : w1.cell? ⟨w.heap.size, 1, none⟩ = some (.string ⟨#[]⟩) := hr1.cell 1
  have f0 := hr1.free 0
  have f1 := hr1.free 1
  have hr2 := hr1.two (.string s) (.string t)
  have hb2 : Below w.heap.size w ((w1.setCell ⟨w.heap.size, 0, none⟩ (.string s)).setCell ⟨w.heap.size, 1, none⟩ (.string t)) := ((hb0.trans (hb1.mono hb0.size)).setCell (p := ⟨w.heap.size, 0, none⟩) (Nat.le_refl _) _).setCell (p := ⟨w.heap.size, 1, none⟩) (Nat.le_refl _) _
  have HO : Hid (Told2 (bothR old.data.toList m m all (tol rs)) s t b) := hT
  clear hT hS hs hb1
  go_wp2
  refine bodyPost_ret (results_roots rfl _ _ w.heap.size (.string s) (.string t) rfl hr2) rfl ?_
  exact ⟨_, _, _, rfl, HO.out, h1, h2, hb2⟩
theorem dboth_nil : DBoth [] := by
  intro old m n all ao cap w hc hm hS hs ho h1m hmn hn hK h0
  by_cases h : m = n
  · subst h
    exact dboth_eq [] old m all ao cap w hc hm hS hs ho
  · have h' : ¬ (m : Int) = (n : Int) := by omega
    have HO : Hid (Told2 (bothR old.data.toList m n all (tol [])) ⟨#[]⟩ ⟨#[]⟩ false) := Or.inl ⟨bothR_nil _ _ _ _ h, rfl⟩
    clear hS hs hK
    show Calls Tryd.prog 80 #[.slice ao 0 cap, .string old, .int .i64 (m : Int), .int .i64 (n : Int), .bool all] w _
    go_enter Tryd.func80, Tryd.ntmps80
    go_wp2
    refine bodyPost_ret (results_roots rfl _ _ w.heap.size (.string ⟨#[]⟩) (.string ⟨#[]⟩) rfl (Row.new _ _ _)) rfl ?_
    exact ⟨_, _, _, rfl, HO.out, by show 0 ≤ _; omega, by show 0 ≤ _; omega, (Below.refl _ _).alloc (Nat.le_refl _) _⟩
set_option maxHeartbeats 2000000 in
theorem dboth_cons (last : ByteArray) (r : List ByteArray) (ih : DBoth r) : DBoth (last :: r) := by
  intro old m n all ao cap w hc hm hS hs ho h1m hmn hn hK h0
  by_cases h : m = n
  · subst h
    exact dboth_eq (last :: r) old m all ao cap w hc hm hS hs ho
  rw [List.length_cons] at hc hm ⊢
  obtain ⟨g, o, rfl, hg, hcell⟩ := hS.last
  have hS1 := hS.rest
  have hlast := hs last (by simp)
  have hs1 : ∀ s ∈ r, s.size ≤ 140737488355328 := fun s h => hs s (List.mem_cons_of_mem _ h)
  rw [tol_cons]
  have IH : Hid (DBoth r) := ih
  clear hS hs ih
  have hk1 := spl_lt n (by omega)
  have hk2 := spl_pos n
  have HSP : Hid (∀ (w : World), 2 ≤ n → n ≤ 4611686018427387904 → Calls Tryd.prog 73 #[.int .i64 (n : Int)] w fun r w' => r = .returned (.int .i64 ((spl n : Nat) : Int)) ∧ w' = w) := split_any n
  have h' : ¬ (m : Int) = (n : Int) := by omega
  have HLo : Hid (m ≤ spl n → bothR old.data.toList m n all (last.data.toList :: tol r) = (bothR old.data.toList m (spl n) all (tol r)).map fun p => (p.1, nodeH p.2 last.data.toList)) := fun hi => bothR_low _ _ _ _ _ _ h hi
  have HHi : Hid (¬ m ≤ spl n → bothR old.data.toList m n all (last.data.toList :: tol r) = (bothR old.data.toList (m - spl n) (n - spl n) false (tol r)).map fun p => (nodeH last.data.toList p.1, nodeH last.data.toList p.2)) := fun hi => bothR_high _ _ _ _ _ _ h hi
  have hr0 : Row (w.alloc (.cells R0 116)) w.heap.size 116 R0 := Row.new _ _ _
  have hb0 : Below w.heap.size w (w.alloc (.cells R0 116)) := (Below.refl _ _).alloc (Nat.le_refl _) _
  have hcell0 : (w.alloc (.cells R0 116)).cell? ⟨g, o + r.length, none⟩ = some (.string last) := by rw [hb0.cell (p := ⟨g, o + r.length, none⟩) hg]; exact hcell
  have cT := takeLast_any g o r.length cap last _ hc hm hcell0
  generalize spl n = k at *
  go_enter Tryd.func80, Tryd.ntmps80
  go_wp2_with fail
  refine cT.mono ?_
  clear cT
  rintro e w1 ⟨rfl, n1, hw1⟩
  have hb1 : Below w.heap.size w w1 := by rw [hw1]; exact hb0.trans (bel_drewN _ _ _)
  have hr1 : Row w1 w.heap.size 116 R0 := by rw [hw1]; exact hr0.drewN n1
  have hsz1 := hb1.size
  clear hw1 hcell hcell0 hb0 hr0
  go_wp2_with fail
  refine (HSP.out w1 (by omega) (by omega)).mono ?_
  rintro e w2 ⟨rfl, hw2⟩
  subst hw2
  by_cases hik : m ≤ k
  · have hik' : (m : Int) ≤ (k : Int) := by omega
    go_wp2_with fail
    refine (IH.out old m k all _ cap w2 (by omega) (by omega) (hS1.below hb1) hs1 ho h1m hik (by omega) (hK.below hb1 h0) (by omega)).mono ?_
    rintro e w3 ⟨s, t, b, rfl, hT, hss, hst, hb3'⟩
    have hb3 := hb1.trans (hb3'.mono hsz1)
    have hr3 := hr1.below hb3' hr1.lt
    have hlt3 := hr3.lt
    have hsz3 := hb3.size
    have hK3 := hK.below hb3 h0
    rcases hT with ⟨hN, rfl⟩ | ⟨x, y, hX, rfl, rfl, rfl⟩
    · have HO : Hid (Told2 (bothR old.data.toList m n all (last.data.toList :: tol r)) ⟨#[]⟩ ⟨#[]⟩ false) := Or.inl ⟨by rw [HLo.out hik, hN]; rfl, rfl⟩
      clear hS1 hs1 hK hN hK3
      have c0 : w3.cell? ⟨w.heap.size, 0, none⟩ = some (.string ⟨#[]⟩) := hr3.cell 0
      have c1 : w3.cell? ⟨w.heap.size, 1, none⟩ = some (.string ⟨#[]⟩) := hr3.cell 1
      have f0 := hr3.free 0
      have f1 := hr3.free 1
      have hr4 := (hr3.two (.string ⟨#[]⟩) (.string ⟨#[]⟩)).alloc (.cells #[.string s, .string t] 116)
      have hb4 : Below w.heap.size w (((w3.setCell ⟨w.heap.size, 0, none⟩ (.string ⟨#[]⟩)).setCell ⟨w.heap.size, 1, none⟩ (.string ⟨#[]⟩)).alloc (.cells #[.string s, .string t] 116)) := ((hb3.setCell (p := ⟨w.heap.size, 0, none⟩) (Nat.le_refl _) _).setCell (p := ⟨w.heap.size, 1, none⟩) (Nat.le_refl _) _).alloc (by simp; omega) _
      go_wp2
      refine bodyPost_ret (results_roots rfl _ _ w.heap.size (.string ⟨#[]⟩) (.string ⟨#[]⟩) rfl hr4) rfl ?_
      exact ⟨_, _, _, rfl, HO.out, by show 0 ≤ _; omega, by show 0 ≤ _; omega, hb4⟩
    · have HO : Hid (Told2 (bothR old.data.toList m n all (last.data.toList :: tol r)) (str x) (str (nodeH (str y).data.toList last.data.toList)) true) := Or.inr ⟨_, _, by rw [HLo.out hik, hX]; rfl, rfl, rfl, by rw [str_toList]⟩
      generalize str x = xs at *
      generalize str y = ys at *
      have hrC : Row (w3.alloc (.cells #[.string xs, .string ys] 116)).drew w3.heap.size 116 #[.string xs, .string ys] := Row.new _ _ _
      have hrB : Row (w3.alloc (.cells #[.string xs, .string ys] 116)).drew w.heap.size 116 R0 := hr3.alloc _
      have hb4 : Below w.heap.size w (w3.alloc (.cells #[.string xs, .string ys] 116)).drew := (hb3.alloc hsz3 _).drew
      have hK4 : Tab (w3.alloc (.cells #[.string xs, .string ys] 116)).drew := hK.below hb4 h0
      have h04 : 0 < (w3.alloc (.cells #[.string xs, .string ys] 116)).drew.heap.size := Nat.lt_of_lt_of_le h0 hb4.size
      clear hS1 hs1 hX hK3
      go_wp2_with fail
      go_region_with (first
        | (go_at_call 74; refine (tnode_any _ _ _ (by omega) (by exact hK4) (by exact h04)).mono ?_; rintro e w5 ⟨rfl, hb5⟩; have hrC5 := hrC.below hb5 hrC.lt; have hrB5 := hrB.below hb5 hrB.lt; replace hb5 : Below w.heap.size w w5 := hb4.trans (hb5.mono hb4.size); have p0 : w5.cell? ⟨w3.heap.size, 0, none⟩ = some (.string xs) := hrC5.cell 0; have c0 : w5.cell? ⟨w.heap.size, 0, none⟩ = some (.string ⟨#[]⟩) := hrB5.cell 0; have c1 : w5.cell? ⟨w.heap.size, 1, none⟩ = some (.string ⟨#[]⟩) := hrB5.cell 1; have f0 := hrB5.free 0; have f1 := hrB5.free 1; have hlt5 := hrB5.lt; have hrE := hrB5.two (.string xs) (.string (str (nodeH ys.data.toList last.data.toList))); have hbE : Below w.heap.size w ((w5.setCell ⟨w.heap.size, 0, none⟩ (.string xs)).setCell ⟨w.heap.size, 1, none⟩ (.string (str (nodeH ys.data.toList last.data.toList)))) := (hb5.setCell (p := ⟨w.heap.size, 0, none⟩) (Nat.le_refl _) _).setCell (p := ⟨w.heap.size, 1, none⟩) (Nat.le_refl _) _))
      all_goals
        go_wp2
        refine bodyPost_ret (results_roots rfl _ _ w.heap.size _ _ rfl hrE) rfl ?_
        exact ⟨_, _, _, rfl, HO.out, hss, str_small _ (sha_length _), hbE⟩
  · have hik' : ¬ (m : Int) ≤ (k : Int) := by omega
    have c := IH.out old (m - k) (n - k) false (some ⟨g, o, none⟩) cap w2 (by omega) (by omega) (hS1.below hb1) hs1 ho (by omega) (by omega) (by omega) (hK.below hb1 h0) (by omega)
    rw [Int.ofNat_sub (by omega), Int.ofNat_sub (by omega)] at c
    go_wp2_with fail
    refine c.mono ?_
    clear c
    rintro e w3 ⟨s, t, b, rfl, hT, hss, hst, hb3'⟩
    have hb3 := hb1.trans (hb3'.mono hsz1)
    have hr3 := hr1.below hb3' hr1.lt
    have hlt3 := hr3.lt
    have hsz3 := hb3.size
    have hK3 := hK.below hb3 h0
    rcases hT with ⟨hN, rfl⟩ | ⟨x, y, hX, rfl, rfl, rfl⟩
    · have HO : Hid (Told2 (bothR old.data.toList m n all (last.data.toList :: tol r)) ⟨#[]⟩ ⟨#[]⟩ false) := Or.inl ⟨by rw [HHi.out hik, hN]; rfl, rfl⟩
      clear hS1 hs1 hK hN hK3
      have c0 : w3.cell? ⟨w.heap.size, 0, none⟩ = some (.string ⟨#[]⟩) := hr3.cell 0
      have c1 : w3.cell? ⟨w.heap.size, 1, none⟩ = some (.string ⟨#[]⟩) := hr3.cell 1
      have f0 := hr3.free 0
      have f1 := hr3.free 1
      have hr4 := (hr3.two (.string ⟨#[]⟩) (.string ⟨#[]⟩)).alloc (.cells #[.string s, .string t] 116)
      have hb4 : Below w.heap.size w (((w3.setCell ⟨w.heap.size, 0, none⟩ (.string ⟨#[]⟩)).setCell ⟨w.heap.size, 1, none⟩ (.string ⟨#[]⟩)).alloc (.cells #[.string s, .string t] 116)) := ((hb3.setCell (p := ⟨w.heap.size, 0, none⟩) (Nat.le_refl _) _).setCell (p := ⟨w.heap.size, 1, none⟩) (Nat.le_refl _) _).alloc (by simp; omega) _
      go_wp2
      refine bodyPost_ret (results_roots rfl _ _ w.heap.size (.string ⟨#[]⟩) (.string ⟨#[]⟩) rfl hr4) rfl ?_
      exact ⟨_, _, _, rfl, HO.out, by show 0 ≤ _; omega, by show 0 ≤ _; omega, hb4⟩
    · have HO : Hid (Told2 (bothR old.data.toList m n all (last.data.toList :: tol r)) (str (nodeH last.data.toList (str x).data.toList)) (str (nodeH last.data.toList (str y).data.toList)) true) := Or.inr ⟨_, _, by rw [HHi.out hik, hX]; rfl, rfl, by rw [str_toList], by rw [str_toList]⟩
      generalize str x = xs at *
      generalize str y = ys at *
      have hrC : Row (w3.alloc (.cells #[.string xs, .string ys] 116)).drew w3.heap.size 116 #[.string xs, .string ys] := Row.new _ _ _
      have hrB : Row (w3.alloc (.cells #[.string xs, .string ys] 116)).drew w.heap.size 116 R0 := hr3.alloc _
      have hb4 : Below w.heap.size w (w3.alloc (.cells #[.string xs, .string ys] 116)).drew := (hb3.alloc hsz3 _).drew
      have hK4 : Tab (w3.alloc (.cells #[.string xs, .string ys] 116)).drew := hK.below hb4 h0
      have h04 : 0 < (w3.alloc (.cells #[.string xs, .string ys] 116)).drew.heap.size := Nat.lt_of_lt_of_le h0 hb4.size
      clear hS1 hs1 hX hK3
      go_wp2_with fail
      go_region_with (first
        | (go_at_call_of 74 (Value.string xs); refine (tnode_any _ _ _ (by omega) (by exact hK4) (by exact h04)).mono ?_; rintro e w5 ⟨rfl, hb5⟩; have hrC5 := hrC.below hb5 hrC.lt; have hrB5 := hrB.below hb5 hrB.lt; replace hb5 : Below w.heap.size w w5 := hb4.trans (hb5.mono hb4.size); have p1 : w5.cell? ⟨w3.heap.size, 1, none⟩ = some (.string ys) := hrC5.cell 1)
        | (go_at_call_of 74 (Value.string ys); refine (tnode_any _ _ _ (by omega) (by exact hK.below hb5 h0) (by exact Nat.lt_of_lt_of_le h0 hb5.size)).mono ?_; rintro e w6 ⟨rfl, hb6⟩; have hrB6 := hrB5.below hb6 hrB5.lt; replace hb6 : Below w.heap.size w w6 := hb5.trans (hb6.mono hb5.size); have c0 : w6.cell? ⟨w.heap.size, 0, none⟩ = some (.string ⟨#[]⟩) := hrB6.cell 0; have c1 : w6.cell? ⟨w.heap.size, 1, none⟩ = some (.string ⟨#[]⟩) := hrB6.cell 1; have f0 := hrB6.free 0; have f1 := hrB6.free 1; have hlt6 := hrB6.lt; have hrE := hrB6.two (.string (str (nodeH last.data.toList xs.data.toList))) (.string (str (nodeH last.data.toList ys.data.toList))); have hbE : Below w.heap.size w ((w6.setCell ⟨w.heap.size, 0, none⟩ (.string (str (nodeH last.data.toList xs.data.toList)))).setCell ⟨w.heap.size, 1, none⟩ (.string (str (nodeH last.data.toList ys.data.toList)))) := (hb6.setCell (p := ⟨w.heap.size, 0, none⟩) (Nat.le_refl _) _).setCell (p := ⟨w.heap.size, 1, none⟩) (Nat.le_refl _) _))
      all_goals
        go_wp2
        refine bodyPost_ret (results_roots rfl _ _ w.heap.size _ _ rfl hrE) rfl ?_
        exact ⟨_, _, _, rfl, HO.out, str_small _ (sha_length _), str_small _ (sha_length _), hbE⟩
theorem dboth_all (rs : List ByteArray) : DBoth rs := by
  induction rs with
  | nil => exact dboth_nil
  | cons x r ih => exact dboth_cons x r ih
end Go.Proofs.YtoanekgphcijfaaDoor
