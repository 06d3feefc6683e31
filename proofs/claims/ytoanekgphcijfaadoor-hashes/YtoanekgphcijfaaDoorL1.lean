import Derived.Test.YtoanekgphcijfaaDoorR5
import Derived.WalkSpells
namespace Go.Proofs.YtoanekgphcijfaaDoor
open Go.RowKit
open Sha

def beyond : ByteArray := ⟨#[98, 101, 121, 111, 110, 100]⟩
def emptyS : ByteArray := ⟨#[]⟩
def roomAt (ss : List ByteArray) (k j : Nat) : ByteArray := if j < ss.length then ss.getD j emptyS else if j < ss.length + k then beyond else emptyS
def roomRow (ss : List ByteArray) (k : Nat) : Array Value := (Array.range (ss.length + 8)).map fun j => .string (roomAt ss k j)
theorem roomRow_size (ss : List ByteArray) (k : Nat) : (roomRow ss k).size = ss.length + 8 := by simp [roomRow]
theorem roomRow_get (ss : List ByteArray) (k j : Nat) (h : j < ss.length + 8) : (roomRow ss k)[j]? = some (.string (roomAt ss k j)) := by simp [roomRow, h]
theorem roomAt_low (ss : List ByteArray) (k j : Nat) (h : j < ss.length) : roomAt ss k j = ss[j] := by
  unfold roomAt; rw [if_pos h, List.getD_eq_getElem?_getD, List.getElem?_eq_getElem h]; rfl
theorem roomRow_low (ss : List ByteArray) (k j : Nat) (h : j < ss.length) : (roomRow ss k)[j]? = some (.string ss[j]) := by
  rw [roomRow_get _ _ _ (by omega), roomAt_low _ _ _ h]
theorem roomRow_high (ss : List ByteArray) (j : Nat) (h1 : ss.length ≤ j) (h2 : j < ss.length + 8) : (roomRow ss 8)[j]? = some (.string beyond) := by
  rw [roomRow_get _ _ _ h2]; unfold roomAt; rw [if_neg (by omega), if_pos h2]
theorem roomRow_step (ss : List ByteArray) (k : Nat) (h : k < 8) : (roomRow ss k).setIfInBounds (ss.length + k) (.string beyond) = roomRow ss (k + 1) := by
  apply Array.ext_getElem?
  intro i
  by_cases e : ss.length + k = i
  · subst e
    rw [Array.getElem?_setIfInBounds_self_of_lt (by rw [roomRow_size]; omega), roomRow_get _ _ _ (by omega)]
    unfold roomAt; rw [if_neg (by omega), if_pos (by omega)]
  · rw [Array.getElem?_setIfInBounds_ne e]
    by_cases h8 : i < ss.length + 8
    · rw [roomRow_get _ _ _ h8, roomRow_get _ _ _ h8]
      unfold roomAt
      by_cases e2 : i < ss.length
      · rw [if_pos e2, if_pos e2]
      · rw [if_neg e2, if_neg e2]
        by_cases e3 : i < ss.length + k
        · rw [if_pos e3, if_pos (by omega)]
        · rw [if_neg e3, if_neg (by omega)]
    · rw [Array.getElem?_eq_none (by rw [roomRow_size]; omega), Array.getElem?_eq_none (by rw [roomRow_size]; omega)]
theorem made_at (n j : Nat) (h : j < n) : (madeCells #[Value.string emptyS] n)[j]? = some (.string emptyS) := by simp [madeCells, h, Nat.mod_one]
theorem made_room (ss : List ByteArray) : (List.take 0 (madeCells #[Value.string emptyS] (ss.length + 8)).toList ++ ss.map Value.string ++ List.drop (0 + ss.length) (madeCells #[Value.string emptyS] (ss.length + 8)).toList).toArray = roomRow ss 0 := by
  apply Array.ext_getElem?
  intro i
  rw [List.take_zero, List.nil_append, List.getElem?_toArray]
  by_cases h8 : i < ss.length + 8
  · rw [roomRow_get _ _ _ h8]
    by_cases h : i < ss.length
    · rw [List.getElem?_append_left (by simpa using h), List.getElem?_map, List.getElem?_eq_getElem h, roomAt_low _ _ _ h]; rfl
    · rw [List.getElem?_append_right (by simpa using h), List.length_map, List.getElem?_drop, Array.getElem?_toList, made_at _ _ (by omega)]
      unfold roomAt; rw [if_neg h, if_neg (by omega)]
  · rw [Array.getElem?_eq_none (by rw [roomRow_size]; omega), List.getElem?_eq_none (by simp [size_madeCells]; omega)]
theorem run_mk22 (wx : World) (n : Nat) (L : Int) (hL : L = ((n + 8 : Nat) : Int)) (hb : n * 16 ≤ 140737488351232) :
    (Instr.makeSlice 22 (.int .i64 L) (.int .i64 L)).run Tryd.prog wx = .ok (.slice (some ⟨wx.heap.size, 0, none⟩) (n + 8) (n + 8)) (wx.alloc (.cells (madeCells #[Value.string emptyS] (n + 8)) 9)) := by
  obtain ⟨i0, hi, hz0, hz1, hz2⟩ := info_parts info9'
  have := run_make (P := Tryd.prog) wx 22 9 i0 (.string ⟨#[]⟩) und22 hi hz0 .i64 .i64 L L (by omega) (by omega) (by rw [hz2]; omega) (by omega)
  rw [this, hz1, Nat.mul_one, show L.toNat = n + 8 by omega]; rfl
/-- 'copy(out, l)' into the row just made. -/
theorem copy_room (w : World) (ss : List ByteArray) (a : Addr) (cap : Nat) (hS : Strs w (some a) ss) :
    ∃ w1, (Builtin.copy_ #[22, 22] 3 #[.slice (some ⟨w.heap.size, 0, none⟩) (ss.length + 8) (ss.length + 8), .slice (some a) ss.length cap]).run Tryd.prog (w.alloc (.cells (madeCells #[Value.string emptyS] (ss.length + 8)) 9)) = .ok (goInt ss.length) w1 ∧ Row w1 w.heap.size 9 (roomRow ss 0) ∧ Below w.heap.size w w1 := by
  have hi : (Tryd.prog.info? 9).map (·.size) = some 1 := by kernel_rfl
  have hrow := Row.new w 9 (madeCells #[Value.string emptyS] (ss.length + 8))
  by_cases h0 : ss.length = 0
  · obtain rfl : ss = [] := List.eq_nil_of_length_eq_zero h0
    refine ⟨_, run_copy_none (P := Tryd.prog) _ 22 22 3 9 _ _ _ _ _ _ und22 hi rfl, ?_, (Below.refl _ _).alloc (Nat.le_refl _) _⟩
    have e := made_room []
    simp only [List.map_nil, List.append_nil, List.take_zero, List.length_nil, List.drop_zero, List.nil_append, Nat.add_zero, Array.toArray_toList] at e
    show Row _ _ _ _
    rw [← e]; exact hrow
  · obtain ⟨g, o, ha, _, _⟩ := hS 0 (by omega)
    cases ha
    have hrun := run_copy_row (P := Tryd.prog) (w.alloc (.cells (madeCells #[Value.string emptyS] (ss.length + 8)) 9)) 22 22 3 9 w.heap.size 0 (ss.length + 8) (ss.length + 8) ⟨g, o, none⟩ ss.length cap _ 9 (ss.map Value.string) und22 hi hrow (by rw [List.length_map]; exact (Nat.min_eq_left (by omega)).symm)
      (fun j v hv => by
        rw [addr_add]
        rw [List.getElem?_map] at hv
        have hj : j < ss.length := by
          rcases Nat.lt_or_ge j ss.length with h | h
          · exact h
          · rw [List.getElem?_eq_none h] at hv; cases hv
        rw [List.getElem?_eq_getElem hj] at hv
        obtain ⟨g', o', e, hg', hcell⟩ := hS j hj
        cases e
        rw [World.cell?_of_block (w := w) (a := ⟨g, o + j, none⟩) (Below.heap_alloc _ _ _ hg'), hcell]
        exact hv) (by rw [size_madeCells, List.length_map]; omega) (strv_one ss)
    rw [List.length_map] at hrun
    refine ⟨_, hrun, ?_, bel_setRow ((Below.refl _ _).alloc (Nat.le_refl _) _) (Nat.le_refl _) _⟩
    have := hrow.setRow (List.take 0 (madeCells #[Value.string emptyS] (ss.length + 8)).toList ++ ss.map Value.string ++ List.drop (0 + ss.length) (madeCells #[Value.string emptyS] (ss.length + 8)).toList).toArray
    have e := made_room ss
    rw [← e]; exact this
set_option maxHeartbeats 1000000 in
theorem roomy_any (ss : List ByteArray) (a : Addr) (cap : Nat) (w : World) (_hc : ss.length ≤ cap) (hm : ss.length * 16 ≤ 140737488351232) (hS : Strs w (some a) ss) :
    Calls Tryd.prog 10 #[.slice (some a) ss.length cap] w fun r w' => r = .returned (.slice (some ⟨w.heap.size, 0, none⟩) ss.length (ss.length + 8)) ∧ Row w' w.heap.size 9 (roomRow ss 8) ∧ Below w.heap.size w w' := by
  have hnil := fun wx => Lib.run_eql_slice_nil (P := Tryd.prog) wx 22 9 (some a) ss.length cap 0 0 und22
  have hmk := fun wx => run_mk22 wx ss.length ((ss.length : Int) + 8) (by omega) hm
  obtain ⟨w1, hcp, hr1, hb1⟩ := copy_room w ss a cap hS
  generalize madeCells #[Value.string emptyS] (ss.length + 8) = mc at *
  clear hS
  go_enter Tryd.func10, Tryd.ntmps10
  go_wp2
  clear hnil hmk hcp
  go_loopw [5] (fun i wr => ∃ k : Nat, k ≤ 8 ∧ i = .int .i64 ((ss.length : Int) + (k : Int)) ∧ Row wr w.heap.size 9 (roomRow ss k) ∧ Below w.heap.size w wr) (fun i _ => ss.length + 8 - (intOf i).toNat)
  case atStart => exact ⟨0, by omega, by simp, hr1, hb1⟩
  case round =>
    clear hr1 hb1
    obtain ⟨k, hk, rfl, hr1, hb1⟩ := hrel
    by_cases hlt : k < 8
    · have c1 : wr.cell? ⟨w.heap.size, ss.length + k, none⟩ = some (.string (roomAt ss k (ss.length + k))) := by rw [hr1.cell]; exact roomRow_get _ _ _ (by omega)
      have f1 := hr1.free (ss.length + k)
      have hr2 := hr1.setCell (ss.length + k) (.string beyond)
      rw [roomRow_step _ _ hlt] at hr2
      have hb2 := hb1.setCell (p := ⟨w.heap.size, ss.length + k, none⟩) (Nat.le_refl _) (.string beyond)
      generalize roomAt ss k (ss.length + k) = old at *
      go_wp2
      go_roundw
      case rel => exact ⟨k + 1, by omega, by go_num, hr2, hb2⟩
      case measure => simp [intOf]; omega
    · obtain rfl : k = 8 := by omega
      go_wp2
      go_ret
      exact ⟨rfl, hr1, hb1⟩
theorem roomy_nil (w : World) (n cap : Nat) : Calls Tryd.prog 10 #[.slice none n cap] w fun r w' => r = .returned (.slice none 0 0) ∧ w' = w := by
  have hnil := fun wx => Lib.run_eql_slice_nil (P := Tryd.prog) wx 22 9 none n cap 0 0 und22
  go_enter Tryd.func10, Tryd.ntmps10
  go_wp2
  go_ret
  exact ⟨rfl, rfl⟩
theorem whole_nil (w : World) (n cap : Nat) : Calls Tryd.prog 12 #[.slice none 0 0, .slice none n cap] w fun r w' => r = .returned (.bool true) ∧ w' = w := by
  have hnil := fun wx => Lib.run_eql_slice_nil (P := Tryd.prog) wx 22 9 none n cap 0 0 und22
  have hnil2 := fun wx => Lib.run_eql_slice_nil (P := Tryd.prog) wx 22 9 none 0 0 0 0 und22
  go_enter Tryd.func12, Tryd.ntmps12
  go_wp2
  go_ret
  exact ⟨rfl, rfl⟩
set_option maxHeartbeats 1000000 in
theorem whole_any (ss : List ByteArray) (a : Addr) (cap G : Nat) (w : World) (hm : ss.length * 16 ≤ 140737488351232) (hS : Strs w (some a) ss) (hr : Row w G 9 (roomRow ss 8)) :
    Calls Tryd.prog 12 #[.slice (some ⟨G, 0, none⟩) ss.length (ss.length + 8), .slice (some a) ss.length cap] w fun r w' => r = .returned (.bool true) ∧ ∃ n, w' = w.drewN n := by
  have hnil := fun wx => Lib.run_eql_slice_nil (P := Tryd.prog) wx 22 9 (some a) ss.length cap 0 0 und22
  go_enter Tryd.func12, Tryd.ntmps12
  go_wp2
  clear hnil
  go_loopw [7] (fun i wr => ∃ k n : Nat, k ≤ ss.length + 8 ∧ i = .int .i64 (k : Int) ∧ wr = w.drewN n) (fun i _ => ss.length + 8 - (intOf i).toNat)
  case atStart => exact ⟨0, 0, by omega, rfl, rfl⟩
  case round =>
    obtain ⟨k, n, hk, rfl, rfl⟩ := hrel
    by_cases hlt : k < ss.length
    · have c1 : (w.drewN n).cell? ⟨G, k, none⟩ = some (.string ss[k]) := by
        show w.cell? _ = _
        rw [hr.cell]; exact roomRow_low _ _ _ hlt
      obtain ⟨g, o, ha, hg, hcell⟩ := hS k hlt
      cases ha
      have c2 : (w.drewN n).cell? ⟨g, o + k, none⟩ = some (.string ss[k]) := hcell
      generalize ss[k] = x at *
      have hd : decide ((k : Int) < (ss.length : Int)) = true := by simp; omega
      have hd2 : decide (ss.length ≤ k) = false := by simp; omega
      have hd3 : decide ((ss.length : Int) ≤ (k : Int)) = false := by simp; omega
      clear hcell hS
      generalize hw2 : w.drewN n = w2 at *
      have HW2 : Hid (w.drewN n = w2) := hw2
      clear hw2
      go_wp2
      go_quiet (fail)
      go_wp2
      exact ⟨⟨k + 1, n + nq, by omega, by go_num, by rw [← HW2.out, World.drewN_drewN]⟩, by simp [intOf]; omega⟩
    · by_cases hlt8 : k < ss.length + 8
      · have c1 : (w.drewN n).cell? ⟨G, k, none⟩ = some (.string ⟨#[98, 101, 121, 111, 110, 100]⟩) := by
          show w.cell? _ = _
          rw [hr.cell]; exact roomRow_high _ _ (by omega) hlt8
        have hd : decide ((k : Int) < (ss.length : Int)) = false := by simp; omega
        have hd2 : decide (ss.length ≤ k) = true := by simp; omega
        have hd3 : decide ((ss.length : Int) ≤ (k : Int)) = true := by simp; omega
        clear hS
        generalize hw2 : w.drewN n = w2 at *
        have HW2 : Hid (w.drewN n = w2) := hw2
        clear hw2
        go_wp2
        go_quiet (fail)
        go_wp2
        exact ⟨⟨k + 1, n + nq, by omega, by go_num, by rw [← HW2.out, World.drewN_drewN]⟩, by simp [intOf]; omega⟩
      · clear hS
        go_wp2
        go_ret
        exact ⟨rfl, n, rfl⟩
end Go.Proofs.YtoanekgphcijfaaDoor
