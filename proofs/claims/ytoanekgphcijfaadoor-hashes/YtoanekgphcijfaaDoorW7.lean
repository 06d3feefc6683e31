import Derived.Test.YtoanekgphcijfaaDoorW6
namespace Go.Proofs.YtoanekgphcijfaaDoor
open Go.RowKit
open Sha

def bytes0 : Array Value := Array.replicate 64 (.int .u8 0)
def initCells : Array Value := #[.int .u32 1779033703, .int .u32 3144134277, .int .u32 1013904242, .int .u32 2773480762, .int .u32 1359893119, .int .u32 2600822924, .int .u32 528734635, .int .u32 1541459225] ++ (bytes0 ++ #[.int .i64 0, .int .u64 0])
theorem initCells_eq : initCells = #[.int .u32 1779033703, .int .u32 3144134277, .int .u32 1013904242, .int .u32 2773480762, .int .u32 1359893119, .int .u32 2600822924, .int .u32 528734635, .int .u32 1541459225] ++ (bytes0 ++ #[.int .i64 0, .int .u64 0]) := rfl
theorem init_chain : ((((((((Tryd.zeroCells142.setIfInBounds 0 (Value.int IntKind.u32 1779033703)).setIfInBounds 1 (Value.int IntKind.u32 3144134277)).setIfInBounds 2 (Value.int IntKind.u32 1013904242)).setIfInBounds 3 (Value.int IntKind.u32 2773480762)).setIfInBounds 4 (Value.int IntKind.u32 1359893119)).setIfInBounds 5 (Value.int IntKind.u32 2600822924)).setIfInBounds 6 (Value.int IntKind.u32 528734635)).setIfInBounds 7 (Value.int IntKind.u32 1541459225)) = initCells := by kernel_rfl
theorem bytes0_size : bytes0.size = 64 := by kernel_rfl
theorem init_is : HIs initCells [] 0 := by
  rw [initCells_eq]
  refine ⟨by simp [bytes0_size], ?_, ?_, ?_, ?_, ?_⟩
  · intro j hj
    rw [Array.getElem?_append_left (by simpa using hj)]
    match j, hj with
    | 0, _ | 1, _ | 2, _ | 3, _ | 4, _ | 5, _ | 6, _ | 7, _ => rfl
  · intro j hj
    refine ⟨0, by omega, ?_⟩
    rw [Array.getElem?_append_right (by simp), Array.getElem?_append_left (by simp [bytes0_size]; omega)]
    rw [bytes0, Array.getElem?_replicate, if_pos (by simp; omega)]; rfl
  · intro j hj; simp at hj
  · rw [Array.getElem?_append_right (by simp), Array.getElem?_append_right (by simp [bytes0_size]), bytes0_size]; rfl
  · rw [Array.getElem?_append_right (by simp), Array.getElem?_append_right (by simp [bytes0_size]), bytes0_size]; rfl
theorem info71 : (Tryd.prog.info? 142).map (·.size) = some initCells.size := by kernel_rfl
theorem zero71 : Tryd.zeroCells142.size = initCells.size := by kernel_rfl
theorem one71 : initCells.all (·.oneCell') = true := by kernel_rfl
theorem new_any (w : World) : Calls Tryd.prog 99 #[] w fun r w' => r = .returned (.agg initCells) ∧ Below w.heap.size w w' := by
  go_enter Tryd.func99, Tryd.ntmps99
  go_wp2_with (first | (refine wpList_store_row rfl 142 _ _ rfl w.heap.size initCells rfl (congrArg Value.agg init_chain) 142 Tryd.zeroCells142 (Row.new _ _ _) info71 zero71 one71 ?_) | fail)
  refine bodyPost_ret (v := .agg initCells) (results_cell_row Tryd.results99 _ _ w.heap.size 142 initCells (0, 0) _ rfl ((Row.new _ _ _).setRow initCells) Tryd.underlying142 rfl info71) rfl ⟨rfl, bel_setRow ((Below.refl _ _).alloc (Nat.le_refl _) _) (Nat.le_refl _) _⟩

def flat (ss : List ByteArray) : List UInt8 := (ss.map fun s => s.data.toList).flatten
theorem flat_take (ss : List ByteArray) (j : Nat) (h : j < ss.length) : flat (ss.take (j + 1)) = flat (ss.take j) ++ ss[j].data.toList := by
  unfold flat; rw [List.take_succ_eq_append_getElem h, List.map_append, List.flatten_append]
  simp only [List.map_cons, List.map_nil, List.flatten_cons, List.flatten_nil, List.append_nil]
theorem flat_le (ss : List ByteArray) (j : Nat) : (flat (ss.take j)).length ≤ (flat ss).length := by
  have : flat ss = flat (ss.take j) ++ flat (ss.drop j) := by unfold flat; rw [← List.flatten_append, ← List.map_append, List.take_append_drop]
  rw [this, List.length_append]; omega
set_option maxHeartbeats 1000000 in
theorem sum_any (ao : Option Addr) (cap : Nat) (ss : List ByteArray) (w : World) (hc : ∀ j (h : j < ss.length), ∃ g o, ao = some ⟨g, o, none⟩ ∧ g < w.heap.size ∧ w.cell? ⟨g, o + j, none⟩ = some (.string ss[j]))
    (hl : (flat ss).length < 2305843009213693952) (hn : ss.length ≤ 140737488355328) (hK : ∀ j, j < 64 → w.cell? ⟨0, j, none⟩ = some (.int .u32 (K j : Int))) (hw0 : 0 < w.heap.size) :
    Calls Tryd.prog 71 #[.slice ao ss.length cap] w fun r w' => r = .returned (.string ⟨(sha (flat ss)).toArray⟩) ∧ Below w.heap.size w w' := by
  go_enter Tryd.func71, Tryd.ntmps71
  go_wp2_with fail
  refine (new_any w).mono ?_
  rintro e w1 ⟨rfl, hbe⟩
  have hsz := hbe.size
  go_wp2_with (first | (refine wpList_store_row rfl 142 _ _ rfl w1.heap.size initCells rfl rfl 142 Tryd.zeroCells142 (Row.new _ _ _) info71 zero71 one71 ?_) | fail)
  generalize hW2 : World.setRow _ _ _ = w2
  have hr2 : Row w2 w1.heap.size 142 initCells := by rw [← hW2]; exact (Row.new _ _ _).setRow _
  have hbe2 : Below w.heap.size w w2 := by rw [← hW2]; exact bel_setRow (hbe.alloc hsz _) hsz _
  clear hW2
  go_loopw [9] (fun i wr => ∃ j : Nat, j ≤ ss.length ∧ i = .int .i64 (j : Int) ∧ Below w.heap.size w wr ∧ ∃ cs, Row wr w1.heap.size 142 cs ∧ HIs cs (flat (ss.take j)) (flat (ss.take j)).length) (fun i _ => ss.length - (intOf i).toNat)
  case atStart => exact ⟨0, by omega, rfl, hbe2, _, hr2, init_is⟩
  case round =>
    clear hbe2 hr2
    obtain ⟨j, hj, rfl, hbe2, cs, hr2, hh⟩ := hrel
    have hK2 : ∀ j, j < 64 → wr.cell? ⟨0, j, none⟩ = some (.int .u32 (K j : Int)) := fun j hj => by rw [hbe2.cell (p := ⟨0, j, none⟩) hw0]; exact hK j hj
    have hfl := flat_le ss j
    by_cases hlt : j < ss.length
    · obtain ⟨g, o, rfl, hg, hcell⟩ := hc j hlt
      have hcj : wr.cell? ⟨g, o + j, none⟩ = some (.string ss[j]) := by rw [hbe2.cell (p := ⟨g, o + j, none⟩) hg]; exact hcell
      have HT : Hid (flat (ss.take (j + 1)) = flat (ss.take j) ++ ss[j].data.toList) := flat_take ss j hlt
      have hft := flat_le ss (j + 1)
      rw [HT.out, List.length_append, size_toList] at hft
      generalize ss[j] = x at *
      have HFT : Hid ((flat (ss.take j)).length + x.size ≤ (flat ss).length) := hft
      have HFL : Hid ((flat (ss.take j)).length ≤ (flat ss).length) := hfl
      clear hc hft hfl hK
      have HK2 := hK2
      clear hK2
      go_wp2_with fail
      refine (write_any w1.heap.size cs (flat (ss.take j)) (flat (ss.take j)).length x wr hr2 hh (by have := HFT.out; unfold maxLen; omega) (by have := HFT.out; omega) HK2 (by omega)).mono ?_
      rintro e w3 ⟨rfl, hb3, cs3, hr3, hh3⟩
      have hb4 := hbe2.trans (hb3.below (B := w.heap.size) hsz hbe2.size)
      clear hb3 HK2
      go_wp2
      go_roundw
      case rel => exact ⟨j + 1, by omega, by go_num, hb4, cs3, hr3, by rw [HT.out, List.length_append, size_toList]; exact hh3⟩
      case measure => simp [intOf]; omega
    · obtain rfl : j = ss.length := by omega
      rw [List.take_length] at hh
      have HH := hh
      clear hc hK hfl hh
      have HK2 := hK2
      clear hK2
      go_wp2_with fail
      refine (finish_any w1.heap.size cs (flat ss) wr hr2 HH hl HK2 (by omega)).mono ?_
      rintro e w3 ⟨rfl, hb3⟩
      have hb4 := hbe2.trans (hb3.below (B := w.heap.size) hsz hbe2.size)
      clear hb3 HK2
      go_wp2
      go_ret
      exact ⟨rfl, hb4⟩
end Go.Proofs.YtoanekgphcijfaaDoor
