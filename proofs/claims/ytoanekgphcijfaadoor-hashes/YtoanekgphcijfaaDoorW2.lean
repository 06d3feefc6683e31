import Derived.Test.YtoanekgphcijfaaDoorW1
import Derived.Test.YtoanekgphcijfaaDoorHeap
import Derived.BigRegion
namespace Go.Proofs.YtoanekgphcijfaaDoor
open Go.RowKit
open Sha

theorem arr64 : Tryd.prog.arrayLen 139 = 64 := by kernel_rfl
theorem elem64 : Tryd.prog.elem 139 = 5 := by kernel_rfl
theorem cells5 : Tryd.prog.cellsOf 5 = 1 := by kernel_rfl
theorem und64 : Tryd.prog.underlying 139 = some (.array (Tryd.prog.arrayLen 139) (Tryd.prog.elem 139)) := by kernel_rfl
theorem size5 (wx : World) : (sizeOf (Tryd.prog.elem 139)).run Tryd.prog wx = .ok 1 wx := by rw [elem64]; kernel_rfl
theorem slice64 (b o l h : Nat) (h0 : l < 64) (h1 : l ≤ h) (h2 : h ≤ 64) (L H : Int) (hL : L = l) (hH : H = h) (wx : World) :
    (Instr.sliceAt 139 (.pointer (some ⟨b, o, none⟩)) (some (.int .i64 L)) (some (.int .i64 H)) none).run Tryd.prog wx = .ok (.slice (some ⟨b, o + l, none⟩) (h - l) (64 - l)) wx := by
  subst hL hH
  rw [run_sliceAt_array_lh wx _ _ und64 _ _ _ _ (by omega) (by omega) (by rw [arr64]; omega), size5, arr64]
  have : ¬ 64 = l := by omega
  simp [slicedAt, Addr.add, this]

def schedCells (bl : Nat → Nat) : Array Value := (Array.range 64).map fun j => .int .u32 (W bl j : Int)
theorem schedCells_of (bl : Nat → Nat) (cs : Array Value) (hcs : cs.size = 64) (hW : ∀ j, j < 64 → cs[j]? = some (.int .u32 (W bl j : Int))) : cs = schedCells bl := by
  unfold schedCells
  apply Array.ext (by simpa using hcs)
  intro j h1 h2
  have := hW j (by simpa using h2)
  rw [Array.getElem?_eq_getElem h1] at this
  simpa using this
theorem schedCells_size (bl : Nat → Nat) : (schedCells bl).size = 64 := by simp [schedCells]
theorem schedCells_one (bl : Nat → Nat) : (schedCells bl).all (·.oneCell') = true := by
  rw [Array.all_eq_true]; intro i h; simp only [schedCells, Array.getElem_map]; rfl
theorem schedCells_at (bl : Nat → Nat) (j : Nat) (h : j < 64) : (schedCells bl)[j]? = some (.int .u32 (W bl j : Int)) := by simp [schedCells, h]
set_option maxHeartbeats 1000000 in
theorem sched_any (b : Nat) (bl : Nat → Nat) (w : World) (hbl : ∀ j, bl j < 256) (hb : ∀ j, j < 64 → w.cell? ⟨b, 8 + j, none⟩ = some (.int .u8 (bl j : Int))) (hlt : b < w.heap.size) :
    Calls Tryd.prog 120 #[.pointer (some ⟨b, 0, none⟩)] w fun r w' => r = .returned (.agg (schedCells bl)) ∧ Below w.heap.size w w' := by
  go_enter Tryd.func120, Tryd.ntmps120
  go_wp2
  go_loopw [9] (fun i wr => ∃ k : Nat, k ≤ 16 ∧ i = .int .i64 k ∧ Below w.heap.size w wr ∧ Row wr w.heap.size 163 (Array.replicate 64 (.int .u32 0)) ∧ ∃ cs, Row wr (w.heap.size + 1) 163 cs ∧ cs.size = 64 ∧ ∀ j, j < k → cs[j]? = some (.int .u32 (W bl j : Int)))
     (fun i _ => 16 - (intOf i).toNat)
  case atStart => exact ⟨0, by omega, rfl, (((Below.refl _ _).alloc (Nat.le_refl _) _).alloc (by simp) _), Row.alloc (Row.new _ _ _) _, _, (by simpa using Row.new (w.alloc _) _ _), rfl, by omega⟩
  case round =>
    obtain ⟨k, hk, rfl, hbe, hr0, cs, hr1, hcs, hW⟩ := hrel
    by_cases hlt2 : k < 16
    · have hc : ∀ j, j < 4 → wr.cell? ⟨b, 8 + (4 * k + j), none⟩ = some (.int .u8 (bl (4 * k + j) : Int)) := by
        intro j hj
        rw [hbe.cell (p := ⟨b, 8 + (4 * k + j), none⟩) hlt]
        exact hb _ (by omega)
      have c0 : wr.cell? ⟨b, 8 + 4 * k, none⟩ = some (.int .u8 (bl (4 * k) : Int)) := hc 0 (by omega)
      have c1 : wr.cell? ⟨b, 8 + 4 * k + 1, none⟩ = some (.int .u8 (bl (4 * k + 1) : Int)) := hc 1 (by omega)
      have c2 : wr.cell? ⟨b, 8 + 4 * k + 2, none⟩ = some (.int .u8 (bl (4 * k + 2) : Int)) := hc 2 (by omega)
      have c3 : wr.cell? ⟨b, 8 + 4 * k + 3, none⟩ = some (.int .u8 (bl (4 * k + 3) : Int)) := hc 3 (by omega)
      have b0 := hbl (4 * k)
      have b1 := hbl (4 * k + 1)
      have b2 := hbl (4 * k + 2)
      have b3 := hbl (4 * k + 3)
      obtain ⟨v0, hv0⟩ : ∃ v, wr.cell? ⟨w.heap.size + 1, k, none⟩ = some v := ⟨cs[k]'(by omega), by rw [hr1.cell]; simp⟩
      have hf0 := hr1.free k
      have HW := hW
      have hsl : ∀ wx, (Instr.sliceAt 139 (.pointer (some ⟨b, 8, none⟩)) (some (.int .i64 (4 * (k : Int)))) (some (.int .i64 (4 * (k : Int) + 4))) none).run Tryd.prog wx = .ok (.slice (some ⟨b, 8 + 4 * k, none⟩) 4 (64 - 4 * k)) wx := by
        intro wx
        have := slice64 b 8 (4 * k) (4 * k + 4) (by omega) (by omega) (by omega) (4 * (k : Int)) (4 * (k : Int) + 4) (by omega) (by omega) wx
        rwa [show 4 * k + 4 - 4 * k = 4 by omega] at this
      clear hc hb hbl hW
      go_wp2
      go_region
      go_wp2
      refine ⟨⟨k + 1, by omega, by go_num, ((hbe.setCell (by show w.heap.size ≤ w.heap.size + 1; omega) _).drew), (hr0.other (by show w.heap.size ≠ w.heap.size + 1; omega) _).drew, _, (hr1.setCell k _).drew, by simpa using hcs, ?_⟩, by simp [intOf]; omega⟩
      intro j hj
      rw [word_or _ _ _ _ b0 b1 b2 b3]
      by_cases hjk : j = k
      · subst hjk
        rw [Array.getElem?_setIfInBounds_self_of_lt (by omega), W_small _ _ (by omega)]; rfl
      · rw [Array.getElem?_setIfInBounds_ne (by omega)]; exact HW j (by omega)
    · obtain rfl : k = 16 := by omega
      go_wp2
      go_loopw [6] (fun i wr => ∃ k : Nat, 16 ≤ k ∧ k ≤ 64 ∧ i = .int .i64 k ∧ Below w.heap.size w wr ∧ Row wr w.heap.size 163 (Array.replicate 64 (.int .u32 0)) ∧ ∃ cs, Row wr (w.heap.size + 1) 163 cs ∧ cs.size = 64 ∧ ∀ j, j < k → cs[j]? = some (.int .u32 (W bl j : Int)))
        (fun i _ => 64 - (intOf i).toNat)
      case atStart => exact ⟨16, by omega, by omega, rfl, hbe, hr0, cs, hr1, hcs, hW⟩
      case round =>
        clear hbe hr0 hr1 hcs hW hb
        obtain ⟨k, hk16, hk, rfl, hbe, hr0, cs, hr1, hcs, hW⟩ := hrel
        by_cases hlt2 : k < 64
        · have hc : ∀ j, j < k → wr.cell? ⟨w.heap.size + 1, j, none⟩ = some (.int .u32 (W bl j : Int)) := by
            intro j hj
            rw [hr1.cell]; exact hW j hj
          have c0 := hc (k - 15) (by omega)
          have c1 := hc (k - 2) (by omega)
          have c2 := hc (k - 16) (by omega)
          have c3 := hc (k - 7) (by omega)
          have b0 := W_lt bl hbl (k - 15)
          have b1 := W_lt bl hbl (k - 2)
          have b2 := W_lt bl hbl (k - 16)
          have b3 := W_lt bl hbl (k - 7)
          obtain ⟨v0, hv0⟩ : ∃ v, wr.cell? ⟨w.heap.size + 1, k, none⟩ = some v := ⟨cs[k]'(by omega), by rw [hr1.cell]; simp⟩
          have hf0 := hr1.free k
          have HW := hW
          have HB := hbl
          clear hc hbl hW
          go_wp2
          go_quiet ((go_at_call 126; first | exact Calls.quiet_of_same (rot_any _ 7 _ (by decide) _ b0 (by omega) (by omega)) | exact Calls.quiet_of_same (rot_any _ 18 _ (by decide) _ b0 (by omega) (by omega))))
          replace hbe := hbe.trans (bel_drewN _ wr nq)
          replace hr0 := hr0.drewN nq
          replace hr1 := hr1.drewN nq
          replace c1 : (wr.drewN nq).cell? _ = _ := c1
          replace c2 : (wr.drewN nq).cell? _ = _ := c2
          replace c3 : (wr.drewN nq).cell? _ = _ := c3
          replace hv0 : (wr.drewN nq).cell? _ = _ := hv0
          replace hf0 : (wr.drewN nq).frozen? _ = _ := hf0
          clear c0
          generalize wr.drewN nq = w2 at *
          go_wp2
          go_quiet ((go_at_call 126; first | exact Calls.quiet_of_same (rot_any _ 17 _ (by decide) _ b1 (by omega) (by omega)) | exact Calls.quiet_of_same (rot_any _ 19 _ (by decide) _ b1 (by omega) (by omega))))
          replace hbe := hbe.trans (bel_drewN _ w2 nq)
          replace hr0 := hr0.drewN nq
          replace hr1 := hr1.drewN nq
          replace c2 : (w2.drewN nq).cell? _ = _ := c2
          replace c3 : (w2.drewN nq).cell? _ = _ := c3
          replace hv0 : (w2.drewN nq).cell? _ = _ := hv0
          replace hf0 : (w2.drewN nq).frozen? _ = _ := hf0
          clear c1
          generalize w2.drewN nq = w3 at *
          go_wp2
          go_region
          go_wp2
          have HE := W_u32 bl HB k hk16
          refine ⟨⟨k + 1, by omega, by omega, by go_num, ((hbe.setCell (by show w.heap.size ≤ w.heap.size + 1; omega) _).drew), (hr0.other (by show w.heap.size ≠ w.heap.size + 1; omega) _).drew, _, (hr1.setCell k _).drew, by simpa using hcs, ?_⟩, by simp [intOf]; omega⟩
          intro j hj
          rw [HE]
          by_cases hjk : j = k
          · subst hjk
            rw [Array.getElem?_setIfInBounds_self_of_lt (by omega)]
          · rw [Array.getElem?_setIfInBounds_ne (by omega)]; exact HW j (by omega)
        · obtain rfl : k = 64 := by omega
          have ecs : Hid (cs = schedCells bl) := schedCells_of bl cs hcs hW
          clear hW
          have hsz : (Tryd.prog.info? 163).map (·.size) = some cs.size := by rw [hcs]; kernel_rfl
          have hone : cs.all (·.oneCell') = true := by rw [ecs.out]; exact schedCells_one bl
          have hold : (Array.replicate 64 (Value.int .u32 0)).size = cs.size := by simp [hcs]
          go_wp2_with (first | (refine wpList_load_row rfl 163 _ rfl (w.heap.size + 1) rfl 163 cs (0, 0) _ hr1 Tryd.underlying163 rfl hsz ?_) | (refine wpList_store_row rfl 163 _ _ rfl w.heap.size cs rfl rfl 163 _ hr0 hsz hold hone ?_))
          refine bodyPost_ret (v := .agg cs) (results_cell_row Tryd.results120 _ _ w.heap.size 163 cs (0, 0) _ rfl (hr0.setRow cs) Tryd.underlying163 rfl hsz) rfl ⟨by rw [← ecs.out], bel_setRow hbe (Nat.le_refl _) _⟩
end Go.Proofs.YtoanekgphcijfaaDoor
