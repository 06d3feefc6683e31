import Derived.Test.YtoanekgphcijfaaDoorW7
import Derived.Test.YtoanekgphcijfaaDoorTree
import Derived.Test.YtoanekgphcijfaaDoorShelf
namespace Go.Proofs.YtoanekgphcijfaaDoor
open Go.RowKit
open Sha

/-- A byte list as a string. -/
def str (l : List UInt8) : ByteArray := ⟨l.toArray⟩
theorem str_toList (l : List UInt8) : (str l).data.toList = l := by simp [str]
theorem str_size (l : List UInt8) : (str l).size = l.length := by rw [← size_toList, str_toList]
theorem str_of (s : ByteArray) : str s.data.toList = s := by
  cases s; simp [str]
/-- The round constants lie where the program lays them. -/
def Tab (w : World) : Prop := ∀ j, j < 64 → w.cell? ⟨0, j, none⟩ = some (.int .u32 (K j : Int))
theorem Tab.below {w w' : World} {B : Nat} (h : Tab w) (hb : Below B w w') (h0 : 0 < B) : Tab w' := fun j hj => by rw [hb.cell (p := ⟨0, j, none⟩) h0]; exact h j hj
theorem Tab.alloc {w : World} (h : Tab w) (h0 : 0 < w.heap.size) (o : Obj) : Tab (w.alloc o) := h.below ((Below.refl _ _).alloc (Nat.le_refl _) o) h0

theorem sum_lit (w : World) (ss : List ByteArray) (cap : Nat) (hK : Tab w) (h0 : 0 < w.heap.size) (hl : (flat ss).length < 2305843009213693952) (hn : ss.length ≤ 100) :
    Calls Tryd.prog 71 #[.slice (some ⟨w.heap.size, 0, none⟩) ss.length cap] (w.alloc (.cells (ss.map Value.string).toArray 9)) fun r w' => r = .returned (.string (str (sha (flat ss)))) ∧ Below w.heap.size w w' := by
  refine (sum_any _ cap ss _ ?_ hl (by omega) (hK.alloc h0 _) (by simp)).mono ?_
  · intro j hj
    refine ⟨w.heap.size, 0, rfl, by simp, ?_⟩
    rw [(Row.new w 9 _).cell]
    simp [hj]
  · rintro e w' ⟨rfl, hb⟩
    exact ⟨rfl, ((Below.refl _ _).alloc (Nat.le_refl _) _).trans (hb.mono (by simp))⟩
theorem flat1 (a : ByteArray) : flat [a] = a.data.toList := by simp [flat]
theorem flat2 (a b : ByteArray) : flat [a, b] = a.data.toList ++ b.data.toList := by simp [flat]
theorem flat3 (a b c : ByteArray) : flat [a, b, c] = a.data.toList ++ (b.data.toList ++ c.data.toList) := by simp [flat]

theorem tleaf_any (s : ByteArray) (w : World) (hs : s.size < 2305843009213693951) (hK : Tab w) (h0 : 0 < w.heap.size) :
    Calls Tryd.prog 36 #[.string s] w fun r w' => r = .returned (.string (str (leafH s.data.toList))) ∧ Below w.heap.size w w' := by
  have hf := flat2 ⟨#[0]⟩ s
  have hlen : (flat [⟨#[0]⟩, s]).length < 2305843009213693952 := by rw [hf, List.length_append, size_toList]; show 1 + s.size < _; omega
  go_enter Tryd.func36, Tryd.ntmps36
  go_wp2_with fail
  refine (sum_lit w [⟨#[0]⟩, s] 2 hK h0 hlen (by simp)).mono ?_
  rintro e w1 ⟨rfl, hb⟩
  have HF : Hid (flat [⟨#[0]⟩, s] = [0] ++ s.data.toList) := hf
  clear hf hlen
  go_wp2
  go_ret
  exact ⟨by rw [HF.out]; rfl, hb⟩
theorem tnode_any (a b : ByteArray) (w : World) (hs : a.size + b.size < 2305843009213693951) (hK : Tab w) (h0 : 0 < w.heap.size) :
    Calls Tryd.prog 74 #[.string a, .string b] w fun r w' => r = .returned (.string (str (nodeH a.data.toList b.data.toList))) ∧ Below w.heap.size w w' := by
  have hf := flat3 ⟨#[1]⟩ a b
  have hlen : (flat [⟨#[1]⟩, a, b]).length < 2305843009213693952 := by rw [hf, List.length_append, List.length_append, size_toList, size_toList]; show 1 + (a.size + b.size) < _; omega
  have HF : Hid (flat [⟨#[1]⟩, a, b] = [1] ++ (a.data.toList ++ b.data.toList)) := hf
  go_enter Tryd.func74, Tryd.ntmps74
  go_wp2_with fail
  refine (sum_lit w [⟨#[1]⟩, a, b] 3 hK h0 hlen (by simp)).mono ?_
  rintro e w1 ⟨rfl, hb⟩
  clear hf hlen
  go_wp2
  go_ret
  exact ⟨by rw [HF.out]; rfl, hb⟩
theorem vleaf_any (s : ByteArray) (w : World) (hs : s.size < 2305843009213693951) (hK : Tab w) (h0 : 0 < w.heap.size) :
    Calls Tryd.prog 8 #[.string s] w fun r w' => r = .returned (.string (str (leafH s.data.toList))) ∧ Below w.heap.size w w' := by
  go_enter Tryd.func8, Tryd.ntmps8
  go_wp2_with fail
  refine (tleaf_any s w hs hK h0).mono ?_
  rintro e w1 ⟨rfl, hb⟩
  go_wp2
  go_ret
  exact ⟨rfl, hb⟩
theorem split_any (n : Nat) (w : World) (h2 : 2 ≤ n) (h : n ≤ 4611686018427387904) :
    Calls Tryd.prog 73 #[.int .i64 (n : Int)] w fun r w' => r = .returned (.int .i64 ((spl n : Nat) : Int)) ∧ w' = w := by
  have hb : Lib.bitLen (n - 1) = Nat.log2 (n - 1) + 1 := bitLen_log 64 (n - 1) (by omega) (by omega) (by omega)
  have hlog : Nat.log2 (n - 1) < 62 := (Nat.log2_lt (by omega)).2 (by omega)
  have he : ((n : Int) - 1).toNat = n - 1 := by omega
  obtain ⟨l, hl⟩ : ∃ l, l = Nat.log2 (n - 1) := ⟨_, rfl⟩
  have HB : Hid (Lib.bitLen ((n : Int) - 1).toNat = l + 1) := by rw [he, hl]; exact hb
  have hl2 : l < 62 := by omega
  have HS : Hid (spl n = 2 ^ l) := by rw [hl]; rfl
  clear hb hlog he hl
  go_enter Tryd.func73, Tryd.ntmps73
  go_wp2_with fail
  refine (bits_Len ((n : Int) - 1) w (by omega) (by omega)).mono ?_
  rintro e w1 ⟨rfl, rfl⟩
  rw [HB.out]
  go_wp2
  go_ret
  refine ⟨ret_int ?_, rfl⟩
  have h3 : (2 : Nat) ^ l ≤ 2 ^ 61 := Nat.pow_le_pow_right (by omega) (by omega)
  have e : ((2 : Int) ^ l) = ((2 ^ l : Nat) : Int) := by simp
  rw [HS.out, e]
  generalize (2 : Nat) ^ l = P at *
  rw [IntWalk.wrap64_in _ ⟨by omega, by omega⟩]

def padCells (key : List UInt8) (p : UInt8) (j : Nat) : List Value := (List.range 64).map fun i => if i < j then bcell (key.getD i 0 ^^^ p) else bcell (key.getD i 0)
theorem xor_u8 (a b : UInt8) : bits .xor .u8 (a.toNat : Int) (b.toNat : Int) = ((a ^^^ b).toNat : Int) := by
  have h : ∀ x : UInt8, (BitVec.ofInt 8 (x.toNat : Int)).toNat = x.toNat := by
    intro x; rw [BitVec.ofInt_natCast, BitVec.toNat_ofNat]; exact Nat.mod_eq_of_lt (UInt8.toNat_lt x)
  show IntKind.u8.wrap ((BitVec.ofInt 8 (a.toNat : Int) ^^^ BitVec.ofInt 8 (b.toNat : Int)).toNat : Int) = _
  rw [BitVec.toNat_xor, h, h, UInt8.toNat_xor]
  have : a.toNat ^^^ b.toNat < 256 := Nat.xor_lt_two_pow (n := 8) (UInt8.toNat_lt a) (UInt8.toNat_lt b)
  simp [IntKind.wrap, IntKind.bits, IntKind.signed]; omega
theorem padCells_first (key : List UInt8) (p : UInt8) (hk : key.length ≤ 64) : splice (zeroRow 64).toList 0 ((key.take key.length).map bcell) = padCells key p 0 := by
  apply List.ext_getElem?
  intro j
  have hz : (zeroRow 64).toList.length = 64 := by rw [Array.length_toList, zeroRow_size]
  rw [List.take_length, splice_at _ _ _ (by rw [hz, List.length_map]; omega), if_neg (by omega), List.length_map, List.getElem?_map]
  unfold padCells
  rw [List.getElem?_map]
  by_cases h1 : j < 64
  · rw [List.getElem?_range h1]
    simp only [Option.map_some, Nat.not_lt_zero, if_false]
    by_cases h2 : j < key.length
    · rw [if_pos (by omega), Nat.sub_zero, List.getElem?_eq_getElem h2, List.getD_eq_getElem?_getD, List.getElem?_eq_getElem h2]; rfl
    · rw [if_neg (by omega), Array.getElem?_toList, zeroRow_at _ _ h1, List.getD_eq_getElem?_getD, List.getElem?_eq_none (by omega)]; rfl
  · rw [if_neg (by omega), List.getElem?_eq_none (by omega), List.getElem?_eq_none (by simp; omega)]; rfl
theorem padCells_length (key : List UInt8) (p : UInt8) (j : Nat) : (padCells key p j).length = 64 := by simp [padCells]
theorem padCells_at (key : List UInt8) (p : UInt8) (j : Nat) (h : j < 64) : (padCells key p j).toArray[j]? = some (.int .u8 ((key.getD j 0).toNat : Int)) := by
  rw [List.getElem?_toArray]; unfold padCells; rw [List.getElem?_map, List.getElem?_range h]; simp; rfl
theorem padCells_step (key : List UInt8) (p : UInt8) (j : Nat) : (padCells key p j).toArray.setIfInBounds j (.int .u8 (bits .xor .u8 ((key.getD j 0).toNat : Int) (p.toNat : Int))) = (padCells key p (j + 1)).toArray := by
  rw [xor_u8]
  apply Array.ext (by simp [padCells])
  intro i h1 h2
  have hi : i < 64 := by simpa [padCells] using h2
  rw [Array.getElem_setIfInBounds (by simpa using h1)]
  simp only [padCells, List.getElem_toArray, List.getElem_map, List.getElem_range]
  by_cases e : j = i
  · subst e; rw [if_pos rfl, if_pos (by omega)]; rfl
  · rw [if_neg e]
    by_cases e2 : i < j
    · rw [if_pos e2, if_pos (by omega)]
    · rw [if_neg e2, if_neg (by omega)]
theorem padCells_last (key : List UInt8) (p : UInt8) : padCells key p 64 = (padKey key p).map bcell := by
  unfold padCells padKey
  rw [List.map_map]
  apply List.map_congr_left
  intro i hi
  rw [if_pos (by simpa using hi)]; rfl
set_option maxHeartbeats 1000000 in
theorem padKey_any (key : ByteArray) (p : UInt8) (m : Int) (hm : m = (p.toNat : Int)) (w : World) (hk : key.size ≤ 64) :
    Calls Tryd.prog 72 #[.string key, .int .u8 m] w fun r w' => r = .returned (.string (str (padKey key.data.toList p))) ∧ Below w.heap.size w w' := by
  subst hm
  have hmk : ∀ wx, (Instr.makeSlice 64 (.int .i64 64) (.int .i64 64)).run Tryd.prog wx = .ok (.slice (some ⟨wx.heap.size, 0, none⟩) 64 64) (wx.alloc (.cells (zeroRow 64) 5)) := fun wx => run_mk44 wx 64 64 (by omega) (by omega) (by omega)
  have hcp : (Builtin.copy_ #[64, 9] 3 #[.slice (some ⟨w.heap.size, 0, none⟩) 64 64, .string key]).run Tryd.prog (w.alloc (.cells (zeroRow 64) 5)) = .ok (goInt key.size) ((w.alloc (.cells (zeroRow 64) 5)).setRow w.heap.size (padCells key.data.toList p 0).toArray) := by
    rw [run_copy_str _ _ _ _ 5 w.heap.size 0 64 64 key.size key (zeroRow 64) 5 und44 info5 (Row.new _ _ _) (Nat.min_eq_left hk).symm (by rw [zeroRow_size]; omega)]
    have := padCells_first key.data.toList p (by rw [size_toList]; exact hk)
    rw [size_toList] at this
    rw [this]
  go_enter Tryd.func72, Tryd.ntmps72
  go_wp2_with fail
  generalize hW2 : World.setRow _ _ _ = w2
  have hr2 : Row w2 w.heap.size 5 (padCells key.data.toList p 0).toArray := by rw [← hW2]; exact (Row.new _ _ _).setRow _
  have hbe2 : Below w.heap.size w w2 := by rw [← hW2]; exact bel_setRow ((Below.refl _ _).alloc (Nat.le_refl _) _) (Nat.le_refl _) _
  clear hW2 hcp hmk
  go_loopw [13] (fun i wr => ∃ j : Nat, j ≤ 64 ∧ i = .int .i64 (j : Int) ∧ Below w.heap.size w wr ∧ Row wr w.heap.size 5 (padCells key.data.toList p j).toArray) (fun i _ => 64 - (intOf i).toNat)
  case atStart => exact ⟨0, by omega, rfl, hbe2, hr2⟩
  case round =>
    clear hbe2 hr2
    obtain ⟨j, hj, rfl, hbe2, hr2⟩ := hrel
    by_cases hlt : j < 64
    · have c1 : wr.cell? ⟨w.heap.size, j, none⟩ = some (.int .u8 ((key.data.toList.getD j 0).toNat : Int)) := by rw [hr2.cell]; exact padCells_at _ _ _ hlt
      have f1 := hr2.free j
      have hr3 := hr2.setCell j (.int .u8 (bits .xor .u8 ((key.data.toList.getD j 0).toNat : Int) (p.toNat : Int)))
      have hb3 := hbe2.setCell (p := ⟨w.heap.size, j, none⟩) (Nat.le_refl _) (.int .u8 (bits .xor .u8 ((key.data.toList.getD j 0).toNat : Int) (p.toNat : Int)))
      rw [padCells_step] at hr3
      generalize hx : (key.data.toList.getD j 0) = x at *
      clear hx
      go_wp2
      go_roundw
      case rel => exact ⟨j + 1, by omega, by go_num, hb3, hr3⟩
      case measure => simp [intOf]; omega
    · obtain rfl : j = 64 := by omega
      have hown : OwnB wr w.heap.size (.slice (some ⟨w.heap.size, 0, none⟩) 64 64) (padKey key.data.toList p) := by
        have hl : ((padKey key.data.toList p).map bcell).length = 64 := by rw [List.length_map, padKey_length]
        refine ⟨by simp, Or.inr ⟨w.heap.size, 64, _, by rw [hl], Nat.le_refl _, hr2, by rw [hl]; omega, by unfold maxLen; omega, by simp [padCells_length], ?_⟩⟩
        rw [hl]; simp only [Nat.mul_one]
        rw [List.take_of_length_le (by rw [padCells_length]; omega), padCells_last]
      go_wp2_with (first | (refine wpList_strB rfl _ rfl w.heap.size _ _ rfl hown ?_) | fail)
      go_ret
      exact ⟨rfl, hbe2⟩
end Go.Proofs.YtoanekgphcijfaaDoor
