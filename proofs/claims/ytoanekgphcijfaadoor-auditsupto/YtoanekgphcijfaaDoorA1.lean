import Derived.Test.YtoanekgphcijfaaDoorR5
import Derived.Deep.RegionWith
namespace Go.Proofs.YtoanekgphcijfaaDoor
open Go.RowKit
open Sha

/-- A number's lowest 32 bits, four bytes. -/
def num4 (n : Int) : List UInt8 := be4 (n % 4294967296).toNat
theorem num4_length (n : Int) : (num4 n).length = 4 := rfl
theorem ownB_lit (w : World) (l : List UInt8) (vals : Array Value) (hv : vals.toList = l.map bcell) (n : Nat) (hn : l.length = n) (hm : n ≤ 1000) : OwnB (w.alloc (.cells vals 5)) w.heap.size (.slice (some ⟨w.heap.size, 0, none⟩) n n) l := by
  have hl : (l.map bcell).length = n := by rw [List.length_map, hn]
  have hs : vals.size = n := by rw [← Array.length_toList, hv, hl]
  refine ⟨by simp, Or.inr ⟨w.heap.size, n, vals, by rw [hl], Nat.le_refl _, heap_alloc_new _ _, by rw [hl]; omega, by unfold maxLen; omega, by omega, ?_⟩⟩
  rw [hl, hv, List.take_of_length_le (by omega)]
theorem num_dev (n : Int) : #[Value.int .u8 (n / 16777216 % 256), Value.int .u8 (n / 65536 % 256), Value.int .u8 (n / 256 % 256), Value.int .u8 (n % 256)].toList = (num4 n).map bcell := by
  rw [u8_val' ((n % 4294967296).toNat / 16777216) _ (by omega), u8_val' ((n % 4294967296).toNat / 65536) _ (by omega), u8_val' ((n % 4294967296).toNat / 256) _ (by omega), u8_val' (n % 4294967296).toNat _ (by omega)]; rfl
theorem num_ref (n : Int) : #[Value.int .u8 (n % 4294967296 / 16777216), Value.int .u8 (n % 4294967296 / 65536 % 256), Value.int .u8 (n % 4294967296 / 256 % 256), Value.int .u8 (n % 256)].toList = (num4 n).map bcell := by
  rw [u8_val' ((n % 4294967296).toNat / 16777216) _ (by omega), u8_val' ((n % 4294967296).toNat / 65536) _ (by omega), u8_val' ((n % 4294967296).toNat / 256) _ (by omega), u8_val' (n % 4294967296).toNat _ (by omega)]; rfl
theorem vnumber_any (n : Int) (w : World) : Calls Tryd.prog 78 #[.int .i64 n] w fun r w' => r = .returned (.string (str (num4 n))) ∧ Below w.heap.size w w' := by
  have hown := ownB_lit w (num4 n) _ (num_dev n) 4 rfl (by omega)
  go_enter Tryd.func78, Tryd.ntmps78
  go_wp2_with (first | (refine wpList_strB rfl (.tmp 14) rfl w.heap.size _ _ rfl hown ?_) | fail)
  go_ret
  exact ⟨rfl, (Below.refl _ _).alloc (Nat.le_refl _) _⟩
theorem rnumber_any (n : Int) (w : World) : Calls Tryd.prog 77 #[.int .i64 n] w fun r w' => r = .returned (.string (str (num4 n))) ∧ Below w.heap.size w w' := by
  have hown := ownB_lit w (num4 n) _ (num_ref n) 4 rfl (by omega)
  go_enter Tryd.func77, Tryd.ntmps77
  go_wp2_with (first | (refine wpList_strB rfl (.tmp 20) rfl w.heap.size _ _ rfl hown ?_) | fail)
  go_ret
  exact ⟨rfl, (Below.refl _ _).alloc (Nat.le_refl _) _⟩
def pText (leaf : List UInt8) (d : Int) : List UInt8 := 80 :: (leaf ++ num4 d)
def hText (size tick : Int) (root : List UInt8) : List UInt8 := 72 :: (num4 size ++ (num4 tick ++ root))
theorem pText_of (leaf : ByteArray) (d : Int) : ((⟨#[80]⟩ ++ leaf) ++ str (num4 d) : ByteArray).data.toList = pText leaf.data.toList d := by
  rw [app_toList, app_toList, str_toList]; rfl
theorem hText_of (size tick : Int) (root : ByteArray) : (((⟨#[72]⟩ ++ str (num4 size)) ++ str (num4 tick)) ++ root : ByteArray).data.toList = hText size tick root.data.toList := by
  rw [app_toList, app_toList, app_toList, str_toList, str_toList]; rfl
end Go.Proofs.YtoanekgphcijfaaDoor
