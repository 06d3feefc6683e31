import Derived.Test.YtoanekgphcijfaaDoorA1
namespace Go.Proofs.YtoanekgphcijfaaDoor
open Go.RowKit
open Sha

set_option maxHeartbeats 1000000 in
theorem promised_any (key leaf tag : ByteArray) (d : Int) (w : World) (hk : key.size ≤ 140737488351232) (hl : leaf.size ≤ 140737488351232) :
    Calls Tryd.prog 41 #[.string key, .agg #[.string leaf, .int .i64 d, .string tag]] w fun r w' => r = .returned (.string (str (hmac key.data.toList (pText leaf.data.toList d)))) ∧ Below w.heap.size w w' := by
  have HE : Hid (((⟨#[80]⟩ ++ leaf) ++ str (num4 d) : ByteArray).data.toList = pText leaf.data.toList d) := pText_of leaf d
  have hn4 : (str (num4 d)).size = 4 := by rw [str_size, num4_length]
  have hb0 : Below w.heap.size w (w.alloc (.cells #[.string leaf, .int .i64 d, .string tag] 30)).drew := ((Below.refl _ _).alloc (Nat.le_refl _) _).drew
  have hr0 : Row (w.alloc (.cells #[.string leaf, .int .i64 d, .string tag] 30)).drew w.heap.size 30 #[.string leaf, .int .i64 d, .string tag] := Row.new w _ _
  go_enter Tryd.func41, Tryd.ntmps41
  go_wp2_with fail
  go_region_with (first
    | (go_at_call 77; refine (rnumber_any _ _).mono ?_; rintro e w1 ⟨rfl, hb1⟩; have hr1 : Row w1 w.heap.size 30 #[.string leaf, .int .i64 d, .string tag] := hr0.below hb1 hr0.lt; replace hb1 : Below w.heap.size w w1 := hb0.trans (hb1.mono (by simp)); have c0 : w1.cell? ⟨w.heap.size, 0, none⟩ = some (.string leaf) := hr1.cell 0)
    | (go_at_call 15; refine (rtag_any _ _ _ (by omega) (by rw [app_size, app_size, hn4]; show 1 + leaf.size + 4 ≤ _; omega)).mono ?_; rintro e w2 ⟨rfl, hb2⟩; replace hb2 : Below w.heap.size w w2 := hb1.trans (hb2.mono hb1.size)))
  all_goals
    go_wp2
    go_ret
    exact ⟨by rw [← HE.out]; rfl, hb2⟩
end Go.Proofs.YtoanekgphcijfaaDoor
