import Derived.Test.YtoanekgphcijfaaDoorA1
namespace Go.Proofs.YtoanekgphcijfaaDoor
open Go.RowKit
open Sha

set_option maxHeartbeats 2000000 in
theorem published_any (key root tag : ByteArray) (size tick : Int) (w : World) (hk : key.size ≤ 140737488351232) (hl : root.size ≤ 140737488351232) :
    Calls Tryd.prog 42 #[.string key, .agg #[.int .i64 size, .int .i64 tick, .string root, .string tag]] w fun r w' => r = .returned (.string (str (hmac key.data.toList (hText size tick root.data.toList)))) ∧ Below w.heap.size w w' := by
  have HE : Hid ((((⟨#[72]⟩ ++ str (num4 size)) ++ str (num4 tick)) ++ root : ByteArray).data.toList = hText size tick root.data.toList) := hText_of size tick root
  have hn4 : (str (num4 size)).size = 4 := by rw [str_size, num4_length]
  have hn5 : (str (num4 tick)).size = 4 := by rw [str_size, num4_length]
  have hb0 : Below w.heap.size w (w.alloc (.cells #[.int .i64 size, .int .i64 tick, .string root, .string tag] 32)).drew := ((Below.refl _ _).alloc (Nat.le_refl _) _).drew
  have hr0 : Row (w.alloc (.cells #[.int .i64 size, .int .i64 tick, .string root, .string tag] 32)).drew w.heap.size 32 #[.int .i64 size, .int .i64 tick, .string root, .string tag] := Row.new w _ _
  go_enter Tryd.func42, Tryd.ntmps42
  go_wp2_with fail
  go_region_with (first
    | (go_at_call_of 77 (Value.int IntKind.i64 size); refine (rnumber_any _ _).mono ?_; rintro e w1 ⟨rfl, hb1⟩; have hr1 : Row w1 w.heap.size 32 #[.int .i64 size, .int .i64 tick, .string root, .string tag] := hr0.below hb1 hr0.lt; replace hb1 : Below w.heap.size w w1 := hb0.trans (hb1.mono (by simp)); have c1 : w1.cell? ⟨w.heap.size, 1, none⟩ = some (.int .i64 tick) := hr1.cell 1; have c2 : w1.cell? ⟨w.heap.size, 2, none⟩ = some (.string root) := hr1.cell 2)
    | (go_at_call_of 77 (Value.int IntKind.i64 tick); refine (rnumber_any _ _).mono ?_; rintro e w2 ⟨rfl, hb2⟩; have d2 : w2.cell? ⟨w.heap.size, 2, none⟩ = some (.string root) := by rw [hb2.cell (p := ⟨w.heap.size, 2, none⟩) hr1.lt]; exact c2
       replace hb2 : Below w.heap.size w w2 := hb1.trans (hb2.mono hb1.size))
    | (go_at_call 15; refine (rtag_any _ _ _ (by omega) (by rw [app_size, app_size, app_size, hn4, hn5]; show 1 + 4 + 4 + root.size ≤ _; omega)).mono ?_; rintro e w3 ⟨rfl, hb3⟩; replace hb3 : Below w.heap.size w w3 := hb2.trans (hb3.mono hb2.size)))
  all_goals
    go_wp2
    go_ret
    exact ⟨by rw [← HE.out]; rfl, hb3⟩
end Go.Proofs.YtoanekgphcijfaaDoor
