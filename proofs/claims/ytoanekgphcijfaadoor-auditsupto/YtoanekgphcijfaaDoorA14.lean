import Derived.Test.YtoanekgphcijfaaDoorA13
namespace Go.Proofs.YtoanekgphcijfaaDoor
open Go.RowKit
open Sha

theorem signed_any (key leaf pt hr ht gr gt : ByteArray) (d hs hk gs gk how : Int) (w : World) (h1 : key.size ≤ 140737488351232) (h2 : leaf.size ≤ 140737488351232) (h3 : hr.size ≤ 140737488351232) (h4 : gr.size ≤ 140737488351232) :
    Calls Tryd.prog 17 #[.string key, .agg #[.string leaf, .int .i64 d, .string pt], .agg #[.int .i64 hs, .int .i64 hk, .string hr, .string ht], .agg #[.int .i64 gs, .int .i64 gk, .string gr, .string gt], .int .i64 how] w fun r w' => ∃ a b c, r = .returned (.tuple #[.agg #[.string leaf, .int .i64 d, .string a], .agg #[.int .i64 hs, .int .i64 hk, .string hr, .string b], .agg #[.int .i64 gs, .int .i64 gk, .string gr, .string c]]) ∧ Below w.heap.size w w' := by
  have HP := fun wx => promised_any key leaf pt d wx h1 h2
  have HH := fun wx => published_any key hr ht hs hk wx h1 h3
  have HG := fun wx => published_any key gr gt gs gk wx h1 h4
  have fin : ∀ {x y z : ByteArray} {r : Ending} {w' : World}, r = .returned (.tuple #[.agg #[.string leaf, .int .i64 d, .string x], .agg #[.int .i64 hs, .int .i64 hk, .string hr, .string y], .agg #[.int .i64 gs, .int .i64 gk, .string gr, .string z]]) ∧ Below w.heap.size w w' → ∃ a b c, r = .returned (.tuple #[.agg #[.string leaf, .int .i64 d, .string a], .agg #[.int .i64 hs, .int .i64 hk, .string hr, .string b], .agg #[.int .i64 gs, .int .i64 gk, .string gr, .string c]]) ∧ Below w.heap.size w w' := fun h => ⟨_, _, _, h.1, h.2⟩
  cases c0 : (how.tmod 2 == 0) <;> cases c1 : ((wrap64 (how.tdiv 2)).tmod 2 == 0) <;> cases c2 : ((wrap64 (how.tdiv 4)).tmod 2 == 0)
  · exact (signed_fff key leaf pt hr ht gr gt d hs hk gs gk how w c0 c1 c2).mono fun _ _ h => fin h
  · exact (signed_fft key leaf pt hr ht gr gt _ d hs hk gs gk how w HG c0 c1 c2).mono fun _ _ h => fin h
  · exact (signed_ftf key leaf pt hr ht gr gt _ d hs hk gs gk how w HH c0 c1 c2).mono fun _ _ h => fin h
  · exact (signed_ftt key leaf pt hr ht gr gt _ _ d hs hk gs gk how w HH HG c0 c1 c2).mono fun _ _ h => fin h
  · exact (signed_tff key leaf pt hr ht gr gt _ d hs hk gs gk how w HP c0 c1 c2).mono fun _ _ h => fin h
  · exact (signed_tft key leaf pt hr ht gr gt _ _ d hs hk gs gk how w HP HG c0 c1 c2).mono fun _ _ h => fin h
  · exact (signed_ttf key leaf pt hr ht gr gt _ _ d hs hk gs gk how w HP HH c0 c1 c2).mono fun _ _ h => fin h
  · exact (signed_ttt key leaf pt hr ht gr gt _ _ _ d hs hk gs gk how w HP HH HG c0 c1 c2).mono fun _ _ h => fin h
theorem signed_zero (key leaf pt hr ht gr gt : ByteArray) (d hs hk gs gk : Int) (w : World) (h1 : key.size ≤ 140737488351232) (h2 : leaf.size ≤ 140737488351232) (h3 : hr.size ≤ 140737488351232) (h4 : gr.size ≤ 140737488351232) :
    Calls Tryd.prog 17 #[.string key, .agg #[.string leaf, .int .i64 d, .string pt], .agg #[.int .i64 hs, .int .i64 hk, .string hr, .string ht], .agg #[.int .i64 gs, .int .i64 gk, .string gr, .string gt], .int .i64 0] w fun r w' => r = .returned (.tuple #[.agg #[.string leaf, .int .i64 d, .string (pTag key leaf d)], .agg #[.int .i64 hs, .int .i64 hk, .string hr, .string (hTag key hr hs hk)], .agg #[.int .i64 gs, .int .i64 gk, .string gr, .string (hTag key gr gs gk)]]) ∧ Below w.heap.size w w' :=
  signed_ttt key leaf pt hr ht gr gt _ _ _ d hs hk gs gk 0 w (fun wx => promised_any key leaf pt d wx h1 h2) (fun wx => published_any key hr ht hs hk wx h1 h3) (fun wx => published_any key gr gt gs gk wx h1 h4) (by decide +kernel) (by decide +kernel) (by decide +kernel)
end Go.Proofs.YtoanekgphcijfaaDoor
