/-
  THE STATEMENT 'Paths', FROM THE WALK TO THE CARD. Own work, after the kit's toys.
-/
import Derived.Test.YtoanekgphcijfaaDoorP6
import Derived.Test.YtoanekgphcijfaaDoorP7
import Derived.Test.YtoanekgphcijfaaDoorLift
namespace Go.Proofs.YtoanekgphcijfaaDoor
open Go.ChangeShapes Go.WideShapes Go.ChangeAt Go.RowKit
open Go.ChangeMaps (open_string shut_string)
open Sha

theorem bytes3 : Tryd.prog.bytesOf 3 = 8 := by kernel_rfl
/-- Paths, of lists however they lie. -/
theorem paths_any (ss : List ByteArray) (zs : List Int) (key other : ByteArray) (ao ra : Option Addr) (cap R rcap : Nat) (w : World) (hc : ss.length ≤ cap) (hm : ss.length * 16 ≤ 140737488351232) (hS : Strs w ao ss) (hs : ∀ s ∈ ss, s.size ≤ 140737488351232)
    (hk : key.size ≤ 140737488351232) (ho : other.size ≤ 140737488351232) (hR : R ≤ 140737488355328) (hz : R ≤ zs.length) (hcell : ∀ i, i < zs.length → ∃ a, ra = some a ∧ w.cell? (a.add i) = some (.int .i64 (zs.getD i 0))) (hwf : ∀ n ∈ zs, (Lit.int .i64 n).wf = true) (hK : Tab w) (h0 : 0 < w.heap.size) :
    Calls Tryd.prog 5 #[.string key, .slice ao ss.length cap, .slice ra R rcap, .string other] w fun r w' => r = .returned (.bool true) ∧ Below w.heap.size w w' := by
  by_cases h : R < 4 ∨ ss.length = 0 ∨ 200 < ss.length
  · exact paths_none ss key other ao ra cap R rcap w hc hm hS hs ho hK h0 h hR
  · have h4 : 4 ≤ R := by omega
    obtain ⟨a, rfl, _⟩ := hcell 0 (by omega)
    obtain ⟨g, og, rfl, hat⟩ := ints_at (fun i hi => by obtain ⟨b, hb, hx⟩ := hcell i hi; cases hb; exact hx) (by omega)
    have hlt : g < w.heap.size := World.block_lt_of_cell? w ⟨g, og + 0, none⟩ (hat 0 (by omega))
    have bd : ∀ j, j < 4 → -9223372036854775808 ≤ zs.getD j 0 ∧ zs.getD j 0 ≤ 9223372036854775807 := fun j hj => by
      have hj' : j < zs.length := by omega
      have hw := hwf (zs.getD j 0) (by rw [List.getD_eq_getElem?_getD, List.getElem?_eq_getElem hj']; exact List.getElem_mem hj')
      exact bounds_i64 hw
    exact paths_main ss key other ao cap g og R rcap (zs.getD 0 0) (zs.getD 1 0) (zs.getD 2 0) (zs.getD 3 0) w hc hS hs (by omega) (by omega) h4 hR hlt (hat 0 (by omega)) (hat 1 (by omega)) (hat 2 (by omega)) (hat 3 (by omega)) (bd 0 (by omega)) (bd 1 (by omega)) (bd 2 (by omega)) (bd 3 (by omega)) hk ho hK h0
namespace paths
set_option maxRecDepth 100000 in
theorem contract (H : Type) (enc : TypeId × Value → H) (W : World) (base : Nat) (args : Array Value) (ds gs : List (DataW H)) (before : List MemPlace)
    (hval : ∀ (j : Nat) t v, Tryd.f5.params[j]? = some t → args[j]? = some v → Value.okWide Tryd.prog W .any base t v)
    (hW : DataW.Whole enc Tryd.prog Tryd.f5.params.toList Rows.pathsSpec.vars false W args.toList ds gs before)
    (hsz : (DataW.weightsEach Tryd.prog (Tryd.f5.params.toList ++ (OpenSpec.ofChange Rows.pathsSpec).bare.plain.varTypes Tryd.prog) (ds ++ gs)).all (· ≤ reachBytes) = true)
    (hL : laidMetH Tryd.prog Rows.pathsRow.laid W) :
    Calls Tryd.prog 5 args W fun e W' => ∃ v, e = .returned v ∧ Rows.pathsSpec.post enc Tryd.prog Tryd.f5 false true false false W args v W' := by
  have hT : Tab W := tab_of hL
  have hheap := heap_pos hT
  have hW' := hW
  obtain ⟨p, q, hA0, hV, rfl, hfz, hnd⟩ := hW
  have hA : DataW.TrodAll enc Tryd.prog W 0 (fun _ => true) true Tryd.f5.params.toList args.toList ds p := hA0
  rw [Tryd.params5] at hA hval hsz
  obtain ⟨v0, vs0, d0, ds0, p0, q0, hargs, rfl, rfl, h0, r0⟩ := trodAll_cons hA
  obtain ⟨v1, vs1, d1, ds1, p1, q1, rfl, rfl, rfl, h1, r1⟩ := trodAll_cons r0
  obtain ⟨v2, vs2, d2, ds2, p2, q2, rfl, rfl, rfl, h2, r2⟩ := trodAll_cons r1
  obtain ⟨v3, vs3, d3, ds3, p3, q3, rfl, rfl, rfl, h3, r3⟩ := trodAll_cons r2
  obtain ⟨rfl, rfl, rfl⟩ := trodAll_nil r3
  obtain rfl : args = #[v0, v1, v2, v3] := by cases args; simp_all
  obtain ⟨rfl, rfl⟩ := trodVars_none hV
  obtain ⟨key, rfl, rfl, rfl, hsk⟩ := open_string Tryd.underlying9 (hval 0 9 v0 rfl rfl) h0
  obtain ⟨other, rfl, rfl, rfl, hso⟩ := open_string Tryd.underlying9 (hval 3 9 v3 rfl rfl) h3
  obtain ⟨ao, len, cap, rfl⟩ := okWide_slice Tryd.underlying22 (hval 1 22 v1 rfl rfl)
  obtain ⟨ra, R, rcap, rfl⟩ := okWide_slice Tryd.underlying39 (hval 2 39 v2 rfl rfl)
  have k1 := h1
  have k2 := h2
  have lt1 : ∀ x ∈ p1, x.block < W.heap.size := by obtain ⟨m, hm⟩ := k1; exact DataW.trod_lt m _ _ _ hm
  have lt2 : ∀ x ∈ p2, x.block < W.heap.size := by obtain ⟨m, hm⟩ := k2; exact DataW.trod_lt m _ _ _ hm
  have hk : key.size ≤ 140737488351232 := by have := sized_string hsz (j := 0) (t := 9) rfl rfl; rw [size_toList] at this; exact this
  have ho : other.size ≤ 140737488351232 := by have := sized_string hsz (j := 3) (t := 9) rfl rfl; rw [size_toList] at this; exact this
  have raws : ∃ zs : List Int, R ≤ zs.length ∧ (∀ i, i < zs.length → ∃ a, ra = some a ∧ W.cell? (a.add i) = some (.int .i64 (zs.getD i 0))) ∧ (∀ n ∈ zs, (Lit.int .i64 n).wf = true) ∧ R ≤ 140737488355328 := by
    obtain ⟨fuel, hf⟩ := h2
    rcases open_ints Tryd.underlying39 Tryd.underlying3 cells3 hf with ⟨hcs, _⟩ | ⟨ad, l, c, zs, hcs, _, hl, hm, hz, hx, hcell, hws⟩
    · simp [Value.cells] at hcs
      obtain ⟨rfl, rfl, rfl⟩ := hcs
      exact ⟨[], (by simp), (fun i hi => by simp at hi), (fun n hn => by cases hn), (by omega)⟩
    · simp [Value.cells] at hcs
      obtain ⟨rfl, rfl, rfl⟩ := hcs
      have hzl : zs.length = rcap := by simpa using hz
      have hd2 : d2 = .slice (lits .i64 (zs.take R)) (lits .i64 (zs.drop R)) := congrArg Prod.fst hx
      subst hd2
      have hb := sized_slice hsz (j := 2) (t := 39) (e := 3) rfl rfl Tryd.underlying39
      rw [bytes3] at hb
      simp only [lits, List.length_map, List.length_take, List.length_drop, reachBytes] at hb
      exact ⟨zs, by omega, fun i hi => ⟨_, rfl, hcell i hi⟩, hws, by omega⟩
  obtain ⟨zs, hz1, hz2, hz3, hz4⟩ := raws
  have walk : Calls Tryd.prog 5 #[.string key, .slice ao len cap, .slice ra R rcap, .string other] W fun r w' => r = .returned (.bool true) ∧ Below W.heap.size W w' := by
    obtain ⟨fuel, hf⟩ := h1
    rcases open_strings Tryd.underlying22 Tryd.underlying9 cells9 hf with ⟨hcs, _⟩ | ⟨ad, l, c, ss, hcs, _, hl, hm, hz, hx, hcell, hws⟩
    · simp [Value.cells] at hcs
      obtain ⟨rfl, rfl, rfl⟩ := hcs
      exact paths_any [] zs key other none ra 0 R rcap W (by simp) (by simp) (fun j hj => absurd hj (by simp)) (fun s h => by cases h) hk ho hz4 hz1 hz2 hz3 hT hheap
    · simp [Value.cells] at hcs
      obtain ⟨rfl, rfl, rfl⟩ := hcs
      have hss : ss.length = cap := by simpa using hz
      have hd1 : d1 = .slice (strs (ss.take len)) (strs (ss.drop len)) := congrArg Prod.fst hx
      subst hd1
      have hb := sized_slice hsz (j := 1) (t := 22) (e := 9) rfl rfl Tryd.underlying22
      rw [bytes9] at hb
      simp only [strs, List.length_map, List.length_take, List.length_drop, reachBytes] at hb
      have hlen : (ss.take len).length = len := by rw [List.length_take]; omega
      have he : ∀ s ∈ ss.take len, s.size ≤ 140737488351232 := fun s hs => sized_elem hsz (j := 1) (t := 22) (e := 9) rfl rfl Tryd.underlying22 s hs
      have := paths_any (ss.take len) zs key other (some ad) ra cap R rcap W (by omega) (by omega) (strs_of hcell len (by omega)) he hk ho hz4 hz1 hz2 hz3 hT hheap
      rw [hlen] at this
      exact this
  refine walk.mono fun e W' ⟨he, bel⟩ => ?_
  subst he
  exact ⟨_, rfl, _, _, _, [], _, [], hW', trodAll_mk1 (shut_bool Tryd.underlying4 _), (trodAll_cons_mk (shut_string Tryd.underlying9 hsk) (trodAll_cons_mk (Below.trod laidOut (by kernel_rfl) (of_decide_eq_true (by kernel_rfl)) k1 bel lt1) (trodAll_cons_mk (Below.trod laidOut (by kernel_rfl) (of_decide_eq_true (by kernel_rfl)) k2 bel lt2) (trodAll_cons_mk (shut_string Tryd.underlying9 hso) trodAll_mk0)))), rfl, bel.frame _, fun h => by cases h⟩
def wargs : Array Value := #[.string ⟨#[]⟩, .slice none 0 0, .slice none 0 0, .string ⟨#[]⟩]
theorem laid_met (os : Os) : laidMet Tryd.prog Rows.pathsRow.laid ((layTable (World.holding Tryd.prog os ⟨#[], #[], []⟩)).forCall (fun _ _ => 0) ⟨#[], wargs, []⟩).memory :=
  laidMet_of_run' 8 (by kernel_rfl) (by kernel_rfl)
theorem reads (os : Os) {H : Type} (enc : TypeId × Value → H) : ∃ places, DataW.whole enc Tryd.prog ((layTable (World.holding Tryd.prog os ⟨#[], #[], []⟩)).forCall (fun _ _ => 0) ⟨#[], wargs, []⟩).memory Tryd.f5.params.toList Rows.pathsSpec.vars false wargs.toList 8 = some ([.lit (.string []), .nil, .nil, .lit (.string [])], [], places) :=
  ⟨[], by kernel_rfl⟩
set_option maxRecDepth 100000 in
theorem lifted (os : Os) (started : os.Started) (H : Type) (enc : TypeId × Value → H) (F : Stop.Interp) :
    ReturnsInHanded {} Tryd.checked os 5 .any ((OpenSpec.ofChange Rows.pathsSpec).preRow enc Tryd.prog Tryd.f5 Rows.pathsRow.domain false Rows.pathsRow.laid) (((OpenSpec.ofChange Rows.pathsSpec).at F).post enc Tryd.prog Tryd.f5 false true false false) := by
  obtain ⟨places, hx⟩ := reads os enc
  refine returnsInHanded_of_row (C := Tryd.checked) (s := OpenSpec.ofChange Rows.pathsSpec) own started (by kernel_rfl) Tryd.func5
    (witness_row_at (enc := enc) (C := Tryd.checked) false (layTable (World.holding Tryd.prog os ⟨#[], #[], []⟩)) wargs rfl (by kernel_rfl) (by kernel_rfl) (by kernel_rfl)
      (OpenSpec.preRow_of_cond 8 hx (by kernel_rfl) (fun k hk => by cases hk) (by kernel_rfl) (laid_met os))) ?_
  intro W base args ds gs before hval hW _ _ hsz hL _ _
  exact contract H enc W base args ds gs before hval hW hsz hL
theorem said : Rows.PathsSaid :=
  OpenClaim.holds_of_cond 5 Tryd.f5 rfl rfl rfl rfl rfl rfl rfl ⟨rfl, rfl, rfl, rfl, rfl⟩ rfl rfl rfl rfl rfl (by kernel_rfl) Tryd.func5 (by kernel_rfl)
    (of_decide_eq_true (by kernel_rfl)) (by unfold Func.isWrapper; first | (rw [if_pos (by decide +kernel)]; kernel_rfl) | (rw [if_neg (by decide +kernel)]; exact ⟨rfl, rfl⟩))
    (fun os started H enc _ F => by rw [OpenClaim.pre_eq_preRow]; exact lifted os started H enc F)
theorem plain (f : FuncId) (fn : Func) (hf : Tryd.pinned.checked.prog.funcNamed Rows.pathsRow.func = some f) (hfn : Tryd.pinned.checked.prog.funcs[f]? = some fn) :
    true = Tryd.pinned.checked.prog.looks [] ∧ ∀ (j : Nat) t, fn.params[j]? = some t → Tryd.pinned.checked.prog.wantsStandIn t = false := by
  obtain rfl : f = 5 := Option.some.inj ((show Tryd.prog.funcNamed Rows.pathsRow.func = some 5 by kernel_rfl).symm.trans hf) |>.symm
  obtain rfl : fn = Tryd.f5 := (Option.some.inj (Tryd.func5.symm.trans hfn)).symm
  refine ⟨by kernel_rfl, fun j t ht => ?_⟩
  rw [Tryd.params5] at ht
  have hm := Array.mem_of_getElem? ht
  have h3 : t = 9 ∨ t = 22 ∨ t = 39 := by
    simp at hm
    rcases hm with h | h | h | h
    · exact Or.inl h
    · exact Or.inr (Or.inl h)
    · exact Or.inr (Or.inr h)
    · exact Or.inl h
  rcases h3 with rfl | rfl | rfl
  · exact (show Tryd.prog.wantsStandIn 9 = false by kernel_rfl)
  · exact (show Tryd.prog.wantsStandIn 22 = false by kernel_rfl)
  · exact (show Tryd.prog.wantsStandIn 39 = false by kernel_rfl)
/-- THE CARD. -/
theorem card : Rows.PathsCardSaid :=
  Claim7.holds_tied_plain_at .later [] _ _ _ _ said (fun _ h => by cases h) (by kernel_rfl) (fun _ h => by cases h) paths_row_tie rfl ⟨rfl, rfl⟩ (by kernel_rfl) rfl plain (by kernel_rfl)
end paths
theorem paths_card : Rows.PathsCardSaid := paths.card
#print axioms paths_card
end Go.Proofs.YtoanekgphcijfaaDoor
