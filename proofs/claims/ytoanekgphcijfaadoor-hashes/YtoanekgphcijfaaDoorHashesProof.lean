/-
  THE STATEMENT 'Hashes', FROM THE WALK TO THE CARD. Own work, after the kit's toys of a law over a package-level table and of a law over a slice.
-/
import Derived.Test.YtoanekgphcijfaaDoorL2
import Derived.Test.YtoanekgphcijfaaDoorCards
import Derived.Test.YtoanekgphcijfaaDoorTie
import Derived.ProofKit
import Derived.OpenShut
import Derived.SliceStrings
import Derived.SizedLaws
import Derived.Carry
import Derived.Deep.DeepHandedRow
import Derived.Lib.LaidTab
namespace Go.Proofs.YtoanekgphcijfaaDoor
open Go.ChangeShapes Go.WideShapes Go.ChangeAt Go.RowKit
open Go.ChangeMaps (open_string shut_string)
open Sha

theorem own : ownKnob Tryd.prog.godebug = none := by kernel_rfl
theorem laidOut : laidOutB Tryd.prog = true := by kernel_rfl
theorem gTab : Tryd.prog.globalNamed (Rows.hashesRow.named.headD "") = some 0 := by kernel_rfl
theorem gTabType : (Tryd.prog.globals[0]?).map (·.type) = some 163 := by kernel_rfl
theorem cells83 : Tryd.prog.cellsOf 163 = 64 := by kernel_rfl
theorem cells66 : Tryd.prog.cellsOf 137 = 1 := by kernel_rfl
theorem cells9 : Tryd.prog.cellsOf 9 = 1 := by kernel_rfl
theorem bytes9 : Tryd.prog.bytesOf 9 = 16 := by kernel_rfl
theorem und66 : Tryd.prog.underlying 137 = some (.int .u32) := by kernel_rfl
def KsI : List Int := Ks.map Int.ofNat
theorem KsI_length : KsI.length = 64 := by decide
theorem KsI_getD (j : Nat) (h : j < 64) : KsI.getD j 0 = (K j : Int) := by
  have : ∀ j : Fin 64, KsI.getD j.val 0 = (K j.val : Int) := by decide
  exact this ⟨j, h⟩
theorem laid_eq {H : Type} : (Rows.laid_vouch_digest_rounds : DataW H) = Lib.tabData .u32 KsI := by rfl
theorem tab_of {W : World} (h : laidMetH Tryd.prog Rows.hashesRow.laid W) : Tab W := by
  have h' : laidMetH Tryd.prog [(Rows.hashesRow.named.headD "", Lib.tabData .u32 KsI)] W := h
  have ht := Lib.tabIs_of_head (rest := []) gTab gTabType und83 und66 cells66 cells83 h'
  intro j hj
  rw [ht.cell gTab j (by rw [KsI_length]; exact hj), KsI_getD j hj]

/-- Where strings lie, from what their reading tells of the cells. -/
theorem strs_of {W : World} {a : Addr} {ss : List ByteArray} (h : ∀ i, i < ss.length → W.cell? (a.add i) = some (.string (ss.getD i ByteArray.empty))) (n : Nat) (hn : n ≤ ss.length) : Strs W (some a) (ss.take n) := by
  intro j hj
  rw [List.length_take] at hj
  have h0 := h 0 (by omega)
  obtain ⟨b, off, spot⟩ := a
  have hs : spot = none := by
    rw [show (⟨b, off, spot⟩ : Addr).add 0 = ⟨b, off, spot⟩ from rfl] at h0
    cases spot with
    | none => rfl
    | some x =>
      unfold World.cell? at h0
      split at h0
      · simp at h0
      · cases h0
  subst hs
  have hj' := h j (by omega)
  rw [addr_add] at hj'
  refine ⟨b, off, rfl, ?_, ?_⟩
  · rcases Nat.lt_or_ge b W.heap.size with hb | hb
    · exact hb
    · rw [show W.cell? ⟨b, off + j, none⟩ = none by unfold World.cell?; rw [Array.getElem?_eq_none hb]] at hj'; cases hj'
  · rw [hj', List.getElem_take, List.getD_eq_getElem?_getD, List.getElem?_eq_getElem (by omega)]; rfl
theorem weights_all {H : Type} (P : Program) (e : TypeId) (l : List ByteArray) (s : ByteArray) (h : s ∈ l) : s.data.toList.length ∈ DataW.weightsAll P e (strs (H := H) l) := by
  induction l with
  | nil => cases h
  | cons x l ih =>
    show _ ∈ DataW.weights P e _ ++ DataW.weightsAll P e _
    rcases List.mem_cons.1 h with rfl | h
    · exact List.mem_append_left _ (by simp [DataW.weights])
    · exact List.mem_append_right _ (ih h)
/-- Each string of a slice of strings is within the form's reach. -/
theorem sized_elem {H : Type} {P : Program} {ts : List TypeId} {ds : List (DataW H)} (h : (DataW.weightsEach P ts ds).all (· ≤ reachBytes) = true) {j : Nat} {t e : TypeId} {l r : List ByteArray} (ht : ts[j]? = some t) (hd : ds[j]? = some (.slice (strs l) (strs r))) (hu : P.underlying t = some (.slice e)) (s : ByteArray) (hs : s ∈ l) : s.size ≤ reachBytes := by
  have := List.all_eq_true.1 h _ (DataW.weights_mem_each ht hd s.data.toList.length (by
    simp only [DataW.weights, hu]
    exact List.mem_cons_of_mem _ (List.mem_append_left _ (weights_all P e l s hs))))
  rw [size_toList] at this
  simpa using this

/-- A world whose block 0 holds the table. -/
def layTable (w : World) : World :=
  { w with heap := w.heap.modify 0 fun
      | .cells _ t frozen => .cells (Ks.map fun n => Value.int .u32 (Int.ofNat n)).toArray t frozen
      | o => o }
theorem heap_pos {W : World} (h : Tab W) : 0 < W.heap.size := by
  rcases Nat.lt_or_ge 0 W.heap.size with hb | hb
  · exact hb
  · have := h 0 (by omega)
    rw [show W.cell? ⟨0, 0, none⟩ = none by unfold World.cell?; rw [Array.getElem?_eq_none (by exact hb)]] at this; cases this
namespace hashes
set_option maxRecDepth 100000 in
theorem contract (H : Type) (enc : TypeId × Value → H) (W : World) (base : Nat) (args : Array Value) (ds gs : List (DataW H)) (before : List MemPlace)
    (hval : ∀ (j : Nat) t v, Tryd.f3.params[j]? = some t → args[j]? = some v → Value.okWide Tryd.prog W .any base t v)
    (hW : DataW.Whole enc Tryd.prog Tryd.f3.params.toList Rows.hashesSpec.vars false W args.toList ds gs before)
    (hsz : (DataW.weightsEach Tryd.prog (Tryd.f3.params.toList ++ (OpenSpec.ofChange Rows.hashesSpec).bare.plain.varTypes Tryd.prog) (ds ++ gs)).all (· ≤ reachBytes) = true)
    (hL : laidMetH Tryd.prog Rows.hashesRow.laid W) :
    Calls Tryd.prog 3 args W fun e W' => ∃ v, e = .returned v ∧ Rows.hashesSpec.post enc Tryd.prog Tryd.f3 false true false false W args v W' := by
  have hT : Tab W := tab_of hL
  have hheap := heap_pos hT
  have hW' := hW
  obtain ⟨p, q, hA0, hV, rfl, hfz, hnd⟩ := hW
  have hA : DataW.TrodAll enc Tryd.prog W 0 (fun _ => true) true Tryd.f3.params.toList args.toList ds p := hA0
  rw [Tryd.params3] at hA hval hsz
  obtain ⟨v0, vs0, d0, ds0, p0, q0, hargs, rfl, rfl, h0, r0⟩ := trodAll_cons hA
  obtain ⟨v1, vs1, d1, ds1, p1, q1, rfl, rfl, rfl, h1, r1⟩ := trodAll_cons r0
  obtain ⟨v2, vs2, d2, ds2, p2, q2, rfl, rfl, rfl, h2, r2⟩ := trodAll_cons r1
  obtain ⟨rfl, rfl, rfl⟩ := trodAll_nil r2
  obtain rfl : args = #[v0, v1, v2] := by cases args; simp_all
  obtain ⟨rfl, rfl⟩ := trodVars_none hV
  obtain ⟨a, rfl, rfl, rfl, hsa⟩ := open_string Tryd.underlying9 (hval 0 9 v0 rfl rfl) h0
  obtain ⟨key, rfl, rfl, rfl, hsk⟩ := open_string Tryd.underlying9 (hval 1 9 v1 rfl rfl) h1
  obtain ⟨ao, len, cap, rfl⟩ := okWide_slice Tryd.underlying22 (hval 2 22 v2 rfl rfl)
  have k2 := h2
  have lt2 : ∀ x ∈ p2, x.block < W.heap.size := by obtain ⟨m, hm⟩ := k2; exact DataW.trod_lt m _ _ _ hm
  have ha : a.size ≤ 140737488351232 := by have := sized_string hsz (j := 0) (t := 9) rfl rfl; rw [size_toList] at this; exact this
  have hk : key.size ≤ 140737488351232 := by have := sized_string hsz (j := 1) (t := 9) rfl rfl; rw [size_toList] at this; exact this
  have walk : Calls Tryd.prog 3 #[.string a, .string key, .slice ao len cap] W fun r w' => r = .returned (.bool true) ∧ Below W.heap.size W w' := by
    obtain ⟨fuel, hf⟩ := h2
    rcases open_strings Tryd.underlying22 Tryd.underlying9 cells9 hf with ⟨hcs, _⟩ | ⟨ad, l, c, ss, hcs, _, hl, hm, hz, hx, hcell, hws⟩
    · simp [Value.cells] at hcs
      obtain ⟨rfl, rfl, rfl⟩ := hcs
      exact hashes_nil a key W ha hk hT hheap
    · simp [Value.cells] at hcs
      obtain ⟨rfl, rfl, rfl⟩ := hcs
      have hss : ss.length = cap := by simpa using hz
      have hd2 : d2 = .slice (strs (ss.take len)) (strs (ss.drop len)) := congrArg Prod.fst hx
      subst hd2
      have hb := sized_slice hsz (j := 2) (t := 22) (e := 9) rfl rfl Tryd.underlying22
      rw [bytes9] at hb
      simp only [strs, List.length_map, List.length_take, List.length_drop, reachBytes] at hb
      have hlen : (ss.take len).length = len := by rw [List.length_take]; omega
      have he : ∀ s ∈ ss.take len, s.size ≤ 140737488351232 := fun s hs => sized_elem hsz (j := 2) (t := 22) (e := 9) rfl rfl Tryd.underlying22 s hs
      have := hashes_some a key (ss.take len) ad cap W ha hk (by omega) (by omega) (strs_of hcell len (by omega)) he hT hheap
      rw [hlen] at this
      exact this
  refine walk.mono fun e W' ⟨he, bel⟩ => ?_
  subst he
  exact ⟨_, rfl, _, _, _, [], _, [], hW', trodAll_mk1 (shut_bool Tryd.underlying4 _), (trodAll_cons_mk (shut_string Tryd.underlying9 hsa) (trodAll_cons_mk (shut_string Tryd.underlying9 hsk) (trodAll_cons_mk (Below.trod laidOut (by kernel_rfl) (of_decide_eq_true (by kernel_rfl)) k2 bel lt2) trodAll_mk0))), rfl, bel.frame _, fun h => by cases h⟩
theorem laid_met (os : Os) : laidMet Tryd.prog Rows.hashesRow.laid ((layTable (World.holding Tryd.prog os ⟨#[], #[], []⟩)).forCall (fun _ _ => 0) ⟨#[], #[.string ⟨#[]⟩, .string ⟨#[]⟩, .slice none 0 0], []⟩).memory :=
  laidMet_of_run' 8 (by kernel_rfl) (by kernel_rfl)
theorem reads (os : Os) {H : Type} (enc : TypeId × Value → H) : ∃ places, DataW.whole enc Tryd.prog ((layTable (World.holding Tryd.prog os ⟨#[], #[], []⟩)).forCall (fun _ _ => 0) ⟨#[], #[.string ⟨#[]⟩, .string ⟨#[]⟩, .slice none 0 0], []⟩).memory Tryd.f3.params.toList Rows.hashesSpec.vars false #[Value.string ⟨#[]⟩, .string ⟨#[]⟩, .slice none 0 0].toList 8 = some ([.lit (.string []), .lit (.string []), .nil], [], places) :=
  ⟨[], by kernel_rfl⟩
set_option maxRecDepth 100000 in
theorem lifted (os : Os) (started : os.Started) (H : Type) (enc : TypeId × Value → H) (F : Stop.Interp) :
    ReturnsInHanded {} Tryd.checked os 3 .any ((OpenSpec.ofChange Rows.hashesSpec).preRow enc Tryd.prog Tryd.f3 Rows.hashesRow.domain false Rows.hashesRow.laid) (((OpenSpec.ofChange Rows.hashesSpec).at F).post enc Tryd.prog Tryd.f3 false true false false) := by
  obtain ⟨places, hx⟩ := reads os enc
  refine returnsInHanded_of_row (C := Tryd.checked) (s := OpenSpec.ofChange Rows.hashesSpec) own started (by kernel_rfl) Tryd.func3
    (witness_row_at (enc := enc) (C := Tryd.checked) false (layTable (World.holding Tryd.prog os ⟨#[], #[], []⟩)) #[.string ⟨#[]⟩, .string ⟨#[]⟩, .slice none 0 0] rfl (by kernel_rfl) (by kernel_rfl) (by kernel_rfl)
      (OpenSpec.preRow_of_cond 8 hx (by kernel_rfl) (fun k hk => by cases hk) (by kernel_rfl) (laid_met os))) ?_
  intro W base args ds gs before hval hW _ _ hsz hL _ _
  exact contract H enc W base args ds gs before hval hW hsz hL
theorem said : Rows.HashesSaid :=
  OpenClaim.holds_of_cond 3 Tryd.f3 rfl rfl rfl rfl rfl rfl rfl ⟨rfl, rfl, rfl, rfl, rfl⟩ rfl rfl rfl rfl rfl (by kernel_rfl) Tryd.func3 (by kernel_rfl)
    (of_decide_eq_true (by kernel_rfl)) (by unfold Func.isWrapper; first | (rw [if_pos (by decide +kernel)]; kernel_rfl) | (rw [if_neg (by decide +kernel)]; exact ⟨rfl, rfl⟩))
    (fun os started H enc _ F => by rw [OpenClaim.pre_eq_preRow]; exact lifted os started H enc F)
theorem plain (f : FuncId) (fn : Func) (hf : Tryd.pinned.checked.prog.funcNamed Rows.hashesRow.func = some f) (hfn : Tryd.pinned.checked.prog.funcs[f]? = some fn) :
    true = Tryd.pinned.checked.prog.looks [] ∧ ∀ (j : Nat) t, fn.params[j]? = some t → Tryd.pinned.checked.prog.wantsStandIn t = false := by
  obtain rfl : f = 3 := Option.some.inj ((show Tryd.prog.funcNamed Rows.hashesRow.func = some 3 by kernel_rfl).symm.trans hf) |>.symm
  obtain rfl : fn = Tryd.f3 := (Option.some.inj (Tryd.func3.symm.trans hfn)).symm
  refine ⟨by kernel_rfl, fun j t ht => ?_⟩
  rw [Tryd.params3] at ht
  have hm := Array.mem_of_getElem? ht
  have h3 : t = 9 ∨ t = 22 := by simpa using hm
  rcases h3 with rfl | rfl
  · exact (show Tryd.prog.wantsStandIn 9 = false by kernel_rfl)
  · exact (show Tryd.prog.wantsStandIn 22 = false by kernel_rfl)
/-- THE CARD. -/
theorem card : Rows.HashesCardSaid :=
  Claim7.holds_tied_plain_at .later [] _ _ _ _ said (fun _ h => by cases h) (by kernel_rfl) (fun _ h => by cases h) hashes_row_tie rfl ⟨rfl, rfl⟩ (by kernel_rfl) rfl plain (by kernel_rfl)
end hashes
theorem hashes_card : Rows.HashesCardSaid := hashes.card
#print axioms hashes_card
end Go.Proofs.YtoanekgphcijfaaDoor
