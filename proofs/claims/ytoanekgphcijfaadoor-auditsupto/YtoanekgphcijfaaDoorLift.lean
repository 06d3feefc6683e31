/-
  FROM A WALK TO A ROW: what the statements over the table share. Own work, after the kit's toys of a law over a package-level table and of a law over a slice.
-/
import Derived.Test.YtoanekgphcijfaaDoorR5
import Derived.Test.YtoanekgphcijfaaDoorCards
import Derived.Test.YtoanekgphcijfaaDoorTie
import Derived.ProofKit
import Derived.OpenShut
import Derived.SliceStrings
import Derived.SizedLaws
import Derived.Carry
import Derived.Deep.DeepHandedRow
import Derived.Lib.LaidTab
namespace Go.Proofs.YtoanekgphcijfaaDoor
open Go.ChangeShapes Go.WideShapes Go.ChangeAt Go.RowKit
open Go.ChangeMaps (open_string shut_string)
open Sha

theorem own : ownKnob Tryd.prog.godebug = none := by kernel_rfl
theorem laidOut : laidOutB Tryd.prog = true := by kernel_rfl
theorem gTab : Tryd.prog.globalNamed (Rows.hashesRow.named.headD "") = some 0 := by kernel_rfl
theorem gTabType : (Tryd.prog.globals[0]?).map (·.type) = some 163 := by kernel_rfl
theorem cells83 : Tryd.prog.cellsOf 163 = 64 := by kernel_rfl
theorem cells66 : Tryd.prog.cellsOf 137 = 1 := by kernel_rfl
theorem cells9 : Tryd.prog.cellsOf 9 = 1 := by kernel_rfl
theorem bytes9 : Tryd.prog.bytesOf 9 = 16 := by kernel_rfl
theorem und66 : Tryd.prog.underlying 137 = some (.int .u32) := by kernel_rfl
def KsI : List Int := Ks.map Int.ofNat
theorem KsI_length : KsI.length = 64 := by decide
theorem KsI_getD (j : Nat) (h : j < 64) : KsI.getD j 0 = (K j : Int) := by
  have : ∀ j : Fin 64, KsI.getD j.val 0 = (K j.val : Int) := by decide
  exact this ⟨j, h⟩
theorem laid_eq {H : Type} : (Rows.laid_vouch_digest_rounds : DataW H) = Lib.tabData .u32 KsI := by rfl
theorem tab_of {W : World} (h : laidMetH Tryd.prog Rows.hashesRow.laid W) : Tab W := by
  have h' : laidMetH Tryd.prog [(Rows.hashesRow.named.headD "", Lib.tabData .u32 KsI)] W := h
  have ht := Lib.tabIs_of_head (rest := []) gTab gTabType und83 und66 cells66 cells83 h'
  intro j hj
  rw [ht.cell gTab j (by rw [KsI_length]; exact hj), KsI_getD j hj]

/-- Where strings lie, from what their reading tells of the cells. -/
theorem strs_of {W : World} {a : Addr} {ss : List ByteArray} (h : ∀ i, i < ss.length → W.cell? (a.add i) = some (.string (ss.getD i ByteArray.empty))) (n : Nat) (hn : n ≤ ss.length) : Strs W (some a) (ss.take n) := by
  intro j hj
  rw [List.length_take] at hj
  have h0 := h 0 (by omega)
  obtain ⟨b, off, spot⟩ := a
  have hs : spot = none := by
    rw [show (⟨b, off, spot⟩ : Addr).add 0 = ⟨b, off, spot⟩ from rfl] at h0
    cases spot with
    | none => rfl
    | some x =>
      unfold World.cell? at h0
      split at h0
      · simp at h0
      · cases h0
  subst hs
  have hj' := h j (by omega)
  rw [addr_add] at hj'
  refine ⟨b, off, rfl, ?_, ?_⟩
  · rcases Nat.lt_or_ge b W.heap.size with hb | hb
    · exact hb
    · rw [show W.cell? ⟨b, off + j, none⟩ = none by unfold World.cell?; rw [Array.getElem?_eq_none hb]] at hj'; cases hj'
  · rw [hj', List.getElem_take, List.getD_eq_getElem?_getD, List.getElem?_eq_getElem (by omega)]; rfl
theorem weights_all {H : Type} (P : Program) (e : TypeId) (l : List ByteArray) (s : ByteArray) (h : s ∈ l) : s.data.toList.length ∈ DataW.weightsAll P e (strs (H := H) l) := by
  induction l with
  | nil => cases h
  | cons x l ih =>
    show _ ∈ DataW.weights P e _ ++ DataW.weightsAll P e _
    rcases List.mem_cons.1 h with rfl | h
    · exact List.mem_append_left _ (by simp [DataW.weights])
    · exact List.mem_append_right _ (ih h)
/-- Each string of a slice of strings is within the form's reach. -/
theorem sized_elem {H : Type} {P : Program} {ts : List TypeId} {ds : List (DataW H)} (h : (DataW.weightsEach P ts ds).all (· ≤ reachBytes) = true) {j : Nat} {t e : TypeId} {l r : List ByteArray} (ht : ts[j]? = some t) (hd : ds[j]? = some (.slice (strs l) (strs r))) (hu : P.underlying t = some (.slice e)) (s : ByteArray) (hs : s ∈ l) : s.size ≤ reachBytes := by
  have := List.all_eq_true.1 h _ (DataW.weights_mem_each ht hd s.data.toList.length (by
    simp only [DataW.weights, hu]
    exact List.mem_cons_of_mem _ (List.mem_append_left _ (weights_all P e l s hs))))
  rw [size_toList] at this
  simpa using this

/-- A world whose block 0 holds the table. -/
def layTable (w : World) : World :=
  { w with heap := w.heap.modify 0 fun
      | .cells _ t frozen => .cells (Ks.map fun n => Value.int .u32 (Int.ofNat n)).toArray t frozen
      | o => o }
theorem heap_pos {W : World} (h : Tab W) : 0 < W.heap.size := by
  rcases Nat.lt_or_ge 0 W.heap.size with hb | hb
  · exact hb
  · have := h 0 (by omega)
    rw [show W.cell? ⟨0, 0, none⟩ = none by unfold World.cell?; rw [Array.getElem?_eq_none (by exact hb)]] at this; cases this
theorem cells3 : Tryd.prog.cellsOf 3 = 1 := by kernel_rfl
theorem cellsP : Tryd.prog.cellsOf 30 = 3 := by kernel_rfl
theorem cellsH : Tryd.prog.cellsOf 32 = 4 := by kernel_rfl
section
variable {H : Type} {enc : TypeId × Value → H} {W : World} {base : Nat} {sp : Nat → Bool} {held : Bool} {r : Reach} {b0 : Nat} {v : Value} {d : DataW H} {ps : List MemPlace}
set_option maxRecDepth 100000 in
theorem open_promise (hval : Value.okWide Tryd.prog W r b0 30 v) (hd : DataW.Trod enc Tryd.prog W base sp held 30 v d ps) :
    ∃ (leaf tag : ByteArray) (dl : Int), v = .agg #[.string leaf, .int .i64 dl, .string tag] ∧ d = .agg [.lit (.string leaf.data.toList), .lit (.int .i64 dl), .lit (.string tag.data.toList)] ∧ ps = [] := by
  obtain ⟨cs, rfl, hsz⟩ := okWide_struct Tryd.underlying30 hval
  rw [cellsP] at hsz
  obtain ⟨l⟩ := cs
  match l, hsz with
  | [c0, c1, c2], _ =>
  obtain ⟨fuel, hf⟩ := hd
  obtain ⟨xs, n, _, hx, hl, hlen, hfld⟩ := DataW.trod_struct Tryd.underlying30 hf
  match xs, hlen with
  | [y0, y1, y2], _ =>
  have g0 : DataW.trod enc Tryd.prog W base sp held n 9 [c0] = some y0 := by simpa [Value.cells, cells9] using hfld 0 _ rfl
  have g1 : DataW.trod enc Tryd.prog W base sp held n 3 [c1] = some y1 := by simpa [Value.cells, cells3] using hfld 1 _ rfl
  have g2 : DataW.trod enc Tryd.prog W base sp held n 9 [c2] = some y2 := by simpa [Value.cells, cells9] using hfld 2 _ rfl
  obtain ⟨leaf, e0, rfl, _⟩ := DataW.trod_string Tryd.underlying9 g0
  obtain ⟨dl, e1, rfl, _⟩ := DataW.trod_int Tryd.underlying3 g1
  obtain ⟨tag, e2, rfl, _⟩ := DataW.trod_string Tryd.underlying9 g2
  simp only [List.cons.injEq, and_true] at e0 e1 e2
  subst e0 e1 e2
  simp only [Prod.mk.injEq] at hx
  exact ⟨leaf, tag, dl, rfl, hx.1, hx.2⟩
set_option maxRecDepth 100000 in
theorem open_head (hval : Value.okWide Tryd.prog W r b0 32 v) (hd : DataW.Trod enc Tryd.prog W base sp held 32 v d ps) :
    ∃ (root tag : ByteArray) (size tick : Int), v = .agg #[.int .i64 size, .int .i64 tick, .string root, .string tag] ∧ d = .agg [.lit (.int .i64 size), .lit (.int .i64 tick), .lit (.string root.data.toList), .lit (.string tag.data.toList)] ∧ ps = [] := by
  obtain ⟨cs, rfl, hsz⟩ := okWide_struct Tryd.underlying32 hval
  rw [cellsH] at hsz
  obtain ⟨l⟩ := cs
  match l, hsz with
  | [c0, c1, c2, c3], _ =>
  obtain ⟨fuel, hf⟩ := hd
  obtain ⟨xs, n, _, hx, hl, hlen, hfld⟩ := DataW.trod_struct Tryd.underlying32 hf
  match xs, hlen with
  | [y0, y1, y2, y3], _ =>
  have g0 : DataW.trod enc Tryd.prog W base sp held n 3 [c0] = some y0 := by simpa [Value.cells, cells3] using hfld 0 _ rfl
  have g1 : DataW.trod enc Tryd.prog W base sp held n 3 [c1] = some y1 := by simpa [Value.cells, cells3] using hfld 1 _ rfl
  have g2 : DataW.trod enc Tryd.prog W base sp held n 9 [c2] = some y2 := by simpa [Value.cells, cells9] using hfld 2 _ rfl
  have g3 : DataW.trod enc Tryd.prog W base sp held n 9 [c3] = some y3 := by simpa [Value.cells, cells9] using hfld 3 _ rfl
  obtain ⟨size, e0, rfl, _⟩ := DataW.trod_int Tryd.underlying3 g0
  obtain ⟨tick, e1, rfl, _⟩ := DataW.trod_int Tryd.underlying3 g1
  obtain ⟨root, e2, rfl, _⟩ := DataW.trod_string Tryd.underlying9 g2
  obtain ⟨tag, e3, rfl, _⟩ := DataW.trod_string Tryd.underlying9 g3
  simp only [List.cons.injEq, and_true] at e0 e1 e2 e3
  subst e0 e1 e2 e3
  simp only [Prod.mk.injEq] at hx
  exact ⟨root, tag, size, tick, rfl, hx.1, hx.2⟩
end
/-- What the bound gives of a list of strings. -/
theorem bulk_elem {H : Type} (l : List ByteArray) (s : ByteArray) (h : s ∈ l) : s.size + 1 ≤ Rows.uptoBulkAll (strs (H := H) l) := by
  induction l with
  | nil => cases h
  | cons x l ih =>
    have e : Rows.uptoBulkAll (strs (H := H) (x :: l)) = x.size + 1 + Rows.uptoBulkAll (strs (H := H) l) := by
      show Rows.uptoBulk (DataW.lit (.string x.data.toList)) + Rows.uptoBulkAll (strs (H := H) l) = _
      simp [Rows.uptoBulk]
    rw [e]
    rcases List.mem_cons.1 h with rfl | h
    · omega
    · have := ih h; omega
theorem bulk_len {H : Type} (l : List ByteArray) : l.length ≤ Rows.uptoBulkAll (strs (H := H) l) := by
  induction l with
  | nil => simp
  | cons x l ih =>
    have e : Rows.uptoBulkAll (strs (H := H) (x :: l)) = x.size + 1 + Rows.uptoBulkAll (strs (H := H) l) := by
      show Rows.uptoBulk (DataW.lit (.string x.data.toList)) + Rows.uptoBulkAll (strs (H := H) l) = _
      simp [Rows.uptoBulk]
    rw [e, List.length_cons]; omega
end Go.Proofs.YtoanekgphcijfaaDoor
