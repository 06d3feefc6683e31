import Derived.Test.YtoanekgphcijfaaDoorA14
import Derived.Test.YtoanekgphcijfaaDoorA15
namespace Go.Proofs.YtoanekgphcijfaaDoor
open Go.RowKit
open Sha

def oneX : ByteArray := str (leafH (⟨#[120]⟩ : ByteArray).data.toList)
def oneY : ByteArray := str (leafH (⟨#[121]⟩ : ByteArray).data.toList)
def twoN : ByteArray := str (nodeH oneX.data.toList oneY.data.toList)
theorem oneX_size : oneX.size = 32 := by unfold oneX; rw [str_size]; exact sha_length _
theorem oneY_size : oneY.size = 32 := by unfold oneY; rw [str_size]; exact sha_length _
theorem twoN_size : twoN.size = 32 := by unfold twoN; rw [str_size]; exact sha_length _
theorem strs_one {w : World} {g : Nat} {s : ByteArray} (hcell : w.cell? ⟨g, 0, none⟩ = some (.string s)) (hg : g < w.heap.size) : Strs w (some ⟨g, 0, none⟩) [s] := by
  intro j hj
  have : j = 0 := by simpa using hj
  subst this
  exact ⟨g, 0, rfl, hg, hcell⟩
theorem audit_two (key : ByteArray) : auditV key oneY (pTag key oneY 3) twoN (hTag key twoN 2 1) 3 2 1 1 [oneX] = 1 := by
  unfold auditV
  rw [if_pos rfl, if_pos rfl, if_pos]
  show inclB oneY.data.toList 1 2 [oneX.data.toList] twoN.data.toList = true
  rw [show twoN.data.toList = nodeH oneX.data.toList oneY.data.toList from str_toList _]
  exact incl_two _ _
theorem comp_two (key : ByteArray) : compV key oneX (hTag key oneX 1 0) twoN (hTag key twoN 2 1) 1 0 2 1 [oneY] = 1 := by
  unfold compV
  rw [if_pos rfl, if_pos rfl, if_neg (fun h => absurd h.1 (by decide)), if_pos]
  show extB 1 2 oneX.data.toList twoN.data.toList [oneY.data.toList] = true
  rw [show twoN.data.toList = nodeH oneX.data.toList oneY.data.toList from str_toList _]
  exact ext_two _ _
theorem audits_any (ss : List ByteArray) (key leaf pt hr ht gr gt : ByteArray) (d hs hk gs gk how index : Int) (ao : Option Addr) (cap : Nat) (w : World) (hnil : ao = none → ss = []) (hc : ss.length ≤ cap) (hm : ss.length * 16 ≤ 140737488351232) (hS : Strs w ao ss)
    (hF1 : Fit (leaf :: ss.reverse)) (hF2 : Fit (gr :: ss.reverse)) (hsz : ∀ s ∈ ss, s.size ≤ 140737488351232) (h1 : key.size ≤ 140737488351232) (h2 : leaf.size ≤ 140737488351232) (h3 : hr.size ≤ 140737488351232) (h4 : gr.size ≤ 140737488351232) (hK : Tab w) (h0 : 0 < w.heap.size) :
    Calls Tryd.prog 4 #[.string key, .agg #[.string leaf, .int .i64 d, .string pt], .agg #[.int .i64 hs, .int .i64 hk, .string hr, .string ht], .agg #[.int .i64 gs, .int .i64 gk, .string gr, .string gt], .int .i64 how, .int .i64 index, .slice ao ss.length cap] w fun r w' => r = .returned (.bool true) ∧ Below w.heap.size w w' := by
  have hl : ss.reverse.length = ss.length := List.length_reverse
  have hrr : ss.reverse.reverse = ss := List.reverse_reverse ss
  have hszr : ∀ s ∈ ss.reverse, s.size ≤ 140737488351232 := fun s h => hsz s (List.mem_reverse.1 h)
  have hx := oneX_size
  have hy := oneY_size
  have hn := twoN_size
  refine audits_walk ss ss.length key leaf pt hr ht gr gt oneX oneY twoN (pTag key oneY 3) (hTag key twoN 2 1) (hTag key oneX 1 0) (fun a b => auditV key leaf a hr b d hs hk index ss.reverse) (fun b c => compV key gr c hr b gs gk hs hk ss.reverse) d hs hk gs gk how index ao cap w
    ?_ ?_ ?_ ?_ ?_ ?_ ?_ ?_ ?_ ?_ ?_ ?_ ?_ hK h0
  · exact fun wx => signed_any key leaf pt hr ht gr gt d hs hk gs gk how wx h1 h2 h3 h4
  · exact fun wx hb => roomyC ss _ rfl ao cap hnil hc hm wx (hS.below hb)
  · intro wx a b ao' cap' hR hKx h0x
    have c := audit_dev_any ss.reverse key leaf a hr b d hs hk index ao' cap' wx (by rw [hl]; exact hR.cap) (by rw [hl]; omega) (by rw [hrr]; exact hR.strs) hszr h1 h2 h3 hKx h0x
    rw [hl] at c
    exact c
  · intro wx b c ao' cap' hR hKx h0x
    have c := comp_dev_any ss.reverse key gr c hr b gs gk hs hk ao' cap' wx (by rw [hl]; exact hR.cap) (by rw [hl]; omega) (by rw [hrr]; exact hR.strs) hszr h1 h4 h3 hKx h0x
    rw [hl] at c
    exact c
  · exact fun wx ao' cap' hb hR => wholeC ss _ rfl ao ao' cap cap' hm wx (hS.below hb) hR
  · intro wx a b hb
    have c := audit_ref_any ss.reverse key leaf a hr b d hs hk index ao cap wx (by rw [hl]; exact hc) (by rw [hl]; omega) (by rw [hrr]; exact hS.below hb) hF1 h1 h2 h3
    rw [hl] at c
    exact c
  · intro wx b c hb
    have c := comp_ref_any ss.reverse key gr c hr b gs gk hs hk ao cap wx (by rw [hl]; exact hc) (by rw [hl]; omega) (by rw [hrr]; exact hS.below hb) hF2 h1 h4 h3
    rw [hl] at c
    exact c
  · exact fun wx => rleaf_any ⟨#[120]⟩ wx (by show 1 ≤ _; omega)
  · exact fun wx => rleaf_any ⟨#[121]⟩ wx (by show 1 ≤ _; omega)
  · exact fun wx => rnode_any oneX oneY wx (by omega)
  · exact fun wx => signed_zero key oneY ⟨#[]⟩ twoN ⟨#[]⟩ oneX ⟨#[]⟩ 3 2 1 1 0 wx h1 (by omega) (by omega) (by omega)
  · intro wx g hcell hg hKx h0x
    have c := audit_dev_any [oneX] key oneY (pTag key oneY 3) twoN (hTag key twoN 2 1) 3 2 1 1 (some ⟨g, 0, none⟩) 1 wx (by simp) (by simp) (strs_one hcell hg) (fun s h => by rw [List.mem_singleton.1 h]; omega) h1 (by omega) (by omega) hKx h0x
    rw [audit_two] at c
    exact c
  · intro wx g hcell hg hKx h0x
    have c := comp_dev_any [oneY] key oneX (hTag key oneX 1 0) twoN (hTag key twoN 2 1) 1 0 2 1 (some ⟨g, 0, none⟩) 1 wx (by simp) (by simp) (strs_one hcell hg) (fun s h => by rw [List.mem_singleton.1 h]; omega) h1 (by omega) (by omega) hKx h0x
    rw [comp_two] at c
    exact c
end Go.Proofs.YtoanekgphcijfaaDoor
