import Derived.Test.YtoanekgphcijfaaDoorA9d
import Derived.Test.YtoanekgphcijfaaDoorA9r
import Derived.Test.YtoanekgphcijfaaDoorA10d
import Derived.Test.YtoanekgphcijfaaDoorA10r
import Derived.Test.YtoanekgphcijfaaDoorA12
import Derived.Test.YtoanekgphcijfaaDoorA12b
import Derived.Test.YtoanekgphcijfaaDoorA15
namespace Go.Proofs.YtoanekgphcijfaaDoor
open Go.RowKit
open Sha

/-- The tag of a promise, and of a head. -/
def pTag (key leaf : ByteArray) (d : Int) : ByteArray := str (hmac key.data.toList (pText leaf.data.toList d))
def hTag (key root : ByteArray) (size tick : Int) : ByteArray := str (hmac key.data.toList (hText size tick root.data.toList))
/-- What a look at a promise comes to; the list's texts from the last one on. -/
def auditV (key leaf ptag root htag : ByteArray) (d size tick index : Int) (rs : List ByteArray) : Int :=
  if ptag = pTag key leaf d then
    if htag = hTag key root size tick then (if inclB leaf.data.toList index size (tol rs) root.data.toList = true then 1 else if d ≤ tick then 3 else 2) else 5
  else 4
/-- What a look at two heads comes to. -/
def compV (key oroot otag nroot ntag : ByteArray) (osize otick nsize ntick : Int) (rs : List ByteArray) : Int :=
  if otag = hTag key oroot osize otick then
    if ntag = hTag key nroot nsize ntick then
      if osize = 0 ∧ rs.length = 0 then 1 else (if extB osize nsize oroot.data.toList nroot.data.toList (tol rs) = true then 1 else 3)
    else 5
  else 5
theorem audit_dev_any (rs : List ByteArray) (key leaf ptag root htag : ByteArray) (d size tick index : Int) (ao : Option Addr) (cap : Nat) (w : World) (hc : rs.length ≤ cap) (hm : rs.length ≤ 140737488355328) (hS : Strs w ao rs.reverse) (hs : ∀ s ∈ rs, s.size ≤ 140737488351232)
    (hk : key.size ≤ 140737488351232) (hl : leaf.size ≤ 140737488351232) (hr : root.size ≤ 140737488351232) (hK : Tab w) (h0 : 0 < w.heap.size) :
    Calls Tryd.prog 18 #[.string key, .agg #[.string leaf, .int .i64 d, .string ptag], .agg #[.int .i64 size, .int .i64 tick, .string root, .string htag], .int .i64 index, .slice ao rs.length cap] w fun r w' => r = .returned (.int .i64 (auditV key leaf ptag root htag d size tick index rs)) ∧ Below w.heap.size w w' := by
  unfold auditV
  by_cases e1 : ptag = pTag key leaf d
  · subst e1
    rw [if_pos rfl]
    by_cases e2 : htag = hTag key root size tick
    · subst e2
      rw [if_pos rfl]
      exact audit_dev_look key leaf root _ _ _ d size tick index _ ao cap w (fun wx hKx h0x => ptag_any key leaf _ d wx hk hl hKx h0x) (fun wx hKx h0x => htag_any key root _ size tick wx hk hr hKx h0x)
        (fun wx hb => showsEntry_any rs leaf root index size ao cap wx hc hm (hS.below hb) (fun s h => by have := hs s h; omega) (by omega) (hK.below hb h0) (Nat.lt_of_lt_of_le h0 hb.size)) hK h0
    · rw [if_neg e2]
      exact audit_dev_badh key leaf root htag _ _ d size tick index _ ao cap w (fun wx hKx h0x => ptag_any key leaf _ d wx hk hl hKx h0x) (fun wx hKx h0x => htag_any key root htag size tick wx hk hr hKx h0x) e2 hK h0
  · rw [if_neg e1]
    exact audit_dev_badp key leaf root ptag htag _ d size tick index _ ao cap w (fun wx hKx h0x => ptag_any key leaf ptag d wx hk hl hKx h0x) e1 hK h0
theorem audit_ref_any (rs : List ByteArray) (key leaf ptag root htag : ByteArray) (d size tick index : Int) (ao : Option Addr) (cap : Nat) (w : World) (hc : rs.length ≤ cap) (hm : rs.length ≤ 140737488355328) (hS : Strs w ao rs.reverse) (hF : Fit (leaf :: rs))
    (hk : key.size ≤ 140737488351232) (hl : leaf.size ≤ 140737488351232) (hr : root.size ≤ 140737488351232) :
    Calls Tryd.prog 20 #[.string key, .agg #[.string leaf, .int .i64 d, .string ptag], .agg #[.int .i64 size, .int .i64 tick, .string root, .string htag], .int .i64 index, .slice ao rs.length cap] w fun r w' => r = .returned (.int .i64 (auditV key leaf ptag root htag d size tick index rs)) ∧ Below w.heap.size w w' := by
  unfold auditV
  by_cases e1 : ptag = pTag key leaf d
  · subst e1
    rw [if_pos rfl]
    by_cases e2 : htag = hTag key root size tick
    · subst e2
      rw [if_pos rfl]
      exact audit_ref_look key leaf root _ _ _ d size tick index _ ao cap w (fun wx => promised_any key leaf _ d wx hk hl) (fun wx => published_any key root _ size tick wx hk hr)
        (fun wx hb => included_any rs leaf root index size ao cap wx hc hm (hS.below hb) hF)
    · rw [if_neg e2]
      exact audit_ref_badh key leaf root htag _ _ d size tick index _ ao cap w (fun wx => promised_any key leaf _ d wx hk hl) (fun wx => published_any key root htag size tick wx hk hr) e2
  · rw [if_neg e1]
    exact audit_ref_badp key leaf root ptag htag _ d size tick index _ ao cap w (fun wx => promised_any key leaf ptag d wx hk hl) e1
theorem comp_dev_any (rs : List ByteArray) (key oroot otag nroot ntag : ByteArray) (osize otick nsize ntick : Int) (ao : Option Addr) (cap : Nat) (w : World) (hc : rs.length ≤ cap) (hm : rs.length ≤ 140737488355328) (hS : Strs w ao rs.reverse) (hs : ∀ s ∈ rs, s.size ≤ 140737488351232)
    (hk : key.size ≤ 140737488351232) (ho : oroot.size ≤ 140737488351232) (hn : nroot.size ≤ 140737488351232) (hK : Tab w) (h0 : 0 < w.heap.size) :
    Calls Tryd.prog 19 #[.string key, .agg #[.int .i64 osize, .int .i64 otick, .string oroot, .string otag], .agg #[.int .i64 nsize, .int .i64 ntick, .string nroot, .string ntag], .slice ao rs.length cap] w fun r w' => r = .returned (.int .i64 (compV key oroot otag nroot ntag osize otick nsize ntick rs)) ∧ Below w.heap.size w w' := by
  unfold compV
  by_cases e1 : otag = hTag key oroot osize otick
  · subst e1
    rw [if_pos rfl]
    by_cases e2 : ntag = hTag key nroot nsize ntick
    · subst e2
      rw [if_pos rfl]
      have hO : ∀ wx, Tab wx → 0 < wx.heap.size → _ := fun wx hKx h0x => htag_any key oroot (hTag key oroot osize otick) osize otick wx hk ho hKx h0x
      have hN : ∀ wx, Tab wx → 0 < wx.heap.size → _ := fun wx hKx h0x => htag_any key nroot (hTag key nroot nsize ntick) nsize ntick wx hk hn hKx h0x
      have hI : ∀ wx, Below w.heap.size w wx → _ := fun wx hb => showsStart_any rs oroot nroot osize nsize ao cap wx hc hm (hS.below hb) (fun s h => by have := hs s h; omega) (by omega) (hK.below hb h0) (Nat.lt_of_lt_of_le h0 hb.size)
      by_cases hz : osize = 0
      · subst hz
        by_cases hl : rs.length = 0
        · rw [if_pos ⟨rfl, hl⟩]
          rw [hl]
          exact comp_dev_empty key oroot nroot _ _ otick nsize ntick ao cap w hO hN hK h0
        · rw [if_neg (fun h => hl h.2)]
          exact comp_dev_list key oroot nroot _ _ _ otick nsize ntick _ ao cap w hO hN hI hl hK h0
      · rw [if_neg (fun h => hz h.1)]
        exact comp_dev_size key oroot nroot _ _ _ osize otick nsize ntick _ ao cap w hO hN hI hz hK h0
    · rw [if_neg e2]
      exact comp_dev_badn key oroot nroot ntag _ _ osize otick nsize ntick _ ao cap w (fun wx hKx h0x => htag_any key oroot _ osize otick wx hk ho hKx h0x) (fun wx hKx h0x => htag_any key nroot _ nsize ntick wx hk hn hKx h0x) e2 hK h0
  · rw [if_neg e1]
    exact comp_dev_bado key oroot nroot otag ntag _ osize otick nsize ntick _ ao cap w (fun wx hKx h0x => htag_any key oroot _ osize otick wx hk ho hKx h0x) e1 hK h0
theorem comp_ref_any (rs : List ByteArray) (key oroot otag nroot ntag : ByteArray) (osize otick nsize ntick : Int) (ao : Option Addr) (cap : Nat) (w : World) (hc : rs.length ≤ cap) (hm : rs.length ≤ 140737488355328) (hS : Strs w ao rs.reverse) (hF : Fit (oroot :: rs))
    (hk : key.size ≤ 140737488351232) (ho : oroot.size ≤ 140737488351232) (hn : nroot.size ≤ 140737488351232) :
    Calls Tryd.prog 21 #[.string key, .agg #[.int .i64 osize, .int .i64 otick, .string oroot, .string otag], .agg #[.int .i64 nsize, .int .i64 ntick, .string nroot, .string ntag], .slice ao rs.length cap] w fun r w' => r = .returned (.int .i64 (compV key oroot otag nroot ntag osize otick nsize ntick rs)) ∧ Below w.heap.size w w' := by
  unfold compV
  by_cases e1 : otag = hTag key oroot osize otick
  · subst e1
    rw [if_pos rfl]
    by_cases e2 : ntag = hTag key nroot nsize ntick
    · subst e2
      rw [if_pos rfl]
      have hO := fun wx => published_any key oroot (hTag key oroot osize otick) osize otick wx hk ho
      have hN := fun wx => published_any key nroot (hTag key nroot nsize ntick) nsize ntick wx hk hn
      have hI : ∀ wx, Below w.heap.size w wx → _ := fun wx hb => extends_any rs oroot nroot osize nsize ao cap wx hc hm (hS.below hb) hF
      by_cases hz : osize = 0
      · subst hz
        by_cases hl : rs.length = 0
        · rw [if_pos ⟨rfl, hl⟩]
          rw [hl] at hI ⊢
          exact comp_ref_empty key oroot nroot _ _ _ otick nsize ntick ao cap w hO hN hI
        · rw [if_neg (fun h => hl h.2)]
          exact comp_ref_list key oroot nroot _ _ _ otick nsize ntick _ ao cap w hO hN hI hl
      · rw [if_neg (fun h => hz h.1)]
        exact comp_ref_size key oroot nroot _ _ _ osize otick nsize ntick _ ao cap w hO hN hI hz
    · rw [if_neg e2]
      exact comp_ref_badn key oroot nroot ntag _ _ osize otick nsize ntick _ ao cap w (fun wx => published_any key oroot _ osize otick wx hk ho) (fun wx => published_any key nroot _ nsize ntick wx hk hn) e2
  · rw [if_neg e1]
    exact comp_ref_bado key oroot nroot otag ntag _ osize otick nsize ntick _ ao cap w (fun wx => published_any key oroot _ osize otick wx hk ho) e1
end Go.Proofs.YtoanekgphcijfaaDoor
namespace Go.Proofs.YtoanekgphcijfaaDoor
open Go.RowKit
open Sha

theorem signed_any (key leaf pt hr ht gr gt : ByteArray) (d hs hk gs gk how : Int) (w : World) (h1 : key.size ≤ 140737488351232) (h2 : leaf.size ≤ 140737488351232) (h3 : hr.size ≤ 140737488351232) (h4 : gr.size ≤ 140737488351232) :
    Calls Tryd.prog 17 #[.string key, .agg #[.string leaf, .int .i64 d, .string pt], .agg #[.int .i64 hs, .int .i64 hk, .string hr, .string ht], .agg #[.int .i64 gs, .int .i64 gk, .string gr, .string gt], .int .i64 how] w fun r w' => ∃ a b c, r = .returned (.tuple #[.agg #[.string leaf, .int .i64 d, .string a], .agg #[.int .i64 hs, .int .i64 hk, .string hr, .string b], .agg #[.int .i64 gs, .int .i64 gk, .string gr, .string c]]) ∧ Below w.heap.size w w' := by
  have HP := fun wx => promised_any key leaf pt d wx h1 h2
  have HH := fun wx => published_any key hr ht hs hk wx h1 h3
  have HG := fun wx => published_any key gr gt gs gk wx h1 h4
  have fin : ∀ {x y z : ByteArray} {r : Ending} {w' : World}, r = .returned (.tuple #[.agg #[.string leaf, .int .i64 d, .string x], .agg #[.int .i64 hs, .int .i64 hk, .string hr, .string y], .agg #[.int .i64 gs, .int .i64 gk, .string gr, .string z]]) ∧ Below w.heap.size w w' → ∃ a b c, r = .returned (.tuple #[.agg #[.string leaf, .int .i64 d, .string a], .agg #[.int .i64 hs, .int .i64 hk, .string hr, .string b], .agg #[.int .i64 gs, .int .i64 gk, .string gr, .string c]]) ∧ Below w.heap.size w w' := fun h => ⟨_, _, _, h.1, h.2⟩
  cases c0 : (how.tmod 2 == 0) <;> cases c1 : ((wrap64 (how.tdiv 2)).tmod 2 == 0) <;> cases c2 : ((wrap64 (how.tdiv 4)).tmod 2 == 0)
  · exact (signed_fff key leaf pt hr ht gr gt d hs hk gs gk how w c0 c1 c2).mono fun _ _ h => fin h
  · exact (signed_fft key leaf pt hr ht gr gt _ d hs hk gs gk how w HG c0 c1 c2).mono fun _ _ h => fin h
  · exact (signed_ftf key leaf pt hr ht gr gt _ d hs hk gs gk how w HH c0 c1 c2).mono fun _ _ h => fin h
  · exact (signed_ftt key leaf pt hr ht gr gt _ _ d hs hk gs gk how w HH HG c0 c1 c2).mono fun _ _ h => fin h
  · exact (signed_tff key leaf pt hr ht gr gt _ d hs hk gs gk how w HP c0 c1 c2).mono fun _ _ h => fin h
  · exact (signed_tft key leaf pt hr ht gr gt _ _ d hs hk gs gk how w HP HG c0 c1 c2).mono fun _ _ h => fin h
  · exact (signed_ttf key leaf pt hr ht gr gt _ _ d hs hk gs gk how w HP HH c0 c1 c2).mono fun _ _ h => fin h
  · exact (signed_ttt key leaf pt hr ht gr gt _ _ _ d hs hk gs gk how w HP HH HG c0 c1 c2).mono fun _ _ h => fin h
theorem signed_zero (key leaf pt hr ht gr gt : ByteArray) (d hs hk gs gk : Int) (w : World) (h1 : key.size ≤ 140737488351232) (h2 : leaf.size ≤ 140737488351232) (h3 : hr.size ≤ 140737488351232) (h4 : gr.size ≤ 140737488351232) :
    Calls Tryd.prog 17 #[.string key, .agg #[.string leaf, .int .i64 d, .string pt], .agg #[.int .i64 hs, .int .i64 hk, .string hr, .string ht], .agg #[.int .i64 gs, .int .i64 gk, .string gr, .string gt], .int .i64 0] w fun r w' => r = .returned (.tuple #[.agg #[.string leaf, .int .i64 d, .string (pTag key leaf d)], .agg #[.int .i64 hs, .int .i64 hk, .string hr, .string (hTag key hr hs hk)], .agg #[.int .i64 gs, .int .i64 gk, .string gr, .string (hTag key gr gs gk)]]) ∧ Below w.heap.size w w' :=
  signed_ttt key leaf pt hr ht gr gt _ _ _ d hs hk gs gk 0 w (fun wx => promised_any key leaf pt d wx h1 h2) (fun wx => published_any key hr ht hs hk wx h1 h3) (fun wx => published_any key gr gt gs gk wx h1 h4) (by decide +kernel) (by decide +kernel) (by decide +kernel)
end Go.Proofs.YtoanekgphcijfaaDoor
namespace Go.Proofs.YtoanekgphcijfaaDoor
open Go.RowKit
open Sha

def oneX : ByteArray := str (leafH (⟨#[120]⟩ : ByteArray).data.toList)
def oneY : ByteArray := str (leafH (⟨#[121]⟩ : ByteArray).data.toList)
def twoN : ByteArray := str (nodeH oneX.data.toList oneY.data.toList)
theorem oneX_size : oneX.size = 32 := by unfold oneX; rw [str_size]; exact sha_length _
theorem oneY_size : oneY.size = 32 := by unfold oneY; rw [str_size]; exact sha_length _
theorem twoN_size : twoN.size = 32 := by unfold twoN; rw [str_size]; exact sha_length _
theorem strs_one {w : World} {g : Nat} {s : ByteArray} (hcell : w.cell? ⟨g, 0, none⟩ = some (.string s)) (hg : g < w.heap.size) : Strs w (some ⟨g, 0, none⟩) [s] := by
  intro j hj
  have : j = 0 := by simpa using hj
  subst this
  exact ⟨g, 0, rfl, hg, hcell⟩
theorem audit_two (key : ByteArray) : auditV key oneY (pTag key oneY 3) twoN (hTag key twoN 2 1) 3 2 1 1 [oneX] = 1 := by
  unfold auditV
  rw [if_pos rfl, if_pos rfl, if_pos]
  show inclB oneY.data.toList 1 2 [oneX.data.toList] twoN.data.toList = true
  rw [show twoN.data.toList = nodeH oneX.data.toList oneY.data.toList from str_toList _]
  exact incl_two _ _
theorem comp_two (key : ByteArray) : compV key oneX (hTag key oneX 1 0) twoN (hTag key twoN 2 1) 1 0 2 1 [oneY] = 1 := by
  unfold compV
  rw [if_pos rfl, if_pos rfl, if_neg (fun h => absurd h.1 (by decide)), if_pos]
  show extB 1 2 oneX.data.toList twoN.data.toList [oneY.data.toList] = true
  rw [show twoN.data.toList = nodeH oneX.data.toList oneY.data.toList from str_toList _]
  exact ext_two _ _
theorem audits_any (ss : List ByteArray) (key leaf pt hr ht gr gt : ByteArray) (d hs hk gs gk how index : Int) (ao : Option Addr) (cap : Nat) (w : World) (hnil : ao = none → ss = []) (hc : ss.length ≤ cap) (hm : ss.length * 16 ≤ 140737488351232) (hS : Strs w ao ss)
    (hF1 : Fit (leaf :: ss.reverse)) (hF2 : Fit (gr :: ss.reverse)) (hsz : ∀ s ∈ ss, s.size ≤ 140737488351232) (h1 : key.size ≤ 140737488351232) (h2 : leaf.size ≤ 140737488351232) (h3 : hr.size ≤ 140737488351232) (h4 : gr.size ≤ 140737488351232) (hK : Tab w) (h0 : 0 < w.heap.size) :
    Calls Tryd.prog 4 #[.string key, .agg #[.string leaf, .int .i64 d, .string pt], .agg #[.int .i64 hs, .int .i64 hk, .string hr, .string ht], .agg #[.int .i64 gs, .int .i64 gk, .string gr, .string gt], .int .i64 how, .int .i64 index, .slice ao ss.length cap] w fun r w' => r = .returned (.bool true) ∧ Below w.heap.size w w' := by
  have hl : ss.reverse.length = ss.length := List.length_reverse
  have hrr : ss.reverse.reverse = ss := List.reverse_reverse ss
  have hszr : ∀ s ∈ ss.reverse, s.size ≤ 140737488351232 := fun s h => hsz s (List.mem_reverse.1 h)
  have hx := oneX_size
  have hy := oneY_size
  have hn := twoN_size
  refine audits_walk ss ss.length key leaf pt hr ht gr gt oneX oneY twoN (pTag key oneY 3) (hTag key twoN 2 1) (hTag key oneX 1 0) (fun a b => auditV key leaf a hr b d hs hk index ss.reverse) (fun b c => compV key gr c hr b gs gk hs hk ss.reverse) d hs hk gs gk how index ao cap w
    ?_ ?_ ?_ ?_ ?_ ?_ ?_ ?_ ?_ ?_ ?_ ?_ ?_ hK h0
  · exact fun wx => signed_any key leaf pt hr ht gr gt d hs hk gs gk how wx h1 h2 h3 h4
  · exact fun wx hb => roomyC ss _ rfl ao cap hnil hc hm wx (hS.below hb)
  · intro wx a b ao' cap' hR hKx h0x
    have c := audit_dev_any ss.reverse key leaf a hr b d hs hk index ao' cap' wx (by rw [hl]; exact hR.cap) (by rw [hl]; omega) (by rw [hrr]; exact hR.strs) hszr h1 h2 h3 hKx h0x
    rw [hl] at c
    exact c
  · intro wx b c ao' cap' hR hKx h0x
    have c := comp_dev_any ss.reverse key gr c hr b gs gk hs hk ao' cap' wx (by rw [hl]; exact hR.cap) (by rw [hl]; omega) (by rw [hrr]; exact hR.strs) hszr h1 h4 h3 hKx h0x
    rw [hl] at c
    exact c
  · exact fun wx ao' cap' hb hR => wholeC ss _ rfl ao ao' cap cap' hm wx (hS.below hb) hR
  · intro wx a b hb
    have c := audit_ref_any ss.reverse key leaf a hr b d hs hk index ao cap wx (by rw [hl]; exact hc) (by rw [hl]; omega) (by rw [hrr]; exact hS.below hb) hF1 h1 h2 h3
    rw [hl] at c
    exact c
  · intro wx b c hb
    have c := comp_ref_any ss.reverse key gr c hr b gs gk hs hk ao cap wx (by rw [hl]; exact hc) (by rw [hl]; omega) (by rw [hrr]; exact hS.below hb) hF2 h1 h4 h3
    rw [hl] at c
    exact c
  · exact fun wx => rleaf_any ⟨#[120]⟩ wx (by show 1 ≤ _; omega)
  · exact fun wx => rleaf_any ⟨#[121]⟩ wx (by show 1 ≤ _; omega)
  · exact fun wx => rnode_any oneX oneY wx (by omega)
  · exact fun wx => signed_zero key oneY ⟨#[]⟩ twoN ⟨#[]⟩ oneX ⟨#[]⟩ 3 2 1 1 0 wx h1 (by omega) (by omega) (by omega)
  · intro wx g hcell hg hKx h0x
    have c := audit_dev_any [oneX] key oneY (pTag key oneY 3) twoN (hTag key twoN 2 1) 3 2 1 1 (some ⟨g, 0, none⟩) 1 wx (by simp) (by simp) (strs_one hcell hg) (fun s h => by rw [List.mem_singleton.1 h]; omega) h1 (by omega) (by omega) hKx h0x
    rw [audit_two] at c
    exact c
  · intro wx g hcell hg hKx h0x
    have c := comp_dev_any [oneY] key oneX (hTag key oneX 1 0) twoN (hTag key twoN 2 1) 1 0 2 1 (some ⟨g, 0, none⟩) 1 wx (by simp) (by simp) (strs_one hcell hg) (fun s h => by rw [List.mem_singleton.1 h]; omega) h1 (by omega) (by omega) hKx h0x
    rw [comp_two] at c
    exact c
end Go.Proofs.YtoanekgphcijfaaDoor
