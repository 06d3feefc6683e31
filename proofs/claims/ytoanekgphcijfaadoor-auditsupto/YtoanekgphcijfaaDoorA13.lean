import Derived.Test.YtoanekgphcijfaaDoorA9d
import Derived.Test.YtoanekgphcijfaaDoorA9r
import Derived.Test.YtoanekgphcijfaaDoorA10d
import Derived.Test.YtoanekgphcijfaaDoorA10r
import Derived.Test.YtoanekgphcijfaaDoorA12
import Derived.Test.YtoanekgphcijfaaDoorA12b
namespace Go.Proofs.YtoanekgphcijfaaDoor
open Go.RowKit
open Sha

/-- The tag of a promise, and of a head. -/
def pTag (key leaf : ByteArray) (d : Int) : ByteArray := str (hmac key.data.toList (pText leaf.data.toList d))
def hTag (key root : ByteArray) (size tick : Int) : ByteArray := str (hmac key.data.toList (hText size tick root.data.toList))
/-- What a look at a promise comes to; the list's texts from the last one on. -/
def auditV (key leaf ptag root htag : ByteArray) (d size tick index : Int) (rs : List ByteArray) : Int :=
  if ptag = pTag key leaf d then
    if htag = hTag key root size tick then (if inclB leaf.data.toList index size (tol rs) root.data.toList = true then 1 else if d ≤ tick then 3 else 2) else 5
  else 4
/-- What a look at two heads comes to. -/
def compV (key oroot otag nroot ntag : ByteArray) (osize otick nsize ntick : Int) (rs : List ByteArray) : Int :=
  if otag = hTag key oroot osize otick then
    if ntag = hTag key nroot nsize ntick then
      if osize = 0 ∧ rs.length = 0 then 1 else (if extB osize nsize oroot.data.toList nroot.data.toList (tol rs) = true then 1 else 3)
    else 5
  else 5
theorem audit_dev_any (rs : List ByteArray) (key leaf ptag root htag : ByteArray) (d size tick index : Int) (ao : Option Addr) (cap : Nat) (w : World) (hc : rs.length ≤ cap) (hm : rs.length ≤ 140737488355328) (hS : Strs w ao rs.reverse) (hs : ∀ s ∈ rs, s.size ≤ 140737488351232)
    (hk : key.size ≤ 140737488351232) (hl : leaf.size ≤ 140737488351232) (hr : root.size ≤ 140737488351232) (hK : Tab w) (h0 : 0 < w.heap.size) :
    Calls Tryd.prog 18 #[.string key, .agg #[.string leaf, .int .i64 d, .string ptag], .agg #[.int .i64 size, .int .i64 tick, .string root, .string htag], .int .i64 index, .slice ao rs.length cap] w fun r w' => r = .returned (.int .i64 (auditV key leaf ptag root htag d size tick index rs)) ∧ Below w.heap.size w w' := by
  unfold auditV
  by_cases e1 : ptag = pTag key leaf d
  · subst e1
    rw [if_pos rfl]
    by_cases e2 : htag = hTag key root size tick
    · subst e2
      rw [if_pos rfl]
      exact audit_dev_look key leaf root _ _ _ d size tick index _ ao cap w (fun wx hKx h0x => ptag_any key leaf _ d wx hk hl hKx h0x) (fun wx hKx h0x => htag_any key root _ size tick wx hk hr hKx h0x)
        (fun wx hb => showsEntry_any rs leaf root index size ao cap wx hc hm (hS.below hb) (fun s h => by have := hs s h; omega) (by omega) (hK.below hb h0) (Nat.lt_of_lt_of_le h0 hb.size)) hK h0
    · rw [if_neg e2]
      exact audit_dev_badh key leaf root htag _ _ d size tick index _ ao cap w (fun wx hKx h0x => ptag_any key leaf _ d wx hk hl hKx h0x) (fun wx hKx h0x => htag_any key root htag size tick wx hk hr hKx h0x) e2 hK h0
  · rw [if_neg e1]
    exact audit_dev_badp key leaf root ptag htag _ d size tick index _ ao cap w (fun wx hKx h0x => ptag_any key leaf ptag d wx hk hl hKx h0x) e1 hK h0
theorem audit_ref_any (rs : List ByteArray) (key leaf ptag root htag : ByteArray) (d size tick index : Int) (ao : Option Addr) (cap : Nat) (w : World) (hc : rs.length ≤ cap) (hm : rs.length ≤ 140737488355328) (hS : Strs w ao rs.reverse) (hF : Fit (leaf :: rs))
    (hk : key.size ≤ 140737488351232) (hl : leaf.size ≤ 140737488351232) (hr : root.size ≤ 140737488351232) :
    Calls Tryd.prog 20 #[.string key, .agg #[.string leaf, .int .i64 d, .string ptag], .agg #[.int .i64 size, .int .i64 tick, .string root, .string htag], .int .i64 index, .slice ao rs.length cap] w fun r w' => r = .returned (.int .i64 (auditV key leaf ptag root htag d size tick index rs)) ∧ Below w.heap.size w w' := by
  unfold auditV
  by_cases e1 : ptag = pTag key leaf d
  · subst e1
    rw [if_pos rfl]
    by_cases e2 : htag = hTag key root size tick
    · subst e2
      rw [if_pos rfl]
      exact audit_ref_look key leaf root _ _ _ d size tick index _ ao cap w (fun wx => promised_any key leaf _ d wx hk hl) (fun wx => published_any key root _ size tick wx hk hr)
        (fun wx hb => included_any rs leaf root index size ao cap wx hc hm (hS.below hb) hF)
    · rw [if_neg e2]
      exact audit_ref_badh key leaf root htag _ _ d size tick index _ ao cap w (fun wx => promised_any key leaf _ d wx hk hl) (fun wx => published_any key root htag size tick wx hk hr) e2
  · rw [if_neg e1]
    exact audit_ref_badp key leaf root ptag htag _ d size tick index _ ao cap w (fun wx => promised_any key leaf ptag d wx hk hl) e1
theorem comp_dev_any (rs : List ByteArray) (key oroot otag nroot ntag : ByteArray) (osize otick nsize ntick : Int) (ao : Option Addr) (cap : Nat) (w : World) (hc : rs.length ≤ cap) (hm : rs.length ≤ 140737488355328) (hS : Strs w ao rs.reverse) (hs : ∀ s ∈ rs, s.size ≤ 140737488351232)
    (hk : key.size ≤ 140737488351232) (ho : oroot.size ≤ 140737488351232) (hn : nroot.size ≤ 140737488351232) (hK : Tab w) (h0 : 0 < w.heap.size) :
    Calls Tryd.prog 19 #[.string key, .agg #[.int .i64 osize, .int .i64 otick, .string oroot, .string otag], .agg #[.int .i64 nsize, .int .i64 ntick, .string nroot, .string ntag], .slice ao rs.length cap] w fun r w' => r = .returned (.int .i64 (compV key oroot otag nroot ntag osize otick nsize ntick rs)) ∧ Below w.heap.size w w' := by
  unfold compV
  by_cases e1 : otag = hTag key oroot osize otick
  · subst e1
    rw [if_pos rfl]
    by_cases e2 : ntag = hTag key nroot nsize ntick
    · subst e2
      rw [if_pos rfl]
      have hO : ∀ wx, Tab wx → 0 < wx.heap.size → _ := fun wx hKx h0x => htag_any key oroot (hTag key oroot osize otick) osize otick wx hk ho hKx h0x
      have hN : ∀ wx, Tab wx → 0 < wx.heap.size → _ := fun wx hKx h0x => htag_any key nroot (hTag key nroot nsize ntick) nsize ntick wx hk hn hKx h0x
      have hI : ∀ wx, Below w.heap.size w wx → _ := fun wx hb => showsStart_any rs oroot nroot osize nsize ao cap wx hc hm (hS.below hb) (fun s h => by have := hs s h; omega) (by omega) (hK.below hb h0) (Nat.lt_of_lt_of_le h0 hb.size)
      by_cases hz : osize = 0
      · subst hz
        by_cases hl : rs.length = 0
        · rw [if_pos ⟨rfl, hl⟩]
          rw [hl]
          exact comp_dev_empty key oroot nroot _ _ otick nsize ntick ao cap w hO hN hK h0
        · rw [if_neg (fun h => hl h.2)]
          exact comp_dev_list key oroot nroot _ _ _ otick nsize ntick _ ao cap w hO hN hI hl hK h0
      · rw [if_neg (fun h => hz h.1)]
        exact comp_dev_size key oroot nroot _ _ _ osize otick nsize ntick _ ao cap w hO hN hI hz hK h0
    · rw [if_neg e2]
      exact comp_dev_badn key oroot nroot ntag _ _ osize otick nsize ntick _ ao cap w (fun wx hKx h0x => htag_any key oroot _ osize otick wx hk ho hKx h0x) (fun wx hKx h0x => htag_any key nroot _ nsize ntick wx hk hn hKx h0x) e2 hK h0
  · rw [if_neg e1]
    exact comp_dev_bado key oroot nroot otag ntag _ osize otick nsize ntick _ ao cap w (fun wx hKx h0x => htag_any key oroot _ osize otick wx hk ho hKx h0x) e1 hK h0
theorem comp_ref_any (rs : List ByteArray) (key oroot otag nroot ntag : ByteArray) (osize otick nsize ntick : Int) (ao : Option Addr) (cap : Nat) (w : World) (hc : rs.length ≤ cap) (hm : rs.length ≤ 140737488355328) (hS : Strs w ao rs.reverse) (hF : Fit (oroot :: rs))
    (hk : key.size ≤ 140737488351232) (ho : oroot.size ≤ 140737488351232) (hn : nroot.size ≤ 140737488351232) :
    Calls Tryd.prog 21 #[.string key, .agg #[.int .i64 osize, .int .i64 otick, .string oroot, .string otag], .agg #[.int .i64 nsize, .int .i64 ntick, .string nroot, .string ntag], .slice ao rs.length cap] w fun r w' => r = .returned (.int .i64 (compV key oroot otag nroot ntag osize otick nsize ntick rs)) ∧ Below w.heap.size w w' := by
  unfold compV
  by_cases e1 : otag = hTag key oroot osize otick
  · subst e1
    rw [if_pos rfl]
    by_cases e2 : ntag = hTag key nroot nsize ntick
    · subst e2
      rw [if_pos rfl]
      have hO := fun wx => published_any key oroot (hTag key oroot osize otick) osize otick wx hk ho
      have hN := fun wx => published_any key nroot (hTag key nroot nsize ntick) nsize ntick wx hk hn
      have hI : ∀ wx, Below w.heap.size w wx → _ := fun wx hb => extends_any rs oroot nroot osize nsize ao cap wx hc hm (hS.below hb) hF
      by_cases hz : osize = 0
      · subst hz
        by_cases hl : rs.length = 0
        · rw [if_pos ⟨rfl, hl⟩]
          rw [hl] at hI ⊢
          exact comp_ref_empty key oroot nroot _ _ _ otick nsize ntick ao cap w hO hN hI
        · rw [if_neg (fun h => hl h.2)]
          exact comp_ref_list key oroot nroot _ _ _ otick nsize ntick _ ao cap w hO hN hI hl
      · rw [if_neg (fun h => hz h.1)]
        exact comp_ref_size key oroot nroot _ _ _ osize otick nsize ntick _ ao cap w hO hN hI hz
    · rw [if_neg e2]
      exact comp_ref_badn key oroot nroot ntag _ _ osize otick nsize ntick _ ao cap w (fun wx => published_any key oroot _ osize otick wx hk ho) (fun wx => published_any key nroot _ nsize ntick wx hk hn) e2
  · rw [if_neg e1]
    exact comp_ref_bado key oroot nroot otag ntag _ osize otick nsize ntick _ ao cap w (fun wx => published_any key oroot _ osize otick wx hk ho) e1
end Go.Proofs.YtoanekgphcijfaaDoor
