/-
  ROWS OF BYTES THAT A CALL ITSELF MADE, AND STRINGS OF THEM. Own work.
-/
import Derived.Test.YtoanekgphcijfaaDoorChecked
import Derived.Test.YtoanekgphcijfaaDoorCopy
import Derived.Test.YtoanekgphcijfaaDoorOwn
import Derived.Lib.IndexBytes
namespace Go.Proofs.YtoanekgphcijfaaDoor
open Go.RowKit

theorem und44 : Tryd.prog.underlying 64 = some (.slice 5) := by kernel_rfl
theorem und5 : Tryd.prog.underlying 5 = some (.int .u8) := by kernel_rfl
theorem und9 : Tryd.prog.underlying 9 = some .string := by kernel_rfl
theorem info5 : (Tryd.prog.info? 5).map (·.size) = some 1 := by kernel_rfl
theorem info5' : (Tryd.prog.info? 5).map (fun i => (i.zero, i.size, i.bytes)) = some (some (.int .u8 0), 1, 1) := by kernel_rfl

/-- The slice value v owns just these bytes. -/
def OwnB (w : World) (base : Nat) (v : Value) (l : List UInt8) : Prop := Own w base 5 v (l.map bcell)
theorem foldl_push (l : List UInt8) : ∀ (s : ByteArray), (l.map fun x => ((x.toNat : Int))).foldl (fun r n => r.push (UInt8.ofNat n.toNat)) s = ⟨s.data ++ l.toArray⟩ := by
  induction l with
  | nil => intro s; simp
  | cons x l ih =>
    intro s
    simp only [List.map_cons, List.foldl_cons]
    rw [ih]
    simp [ByteArray.push]
theorem run_str_own (w : World) (base : Nat) (v : Value) (l : List UInt8) (h : OwnB w base v l) : (convert 64 9 v).run Tryd.prog w = .ok (.string ⟨l.toArray⟩) w := by
  obtain ⟨h1, h2⟩ := h
  rcases h2 with ⟨rfl, hn⟩ | ⟨g, cap, cur, rfl, hg, hh, hc, hm, hs, ht⟩
  · have : l = [] := List.eq_nil_of_length_eq_zero (by simpa using hn)
    subst this
    rw [run_convert_bytes_string w _ _ 5 none 0 0 und44 und5 und9]
    simp [Conv.bytesToString, Sem.run_pure]
    rfl
  · rw [run_convert_bytes_string w _ _ 5 _ _ _ und44 und5 und9]
    have hl := run_loadCells_list (P := Tryd.prog) w ⟨g, 0, none⟩ (l.map bcell) (by
      intro j u hu
      have e : ((⟨g, 0, none⟩ : Addr).add j) = ⟨g, j, none⟩ := by unfold Addr.add; split <;> simp_all
      rw [e, Row.cell (t := 5) (cs := cur) hh, ← Array.getElem?_toList]
      rw [← ht, List.getElem?_take] at hu
      split at hu
      · exact hu
      · cases hu)
    rw [List.length_map] at hl
    rw [List.length_map]
    have e : l.map bcell = (l.map fun x => ((x.toNat : Int))).map (Value.int .u8) := by rw [List.map_map]; rfl
    rw [run_bytesToString w ⟨g, 0, none⟩ l.length cap (l.map fun x => ((x.toNat : Int))) (by rw [hl, e]), foldl_push]
    simp
/-- 'string(v)' of a row of bytes of the call's own. -/
theorem wpList_strB {w : World} {ops : Array Oper} {rest : List Oper} {o : Oper} {a : Act} {Q : Exit → Act → World → Prop} (hgd : o.guard = none) (x : Operand) (ho : o.op = .convert 64 9 x)
    (base : Nat) (v : Value) (l : List UInt8) (hx : a.eval x = v) (hown : OwnB w base v l) (h : wpList Tryd.prog ops Q rest (a.put o.dst (.string ⟨l.toArray⟩)) w) : wpList Tryd.prog ops Q (o :: rest) a w := by
  refine wpList_plain hgd fun K hK => ?_
  have hrun := run_str_own w base v l hown
  unfold Oper.wp
  simp [execOp, ho, hx, hrun, Result.andThen]
  exact hK _ _ h
theorem wpList_appB {w : World} {ops : Array Oper} {rest : List Oper} {o : Oper} {a : Act} {Q : Exit → Act → World → Prop} (hgd : o.guard = none) (s x : Operand)
    (ho : o.op = .call { callee := .builtin .append, args := #[s, x], argTypes := #[64, 64] })
    (base : Nat) (v : Value) (l : List UInt8) (hs : a.eval s = v) (hown : OwnB w base v l)
    (vals : Array Value) (te : TypeId) (m c : Nat) (news : List UInt8) (hx : a.eval x = .slice (some ⟨w.heap.size, 0, none⟩) m c) (hm : news.length = m) (hv : vals.toList = news.map bcell)
    (hbytes : l.length + m ≤ 140737488355328) (hbase : base ≤ w.heap.size)
    (h : ∀ v' w', OwnB w' base v' (l ++ news) → w.grownBy w' v.ownBlock → wpList Tryd.prog ops Q rest (a.put o.dst v') w') : wpList Tryd.prog ops Q (o :: rest) a (w.alloc (.cells vals te)) := by
  refine wpList_app hgd s x _ ho base 5 (.int .u8 0) 1 und44 info5' rfl v _ hs hown vals te m c (news.map bcell) hx (by simpa using hm) hv (bcell_one _) (by simpa using hbytes) (by simpa using hbytes) hbase ?_
  intro v' w' h1 h2
  exact h v' w' (by unfold OwnB; rw [List.map_append]; exact h1) h2
end Go.Proofs.YtoanekgphcijfaaDoor
