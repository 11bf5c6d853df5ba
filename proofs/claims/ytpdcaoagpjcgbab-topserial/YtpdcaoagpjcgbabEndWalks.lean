/-
  Appending acts that are written out, and what the laws of the whole compare at the end. It proves no statement by itself.
-/
import Derived.Test.YtpdcaoagpjcgbabTopRun
set_option linter.unusedVariables false
set_option linter.unusedSimpArgs false
namespace Go.Proofs.Ytpdcaoagpjcgbab
open Go.RowKit Stm

theorem acts_new (w : World) (l : List Stm.Act) (t : TypeId) : ∀ j u, (ccells l)[j]? = some u → (w.alloc (.cells (ccells l).toArray t)).cell? ((⟨w.heap.size, 0, none⟩ : Addr).add j) = some u := fun j u hu => by
  rw [addr_add]
  exact (BoxL.new w (ccells l) t).cell j u hu

set_option maxRecDepth 100000 in
theorem Try.eqlAns (w : World) (a : Int) (b : Bool) (c : Int) (d : Bool) (e : Int) (f : Bool) (g : Int) :
    (binOp .eql 74 (.agg #[.int .i64 a, .bool b, .int .i64 c, .bool d, .int .i64 e, .bool f, .int .i64 g]) (.agg #[.int .i64 a, .bool b, .int .i64 c, .bool d, .int .i64 e, .bool f, .int .i64 g])).run Try.prog w = .ok (.bool true) w := by
  go_simp
  try simp

theorem wpList_append_lit {ops : Array Oper} {rest : List Oper} {o : Oper} {a : Go.Act} {Q : Exit → Go.Act → World → Prop} (W wr : World) (B : Array Value) (t : TypeId) (hgd : o.guard = none) (s x : Operand)
    (ho : o.op = .call { callee := .builtin .append, args := #[s, x], argTypes := #[61, 61] }) (v : Value) (k : Nat) (l m : List Stm.Act)
    (hs : a.eval s = v) (hB : B = (ccells m).toArray) (hk : m.length = k) (hx : a.eval x = .slice (some ⟨wr.heap.size, 0, none⟩) k k) (hl : OwnC wr W.heap.size v l) (hn : l.length + k ≤ 1000) (hb : Below W.heap.size W wr)
    (h : ∀ v' w', OwnC w' W.heap.size v' (l ++ m) → Below W.heap.size W w' → wpList Try.prog ops Q rest (a.put o.dst v') w') : wpList Try.prog ops Q (o :: rest) a (wr.alloc (.cells B t)) := by
  obtain ⟨iA, hiA, hA0, hA1, hA2⟩ := info_parts Try.actInfo
  subst hB hk
  refine wpList_append_at _ hgd s x 61 ho W.heap.size 71 iA _ 5 40 Try.underlying61 hiA hA0 hA1 hA2 rfl (by decide) v l.length (ccells l) hs (World.ownsRow.alloc hl _) ⟨wr.heap.size, 0, none⟩ m.length m.length (ccells m) hx (ccells_length m) (acts_new wr m _) ?_ ?_ ?_ ?_ ?_
  · intro u hu
    obtain ⟨y, _, hy⟩ := List.mem_flatMap.1 hu
    simp [actCells] at hy
    rcases hy with rfl | rfl | rfl | rfl | rfl <;> rfl
  · unfold maxLen; omega
  · omega
  · have := hb.size; simp; omega
  · intro v' w' h2 hg2 _ _
    have hvb : ∀ g, v.ownBlock = some g → W.heap.size ≤ g := fun g hg => (World.ownsRow.lt hl g hg).1
    have hsz : wr.heap.size + 1 ≤ w'.heap.size := by have h9 := hg2.size; simpa using h9
    have hbs := hb.size
    refine h v' w' (by unfold OwnC; rw [ccells_append, List.length_append]; exact h2) ⟨hg2.os.trans hb.os, hg2.tape.trans hb.tape, hg2.output.trans hb.output, by omega, fun k hk => ?_⟩
    rw [hg2.block k (by simp; omega) (fun e => by have := hvb k e.symm; omega), Below.heap_alloc _ _ _ (by omega)]
    exact hb.block k hk
end Go.Proofs.Ytpdcaoagpjcgbab

