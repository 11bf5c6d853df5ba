/-
  Memory of limewashtop.TopSerial, and the walk of its closure. It proves no statement by itself.
-/
import Derived.Test.YtpdcaoagpjcgbabEndWalks
import Derived.Test.YtpdcaoagpjcgbabSimC
import Derived.Test.YtpdcaoagpjcgbabAbsA
import Derived.Deep.AppendLies
import Derived.Deep.RegionLaw
import Derived.BigRegion
import Derived.Test.YtpdcaoagpjcgbabFreeA
set_option linter.unusedVariables false
set_option linter.unusedSimpArgs false
namespace Go.Proofs.Ytpdcaoagpjcgbab
open Go.RowKit Stm

/-- What the law holds while it goes over the script. -/
structure SM (W0 : World) (N : Nat) (S : List Stm.Act) (A : List Ans) (parts : Nat → List Nat) (opn : Nat → Nat) (v7 v8 : Value) (p : Nat → Value) (wr : World) : Prop where
  size : N + 4 ≤ wr.heap.size
  bel : Below N W0 wr
  b7 : wr.heap[N]? = some (.cells #[v7] 61 (0, 0))
  b8 : wr.heap[N + 1]? = some (.cells #[v8] 62 (0, 0))
  b9 : wr.heap[N + 2]? = some (.cells #[p 0, p 1, p 2, p 3] 81 (0, 0))
  b10 : wr.heap[N + 3]? = some (.cells #[.int .i64 (opn 0 : Nat), .int .i64 (opn 1 : Nat), .int .i64 (opn 2 : Nat), .int .i64 (opn 3 : Nat)] 82 (0, 0))
  o7 : OwnC wr (N + 4) v7 S
  o8 : OwnA wr (N + 4) v8 A
  op : ∀ t, t < 4 → Own wr (N + 4) (p t) (nums (parts t))
  apart : ∀ t u, t < 4 → u < 4 → t ≠ u → ∀ g, (p t).ownBlock = some g → (p u).ownBlock ≠ some g

section
variable {P : Program}
theorem step_append_at {ops : Array Oper} {o : Oper} {a : Go.Act} {w : World} {K : Go.Act → World → Prop} {Q : Exit → Go.Act → World → Prop} {E : Prop} (hgd : o.guard = none) (s x : Operand) (t : TypeId)
    (ho : o.op = .call { callee := .builtin .append, args := #[s, x], argTypes := #[t, t] })
    (base : Nat) (e : TypeId) (i : TypeInfo) (z : Value) (size bytes : Nat) (ht : P.underlying t = some (.slice e)) (hi : P.info? e = some i) (hz : i.zero = some z)
    (hsize : i.size = size) (hby : i.bytes = bytes) (hzs : z.cells.size = size) (hsz : 0 < size)
    (v : Value) (n : Nat) (xs : List Value) (hs : a.eval s = v) (hown : w.ownsRow base e size v n xs)
    (ad : Addr) (m c : Nat) (news : List Value) (hx : a.eval x = .slice (some ad) m c) (hl : news.length = m * size) (hnews : ∀ j u, news[j]? = some u → w.cell? (ad.add j) = some u) (h1 : ∀ u ∈ news, u.oneCell' = true)
    (h63 : n + m ≤ maxLen) (hbytes : (n + m) * bytes ≤ 140737488355328) (hbase : base ≤ w.heap.size)
    (h : ∀ v' w', w'.ownsRow base e size v' (n + m) (xs ++ news) → w.grownBy w' v.ownBlock → (∀ g, v'.ownBlock = some g → v.ownBlock = some g ∨ g = w.heap.size) → K (a.put o.dst v') w') :
    if Region.wanted o (yielded ops a.tmps) = true then Oper.wp P o a w K Q else E := by
  have hw : Region.wanted o (yielded ops a.tmps) = true := by simp [Region.wanted, hgd]
  rw [if_pos hw]
  obtain ⟨v', w', hr, h2, h3, h4, _⟩ := run_append_at (P := P) w base t o.type e i z size bytes ht hi hz hsize hby hzs hsz v n xs hown ad m c news hl hnews h1 h63 hbytes hbase
  unfold Oper.wp execOp
  simp only [ho, resolve, invoke, builtin, Sem.run_bind, Sem.run_pure, Result.andThen_ok, List.map_toArray, List.map_cons, List.map_nil, hs, hx, hr]
  exact h v' w' h2 h3 h4
end

/-- What the closure finds of the script and its answers. -/
structure SC (W0 : World) (b3 b5 gA LA cA gX oX cX : Nat) (AL : List Stm.Act) (xs : List Ans) : Prop where
  c3 : W0.cell? ⟨b3, 0, none⟩ = some (.slice (some ⟨gA, 0, none⟩) LA cA)
  c5 : W0.cell? ⟨b5, 0, none⟩ = some (.slice (some ⟨gX, oX, none⟩) LA cX)
  la : AL.length = LA
  lx : xs.length = LA
  small : LA ≤ 100
  acts : ActsAt W0 (some ⟨gA, 0, none⟩) AL
  answers : AnsAt W0 (some ⟨gX, oX, none⟩) xs

theorem SM.cellP {W0 : World} {N : Nat} {S : List Stm.Act} {A : List Ans} {parts : Nat → List Nat} {opn : Nat → Nat} {v7 v8 : Value} {p : Nat → Value} {wr : World} (h : SM W0 N S A parts opn v7 v8 p wr) {t : Nat} (ht : t < 4) : wr.cell? ⟨N + 2, t, none⟩ = some (p t) ∧ wr.frozen? ⟨N + 2, t, none⟩ = false := by
  have hc := cell_of_row wr (N + 2) t _ _ _ h.b9
  refine ⟨?_, frozen_of_row wr (N + 2) t _ _ h.b9⟩
  rw [hc]
  match t, ht with
  | 0, _ => rfl
  | 1, _ => rfl
  | 2, _ => rfl
  | 3, _ => rfl
theorem SM.cellO {W0 : World} {N : Nat} {S : List Stm.Act} {A : List Ans} {parts : Nat → List Nat} {opn : Nat → Nat} {v7 v8 : Value} {p : Nat → Value} {wr : World} (h : SM W0 N S A parts opn v7 v8 p wr) {t : Nat} (ht : t < 4) : wr.cell? ⟨N + 3, t, none⟩ = some (.int .i64 (opn t : Nat)) ∧ wr.frozen? ⟨N + 3, t, none⟩ = false := by
  have hc := cell_of_row wr (N + 3) t _ _ _ h.b10
  refine ⟨?_, frozen_of_row wr (N + 3) t _ _ h.b10⟩
  rw [hc]
  match t, ht with
  | 0, _ => rfl
  | 1, _ => rfl
  | 2, _ => rfl
  | 3, _ => rfl

/-- Appending an act that lies in a block of its own, in a region whose order is drawn. -/
theorem step_append_act {ops : Array Oper} {o : Oper} {a : Go.Act} {X : World} {K : Go.Act → World → Prop} {Q : Exit → Go.Act → World → Prop} {E : Prop} (hgd : o.guard = none) (s x : Operand)
    (ho : o.op = .call { callee := .builtin .append, args := #[s, x], argTypes := #[61, 61] }) (base : Nat) (v : Value) (l : List Stm.Act) (r : Stm.Act) (B : Nat)
    (hs : a.eval s = v) (hx : a.eval x = .slice (some ⟨B, 0, none⟩) 1 1) (hl : OwnC X base v l) (hB : X.heap[B]? = some (.cells (actCells r).toArray 71 (0, 0))) (hn : l.length ≤ 900) (hb : base ≤ X.heap.size)
    (h : ∀ g n c w', OwnC w' base (.slice (some ⟨g, 0, none⟩) n c) (l ++ [r]) → X.grownBy w' v.ownBlock → K (a.put o.dst (.slice (some ⟨g, 0, none⟩) n c)) w') : if Region.wanted o (yielded ops a.tmps) = true then Oper.wp Try.prog o a X K Q else E := by
  obtain ⟨iA, hiA, hA0, hA1, hA2⟩ := info_parts Try.actInfo
  refine step_append_at hgd s x 61 ho base 71 iA _ 5 40 Try.underlying61 hiA hA0 hA1 hA2 rfl (by decide) v l.length (ccells l) hs hl ⟨B, 0, none⟩ 1 1 (actCells r) hx rfl (fun j u hu => World.news_of_block hB j u (by simpa using hu)) ?_ ?_ ?_ hb ?_
  · intro u hu; simp [actCells] at hu; rcases hu with rfl | rfl | rfl | rfl | rfl <;> rfl
  · unfold maxLen; omega
  · omega
  · intro v' w' h2 hg _
    have h3 : OwnC w' base v' (l ++ [r]) := by unfold OwnC; rw [ccells_append, ccells_one, List.length_append]; exact h2
    obtain ⟨g, cap, cur, e, _⟩ := h3.2.resolve_left (fun h => by simp at h)
    subst e
    exact h g _ cap w' h3 hg
theorem step_append_answer {ops : Array Oper} {o : Oper} {a : Go.Act} {X : World} {K : Go.Act → World → Prop} {Q : Exit → Go.Act → World → Prop} {E : Prop} (hgd : o.guard = none) (s x : Operand)
    (ho : o.op = .call { callee := .builtin .append, args := #[s, x], argTypes := #[62, 62] }) (base : Nat) (v : Value) (l : List Ans) (r : Ans) (B : Nat)
    (hs : a.eval s = v) (hx : a.eval x = .slice (some ⟨B, 0, none⟩) 1 1) (hl : OwnA X base v l) (hB : X.heap[B]? = some (.cells (ansCells r).toArray 74 (0, 0))) (hn : l.length ≤ 900) (hb : base ≤ X.heap.size)
    (h : ∀ g n c w', OwnA w' base (.slice (some ⟨g, 0, none⟩) n c) (l ++ [r]) → X.grownBy w' v.ownBlock → K (a.put o.dst (.slice (some ⟨g, 0, none⟩) n c)) w') : if Region.wanted o (yielded ops a.tmps) = true then Oper.wp Try.prog o a X K Q else E := by
  obtain ⟨iA, hiA, hA0, hA1, hA2⟩ := info_parts Try.answerInfo
  refine step_append_at hgd s x 62 ho base 74 iA _ 7 56 Try.underlying62 hiA hA0 hA1 hA2 rfl (by decide) v l.length (acells l) hs hl ⟨B, 0, none⟩ 1 1 (ansCells r) hx rfl (fun j u hu => World.news_of_block hB j u (by simpa using hu)) ?_ ?_ ?_ hb ?_
  · intro u hu; simp [ansCells] at hu; rcases hu with rfl | rfl | rfl | rfl | rfl | rfl | rfl <;> rfl
  · unfold maxLen; omega
  · omega
  · intro v' w' h2 hg _
    have h3 : OwnA w' base v' (l ++ [r]) := by unfold OwnA; rw [acells_snoc, List.length_append]; exact h2
    obtain ⟨g, cap, cur, e, _⟩ := h3.2.resolve_left (fun h => by simp at h)
    subst e
    exact h g _ cap w' h3 hg

/-- Blocks of rows of different types are different. -/
theorem row_type {w : World} {base size : Nat} {e : TypeId} {v : Value} {n g : Nat} {zs : List Value} (h : w.ownsRow base e size v n zs) (hg : v.ownBlock = some g) : ∃ cur, w.heap[g]? = some (.cells cur e (0, 0)) := by
  rcases h.2 with ⟨rfl, _⟩ | ⟨g', cap, cur, rfl, _, hh, _⟩
  · cases hg
  · injection hg with hg
    subst hg
    exact ⟨cur, hh⟩

/-- All old blocks but two are as they were. -/
structure Two (wr w2 : World) (x y : Option Nat) : Prop where
  os : w2.os = wr.os
  tape : w2.tape = wr.tape
  output : w2.output = wr.output
  size : wr.heap.size ≤ w2.heap.size
  block : ∀ k, k < wr.heap.size → some k ≠ x → some k ≠ y → w2.heap[k]? = wr.heap[k]?
theorem Two.of_below {wr X : World} (h : Below wr.heap.size wr X) (x y : Option Nat) : Two wr X x y := ⟨h.os, h.tape, h.output, h.size, fun k hk _ _ => h.block k hk⟩
theorem Two.left {wr X w1 : World} {x y : Option Nat} (h : Two wr X x y) (hg : X.grownBy w1 x) : Two wr w1 x y :=
  ⟨hg.os.trans h.os, hg.tape.trans h.tape, hg.output.trans h.output, Nat.le_trans h.size hg.size, fun k hk h1 h2 => (hg.block k (Nat.lt_of_lt_of_le hk h.size) h1).trans (h.block k hk h1 h2)⟩
theorem Two.right {wr X w1 : World} {x y : Option Nat} (h : Two wr X x y) (hg : X.grownBy w1 y) : Two wr w1 x y :=
  ⟨hg.os.trans h.os, hg.tape.trans h.tape, hg.output.trans h.output, Nat.le_trans h.size hg.size, fun k hk h1 h2 => (hg.block k (Nat.lt_of_lt_of_le hk h.size) h2).trans (h.block k hk h1 h2)⟩
theorem Two.step {wr X Y : World} {x y : Option Nat} (h : Two wr X x y) (hb : Below X.heap.size X Y) : Two wr Y x y :=
  ⟨hb.os.trans h.os, hb.tape.trans h.tape, hb.output.trans h.output, Nat.le_trans h.size hb.size, fun k hk h1 h2 => (hb.block k (Nat.lt_of_lt_of_le hk h.size)).trans (h.block k hk h1 h2)⟩

theorem OwnA.below2 {w w' : World} {base : Nat} {v : Value} {l : List Ans} (h : OwnA w base v l) (hb : Below w.heap.size w w') : OwnA w' base v l := ownsRow_kept h (fun g hg => hb.block g (World.ownsRow.lt h g hg).2)
theorem OwnC.grown {X w1 : World} {base : Nat} {v u : Value} {l : List Stm.Act} {m : List Ans} (h : OwnC X base v l) (hu : OwnA X base u m) (hg : X.grownBy w1 u.ownBlock) : OwnC w1 base v l :=
  ownsRow_kept h (fun g hv => hg.block g (World.ownsRow.lt h g hv).2 (fun e => by
    obtain ⟨c1, h1⟩ := row_type h hv
    obtain ⟨c2, h2⟩ := row_type hu e.symm
    rw [h1] at h2
    simp at h2))
theorem OwnA.grown {X w1 : World} {base : Nat} {v u : Value} {l : List Ans} {m : List Stm.Act} (h : OwnA X base v l) (hu : OwnC X base u m) (hg : X.grownBy w1 u.ownBlock) : OwnA w1 base v l :=
  ownsRow_kept h (fun g hv => hg.block g (World.ownsRow.lt h g hv).2 (fun e => by
    obtain ⟨c1, h1⟩ := row_type h hv
    obtain ⟨c2, h2⟩ := row_type hu e.symm
    rw [h1] at h2
    simp at h2))

/-- Both lists have got longer, and their variables hold them. -/
theorem SM.both {W0 : World} {N : Nat} {S S' : List Stm.Act} {A A' : List Ans} {parts : Nat → List Nat} {opn : Nat → Nat} {v7 v8 z7 z8 : Value} {p : Nat → Value} {wr w2 : World} (h : SM W0 N S A parts opn v7 v8 p wr) (hN : W0.heap.size = N) (ht : Two wr w2 v7.ownBlock v8.ownBlock) (h7 : OwnC w2 (N + 4) z7 S') (h8 : OwnA w2 (N + 4) z8 A') :
    SM W0 N S' A' parts opn z7 z8 p ((w2.setCell ⟨N, 0, none⟩ z7).setCell ⟨N + 1, 0, none⟩ z8) := by
  have ne7 : ∀ k, k < N + 4 → some k ≠ v7.ownBlock := fun k hk e => by have := (World.ownsRow.lt h.o7 k e.symm).1; omega
  have ne8 : ∀ k, k < N + 4 → some k ≠ v8.ownBlock := fun k hk e => by have := (World.ownsRow.lt h.o8 k e.symm).1; omega
  have hsz := h.size
  have old : ∀ k, k < N + 4 → w2.heap[k]? = wr.heap[k]? := fun k hk => ht.block k (by omega) (ne7 k hk) (ne8 k hk)
  have far : ∀ k, k ≠ N → k ≠ N + 1 → ((w2.setCell ⟨N, 0, none⟩ z7).setCell ⟨N + 1, 0, none⟩ z8).heap[k]? = w2.heap[k]? := fun k h1 h2 => by
    rw [Below.heap_setCell _ _ _ _ (fun e => h2 e), Below.heap_setCell _ _ _ _ (fun e => h1 e)]
  have hpk : ∀ t, t < 4 → ∀ g, (p t).ownBlock = some g → w2.heap[g]? = wr.heap[g]? := fun t ht' g hg => by
    have hl := World.ownsRow.lt (h.op t ht') g hg
    obtain ⟨c1, h1⟩ := row_type (h.op t ht') hg
    refine ht.block g hl.2 (fun e => ?_) (fun e => ?_)
    · obtain ⟨c2, h2⟩ := row_type h.o7 e.symm
      rw [h1] at h2
      simp at h2
    · obtain ⟨c2, h2⟩ := row_type h.o8 e.symm
      rw [h1] at h2
      simp at h2
  refine ⟨by have := ht.size; simp [World.setCell]; omega, ⟨ht.os.trans h.bel.os, ht.tape.trans h.bel.tape, ht.output.trans h.bel.output, by have := ht.size; simp [World.setCell]; omega, fun k hk => ?_⟩, ?_, ?_, ?_, ?_, ?_, ?_, fun t ht' => ?_, h.apart⟩
  · rw [far k (by omega) (by omega), old k (by omega)]
    exact h.bel.block k hk
  · rw [Below.heap_setCell _ _ _ _ (by show N ≠ N + 1; omega)]
    have := heap_setCell_same w2 N 0 #[v7] 61 z7 (by rw [old N (by omega)]; exact h.b7)
    simpa using this
  · have := heap_setCell_same (w2.setCell ⟨N, 0, none⟩ z7) (N + 1) 0 #[v8] 62 z8 (by rw [Below.heap_setCell _ _ _ _ (by show N + 1 ≠ N; omega), old (N + 1) (by omega)]; exact h.b8)
    simpa using this
  · rw [far (N + 2) (by omega) (by omega), old (N + 2) (by omega)]; exact h.b9
  · rw [far (N + 3) (by omega) (by omega), old (N + 3) (by omega)]; exact h.b10
  · exact ownsRow_kept h7 (fun g hg => far g (by have := (World.ownsRow.lt h7 g hg).1; omega) (by have := (World.ownsRow.lt h7 g hg).1; omega))
  · exact ownsRow_kept h8 (fun g hg => far g (by have := (World.ownsRow.lt h8 g hg).1; omega) (by have := (World.ownsRow.lt h8 g hg).1; omega))
  · refine ownsRow_kept (h.op t ht') (fun g hg => ?_)
    have := (World.ownsRow.lt (h.op t ht') g hg).1
    rw [far g (by omega) (by omega)]
    exact hpk t ht' g hg

end Go.Proofs.Ytpdcaoagpjcgbab

/-
  Plain mathematics: the scripts of limewashtop.TopSerial. It proves no statement by itself.
-/
namespace Go.Proofs.Ytpdcaoagpjcgbab
open Stm

def actAt (AL : List Stm.Act) (i : Nat) : Stm.Act := AL.getD i ⟨0, 0, 0, 0, 0⟩
def ansAt (xs : List Ans) (i : Nat) : Ans := xs.getD i (.err 0)
/-- An act of one of the four threads. -/
def Fit4 (a : Stm.Act) : Prop := 0 ≤ a.t ∧ a.t < 4 ∧ (a.kind = 8 → 0 ≤ a.n ∧ a.n < 4)
/-- What the law has done behind the first i acts. -/
def serTo (AL : List Stm.Act) (xs : List Ans) (i : Nat) : SerSt Nat := (List.range i).foldl (serStep (actAt AL) (ansAt xs)) ⟨[], fun _ => [], fun _ => 0⟩
theorem serTo_succ (AL : List Stm.Act) (xs : List Ans) (i : Nat) : serTo AL xs (i + 1) = serStep (actAt AL) (ansAt xs) (serTo AL xs i) i := by
  unfold serTo
  rw [List.range_succ, List.foldl_append]
  rfl

/-- Sizes and members. -/
structure SerOk (σ : SerSt Nat) (i : Nat) : Prop where
  size : σ.placed.length + (σ.parts 0).length + (σ.parts 1).length + (σ.parts 2).length + (σ.parts 3).length ≤ i
  placed : ∀ q ∈ σ.placed, q < i
  parts : ∀ t, t < 4 → ∀ q ∈ σ.parts t, q < i
  opn : ∀ t, t < 4 → σ.opn t ≤ i

theorem four {t : Nat} (h : t < 4) : t = 0 ∨ t = 1 ∨ t = 2 ∨ t = 3 := by omega

theorem SerOk.start : SerOk ⟨[], fun _ => [], fun _ => 0⟩ 0 := ⟨by simp, fun q h => (by simp at h), fun t _ q h => (by simp at h), fun t _ => Nat.le_refl _⟩

theorem SerOk.step {AL : List Stm.Act} {xs : List Ans} {σ : SerSt Nat} {i : Nat} (h : SerOk σ i) (hf : Fit4 (actAt AL i)) : SerOk (serStep (actAt AL) (ansAt xs) σ i) (i + 1) := by
  obtain ⟨f1, f2, f3⟩ := hf
  have ht : (actAt AL i).t.toNat < 4 := by omega
  have hpt := h.parts _ ht
  have hot := h.opn _ ht
  have hsz := h.size
  have pl : ∀ q ∈ σ.placed, q < i + 1 := fun q hq => Nat.lt_succ_of_lt (h.placed q hq)
  have pp : ∀ t, t < 4 → ∀ q ∈ σ.parts t, q < i + 1 := fun t ht q hq => Nat.lt_succ_of_lt (h.parts t ht q hq)
  have po : ∀ t, t < 4 → σ.opn t ≤ i + 1 := fun t ht => Nat.le_succ_of_le (h.opn t ht)
  have hlen : ∀ t, t < 4 → (σ.parts t).length ≤ i := fun t ht => by rcases four ht with rfl | rfl | rfl | rfl <;> omega
  have hnt : (actAt AL i).kind = 8 ∧ (actAt AL i).n ≠ (actAt AL i).t → (actAt AL i).n.toNat ≠ (actAt AL i).t.toNat := fun hk => by have := f3 hk.1; omega
  unfold serStep
  generalize (actAt AL i).t.toNat = t at ht hpt hot hnt
  dsimp only
  split
  · refine ⟨?_, pl, fun u hu q hq => ?_, po⟩
    · dsimp only
      have := List.length_take_le (σ.opn t) (σ.parts t)
      rcases four ht with rfl | rfl | rfl | rfl <;> simp only [upd] <;> simp <;> omega
    · dsimp only at hq
      by_cases e : u = t
      · subst e; rw [upd_same] at hq; exact pp u hu q (List.mem_of_mem_take hq)
      · rw [upd_other _ _ e] at hq; exact pp u hu q hq
  · split
    · exact ⟨by omega, pl, pp, po⟩
    · split
      · refine ⟨?_, pl, fun u hu q hq => ?_, fun u hu => ?_⟩
        · dsimp only
          rcases four ht with rfl | rfl | rfl | rfl <;> simp only [upd] <;> simp <;> omega
        · dsimp only at hq
          by_cases e : u = t
          · subst e
            rw [upd_same] at hq
            rcases List.mem_append.1 hq with hq | hq
            · exact pp u hu q hq
            · simp at hq; omega
          · rw [upd_other _ _ e] at hq; exact pp u hu q hq
        · dsimp only
          by_cases e : u = t
          · subst e; rw [upd_same]; have := hlen u hu; omega
          · rw [upd_other _ _ e]; exact po u hu
      · split
        · rename_i hk
          have hn4 := f3 hk.1
          have hn : (actAt AL i).n.toNat < 4 := by omega
          have hpn := h.parts _ hn
          have hne := hnt hk
          generalize (actAt AL i).n.toNat = n at hn hpn hne
          refine ⟨?_, fun q hq => ?_, fun u hu q hq => ?_, po⟩
          · dsimp only
            rcases four ht with rfl | rfl | rfl | rfl <;> rcases four hn with rfl | rfl | rfl | rfl <;> first | exact absurd rfl hne | (simp only [upd]; simp; omega)
          · dsimp only at hq
            simp only [List.mem_append] at hq
            rcases hq with (hq | hq) | hq | hq
            · exact pl q hq
            · exact Nat.lt_succ_of_lt (hpn q hq)
            · exact Nat.lt_succ_of_lt (hpt q hq)
            · simp at hq; omega
          · dsimp only at hq
            by_cases e : u = t
            · subst e; rw [upd_same] at hq; simp at hq
            · rw [upd_other _ _ e] at hq
              by_cases e2 : u = n
              · subst e2; rw [upd_same] at hq; simp at hq
              · rw [upd_other _ _ e2] at hq; exact pp u hu q hq
        · split
          · refine ⟨?_, fun q hq => ?_, fun u hu q hq => ?_, po⟩
            · dsimp only
              rcases four ht with rfl | rfl | rfl | rfl <;> simp only [upd] <;> simp <;> omega
            · dsimp only at hq
              simp only [List.mem_append] at hq
              rcases hq with hq | hq | hq
              · exact pl q hq
              · exact Nat.lt_succ_of_lt (hpt q hq)
              · simp at hq; omega
            · dsimp only at hq
              by_cases e : u = t
              · subst e; rw [upd_same] at hq; simp at hq
              · rw [upd_other _ _ e] at hq; exact pp u hu q hq
          · refine ⟨?_, pl, fun u hu q hq => ?_, po⟩
            · dsimp only
              rcases four ht with rfl | rfl | rfl | rfl <;> simp only [upd] <;> simp <;> omega
            · dsimp only at hq
              by_cases e : u = t
              · subst e
                rw [upd_same] at hq
                rcases List.mem_append.1 hq with hq | hq
                · exact pp u hu q hq
                · simp at hq; omega
              · rw [upd_other _ _ e] at hq; exact pp u hu q hq

theorem serOk {AL : List Stm.Act} {xs : List Ans} (hf : ∀ a ∈ AL, Fit4 a) : ∀ i, i ≤ AL.length → SerOk (serTo AL xs i) i
  | 0, _ => SerOk.start
  | i + 1, h => by
    rw [serTo_succ]
    refine (serOk hf i (by omega)).step (hf _ ?_)
    unfold actAt
    rw [List.getD_eq_getElem?_getD, List.getElem?_eq_getElem (by omega)]
    exact List.getElem_mem _

theorem map_actAt (AL : List Stm.Act) : (List.range AL.length).map (actAt AL) = AL := by
  refine List.ext_getElem (by simp) fun i h1 h2 => ?_
  simp only [List.getElem_map, List.getElem_range]
  unfold actAt
  rw [List.getD_eq_getElem?_getD, List.getElem?_eq_getElem h2]
  rfl
theorem map_ansAt (xs : List Ans) : (List.range xs.length).map (ansAt xs) = xs := by
  refine List.ext_getElem (by simp) fun i h1 h2 => ?_
  simp only [List.getElem_map, List.getElem_range]
  unfold ansAt
  rw [List.getD_eq_getElem?_getD, List.getElem?_eq_getElem h2]
  rfl

/-- What is placed in the end. -/
def serEnd (σ : SerSt Nat) : List Nat := σ.placed ++ σ.parts 0 ++ σ.parts 1 ++ σ.parts 2 ++ σ.parts 3

theorem serial_same {P : List Stm.Act} {xs ys : List Ans} {c c' : Mc} {lf lf' : List Nat} (h : RunC 400 (P ++ aborts 4) xs c lf) (h' : RunC 400 ((serEnd (serTo (P ++ aborts 4) xs (P ++ aborts 4).length)).map (actAt (P ++ aborts 4))) ys c' lf')
    (hl : (P ++ aborts 4).length ≤ 79) (hs : Small (P ++ aborts 4)) (hc : ∀ a ∈ P ++ aborts 4, ¬ Stm.Clean a) (hf : ∀ a ∈ P ++ aborts 4, Fit4 a) : ys = (serEnd (serTo (P ++ aborts 4) xs (P ++ aborts 4).length)).map (ansAt xs) := by
  have hlen := h.length
  obtain ⟨⟨s, nm, hA, hw, hsim⟩, _⟩ := sim_run h (by omega) hs (Nat.le_trans (news_le _) hl)
  have hg := h.good (by omega) (by omega)
  have hsh := aborts_shut 4 (by omega) h
  have hcl : ∀ u, (s.th u).tx = none := fun u => by
    refine hsim.shutA ?_
    rcases Nat.lt_or_ge u 4 with h5 | h5
    · rw [hsh u h5]; decide
    · rw [hg.inv.high u h5]; decide
  have hok := serOk (xs := xs) hf (P ++ aborts 4).length (Nat.le_refl _)
  generalize hALe : P ++ aborts 4 = AL at *
  have hmem : ∀ q, q < AL.length → actAt AL q ∈ AL := fun q hq => by
    unfold actAt
    rw [List.getD_eq_getElem?_getD, List.getElem?_eq_getElem hq]
    exact List.getElem_mem _
  have hrun : RunA AS.init ((List.range AL.length).map (actAt AL)) ((List.range AL.length).map (ansAt xs)) s := by
    have e := map_ansAt xs
    rw [hlen] at e
    rw [map_actAt, e]
    exact hA
  obtain ⟨S1, k1⟩ := Ser.all (act := actAt AL) (ans := ansAt xs) (Ser.start _ _) Wf.init (fun e he => hc _ (hmem e (List.mem_range.1 he))) hrun
  obtain ⟨S2, k2⟩ := k1.place (t := 0) (hcl 0)
  obtain ⟨S3, k3⟩ := k2.place (t := 1) (hcl 1)
  obtain ⟨S4, k4⟩ := k3.place (t := 2) (hcl 2)
  obtain ⟨S5, k5⟩ := k4.place (t := 3) (hcl 3)
  have hend := k5.run
  have he : (serTo AL xs AL.length).placed ++ (serTo AL xs AL.length).parts 0 ++ (serTo AL xs AL.length).parts 1 ++ (serTo AL xs AL.length).parts 2 ++ (serTo AL xs AL.length).parts 3 = serEnd (serTo AL xs AL.length) := rfl
  have hend' : RunA AS.init ((serEnd (serTo AL xs AL.length)).map (actAt AL)) ((serEnd (serTo AL xs AL.length)).map (ansAt xs)) S5 := by
    rw [← he]
    exact hend
  have hq : ∀ q ∈ serEnd (serTo AL xs AL.length), q < AL.length := fun q hq => by
    unfold serEnd at hq
    simp only [List.mem_append] at hq
    rcases hq with (((hq | hq) | hq) | hq) | hq
    · exact hok.placed q hq
    · exact hok.parts 0 (by omega) q hq
    · exact hok.parts 1 (by omega) q hq
    · exact hok.parts 2 (by omega) q hq
    · exact hok.parts 3 (by omega) q hq
  have hl2 : ((serEnd (serTo AL xs AL.length)).map (actAt AL)).length ≤ 79 := by
    rw [List.length_map]
    unfold serEnd
    have := hok.size
    simp only [List.length_append]
    omega
  have hin : ∀ a ∈ (serEnd (serTo AL xs AL.length)).map (actAt AL), a ∈ AL := fun a ha => by
    obtain ⟨q, hq', rfl⟩ := List.mem_map.1 ha
    exact hmem q (hq q hq')
  obtain ⟨⟨s2, nm2, hA2, _, _⟩, _⟩ := sim_run h' (by omega) (fun a ha => hs a (hin a ha)) (Nat.le_trans (news_le _) hl2)
  exact (RunA.det (fun a ha => hc a (hin a ha)) hA2 hend').1
end Go.Proofs.Ytpdcaoagpjcgbab

/-
  Memory of limewashtop.TopSerial: how it turns. It proves no statement by itself.
-/
namespace Go.Proofs.Ytpdcaoagpjcgbab
open Go.RowKit Stm

section
variable {W0 : World} {N : Nat} {S : List Stm.Act} {A : List Ans} {parts : Nat → List Nat} {opn : Nat → Nat} {v7 v8 : Value} {p : Nat → Value} {wr : World}

theorem SM.below (h : SM W0 N S A parts opn v7 v8 p wr) {X : World} (hb : Below wr.heap.size wr X) : SM W0 N S A parts opn v7 v8 p X := by
  have hs := h.size
  refine ⟨Nat.le_trans hs hb.size, ⟨hb.os.trans h.bel.os, hb.tape.trans h.bel.tape, hb.output.trans h.bel.output, Nat.le_trans h.bel.size hb.size, fun k hk => (hb.block k (by omega)).trans (h.bel.block k hk)⟩, ?_, ?_, ?_, ?_, h.o7.below hb, h.o8.below2 hb, fun t ht => ownsRow_kept (h.op t ht) (fun g hg => hb.block g (World.ownsRow.lt (h.op t ht) g hg).2), h.apart⟩
  · rw [hb.block N (by omega)]; exact h.b7
  · rw [hb.block (N + 1) (by omega)]; exact h.b8
  · rw [hb.block (N + 2) (by omega)]; exact h.b9
  · rw [hb.block (N + 3) (by omega)]; exact h.b10

theorem four_set {α : Type} (p : Nat → α) {t : Nat} (ht : t < 4) (v : α) : (#[p 0, p 1, p 2, p 3] : Array α).setIfInBounds t v = #[upd p t v 0, upd p t v 1, upd p t v 2, upd p t v 3] := by
  rcases four ht with rfl | rfl | rfl | rfl <;> simp [upd]

/-- The parts of a thread are another list. -/
theorem SM.setPart (h : SM W0 N S A parts opn v7 v8 p wr) {t : Nat} (ht : t < 4) {w1 : World} (hg : wr.grownBy w1 (p t).ownBlock) {v : Value} {l : List Nat} (hv : Own w1 (N + 4) v (nums l)) (hf : ∀ g, v.ownBlock = some g → (p t).ownBlock = some g ∨ wr.heap.size ≤ g) :
    SM W0 N S A (upd parts t l) opn v7 v8 (upd p t v) (w1.setCell ⟨N + 2, t, none⟩ v) := by
  have hs := h.size
  have low : ∀ k, k < N + 4 → some k ≠ (p t).ownBlock := fun k hk e => by have := (World.ownsRow.lt (h.op t ht) k e.symm).1; omega
  have old : ∀ k, k < N + 4 → w1.heap[k]? = wr.heap[k]? := fun k hk => hg.block k (by omega) (low k hk)
  have far : ∀ k, k ≠ N + 2 → (w1.setCell ⟨N + 2, t, none⟩ v).heap[k]? = w1.heap[k]? := fun k hk => Below.heap_setCell _ _ _ _ hk
  have row : ∀ {e : TypeId} {size : Nat} {u : Value} {n : Nat} {zs : List Value}, wr.ownsRow (N + 4) e size u n zs → (∀ g, u.ownBlock = some g → some g ≠ (p t).ownBlock) → (w1.setCell ⟨N + 2, t, none⟩ v).ownsRow (N + 4) e size u n zs := fun hu hne => ownsRow_kept hu (fun g hg' => by
    have hl := World.ownsRow.lt hu g hg'
    rw [far g (by omega)]
    exact hg.block g hl.2 (hne g hg'))
  refine ⟨by have := hg.size; simp [World.setCell]; omega, ⟨hg.os.trans h.bel.os, hg.tape.trans h.bel.tape, hg.output.trans h.bel.output, by have := hg.size; have := h.bel.size; simp [World.setCell]; omega, fun k hk => ?_⟩, ?_, ?_, ?_, ?_, ?_, ?_, fun u hu => ?_, fun u x hu hx hne g hgu => ?_⟩
  · rw [far k (by omega), old k (by omega)]; exact h.bel.block k hk
  · rw [far N (by omega), old N (by omega)]; exact h.b7
  · rw [far (N + 1) (by omega), old (N + 1) (by omega)]; exact h.b8
  · have := heap_setCell_same w1 (N + 2) t #[p 0, p 1, p 2, p 3] 81 v (by rw [old (N + 2) (by omega)]; exact h.b9)
    rw [four_set p ht v] at this
    exact this
  · rw [far (N + 3) (by omega), old (N + 3) (by omega)]; exact h.b10
  · exact row h.o7 (fun g hg' e => by
      obtain ⟨c1, h1⟩ := row_type h.o7 hg'
      obtain ⟨c2, h2⟩ := row_type (h.op t ht) e.symm
      rw [h1] at h2
      simp at h2)
  · exact row h.o8 (fun g hg' e => by
      obtain ⟨c1, h1⟩ := row_type h.o8 hg'
      obtain ⟨c2, h2⟩ := row_type (h.op t ht) e.symm
      rw [h1] at h2
      simp at h2)
  · by_cases e : u = t
    · subst e
      rw [upd_same, upd_same]
      exact ownsRow_kept hv (fun g hg' => far g (by have := (World.ownsRow.lt hv g hg').1; omega))
    · rw [upd_other _ _ e, upd_other _ _ e]
      exact row (h.op u hu) (fun g hg' e2 => h.apart u t hu ht e g hg' e2.symm)
  · by_cases e : u = t
    · subst e
      rw [upd_same] at hgu
      rw [upd_other _ _ (Ne.symm hne)]
      rcases hf g hgu with h1 | h1
      · exact h.apart u x hu hx hne g h1
      · intro e2
        have := (World.ownsRow.lt (h.op x hx) g e2).2
        omega
    · rw [upd_other _ _ e] at hgu
      by_cases e2 : x = t
      · subst e2
        rw [upd_same]
        intro e3
        rcases hf g e3 with h1 | h1
        · exact h.apart u x hu hx hne g hgu h1
        · have := (World.ownsRow.lt (h.op u hu) g hgu).2
          omega
      · rw [upd_other _ _ e2]
        exact h.apart u x hu hx hne g hgu

/-- The mark of a thread is another number. -/
theorem SM.setOpn (h : SM W0 N S A parts opn v7 v8 p wr) {t : Nat} (ht : t < 4) (k : Nat) : SM W0 N S A parts (upd opn t k) v7 v8 p (wr.setCell ⟨N + 3, t, none⟩ (.int .i64 (k : Int))) := by
  have hs := h.size
  have far : ∀ j, j ≠ N + 3 → (wr.setCell ⟨N + 3, t, none⟩ (.int .i64 (k : Int))).heap[j]? = wr.heap[j]? := fun j hj => Below.heap_setCell _ _ _ _ hj
  have row : ∀ {e : TypeId} {size : Nat} {u : Value} {n : Nat} {zs : List Value}, wr.ownsRow (N + 4) e size u n zs → (wr.setCell ⟨N + 3, t, none⟩ (.int .i64 (k : Int))).ownsRow (N + 4) e size u n zs := fun hu => ownsRow_kept hu (fun g hg' => far g (by have := (World.ownsRow.lt hu g hg').1; omega))
  refine ⟨by simp [World.setCell]; omega, ⟨h.bel.os, h.bel.tape, h.bel.output, by have := h.bel.size; simp [World.setCell]; omega, fun j hj => by rw [far j (by omega)]; exact h.bel.block j hj⟩, ?_, ?_, ?_, ?_, row h.o7, row h.o8, fun u hu => row (h.op u hu), h.apart⟩
  · rw [far N (by omega)]; exact h.b7
  · rw [far (N + 1) (by omega)]; exact h.b8
  · rw [far (N + 2) (by omega)]; exact h.b9
  · have := heap_setCell_same wr (N + 3) t _ 82 (.int .i64 (k : Int)) h.b10
    have e := four_set (fun u => Value.int .i64 ((opn u : Nat) : Int)) ht (.int .i64 (k : Int))
    rw [e] at this
    have hu : ∀ u, upd (fun u => Value.int .i64 ((opn u : Nat) : Int)) t (.int .i64 (k : Int)) u = Value.int .i64 ((upd opn t k u : Nat) : Int) := fun u => by
      by_cases e2 : u = t
      · subst e2; rw [upd_same, upd_same]
      · rw [upd_other _ _ e2, upd_other _ _ e2]
    rw [hu, hu, hu, hu] at this
    exact this
end

/-- The first numbers of a list of one's own, whatever it is. -/
theorem Own.cutAt {w : World} {base n c : Nat} {a : Option Addr} {l : List Nat} (h : Own w base (.slice a n c) (nums l)) {k : Nat} (hk : k ≤ l.length) : Own w base (.slice a k c) (nums (l.take k)) := by
  cases a with
  | none =>
    rcases h.2 with ⟨e, h1⟩ | ⟨g, cap, cur, e, _⟩
    · rw [nums_length] at h1
      obtain rfl := List.length_eq_zero_iff.1 h1
      obtain rfl : k = 0 := by simpa using hk
      injection e with e1 e2 e3
      subst e2 e3
      simpa using h
    · cases e
  | some x =>
    rcases h.2 with ⟨e, _⟩ | ⟨g, cap, cur, e, _⟩
    · cases e
    · injection e with e1 e2 e3
      injection e1 with e1
      subst e1 e3
      have h2 : Own w base (.slice (some ⟨g, 0, none⟩) n c) (nums l) := h
      have := Own.firsts h2 k (by rw [nums_length]; exact hk)
      unfold nums at this ⊢
      rw [List.map_take]
      exact this
end Go.Proofs.Ytpdcaoagpjcgbab

/-
  The acts of a thread in limewashtop.TopSerial: appending to them, and where a transaction begins among them. It proves no statement by itself.
-/
namespace Go.Proofs.Ytpdcaoagpjcgbab
open Go.RowKit Stm

theorem wpList_append_part {ops : Array Oper} {rest : List Oper} {o : Oper} {a : Go.Act} {Q : Exit → Go.Act → World → Prop} {W0 : World} {N : Nat} {S : List Stm.Act} {A : List Ans} {parts : Nat → List Nat} {opn : Nat → Nat} {v7 v8 : Value} {p : Nat → Value} (X : World) (B : Array Value) (ty : TypeId) (hgd : o.guard = none) (s x : Operand)
    (ho : o.op = .call { callee := .builtin .append, args := #[s, x], argTypes := #[25, 25] }) (h : SM W0 N S A parts opn v7 v8 p X) (t : Nat) (ht : t < 4) (v : Value) (hv : v = p t) (q P : Nat)
    (hs : a.eval s = v) (hB : B = #[.int .i64 (q : Int)]) (hx : a.eval x = .slice (some ⟨P, 0, none⟩) 1 1) (hP : X.heap.size = P) (hn : (parts t).length ≤ 900)
    (hK : ∀ g n c w', SM W0 N S A (upd parts t (parts t ++ [q])) opn v7 v8 (upd p t (.slice (some ⟨g, 0, none⟩) n c)) (w'.setCell ⟨N + 2, t, none⟩ (.slice (some ⟨g, 0, none⟩) n c)) → w'.cell? ⟨N + 2, t, none⟩ = some v → w'.frozen? ⟨N + 2, t, none⟩ = false → (∀ k, k < X.heap.size → (∀ cur, X.heap[k]? ≠ some (.cells cur 3 (0, 0))) → w'.heap[k]? = X.heap[k]?) → X.heap.size < w'.heap.size →
      wpList Try.prog ops Q rest (a.put o.dst (.slice (some ⟨g, 0, none⟩) n c)) w') : wpList Try.prog ops Q (o :: rest) a (X.alloc (.cells B ty)) := by
  obtain ⟨i0, hi0, hz0, hz1, hz2⟩ := info_parts Try.intInfo
  subst hB hP hv
  have hown := h.op t ht
  have hsz := h.size
  have hlow : ∀ g, (p t).ownBlock = some g → g < X.heap.size := fun g hg => (World.ownsRow.lt hown g hg).2
  refine wpList_append_at _ hgd s x 25 ho (N + 4) 3 i0 _ 1 8 Try.underlying25 hi0 hz0 hz1 hz2 rfl (by decide) (p t) (nums (parts t)).length ((nums (parts t)).map (Value.int .i64)) hs (World.ownsRow.alloc hown _) ⟨X.heap.size, 0, none⟩ 1 1 [.int .i64 (q : Int)] hx rfl ?_ ?_ ?_ ?_ ?_ ?_
  · intro j u hu
    rw [addr_add]
    exact (BoxL.new X [.int .i64 (q : Int)] ty).cell j u hu
  · intro u hu
    simp at hu
    subst hu
    rfl
  · rw [nums_length]; unfold maxLen; omega
  · rw [nums_length]; omega
  · simp; omega
  · intro v' w' h2 hg2 hat _
    have h3 : Own w' (N + 4) v' (nums (parts t ++ [q])) := by
      have e : nums (parts t ++ [q]) = nums (parts t) ++ [(q : Int)] := by rw [nums_append]; rfl
      rw [e]
      unfold Own
      rw [List.length_append, List.map_append]
      exact h2
    obtain ⟨g, cap, cur, e, _⟩ := h3.2.resolve_left (fun h => by rw [nums_length] at h; simp at h)
    subst e
    have hg3 : X.grownBy w' (p t).ownBlock := ⟨hg2.os, hg2.tape, hg2.output, Nat.le_trans (by simp) hg2.size, fun k hk hne => (hg2.block k (by simp; omega) hne).trans (Below.heap_alloc _ _ _ hk)⟩
    have hs2 : X.heap.size + 1 ≤ w'.heap.size := by have := hg2.size; simpa using this
    have hold : ∀ k, k < X.heap.size → (∀ cur, X.heap[k]? ≠ some (.cells cur 3 (0, 0))) → w'.heap[k]? = X.heap[k]? := fun k hk hne => hg3.block k hk (fun e => by
      obtain ⟨c1, h1⟩ := row_type hown e.symm
      exact hne c1 h1)
    have h9 : w'.heap[N + 2]? = X.heap[N + 2]? := hold (N + 2) (by omega) (fun cur => by rw [h.b9]; simp)
    obtain ⟨z1, z2⟩ := h.cellP ht
    refine hK g _ cap w' (h.setPart ht hg3 h3 (fun g' hg' => ?_)) ((World.cell?_of_block (a := ⟨N + 2, t, none⟩) h9).trans z1) ((World.frozen?_of_block (a := ⟨N + 2, t, none⟩) h9).trans z2) hold (by omega)
    rcases hat g' hg' with e | e
    · exact .inl e
    · right
      rw [e]
      simp

/-- A transaction that ends was begun among the thread's acts. -/
theorem ended_opn {AL : List Stm.Act} {xs : List Ans} {s : AS} (hA : RunA AS.init AL xs s) (hc : ∀ a ∈ AL, ¬ Stm.Clean a) {i : Nat} (hi : i < AL.length) (he : ((actAt AL i).kind = 3 ∧ (ansAt xs i).code = 0) ∨ (ansAt xs i).code = 6) :
    (serTo AL xs i).opn (actAt AL i).t.toNat ≤ ((serTo AL xs i).parts (actAt AL i).t.toNat).length := by
  have hlen := hA.length
  have hmem : ∀ q, q < AL.length → actAt AL q ∈ AL := fun q hq => by
    unfold actAt
    rw [List.getD_eq_getElem?_getD, List.getElem?_eq_getElem hq]
    exact List.getElem_mem _
  have e1 : AL = AL.take i ++ (actAt AL i :: AL.drop (i + 1)) := by
    have h1 : AL.drop i = actAt AL i :: AL.drop (i + 1) := by
      unfold actAt
      rw [List.getD_eq_getElem?_getD, List.getElem?_eq_getElem hi]
      exact List.drop_eq_getElem_cons hi
    rw [← h1, List.take_append_drop]
  have hA' := hA
  rw [e1] at hA'
  obtain ⟨r1, r2, s1, e2, l1, k1, k2⟩ := RunA.split hA'
  obtain ⟨r, rs, s2, e3, k3, _⟩ := k2
  have hl1 : r1.length = i := by rw [l1, List.length_take]; omega
  have hr1 : r1 = xs.take i := by rw [e2, List.take_left' hl1]
  have hr : r = ansAt xs i := by
    unfold ansAt
    rw [e2, List.getD_eq_getElem?_getD, List.getElem?_append_right (by omega), hl1, Nat.sub_self, e3]
    rfl
  have hrun : RunA AS.init ((List.range i).map (actAt AL)) ((List.range i).map (ansAt xs)) s1 := by
    have m1 : (List.range i).map (actAt AL) = AL.take i := by
      refine List.ext_getElem (by simp; omega) fun j h1 h2 => ?_
      simp only [List.getElem_map, List.getElem_range, List.getElem_take]
      unfold actAt
      rw [List.getD_eq_getElem?_getD, List.getElem?_eq_getElem (by simp at h1; omega)]
      rfl
    have m2 : (List.range i).map (ansAt xs) = xs.take i := by
      refine List.ext_getElem (by simp; omega) fun j h1 h2 => ?_
      simp only [List.getElem_map, List.getElem_range, List.getElem_take]
      unfold ansAt
      rw [List.getD_eq_getElem?_getD, List.getElem?_eq_getElem (by simp at h1; omega)]
      rfl
    rw [m1, m2, ← hr1]
    exact k1
  obtain ⟨S1, ks⟩ := Ser.all (act := actAt AL) (ans := ansAt xs) (Ser.start _ _) Wf.init (fun e he => hc _ (hmem e (by have := List.mem_range.1 he; omega))) hrun
  rw [hr] at k3
  have hopen : ∃ d, (s1.th (actAt AL i).t.toNat).tx = some d := by
    cases k3.way with
    | err x hx h6 hr' hs => exfalso; rw [hr'] at he; rcases he with ⟨_, he⟩ | he <;> simp [Ans.err] at he <;> omega
    | clean hcl _ => exact absurd hcl (hc _ (hmem i hi))
    | busy d h0 hd hr' hs => exact ⟨d, hd⟩
    | abort d h0 hk hd hr' hs => exact ⟨d, hd⟩
    | begin h0 hk hd hr' hs => exfalso; rw [hr'] at he; rcases he with ⟨h3, _⟩ | he
                               · omega
                               · simp [Ans.ok, Ans.err] at he
    | commit d h0 hk hd hn hr' hs => exact ⟨d, hd⟩
    | new d h0 hk hd hn hr' hs => exact ⟨d, hd⟩
    | get d j h0 hk hd hj hn hb hr' hs => exact ⟨d, hd⟩
    | put d j h0 hk hd hj hn hb hr' hs => exact ⟨d, hd⟩
    | set h0 hk hn hr' hs => exfalso; rw [hr'] at he; rcases he with ⟨h3, _⟩ | he
                             · omega
                             · simp [Ans.num] at he
    | copy h0 hk hn hr' hs => exfalso; rw [hr'] at he; rcases he with ⟨h3, _⟩ | he
                              · omega
                              · simp [Ans.ok, Ans.err] at he
    | same h0 hk hr' hs => exfalso; rw [hr'] at he; rcases he with ⟨h3, _⟩ | he
                           · omega
                           · simp [Ans.same] at he
  obtain ⟨d, hd⟩ := hopen
  obtain ⟨pre, txl, h2, h3, _⟩ := ks.opened _ d hd
  have hst : (List.range i).foldl (serStep (actAt AL) (ansAt xs)) ⟨[], fun _ => [], fun _ => 0⟩ = serTo AL xs i := rfl
  rw [hst] at h2 h3
  rw [h2, ← h3, List.length_append]
  omega
end Go.Proofs.Ytpdcaoagpjcgbab

