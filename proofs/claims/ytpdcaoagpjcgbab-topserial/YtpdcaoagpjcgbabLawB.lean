/-
  Lists of answers in memory, slices.Equal over equal lists of answers, limewashkeep.Picked. It proves no statement by itself.
-/
import Derived.Test.YtpdcaoagpjcgbabActsMade
import Derived.Deep.QuietTactic
import Derived.BigQuiet
set_option linter.unusedVariables false
set_option linter.unusedSimpArgs false
namespace Go.Proofs.Ytpdcaoagpjcgbab
open Go.RowKit Stm

theorem acells_at : ∀ (l : List Ans) (i : Nat) (x : Ans), l[i]? = some x → ∀ j v, (ansCells x)[j]? = some v → (acells l)[i * 7 + j]? = some v
  | [], i, x, h, _, _, _ => by simp at h
  | a :: l, 0, x, h, j, v, hv => by
    simp at h
    subst h
    have : acells (a :: l) = ansCells a ++ acells l := rfl
    rw [this, Nat.zero_mul, Nat.zero_add, List.getElem?_append_left]
    · exact hv
    · rcases Nat.lt_or_ge j (ansCells a).length with h' | h'
      · exact h'
      · rw [List.getElem?_eq_none h'] at hv; cases hv
  | a :: l, i + 1, x, h, j, v, hv => by
    have := acells_at l i x (by simpa using h) j v hv
    have e : acells (a :: l) = ansCells a ++ acells l := rfl
    rw [e, List.getElem?_append_right (by simp [ansCells]; omega)]
    rw [show (i + 1) * 7 + j - (ansCells a).length = i * 7 + j by simp [ansCells]; omega]
    exact this

/-- A slice that reads as a list of answers. -/
def AnsAt (w : World) (a : Option Addr) (l : List Ans) : Prop :=
  l = [] ∨ ∃ b o, a = some ⟨b, o, none⟩ ∧ b < w.heap.size ∧ ∀ i x, l[i]? = some x → ∀ j v, (ansCells x)[j]? = some v → w.cell? ⟨b, o + i * 7 + j, none⟩ = some v
theorem OwnA.reads {w : World} {base n c : Nat} {a : Option Addr} {l : List Ans} (h : OwnA w base (.slice a n c) l) : l.length = n ∧ AnsAt w a l := by
  rcases h.2 with ⟨e, h1⟩ | ⟨g, cap, cur, e, hb, hg, hn, hm, hs, hx⟩
  · injection e with e1 e2 e3
    exact ⟨by omega, .inl (List.length_eq_zero_iff.1 h1)⟩
  · injection e with e1 e2 e3
    subst e1 e2 e3
    refine ⟨rfl, ?_⟩
    refine .inr ⟨g, 0, rfl, ?_, fun i x hi j v hv => ?_⟩
    · rcases Nat.lt_or_ge g w.heap.size with h' | h'
      · exact h'
      · rw [Array.getElem?_eq_none h'] at hg; cases hg
    · have hil : i < l.length := by
        rcases Nat.lt_or_ge i l.length with h' | h'
        · exact h'
        · rw [List.getElem?_eq_none h'] at hi; cases hi
      have hj : j < 7 := by
        rcases Nat.lt_or_ge j 7 with h' | h'
        · exact h'
        · rw [List.getElem?_eq_none (by simpa [ansCells] using h')] at hv; cases hv
      rw [Nat.zero_add]
      refine (World.ownsRow.cellAt h (i * 7 + j) (by omega)).trans ?_
      exact acells_at l i x hi j v hv
theorem AnsAt.below {w w' : World} {a : Option Addr} {l : List Ans} (h : AnsAt w a l) (hb : Below w.heap.size w w') : AnsAt w' a l := by
  rcases h with h | ⟨b, o, e, hlt, hc⟩
  · exact .inl h
  · exact .inr ⟨b, o, e, Nat.lt_of_lt_of_le hlt hb.size, fun i x hi j v hv => ((bcell hb).1 b _ hlt).trans (hc i x hi j v hv)⟩
theorem AnsAt.take {w : World} {a : Option Addr} {l : List Ans} (h : AnsAt w a l) (k : Nat) : AnsAt w a (l.take k) := by
  rcases h with h | ⟨b, o, e, hlt, hc⟩
  · exact .inl (by rw [h]; simp)
  · refine .inr ⟨b, o, e, hlt, fun i x hi => hc i x ?_⟩
    rw [List.getElem?_take] at hi
    split at hi
    · exact hi
    · cases hi
theorem ActsAt.take {w : World} {a : Option Addr} {l : List Stm.Act} (h : ActsAt w a l) (k : Nat) : ActsAt w a (l.take k) := by
  rcases h with h | ⟨b, o, e, hlt, hc⟩
  · exact .inl (by rw [h]; simp)
  · refine .inr ⟨b, o, e, hlt, fun i x hi => hc i x ?_⟩
    rw [List.getElem?_take] at hi
    split at hi
    · exact hi
    · cases hi

set_option maxRecDepth 100000 in
theorem Try.neqAns (w : World) (a : Int) (b : Bool) (c : Int) (d : Bool) (e : Int) (f : Bool) (g : Int) :
    (binOp .neq 74 (.agg #[.int .i64 a, .bool b, .int .i64 c, .bool d, .int .i64 e, .bool f, .int .i64 g]) (.agg #[.int .i64 a, .bool b, .int .i64 c, .bool d, .int .i64 e, .bool f, .int .i64 g])).run Try.prog w = .ok (.bool false) w := by
  go_simp
  try simp

set_option maxHeartbeats 1600000 in
set_option maxRecDepth 100000 in
theorem equalA_same (a b : Option Addr) (n ca cb : Nat) (xs : List Ans) (w : World) (ha : AnsAt w a xs) (hb : AnsAt w b xs) (hn : xs.length = n) (hl : n ≤ 1000) :
    Calls Try.prog 43 #[.slice a n ca, .slice b n cb] w fun e w' => e = .returned (.bool true) ∧ Below w.heap.size w w' := by
  have hneq := Try.neqAns
  by_cases h0 : xs = []
  · subst h0
    simp only [List.length_nil] at hn
    subst hn
    go_enter Try.func43, Try.ntmps43
    go_wp2
    refine wp_loop_rounds 1 ?_; rw [rounds_succ]
    go_wp2
    go_ret
    exact ⟨rfl, Below.refl _ _⟩
  obtain ⟨ba, oa, rfl, hla, hca⟩ := ha.resolve_left h0
  obtain ⟨bb, ob, rfl, hlb, hcb⟩ := hb.resolve_left h0
  have HN := Lib.hide hn
  have HCA := Lib.hide hca
  have HCB := Lib.hide hcb
  clear hn hca hcb ha hb h0
  go_enter Try.func43, Try.ntmps43
  go_wp2
  go_loopw [13] (fun i wr => ∃ k m : Nat, k ≤ n ∧ i = .int .i64 k ∧ wr = w.drewN m) (fun i _ => n - (intOf i).toNat)
  case atStart => exact ⟨0, 0, Nat.zero_le _, rfl, rfl⟩
  case round =>
    obtain ⟨k, m, hk, rfl, rfl⟩ := hrel
    by_cases hlt : k < n
    · obtain ⟨x, hx⟩ : ∃ x, xs[k]? = some x := ⟨xs[k]'(by rw [HN.out]; exact hlt), List.getElem?_eq_getElem _⟩
      have a0 := HCA.out k x hx 0 _ rfl
      have a1 := HCA.out k x hx 1 _ rfl
      have a2 := HCA.out k x hx 2 _ rfl
      have a3 := HCA.out k x hx 3 _ rfl
      have a4 := HCA.out k x hx 4 _ rfl
      have a5 := HCA.out k x hx 5 _ rfl
      have a6 := HCA.out k x hx 6 _ rfl
      have b0 := HCB.out k x hx 0 _ rfl
      have b1 := HCB.out k x hx 1 _ rfl
      have b2 := HCB.out k x hx 2 _ rfl
      have b3 := HCB.out k x hx 3 _ rfl
      have b4 := HCB.out k x hx 4 _ rfl
      have b5 := HCB.out k x hx 5 _ rfl
      have b6 := HCB.out k x hx 6 _ rfl
      rw [Nat.add_zero] at a0 b0
      obtain ⟨x0, x1, x2, x3, x4, x5, x6⟩ := x
      clear hx
      go_wp2
      go_quiet (fail)
      go_wp2
      go_roundw
      case rel => exact ⟨k + 1, _, by omega, by go_num, rfl⟩
      case measure => simp [intOf]; omega
    · go_wp2
      go_ret
      exact ⟨rfl, below_drewN (Below.refl _ _) _⟩

theorem pickedX_any (n m : Int) (w : World) (hn : Fits n) (hm : 0 < m) (hm2 : m ≤ 1000000) :
    Calls Try.prog 47 #[.int .i64 n, .int .i64 m] w fun e w' => e = .returned (.int .i64 (pick n m)) ∧ w = w' := by
  have C := Lib.hide (picked_any n m w hn hm hm2)
  clear hn hm hm2
  go_enter Try.func47, Try.ntmps47
  go_wp2_with fail
  with_reducible refine C.out.mono ?_
  rintro e w' ⟨rfl, rfl⟩
  go_wp2
  go_ret
  exact ⟨rfl, rfl⟩
end Go.Proofs.Ytpdcaoagpjcgbab

/-
  The walk of limewashtop.TopTwice. It proves no statement by itself.
-/
namespace Go.Proofs.Ytpdcaoagpjcgbab
open Go.RowKit Stm

theorem wpList_append_acts {ops : Array Oper} {rest : List Oper} {o : Oper} {a : Go.Act} {Q : Exit → Go.Act → World → Prop} (w : World) (hgd : o.guard = none) (s x : Operand)
    (ho : o.op = .call { callee := .builtin .append, args := #[s, x], argTypes := #[61, 61] }) (base : Nat) (v vx : Value) (l m : List Stm.Act)
    (hs : a.eval s = v) (hx : a.eval x = vx) (hl : OwnC w base v l) (hm : OwnC w base vx m) (hn : l.length + m.length ≤ 1000) (hb : base ≤ w.heap.size)
    (h : ∀ v' w', OwnC w' base v' (l ++ m) → Below base w w' → wpList Try.prog ops Q rest (a.put o.dst v') w') : wpList Try.prog ops Q (o :: rest) a w := by
  obtain ⟨iA, hiA, hA0, hA1, hA2⟩ := info_parts Try.actInfo
  rcases hm.2 with ⟨e, h1⟩ | ⟨g, cap, cur, e, _⟩
  · obtain rfl := List.length_eq_zero_iff.1 h1
    exact wpList_append_none w hgd s x 61 ho base 71 iA 5 Try.underlying61 hiA v l.length (ccells l) hs hl (hx.trans e) (h v w (by simpa using hl) (Below.refl _ _))
  · subst e
    refine wpList_append_at w hgd s x 61 ho base 71 iA _ 5 40 Try.underlying61 hiA hA0 hA1 hA2 rfl (by decide) v l.length (ccells l) hs hl ⟨g, 0, none⟩ m.length cap (ccells m) hx (ccells_length m) (World.ownsRow.cells hm (g := g) rfl) ?_ ?_ ?_ hb ?_
    · intro u hu
      obtain ⟨y, _, hy⟩ := List.mem_flatMap.1 hu
      simp [actCells] at hy
      rcases hy with rfl | rfl | rfl | rfl | rfl <;> rfl
    · unfold maxLen; omega
    · omega
    · intro v' w' h2 hg2 _ _
      refine h v' w' (by unfold OwnC; rw [ccells_append, List.length_append]; exact h2) ⟨hg2.os, hg2.tape, hg2.output, hg2.size, fun k hk => hg2.block k (by omega) (fun e => ?_)⟩
      have := (World.ownsRow.lt hl k e.symm).1
      omega

/-- What Run leaves, its length written out. -/
def RunL (w : World) (n : Nat) (l : List Stm.Act) (L : Nat) (e : Ending) (w' : World) : Prop :=
  ∃ (rs : List Ans) (c : Mc) (lf : List Nat) (a1 : Option Addr) (c1 : Nat) (a2 : Option Addr) (n2 c2 : Nat) (t : Int), e = .returned (.tuple #[.slice a1 L c1, .agg #[.slice a2 n2 c2, .int .i64 t], .int .i64 0]) ∧
    rs.length = L ∧ RunC n l rs c lf ∧ AnsAt w' a1 rs ∧ L ≤ c1 ∧ Below w.heap.size w w'
theorem run_len (n k0 : Nat) (hn : n = 20 + k0) (h3 : k0 ≤ 300) (l : List Stm.Act) (a : Option Addr) (L cp : Nat) (w : World) (hl : l.length = L) (hL : L ≤ 400) (ha : ActsAt w a l) :
    Calls Try.prog 32 #[.int .i64 (20 + (k0 : Int)), .slice a L cp] w (RunL w n l L) := by
  subst hn
  have h := run_yes (20 + k0) l a L cp w (by omega) (by omega) hl hL ha
  rw [Int.natCast_add] at h
  refine h.mono ?_
  rintro e w' ⟨rs, c, lf, a1, c1, a2, c2, rfl, hr, ho, _, hb⟩
  have hlen := hr.length
  rw [hl] at hlen
  have hrd := ho.reads
  rw [hlen] at ho
  refine ⟨rs, c, lf, a1, c1, a2, _, c2, _, by rw [hlen], hlen, hr, hrd.2, ?_, hb⟩
  rcases ho.2 with ⟨e, h1⟩ | ⟨g, cap, cur, e, _, _, hnc, _⟩
  · injection e with e1 e2 e3
    omega
  · injection e with e1 e2 e3
    omega
end Go.Proofs.Ytpdcaoagpjcgbab

