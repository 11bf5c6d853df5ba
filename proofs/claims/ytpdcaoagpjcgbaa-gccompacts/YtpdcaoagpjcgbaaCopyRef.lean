/-
  The walk of the reference's HeapCopy. It proves no statement by itself.
-/
import Derived.Test.YtpdcaoagpjcgbaaCopyWalks
namespace Go.Proofs.Ytpdcaoagpjcgbaa
open Go.RowKit

/-- append of a list onto nil, its source nil, empty or not: a new row, its value written out. -/
theorem run_append_copy {P : Program} (w : World) (t ty e : TypeId) (i : TypeInfo) (z : Value) (bytes : Nat) (ht : P.underlying t = some (.slice e)) (hi : P.info? e = some i) (hz : i.zero = some z)
    (hsize : i.size = 1) (hby : i.bytes = bytes) (hzs : z.cells.size = 1) (A : Option Addr) (m c : Nat) (news : List Value) (hl : news.length = m) (hnone : A = none → m = 0 ∧ c = 0)
    (hnews : 0 < m → ∃ ad, A = some ad ∧ ∀ j u, news[j]? = some u → w.cell? (ad.add j) = some u) (h1 : ∀ u ∈ news, u.oneCell' = true) (h63 : m ≤ maxLen) (hbytes : m * bytes ≤ 140737488355328) :
    ∃ a' c' w', (Builtin.append_ #[t, t] ty #[.slice none 0 0, .slice A m c]).run P w = .ok (.slice a' m c') w' ∧ w'.ownsRow w.heap.size e 1 (.slice a' m c') m news ∧ w.grownBy w' none := by
  rcases A with _ | ad
  · obtain ⟨rfl, rfl⟩ := hnone rfl
    obtain rfl : news = [] := List.eq_nil_of_length_eq_zero hl
    exact ⟨none, 0, w, run_append_owned_none w w.heap.size t ty e i 1 ht hi _ 0 [] (World.ownsRow_nil _ _ _ _), World.ownsRow_nil _ _ _ _, World.grownBy.refl _ _⟩
  · have hc : ∀ j u, news[j]? = some u → w.cell? (ad.add j) = some u := by
      intro j u hu
      rcases Nat.eq_zero_or_pos m with h0 | h0
      · subst h0
        obtain rfl : news = [] := List.eq_nil_of_length_eq_zero hl
        simp at hu
      · obtain ⟨ad', h, hc⟩ := hnews h0
        injection h with h
        subst h
        exact hc j u hu
    obtain ⟨v', w', hrun, hown, hg, _⟩ := run_append_own (P := P) w w.heap.size t ty e i z 1 bytes ht hi hz hsize hby hzs (by decide) (.slice none 0 0) 0 [] (World.ownsRow_nil _ _ _ _) ad m c news (by omega) hc h1 (by omega) (by rw [Nat.zero_add]; exact hbytes) (Nat.le_refl _)
    rw [Nat.zero_add, List.nil_append] at hown
    have hform : ∃ a' c', v' = .slice a' m c' := by
      rcases hown.2 with ⟨rfl, rfl⟩ | ⟨g, cap, cur, rfl, _⟩
      · exact ⟨_, _, rfl⟩
      · exact ⟨_, _, rfl⟩
    obtain ⟨a', c', rfl⟩ := hform
    exact ⟨a', c', w', hrun, hown, hg⟩

theorem step_append_copy {P : Program} {ops : Array Oper} {o : Oper} {a : Act} {w : World} {K : Act → World → Prop} {Q : Exit → Act → World → Prop} {E : Prop} (hgd : o.guard = none) (s x : Operand) (t : TypeId)
    (ho : o.op = .call { callee := .builtin .append, args := #[s, x], argTypes := #[t, t] }) (e : TypeId) (i : TypeInfo) (z : Value) (bytes : Nat) (ht : P.underlying t = some (.slice e)) (hi : P.info? e = some i) (hz : i.zero = some z)
    (hsize : i.size = 1) (hby : i.bytes = bytes) (hzs : z.cells.size = 1) (hs : a.eval s = .slice none 0 0) (A : Option Addr) (m c : Nat) (news : List Value) (hx : a.eval x = .slice A m c) (hl : news.length = m) (hnone : A = none → m = 0 ∧ c = 0)
    (hnews : 0 < m → ∃ ad, A = some ad ∧ ∀ j u, news[j]? = some u → w.cell? (ad.add j) = some u) (h1 : ∀ u ∈ news, u.oneCell' = true) (h63 : m ≤ maxLen) (hbytes : m * bytes ≤ 140737488355328)
    (h : ∀ a' c' w', w'.ownsRow w.heap.size e 1 (.slice a' m c') m news → w.grownBy w' none → K (a.put o.dst (.slice a' m c')) w') :
    if Region.wanted o (yielded ops a.tmps) = true then Oper.wp P o a w K Q else E := by
  have hw : Region.wanted o (yielded ops a.tmps) = true := by simp [Region.wanted, hgd]
  rw [if_pos hw]
  obtain ⟨a', c', w', hrun, h2, h3⟩ := run_append_copy (P := P) w t o.type e i z bytes ht hi hz hsize hby hzs A m c news hl hnone hnews h1 h63 hbytes
  unfold Oper.wp execOp
  simp only [ho, resolve, invoke, builtin, Sem.run_bind, Sem.run_pure, Result.andThen_ok, List.map_toArray, List.map_cons, List.map_nil, hs, hx, hrun]
  exact h a' c' w' h2 h3

/-- What a new row leaves of the two boxes laid just before it. -/
theorem two_boxes {w W w' : World} {B : Nat} {o o' : Obj} (hg : W.grownBy w' none) (hW : W.heap = ((w.alloc o).alloc o').heap) (hB : B = w.heap.size) :
    (∀ i, w'.cell? ⟨B, i, none⟩ = ((w.alloc o).alloc o').cell? ⟨B, i, none⟩) ∧ (∀ i, w'.cell? ⟨B + 1, i, none⟩ = ((w.alloc o).alloc o').cell? ⟨B + 1, i, none⟩) ∧ (∀ i, w'.frozen? ⟨B + 1, i, none⟩ = ((w.alloc o).alloc o').frozen? ⟨B + 1, i, none⟩) := by
  subst hB
  have hsz : W.heap.size = w.heap.size + 2 := by rw [hW]; simp
  have e : ∀ k, k < w.heap.size + 2 → w'.heap[k]? = ((w.alloc o).alloc o').heap[k]? := fun k hk => (hg.block k (by omega) (by simp)).trans (by rw [hW])
  exact ⟨fun i => World.cell?_of_block (e _ (by simp)), fun i => World.cell?_of_block (e _ (by simp)), fun i => World.frozen?_of_block (e _ (by simp))⟩

theorem copy_close {w W w' : World} {v : Value} {n : Nat} {cs : List Value} {xs : List Int} (hown : w'.ownsRow W.heap.size 3 1 v n cs) (hW : W.heap.size = w.heap.size + 2) (hcs : cs = xs.map (Value.int .i64)) (hn : xs.length = n) (x y : Value) :
    Own ((w'.setCell ⟨w.heap.size + 1, 0, none⟩ x).setCell ⟨w.heap.size + 1, 1, none⟩ y) w.heap.size v xs := by
  subst hcs
  subst hn
  exact ownsRow_base (ownsRow_setCell_below (ownsRow_setCell_below hown (by rw [hW]; simp) _) (by rw [hW]; simp) _) (by omega)

set_option maxHeartbeats 400000 in
theorem heapCopy_any (a : Option Addr) (n cap : Nat) (xs : List Int) (top : Int) (w : World) (hi : Ints w a xs) (hn : xs.length = n) (hl : n * 8 ≤ 140737488355328) (hnil : a = none → cap = 0) (hcap : n ≤ cap) :
    Calls Try.prog 24 #[.agg #[.slice a n cap, .int .i64 top]] w (CopyPost w xs n top) := by
  obtain ⟨i0, hi0, hz0, hz1, hz2⟩ := info_parts Try.intInfo
  obtain ⟨cs, hcs⟩ : ∃ cs, cs = xs.map (Value.int .i64) := ⟨_, rfl⟩
  have hcl : cs.length = n := by rw [hcs]; simpa using hn
  have h1 : ∀ v ∈ cs, v.oneCell' = true := by rw [hcs]; exact ints_one xs
  have hsrc : ∀ w', Below w.heap.size w w' → 0 < n → ∃ ad, a = some ad ∧ ∀ j v, cs[j]? = some v → w'.cell? (ad.add j) = some v := by
    rw [hcs]; exact fun w' hb h0 => (hi.below hb).src (by simpa [hn] using h0)
  have hno : a = none → n = 0 ∧ cap = 0 := fun h => ⟨by have := hnil h; omega, hnil h⟩
  have HS := Lib.hide hsrc
  have H1 := Lib.hide h1
  have HL := Lib.hide hcl
  have HC := Lib.hide hcs
  have HN := Lib.hide hn
  have HO := Lib.hide hno
  clear hsrc h1 hcl hcs hi hn hno hnil
  go_enter Try.func24, Try.ntmps24
  go_wp2
  go_region_law (refine step_append_copy rfl (.const (.slice none 0 0)) (.tmp 4) 22 rfl 3 i0 (.int .i64 0) 8 Try.underlying22 hi0 hz0 hz1 hz2 rfl (by simp [Act.eval, Act.put]) a n cap cs (by simp [Act.eval, Act.put]) HL.out HO.out (fun h0 => HS.out _ (by repeat (first | exact Below.refl _ _ | assumption | refine Below.drew ?_ | refine below_drewN ?_ _ | refine Below.allocs ?_ | refine Below.next ?_ (by assumption) | refine Below.setCell ?_ (by dsimp only; omega) _)) h0) H1.out (by unfold maxLen; omega) (by omega) ?_; intro a' c' w' hown hg; have HW := Lib.hide hown; have HG := Lib.hide hg; clear hown hg; obtain ⟨q0, q1, q2⟩ := two_boxes (w := w) (o := .cells #[.slice a n cap, .int .i64 top] 24) (o' := .cells #[.slice none 0 0, .int .i64 0] 24) HG.out rfl rfl)
  all_goals
    have hbel : Below w.heap.size w w' := Below.grown (w := (((w.alloc _).alloc _).drew)) (by repeat (first | exact Below.refl _ _ | assumption | refine Below.drew ?_ | refine below_drewN ?_ _ | refine Below.allocs ?_ | refine Below.next ?_ (by assumption) | refine Below.setCell ?_ (by dsimp only; omega) _)) HG.out (by simp; omega) (by simp)
    go_wp2
    exact bodyPost_ret (v := .agg #[.slice a' n c', .int .i64 top]) (by simp [results, Try.results24, go_sem, q1]) rfl
      ⟨_, _, rfl, copy_close HW.out (by simp) HC.out HN.out _ _, (hbel.setCell (by simp) _).setCell (by simp) _⟩
end Go.Proofs.Ytpdcaoagpjcgbaa
