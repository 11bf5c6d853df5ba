/-
  The walk of perform of package stm at a Same. It proves no statement by itself.
-/
import Derived.Test.YtpdcaoagpjcgbabStmPerform
set_option linter.unusedVariables false
set_option linter.unusedSimpArgs false
namespace Go.Proofs.Ytpdcaoagpjcgbab
open Go.RowKit Stm

set_option maxRecDepth 100000 in
theorem Try.eqlValue (w : World) (a b c d : Int) : (binOp .eql 34 (.agg #[.int .i64 a, .int .i64 b]) (.agg #[.int .i64 c, .int .i64 d])).run Try.prog w = .ok (.bool (a == c && b == d)) w := by
  go_simp
  by_cases h1 : a = c
  · by_cases h2 : b = d
    · simp [h1, h2]
    · simp [h1, h2]
  · simp [h1]


set_option maxHeartbeats 1600000 in
set_option maxRecDepth 100000 in
theorem perform_same (B mb k : Nat) (ρ : Roles) (c : Mc) (m : Mem) (l : List Nat) (k' : Nat) (t A b : Nat) (n : Int) (w : World) (h : Mach w B mb k ρ c m) (hi : Good c l k') (hB : B ≤ w.heap.size) (hk : k ≤ 400) (hk' : k' ≤ 400) (ht : t < 4) (hA : A < 4) (hb : b < 4) (hfe : firstErr ⟨9, (t : Int), (A : Int), (b : Int), n⟩ = 0) :
    Calls Try.prog 66 #[.pointer (some ⟨mb, 0, none⟩), .agg #[.int .i64 9, .int .i64 (t : Int), .int .i64 (A : Int), .int .i64 (b : Int), .int .i64 n]] w (MAnsW w B mb (k + 1) ρ (CSame c t A b)) := by
  have H := Lib.hide h
  have HI := Lib.hide hi
  have NR := Lib.hide (fun b (hb : w.heap.size ≤ b) => h.noRole hb)
  have mlt := h.blk.lt
  clear h hi
  go_enter Try.func66, Try.ntmps66
  go_wp2_with fail
  have hbx := act_boxes w 9 (t : Int) (A : Int) (b : Int) n
  have hW : Below w.heap.size w ((w.alloc (.cells #[.int .i64 9, .int .i64 (t : Int), .int .i64 (A : Int), .int .i64 (b : Int), .int .i64 n] 71)).alloc (.cells #[.int .i64 0, .bool false, .int .i64 0, .bool false, .int .i64 0, .bool false, .int .i64 0] 74)) := (by repeat (first | exact Below.refl _ _ | assumption | refine Below.drew ?_ | refine below_drewN ?_ _ | refine Below.allocs ?_ | refine Below.next ?_ (by assumption) | refine Below.setCell ?_ (by dsimp only; omega) _))
  generalize (w.alloc (.cells #[.int .i64 9, .int .i64 (t : Int), .int .i64 (A : Int), .int .i64 (b : Int), .int .i64 n] 71)).alloc (.cells #[.int .i64 0, .bool false, .int .i64 0, .bool false, .int .i64 0, .bool false, .int .i64 0] 74) = W at hbx hW ⊢
  have CE := Lib.hide (firstError_any ⟨9, (t : Int), (A : Int), (b : Int), n⟩ W)
  rw [hfe] at CE
  refine CE.out.mono ?_
  rintro e w1 ⟨rfl, hb1⟩
  have hbw := Below.next hW hb1
  have hA1 := hbx.1.next hb1
  have hR1 := hbx.2.next hb1
  have hm1 := H.out.next hbw
  have a0 := hA1.cell 0 _ rfl
  have a1 := hA1.cell 1 _ rfl
  have a2 := hA1.cell 2 _ rfl
  have a3 := hA1.cell 3 _ rfl
  have a4 := hA1.cell 4 _ rfl
  have al := hA1.lt
  have HBW := Lib.hide hbw
  have HA1 := Lib.hide hA1
  have HR1 := Lib.hide hR1
  have HM1 := Lib.hide hm1
  have hw1B : B ≤ w1.heap.size := Nat.le_trans hB hbw.size
  clear hbx hW hb1 hbw hA1 hR1 hm1 CE
  have hR2 := HR1.out
  have q0 := HM1.out.blk.regk t A ht hA
  have q1 := HM1.out.blk.regn t A ht hA
  have q2 := HM1.out.blk.regk t b ht hb
  have q3 := HM1.out.blk.regn t b ht hb
  have ql := HM1.out.blk.lt
  have r0 := hR2.cell 0 _ rfl
  have f0 := hR2.warm 0
  have r1 := hR2.cell 1 _ rfl
  have f1 := hR2.warm 1
  have r2 := hR2.cell 2 _ rfl
  have f2 := hR2.warm 2
  have r3 := hR2.cell 3 _ rfl
  have f3 := hR2.warm 3
  have r4 := hR2.cell 4 _ rfl
  have f4 := hR2.warm 4
  have r5 := hR2.cell 5 _ rfl
  have f5 := hR2.warm 5
  have r6 := hR2.cell 6 _ rfl
  have f6 := hR2.warm 6
  have rl := hR2.lt
  have hn2 : ρ (w.heap.size + 1) = none := NR.out _ (Nat.le_succ _)
  obtain ⟨v, hv⟩ : ∃ v, c.regs t A = v := ⟨_, rfl⟩
  obtain ⟨u, hu⟩ : ∃ u, c.regs t b = u := ⟨_, rfl⟩
  rw [hv] at q0 q1
  rw [hu] at q2 q3
  have hM9 := (HM1.out.farPuts hn2 0 (ansCells (.same (valEq v u)))).drew
  have hV9 := ((MovedW.below (ρ := ρ) HBW.out).farPuts (Nat.le_succ _) 0 (ansCells (.same (valEq v u)))).trans (Moved.drew ρ _).w
  rw [puts_ans] at hM9 hV9
  have HP := Lib.hide (show MAnsW w B mb (k + 1) ρ (CSame c t A b) (.returned (ansVal (.same (valEq v u)))) _ from ⟨_, c, m, ρ, ⟨by rw [hv, hu], rfl⟩, rfl, hM9.more (by omega), hV9⟩)
  have it1 : (0 : Int) ≤ (t : Int) := by omega
  have it2 : (t : Int) < 4 := by omega
  have ia1 : (0 : Int) ≤ (A : Int) := by omega
  have ia2 : (A : Int) < 4 := by omega
  have ib1 : (0 : Int) ≤ (b : Int) := by omega
  have ib2 : (b : Int) < 4 := by omega
  unfold Ans.same at HP
  dsimp only at HP
  have n1 : w.heap.size ≠ mb := by omega
  have n2 : w.heap.size + 1 ≠ mb := by omega
  clear hR2 hn2 hM9 hV9 hv hu
  obtain ⟨vk, vn⟩ := v
  obtain ⟨uk, un⟩ := u
  unfold valEq at HP
  dsimp only at q0 q1 q2 q3 HP
  have heq := fun w => Try.eqlValue w vk vn uk un
  obtain ⟨r, hr⟩ : ∃ r, (vk == uk && vn == un) = r := ⟨_, rfl⟩
  rw [hr] at heq HP
  clear hr
  go_wp2
  go_still_tail 22, (by kernel_rfl)
  change wpList _ _ _ _ _ w1.drew
  clear heq q0 q1 q2 q3 a0 a1 a2 a3 a4 al it1 it2 ia1 ia2 ib1 ib2
  go_wp2
  refine bodyPost_ret (v := ansVal ⟨0, false, 0, r, 0, false, 0⟩) (by simp only [results, Try.results66]; go_simp; simp [ansVal]) rfl ?_
  exact HP.out
end Go.Proofs.Ytpdcaoagpjcgbab

