/-
  The walk of step of package stm. It proves no statement by itself.
-/
import Derived.Test.YtpdcaoagpjcgbabStmFinish
set_option linter.unusedVariables false
set_option linter.unusedSimpArgs false
namespace Go.Proofs.Ytpdcaoagpjcgbab
open Go.RowKit Stm

/-- The machine with so many objects left to examine. -/
def withLeft (c : Mc) (x : Int) : Mc := ⟨c.xs, c.top, c.regs, c.tx, ⟨c.coll.going, c.coll.ret, x, c.coll.top⟩⟩
theorem Inv.withLeft {c : Mc} {l : List Nat} {k : Nat} (h : Inv c l k) (hg : c.coll.going = true) (x : Int) : Inv (Go.Proofs.Ytpdcaoagpjcgbab.withLeft c x) l k :=
  { valid := h.valid, fits := h.fits, nonil := h.nonil, regs := h.regs, saved := h.saved, fields := h.fields, recd := h.recd, own := h.own, state := h.state, shut := h.shut, high := h.high, out := h.out, ret := h.ret, ctop := h.ctop, stopped := fun e => absurd (show c.coll.going = false from e) (by rw [hg]; simp), closed := h.closed }
theorem CFinish.withLeft {c c' : Mc} {l : List Nat} {f x : Int} (h : CFinish (Go.Proofs.Ytpdcaoagpjcgbab.withLeft c x) l f c') : CFinish c l f c' := h

theorem ans_err (x : Int) : ansVal (.err x) = .agg #[.int .i64 x, .bool false, .int .i64 0, .bool false, .int .i64 0, .bool false, .int .i64 0] := rfl

set_option maxHeartbeats 1600000 in
set_option maxRecDepth 100000 in
theorem step_range (B mb k : Nat) (ρ : Roles) (c : Mc) (m : Mem) (l : List Nat) (n : Int) (w : World) (h : Mach w B mb k ρ c m) (hn : n < 1 ∨ 400 < n) :
    Calls Try.prog 94 #[.pointer (some ⟨mb, 0, none⟩), .int .i64 n] w (MAnsW w B mb k ρ (CStepC c l n)) := by
  have HC := Lib.hide (show CStepC c l n (.err 2) c from Ite.neg (by omega) ⟨rfl, rfl⟩)
  have H := Lib.hide h
  clear h
  by_cases h1 : n < 1
  · clear hn
    go_enter Try.func94, Try.ntmps94
    go_wp2
    refine bodyPost_ret (v := ansVal (.err 2)) (by simp only [results, Try.results94]; go_simp; simp [ansVal, Ans.err]) rfl ?_
    exact ⟨.err 2, c, m, ρ, HC.out, rfl, H.out.next (by repeat (first | exact Below.refl _ _ | assumption | refine Below.drew ?_ | refine below_drewN ?_ _ | refine Below.allocs ?_ | refine Below.next ?_ (by assumption) | refine Below.setCell ?_ (by dsimp only; omega) _)), MovedW.below (by repeat (first | exact Below.refl _ _ | assumption | refine Below.drew ?_ | refine below_drewN ?_ _ | refine Below.allocs ?_ | refine Below.next ?_ (by assumption) | refine Below.setCell ?_ (by dsimp only; omega) _))⟩
  · have h2 : 400 < n := by omega
    clear hn
    go_enter Try.func94, Try.ntmps94
    go_wp2
    refine bodyPost_ret (v := ansVal (.err 2)) (by simp only [results, Try.results94]; go_simp; simp [ansVal, Ans.err]) rfl ?_
    exact ⟨.err 2, c, m, ρ, HC.out, rfl, H.out.next (by repeat (first | exact Below.refl _ _ | assumption | refine Below.drew ?_ | refine below_drewN ?_ _ | refine Below.allocs ?_ | refine Below.next ?_ (by assumption) | refine Below.setCell ?_ (by dsimp only; omega) _)), MovedW.below (by repeat (first | exact Below.refl _ _ | assumption | refine Below.drew ?_ | refine below_drewN ?_ _ | refine Below.allocs ?_ | refine Below.next ?_ (by assumption) | refine Below.setCell ?_ (by dsimp only; omega) _))⟩

set_option maxHeartbeats 1600000 in
set_option maxRecDepth 100000 in
theorem step_state (B mb k : Nat) (ρ : Roles) (c : Mc) (m : Mem) (l : List Nat) (n : Int) (w : World) (h : Mach w B mb k ρ c m) (h1 : 1 ≤ n) (h2 : n ≤ 400) (hg : c.coll.going = false) :
    Calls Try.prog 94 #[.pointer (some ⟨mb, 0, none⟩), .int .i64 n] w (MAnsW w B mb k ρ (CStepC c l n)) := by
  have HC := Lib.hide (show CStepC c l n (.err 5) c from Ite.pos ⟨h1, h2⟩ (Ite.neg (by rw [hg]; simp) ⟨rfl, rfl⟩))
  have x0 := h.blk.going
  rw [hg] at x0
  have xl := h.blk.lt
  have H := Lib.hide h
  have g1 : ¬ n < 1 := by omega
  have g2 : ¬ 400 < n := by omega
  clear h hg
  go_enter Try.func94, Try.ntmps94
  go_wp2
  refine bodyPost_ret (v := ansVal (.err 5)) (by simp only [results, Try.results94]; go_simp; simp [ansVal, Ans.err]) rfl ?_
  exact ⟨.err 5, c, m, ρ, HC.out, rfl, H.out.next (by repeat (first | exact Below.refl _ _ | assumption | refine Below.drew ?_ | refine below_drewN ?_ _ | refine Below.allocs ?_ | refine Below.next ?_ (by assumption) | refine Below.setCell ?_ (by dsimp only; omega) _)), MovedW.below (by repeat (first | exact Below.refl _ _ | assumption | refine Below.drew ?_ | refine below_drewN ?_ _ | refine Below.allocs ?_ | refine Below.next ?_ (by assumption) | refine Below.setCell ?_ (by dsimp only; omega) _))⟩

set_option maxHeartbeats 1600000 in
set_option maxRecDepth 100000 in
theorem step_on (B mb k : Nat) (ρ : Roles) (c : Mc) (m : Mem) (l : List Nat) (n : Int) (w : World) (h : Mach w B mb k ρ c m) (h1 : 1 ≤ n) (h2 : n ≤ 400) (hg : c.coll.going = true) (hl4 : c.coll.left ≤ 400) (hl : 0 < c.coll.left - n) :
    Calls Try.prog 94 #[.pointer (some ⟨mb, 0, none⟩), .int .i64 n] w (MAnsW w B mb k ρ (CStepC c l n)) := by
  have HC := Lib.hide (show CStepC c l n .ok ⟨c.xs, c.top, c.regs, c.tx, ⟨true, c.coll.ret, c.coll.left - n, c.coll.top⟩⟩ from Ite.pos ⟨h1, h2⟩ (Ite.pos hg (Ite.pos hl ⟨rfl, rfl⟩)))
  have hX := h.alloc (.cells #[.int .i64 0, .bool false, .int .i64 0, .bool false, .int .i64 0, .bool false, .int .i64 0] 74)
  have hml := hX.setLeft (c.coll.left - n)
  rw [hg] at hml
  have hmv := (MovedW.below (ρ := ρ) (w := w) (w' := w.alloc (.cells #[.int .i64 0, .bool false, .int .i64 0, .bool false, .int .i64 0, .bool false, .int .i64 0] 74)) (by repeat (first | exact Below.refl _ _ | assumption | refine Below.drew ?_ | refine below_drewN ?_ _ | refine Below.allocs ?_ | refine Below.next ?_ (by assumption) | refine Below.setCell ?_ (by dsimp only; omega) _))).trans (Moved.put hX 80 [.int .i64 (c.coll.left - n)]).w
  have hpa := puts_alloc [.int .i64 (c.coll.left - n)] w mb 80 (.cells #[.int .i64 0, .bool false, .int .i64 0, .bool false, .int .i64 0, .bool false, .int .i64 0] 74) h.blk.lt
  rw [hpa] at hml hmv
  rw [puts_one] at hml hmv
  have x0 := h.blk.going
  rw [hg] at x0
  have x1 := h.blk.left
  have x2 := h.blk.warm 80
  have xl := h.blk.lt
  have HML := Lib.hide hml
  have HMV := Lib.hide hmv
  have g1 : ¬ n < 1 := by omega
  have g2 : ¬ 400 < n := by omega
  have hw : IntKind.i64.wrap (c.coll.left - n) = c.coll.left - n := IntWalk.i64_in _ (by omega)
  obtain ⟨y, hy⟩ : ∃ y, c.coll.left - n = y := ⟨_, rfl⟩
  rw [hy] at hw hl HML HMV HC
  clear h hg hX hml hmv hpa hl4
  go_enter Try.func94, Try.ntmps94
  go_wp2
  refine bodyPost_ret (v := ansVal .ok) (by simp only [results, Try.results94]; go_simp; simp [ansVal, Ans.ok, Ans.err]) rfl ?_
  exact ⟨.ok, _, m, ρ, HC.out, rfl, HML.out, HMV.out⟩

theorem BoxL.movedW {w w' : World} {b : Nat} {vs : List Value} {ρ ρ' : Roles} (h : BoxL w b vs) (hm : MovedW ρ w ρ' w') (hr : ρ b = none) : BoxL w' b vs := h.kept (hm.block b h.lt hr) hm.size
theorem MovedW.farPuts {ρ ρ' : Roles} {w wr : World} {b : Nat} (h : MovedW ρ w ρ' wr) (hr : w.heap.size ≤ b) (o : Nat) (vs : List Value) : MovedW ρ w ρ' (puts wr b o vs) :=
  ⟨(puts_os vs wr b o).1.trans h.os, (puts_os vs wr b o).2.1.trans h.tape, (puts_os vs wr b o).2.2.trans h.output, by rw [puts_size]; exact h.size, fun i hi hn => (puts_other vs wr b o i (by omega)).trans (h.block i hi hn), h.none⟩

set_option maxHeartbeats 1600000 in
set_option maxRecDepth 100000 in
theorem step_end (B mb k : Nat) (ρ : Roles) (c : Mc) (m : Mem) (l : List Nat) (k' : Nat) (n : Int) (w : World) (h : Mach w B mb k ρ c m) (hi : Inv c l k') (hB : B ≤ w.heap.size) (hk : k ≤ 1000) (h1 : 1 ≤ n) (h2 : n ≤ 400) (hg : c.coll.going = true) (hl0 : 0 ≤ c.coll.left) (hl4 : c.coll.left ≤ 400) (hl : ¬ 0 < c.coll.left - n) :
    Calls Try.prog 94 #[.pointer (some ⟨mb, 0, none⟩), .int .i64 n] w (MAnsW w B mb k ρ (CStepC c l n)) := by
  have HC := Lib.hide (show ∀ f c', CFinish c l f c' → CStepC c l n ⟨0, false, 0, false, 0, false, f⟩ c' from fun f c' hf => Ite.pos ⟨h1, h2⟩ (Ite.pos hg (Ite.neg hl ⟨f, rfl, hf⟩)))
  have hX := h.alloc (.cells #[.int .i64 0, .bool false, .int .i64 0, .bool false, .int .i64 0, .bool false, .int .i64 0] 74)
  have hml := hX.setLeft (c.coll.left - n)
  have hmv := (MovedW.below (ρ := ρ) (w := w) (w' := w.alloc (.cells #[.int .i64 0, .bool false, .int .i64 0, .bool false, .int .i64 0, .bool false, .int .i64 0] 74)) (by repeat (first | exact Below.refl _ _ | assumption | refine Below.drew ?_ | refine below_drewN ?_ _ | refine Below.allocs ?_ | refine Below.next ?_ (by assumption) | refine Below.setCell ?_ (by dsimp only; omega) _))).trans (Moved.put hX 80 [.int .i64 (c.coll.left - n)]).w
  have hpa := puts_alloc [.int .i64 (c.coll.left - n)] w mb 80 (.cells #[.int .i64 0, .bool false, .int .i64 0, .bool false, .int .i64 0, .bool false, .int .i64 0] 74) h.blk.lt
  have hnr : ρ w.heap.size = none := h.noRole (Nat.le_refl _)
  rw [hpa] at hml hmv
  rw [puts_one] at hml hmv
  have x0 := h.blk.going
  rw [hg] at x0
  have x1 := h.blk.left
  have x2 := h.blk.warm 80
  have xl := h.blk.lt
  have g1 : ¬ n < 1 := by omega
  have g2 : ¬ 400 < n := by omega
  have hw : IntKind.i64.wrap (c.coll.left - n) = c.coll.left - n := IntWalk.i64_in _ (by omega)
  have hbox : BoxL ((w.setCell ⟨mb, 80, none⟩ (.int .i64 (c.coll.left - n))).alloc (.cells #[.int .i64 0, .bool false, .int .i64 0, .bool false, .int .i64 0, .bool false, .int .i64 0] 74)) w.heap.size ansZero := by
    have h9 := BoxL.new (w.setCell ⟨mb, 80, none⟩ (.int .i64 (c.coll.left - n))) ansZero 74
    rwa [show (w.setCell ⟨mb, 80, none⟩ (.int .i64 (c.coll.left - n))).heap.size = w.heap.size by simp [World.setCell]] at h9
  have CF := Lib.hide (finish_any B mb k ρ (withLeft c (c.coll.left - n)) m l k' _ hml (hi.withLeft hg _) (Nat.le_trans hB hmv.size) hk hg)
  obtain ⟨y, hy⟩ : ∃ y, c.coll.left - n = y := ⟨_, rfl⟩
  rw [hy] at hw hl hmv hbox CF
  have HMV := Lib.hide hmv
  have HBX := Lib.hide hbox
  have HNR := Lib.hide hnr
  clear h hi hg hX hml hmv hpa hl0 hl4 hnr hbox
  go_enter Try.func94, Try.ntmps94
  go_wp2_with fail
  refine CF.out.mono ?_
  rintro e w6 ⟨f, c', m6, ρ6, hf, rfl, hm6, hmv6⟩
  have hR4 := HBX.out.movedW hmv6 HNR.out
  have hn6 : ρ6 w.heap.size = none := hmv6.none _ HBX.out.lt HNR.out
  have r0 := hR4.cell 0 _ rfl
  have f0 := hR4.warm 0
  have r1 := hR4.cell 1 _ rfl
  have f1 := hR4.warm 1
  have r2 := hR4.cell 2 _ rfl
  have f2 := hR4.warm 2
  have r3 := hR4.cell 3 _ rfl
  have f3 := hR4.warm 3
  have r4 := hR4.cell 4 _ rfl
  have f4 := hR4.warm 4
  have r5 := hR4.cell 5 _ rfl
  have f5 := hR4.warm 5
  have r6 := hR4.cell 6 _ rfl
  have f6 := hR4.warm 6
  have rl := hR4.lt
  have hM9 := hm6.farPuts hn6 0 (ansCells ⟨0, false, 0, false, 0, false, f⟩)
  have hV9 := (HMV.out.trans hmv6).farPuts (Nat.le_refl _) 0 (ansCells ⟨0, false, 0, false, 0, false, f⟩)
  rw [puts_ans] at hM9 hV9
  have HP := Lib.hide (show MAnsW w B mb k ρ (CStepC c l n) (.returned (ansVal ⟨0, false, 0, false, 0, false, f⟩)) _ from ⟨_, c', m6, ρ6, HC.out f c' (CFinish.withLeft hf), rfl, hM9, hV9⟩)
  clear hm6 hmv6 hf hR4 hn6 hM9 hV9
  go_wp2
  refine bodyPost_ret (v := ansVal ⟨0, false, 0, false, 0, false, f⟩) (by simp only [results, Try.results94]; go_simp; simp [ansVal]) rfl ?_
  exact HP.out

theorem step_any (B mb k : Nat) (ρ : Roles) (c : Mc) (m : Mem) (l : List Nat) (k' : Nat) (n : Int) (w : World) (h : Mach w B mb k ρ c m) (hi : Good c l k') (hB : B ≤ w.heap.size) (hk : k ≤ 1000) :
    Calls Try.prog 94 #[.pointer (some ⟨mb, 0, none⟩), .int .i64 n] w (MAnsW w B mb k ρ (CStepC c l n)) := by
  by_cases hn : n < 1 ∨ 400 < n
  · exact step_range B mb k ρ c m l n w h hn
  · cases hg : c.coll.going
    · exact step_state B mb k ρ c m l n w h (by omega) (by omega) hg
    · have hl := hi.left hg
      by_cases h0 : 0 < c.coll.left - n
      · exact step_on B mb k ρ c m l n w h (by omega) (by omega) hg hl.2 h0
      · exact step_end B mb k ρ c m l k' n w h hi.inv hB hk (by omega) (by omega) hg hl.1 hl.2 h0
end Go.Proofs.Ytpdcaoagpjcgbab

