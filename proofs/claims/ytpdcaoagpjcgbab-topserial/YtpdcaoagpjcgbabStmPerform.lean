/-
  The walk of perform of package stm, kind by kind. It proves no statement by itself.
-/
import Derived.Test.YtpdcaoagpjcgbabStmStep
import Derived.Test.YtpdcaoagpjcgbabStmCommit
import Derived.StillTailTactics
set_option linter.unusedVariables false
set_option linter.unusedSimpArgs false
namespace Go.Proofs.Ytpdcaoagpjcgbab
open Go.RowKit Stm

def actI (kd t A b n : Int) : List Value := [.int .i64 kd, .int .i64 t, .int .i64 A, .int .i64 b, .int .i64 n]
theorem act_boxes (w : World) (kd t A b n : Int) : BoxL ((w.alloc (.cells #[.int .i64 kd, .int .i64 t, .int .i64 A, .int .i64 b, .int .i64 n] 71)).alloc (.cells #[.int .i64 0, .bool false, .int .i64 0, .bool false, .int .i64 0, .bool false, .int .i64 0] 74)) w.heap.size (actI kd t A b n) ∧
    BoxL ((w.alloc (.cells #[.int .i64 kd, .int .i64 t, .int .i64 A, .int .i64 b, .int .i64 n] 71)).alloc (.cells #[.int .i64 0, .bool false, .int .i64 0, .bool false, .int .i64 0, .bool false, .int .i64 0] 74)) (w.heap.size + 1) ansZero := by
  refine ⟨(BoxL.new w (actI kd t A b n) 71).next (by repeat (first | exact Below.refl _ _ | assumption | refine Below.drew ?_ | refine below_drewN ?_ _ | refine Below.allocs ?_ | refine Below.next ?_ (by assumption) | refine Below.setCell ?_ (by dsimp only; omega) _)), ?_⟩
  have := BoxL.new (w.alloc (.cells (actI kd t A b n).toArray 71)) ansZero 74
  rw [show (w.alloc (.cells (actI kd t A b n).toArray 71)).heap.size = w.heap.size + 1 by simp] at this
  exact this

theorem MCode.toW {w w' : World} {B mb k : Nat} {ρ : Roles} {R : Ans → Mc → Prop} {e : Ending} (h : MCode w B mb k ρ R e w') : MCodeW w B mb k ρ R e w' := by
  obtain ⟨x, c', m', ρ', h1, h2, h3, h4⟩ := h
  exact ⟨x, c', m', ρ', h1, h2, h3, h4.w⟩
theorem MAns.toW {w w' : World} {B mb k : Nat} {ρ : Roles} {R : Ans → Mc → Prop} {e : Ending} (h : MAns w B mb k ρ R e w') : MAnsW w B mb k ρ R e w' := by
  obtain ⟨x, c', m', ρ', h1, h2, h3, h4⟩ := h
  exact ⟨x, c', m', ρ', h1, h2, h3, h4.w⟩
theorem MCodeW.more {w w' : World} {B mb k k' : Nat} {ρ : Roles} {R : Ans → Mc → Prop} {e : Ending} (h : MCodeW w B mb k ρ R e w') (hk : k ≤ k') : MCodeW w B mb k' ρ R e w' := by
  obtain ⟨x, c', m', ρ', h1, h2, h3, h4⟩ := h
  exact ⟨x, c', m', ρ', h1, h2, h3.more hk, h4⟩
theorem MAnsW.more {w w' : World} {B mb k k' : Nat} {ρ : Roles} {R : Ans → Mc → Prop} {e : Ending} (h : MAnsW w B mb k ρ R e w') (hk : k ≤ k') : MAnsW w B mb k' ρ R e w' := by
  obtain ⟨x, c', m', ρ', h1, h2, h3, h4⟩ := h
  exact ⟨x, c', m', ρ', h1, h2, h3.more hk, h4⟩


set_option maxHeartbeats 1600000 in
set_option maxRecDepth 100000 in
theorem perform_begin (B mb k : Nat) (ρ : Roles) (c : Mc) (m : Mem) (l : List Nat) (k' : Nat) (t : Nat) (A b n : Int) (w : World) (h : Mach w B mb k ρ c m) (hi : Good c l k') (hB : B ≤ w.heap.size) (hk : k ≤ 400) (hk' : k' ≤ 400) (ht : t < 4) (hfe : firstErr ⟨1, (t : Int), A, b, n⟩ = 0) :
    Calls Try.prog 66 #[.pointer (some ⟨mb, 0, none⟩), .agg #[.int .i64 1, .int .i64 (t : Int), .int .i64 A, .int .i64 b, .int .i64 n]] w (MAnsW w B mb (k + 1) ρ (CBegin c t)) := by
  have H := Lib.hide h
  have HI := Lib.hide hi
  have NR := Lib.hide (fun b (hb : w.heap.size ≤ b) => h.noRole hb)
  have mlt := h.blk.lt
  clear h hi
  go_enter Try.func66, Try.ntmps66
  go_wp2_with fail
  have hbx := act_boxes w 1 (t : Int) A b n
  have hW : Below w.heap.size w ((w.alloc (.cells #[.int .i64 1, .int .i64 (t : Int), .int .i64 A, .int .i64 b, .int .i64 n] 71)).alloc (.cells #[.int .i64 0, .bool false, .int .i64 0, .bool false, .int .i64 0, .bool false, .int .i64 0] 74)) := (by repeat (first | exact Below.refl _ _ | assumption | refine Below.drew ?_ | refine below_drewN ?_ _ | refine Below.allocs ?_ | refine Below.next ?_ (by assumption) | refine Below.setCell ?_ (by dsimp only; omega) _))
  generalize (w.alloc (.cells #[.int .i64 1, .int .i64 (t : Int), .int .i64 A, .int .i64 b, .int .i64 n] 71)).alloc (.cells #[.int .i64 0, .bool false, .int .i64 0, .bool false, .int .i64 0, .bool false, .int .i64 0] 74) = W at hbx hW ⊢
  have CE := Lib.hide (firstError_any ⟨1, (t : Int), A, b, n⟩ W)
  rw [hfe] at CE
  refine CE.out.mono ?_
  rintro e w1 ⟨rfl, hb1⟩
  have hbw := Below.next hW hb1
  have hA1 := hbx.1.next hb1
  have hR1 := hbx.2.next hb1
  have hm1 := H.out.next hbw
  have a0 := hA1.cell 0 _ rfl
  have a1 := hA1.cell 1 _ rfl
  have a2 := hA1.cell 2 _ rfl
  have a3 := hA1.cell 3 _ rfl
  have a4 := hA1.cell 4 _ rfl
  have al := hA1.lt
  have HBW := Lib.hide hbw
  have HA1 := Lib.hide hA1
  have HR1 := Lib.hide hR1
  have HM1 := Lib.hide hm1
  have hw1B : B ≤ w1.heap.size := Nat.le_trans hB hbw.size
  clear hbx hW hb1 hbw hA1 hR1 hm1 CE
  have CM := Lib.hide (begin_any B mb k ρ c m t w1 HM1.out ht hw1B)
  go_wp2_with fail
  refine CM.out.mono ?_
  rintro e w2 hpost
  obtain ⟨x, c', m', ρ', hrel, rfl, hm2, hmv2⟩ := hpost.toW
  have hnr1 : ρ (w.heap.size + 1) = none := NR.out _ (Nat.le_succ _)
  have hR2 := HR1.out.movedW hmv2 hnr1
  have hn2 : ρ' (w.heap.size + 1) = none := hmv2.none _ HR1.out.lt hnr1
  have r0 := hR2.cell 0 _ rfl
  have f0 := hR2.warm 0
  have r1 := hR2.cell 1 _ rfl
  have f1 := hR2.warm 1
  have r2 := hR2.cell 2 _ rfl
  have f2 := hR2.warm 2
  have r3 := hR2.cell 3 _ rfl
  have f3 := hR2.warm 3
  have r4 := hR2.cell 4 _ rfl
  have f4 := hR2.warm 4
  have r5 := hR2.cell 5 _ rfl
  have f5 := hR2.warm 5
  have r6 := hR2.cell 6 _ rfl
  have f6 := hR2.warm 6
  have rl := hR2.lt
  have hM9 := hm2.farPuts hn2 0 (ansCells (.err x))
  have hV9 := ((MovedW.below HBW.out).trans hmv2).farPuts (Nat.le_succ _) 0 (ansCells (.err x))
  rw [puts_err] at hM9 hV9
  have HP := Lib.hide (show MAnsW w B mb (k + 1) ρ (CBegin c t) (.returned (ansVal (.err x))) _ from ⟨_, c', m', ρ', hrel, rfl, hM9.more (by omega), hV9⟩)
  clear hm2 hmv2 hrel hR2 hn2 hM9 hV9 hpost hnr1 a0 a1 a2 a3 a4 al
  go_wp2
  refine bodyPost_ret (v := ansVal (.err x)) (by simp only [results, Try.results66]; go_simp; simp [ansVal, Ans.err]) rfl ?_
  exact HP.out

set_option maxHeartbeats 1600000 in
set_option maxRecDepth 100000 in
theorem perform_commit (B mb k : Nat) (ρ : Roles) (c : Mc) (m : Mem) (l : List Nat) (k' : Nat) (t : Nat) (A b n : Int) (w : World) (h : Mach w B mb k ρ c m) (hi : Good c l k') (hB : B ≤ w.heap.size) (hk : k ≤ 400) (hk' : k' ≤ 400) (ht : t < 4) (hfe : firstErr ⟨2, (t : Int), A, b, n⟩ = 0) :
    Calls Try.prog 66 #[.pointer (some ⟨mb, 0, none⟩), .agg #[.int .i64 2, .int .i64 (t : Int), .int .i64 A, .int .i64 b, .int .i64 n]] w (MAnsW w B mb (k + 1) ρ (CCommit c t)) := by
  have H := Lib.hide h
  have HI := Lib.hide hi
  have NR := Lib.hide (fun b (hb : w.heap.size ≤ b) => h.noRole hb)
  have mlt := h.blk.lt
  clear h hi
  go_enter Try.func66, Try.ntmps66
  go_wp2_with fail
  have hbx := act_boxes w 2 (t : Int) A b n
  have hW : Below w.heap.size w ((w.alloc (.cells #[.int .i64 2, .int .i64 (t : Int), .int .i64 A, .int .i64 b, .int .i64 n] 71)).alloc (.cells #[.int .i64 0, .bool false, .int .i64 0, .bool false, .int .i64 0, .bool false, .int .i64 0] 74)) := (by repeat (first | exact Below.refl _ _ | assumption | refine Below.drew ?_ | refine below_drewN ?_ _ | refine Below.allocs ?_ | refine Below.next ?_ (by assumption) | refine Below.setCell ?_ (by dsimp only; omega) _))
  generalize (w.alloc (.cells #[.int .i64 2, .int .i64 (t : Int), .int .i64 A, .int .i64 b, .int .i64 n] 71)).alloc (.cells #[.int .i64 0, .bool false, .int .i64 0, .bool false, .int .i64 0, .bool false, .int .i64 0] 74) = W at hbx hW ⊢
  have CE := Lib.hide (firstError_any ⟨2, (t : Int), A, b, n⟩ W)
  rw [hfe] at CE
  refine CE.out.mono ?_
  rintro e w1 ⟨rfl, hb1⟩
  have hbw := Below.next hW hb1
  have hA1 := hbx.1.next hb1
  have hR1 := hbx.2.next hb1
  have hm1 := H.out.next hbw
  have a0 := hA1.cell 0 _ rfl
  have a1 := hA1.cell 1 _ rfl
  have a2 := hA1.cell 2 _ rfl
  have a3 := hA1.cell 3 _ rfl
  have a4 := hA1.cell 4 _ rfl
  have al := hA1.lt
  have HBW := Lib.hide hbw
  have HA1 := Lib.hide hA1
  have HR1 := Lib.hide hR1
  have HM1 := Lib.hide hm1
  have hw1B : B ≤ w1.heap.size := Nat.le_trans hB hbw.size
  clear hbx hW hb1 hbw hA1 hR1 hm1 CE
  have CM := Lib.hide (commit_any B mb k ρ c m t w1 HM1.out ht hw1B HI.out.inv.valid.len2 (by have := HI.out.inv.valid.len1; omega) (HI.out.inv.ownOk hk' t) (HI.out.inv.keyed hk' t))
  go_wp2_with fail
  refine CM.out.mono ?_
  rintro e w2 hpost
  obtain ⟨x, c', m', ρ', hrel, rfl, hm2, hmv2⟩ := hpost.toW
  have hnr1 : ρ (w.heap.size + 1) = none := NR.out _ (Nat.le_succ _)
  have hR2 := HR1.out.movedW hmv2 hnr1
  have hn2 : ρ' (w.heap.size + 1) = none := hmv2.none _ HR1.out.lt hnr1
  have r0 := hR2.cell 0 _ rfl
  have f0 := hR2.warm 0
  have r1 := hR2.cell 1 _ rfl
  have f1 := hR2.warm 1
  have r2 := hR2.cell 2 _ rfl
  have f2 := hR2.warm 2
  have r3 := hR2.cell 3 _ rfl
  have f3 := hR2.warm 3
  have r4 := hR2.cell 4 _ rfl
  have f4 := hR2.warm 4
  have r5 := hR2.cell 5 _ rfl
  have f5 := hR2.warm 5
  have r6 := hR2.cell 6 _ rfl
  have f6 := hR2.warm 6
  have rl := hR2.lt
  have hM9 := hm2.farPuts hn2 0 (ansCells (.err x))
  have hV9 := ((MovedW.below HBW.out).trans hmv2).farPuts (Nat.le_succ _) 0 (ansCells (.err x))
  rw [puts_err] at hM9 hV9
  have HP := Lib.hide (show MAnsW w B mb (k + 1) ρ (CCommit c t) (.returned (ansVal (.err x))) _ from ⟨_, c', m', ρ', hrel, rfl, hM9.more (by omega), hV9⟩)
  clear hm2 hmv2 hrel hR2 hn2 hM9 hV9 hpost hnr1 a0 a1 a2 a3 a4 al
  go_wp2
  refine bodyPost_ret (v := ansVal (.err x)) (by simp only [results, Try.results66]; go_simp; simp [ansVal, Ans.err]) rfl ?_
  exact HP.out

set_option maxHeartbeats 1600000 in
set_option maxRecDepth 100000 in
theorem perform_abort (B mb k : Nat) (ρ : Roles) (c : Mc) (m : Mem) (l : List Nat) (k' : Nat) (t : Nat) (A b n : Int) (w : World) (h : Mach w B mb k ρ c m) (hi : Good c l k') (hB : B ≤ w.heap.size) (hk : k ≤ 400) (hk' : k' ≤ 400) (ht : t < 4) (hfe : firstErr ⟨3, (t : Int), A, b, n⟩ = 0) :
    Calls Try.prog 66 #[.pointer (some ⟨mb, 0, none⟩), .agg #[.int .i64 3, .int .i64 (t : Int), .int .i64 A, .int .i64 b, .int .i64 n]] w (MAnsW w B mb (k + 1) ρ (CAbort c t)) := by
  have H := Lib.hide h
  have HI := Lib.hide hi
  have NR := Lib.hide (fun b (hb : w.heap.size ≤ b) => h.noRole hb)
  have mlt := h.blk.lt
  clear h hi
  go_enter Try.func66, Try.ntmps66
  go_wp2_with fail
  have hbx := act_boxes w 3 (t : Int) A b n
  have hW : Below w.heap.size w ((w.alloc (.cells #[.int .i64 3, .int .i64 (t : Int), .int .i64 A, .int .i64 b, .int .i64 n] 71)).alloc (.cells #[.int .i64 0, .bool false, .int .i64 0, .bool false, .int .i64 0, .bool false, .int .i64 0] 74)) := (by repeat (first | exact Below.refl _ _ | assumption | refine Below.drew ?_ | refine below_drewN ?_ _ | refine Below.allocs ?_ | refine Below.next ?_ (by assumption) | refine Below.setCell ?_ (by dsimp only; omega) _))
  generalize (w.alloc (.cells #[.int .i64 3, .int .i64 (t : Int), .int .i64 A, .int .i64 b, .int .i64 n] 71)).alloc (.cells #[.int .i64 0, .bool false, .int .i64 0, .bool false, .int .i64 0, .bool false, .int .i64 0] 74) = W at hbx hW ⊢
  have CE := Lib.hide (firstError_any ⟨3, (t : Int), A, b, n⟩ W)
  rw [hfe] at CE
  refine CE.out.mono ?_
  rintro e w1 ⟨rfl, hb1⟩
  have hbw := Below.next hW hb1
  have hA1 := hbx.1.next hb1
  have hR1 := hbx.2.next hb1
  have hm1 := H.out.next hbw
  have a0 := hA1.cell 0 _ rfl
  have a1 := hA1.cell 1 _ rfl
  have a2 := hA1.cell 2 _ rfl
  have a3 := hA1.cell 3 _ rfl
  have a4 := hA1.cell 4 _ rfl
  have al := hA1.lt
  have HBW := Lib.hide hbw
  have HA1 := Lib.hide hA1
  have HR1 := Lib.hide hR1
  have HM1 := Lib.hide hm1
  have hw1B : B ≤ w1.heap.size := Nat.le_trans hB hbw.size
  clear hbx hW hb1 hbw hA1 hR1 hm1 CE
  have CM := Lib.hide (abort_any B mb k ρ c m t w1 HM1.out ht hw1B HI.out.inv.valid.len2 (by have := HI.out.inv.valid.len1; omega) (HI.out.inv.ownOk hk' t))
  go_wp2_with fail
  refine CM.out.mono ?_
  rintro e w2 hpost
  obtain ⟨x, c', m', ρ', hrel, rfl, hm2, hmv2⟩ := hpost.toW
  have hnr1 : ρ (w.heap.size + 1) = none := NR.out _ (Nat.le_succ _)
  have hR2 := HR1.out.movedW hmv2 hnr1
  have hn2 : ρ' (w.heap.size + 1) = none := hmv2.none _ HR1.out.lt hnr1
  have r0 := hR2.cell 0 _ rfl
  have f0 := hR2.warm 0
  have r1 := hR2.cell 1 _ rfl
  have f1 := hR2.warm 1
  have r2 := hR2.cell 2 _ rfl
  have f2 := hR2.warm 2
  have r3 := hR2.cell 3 _ rfl
  have f3 := hR2.warm 3
  have r4 := hR2.cell 4 _ rfl
  have f4 := hR2.warm 4
  have r5 := hR2.cell 5 _ rfl
  have f5 := hR2.warm 5
  have r6 := hR2.cell 6 _ rfl
  have f6 := hR2.warm 6
  have rl := hR2.lt
  have hM9 := hm2.farPuts hn2 0 (ansCells (.err x))
  have hV9 := ((MovedW.below HBW.out).trans hmv2).farPuts (Nat.le_succ _) 0 (ansCells (.err x))
  rw [puts_err] at hM9 hV9
  have HP := Lib.hide (show MAnsW w B mb (k + 1) ρ (CAbort c t) (.returned (ansVal (.err x))) _ from ⟨_, c', m', ρ', hrel, rfl, hM9.more (by omega), hV9⟩)
  clear hm2 hmv2 hrel hR2 hn2 hM9 hV9 hpost hnr1 a0 a1 a2 a3 a4 al
  go_wp2
  refine bodyPost_ret (v := ansVal (.err x)) (by simp only [results, Try.results66]; go_simp; simp [ansVal, Ans.err]) rfl ?_
  exact HP.out

set_option maxHeartbeats 1600000 in
set_option maxRecDepth 100000 in
theorem perform_new (B mb k : Nat) (ρ : Roles) (c : Mc) (m : Mem) (l : List Nat) (k' : Nat) (t A : Nat) (b n : Int) (w : World) (h : Mach w B mb k ρ c m) (hi : Good c l k') (hB : B ≤ w.heap.size) (hk : k ≤ 400) (hk' : k' ≤ 400) (ht : t < 4) (hA : A < 4) (hfe : firstErr ⟨4, (t : Int), (A : Int), b, n⟩ = 0) :
    Calls Try.prog 66 #[.pointer (some ⟨mb, 0, none⟩), .agg #[.int .i64 4, .int .i64 (t : Int), .int .i64 (A : Int), .int .i64 b, .int .i64 n]] w (MAnsW w B mb (k + 1) ρ (CNew c t A n)) := by
  have H := Lib.hide h
  have HI := Lib.hide hi
  have NR := Lib.hide (fun b (hb : w.heap.size ≤ b) => h.noRole hb)
  have mlt := h.blk.lt
  clear h hi
  go_enter Try.func66, Try.ntmps66
  go_wp2_with fail
  have hbx := act_boxes w 4 (t : Int) (A : Int) b n
  have hW : Below w.heap.size w ((w.alloc (.cells #[.int .i64 4, .int .i64 (t : Int), .int .i64 (A : Int), .int .i64 b, .int .i64 n] 71)).alloc (.cells #[.int .i64 0, .bool false, .int .i64 0, .bool false, .int .i64 0, .bool false, .int .i64 0] 74)) := (by repeat (first | exact Below.refl _ _ | assumption | refine Below.drew ?_ | refine below_drewN ?_ _ | refine Below.allocs ?_ | refine Below.next ?_ (by assumption) | refine Below.setCell ?_ (by dsimp only; omega) _))
  generalize (w.alloc (.cells #[.int .i64 4, .int .i64 (t : Int), .int .i64 (A : Int), .int .i64 b, .int .i64 n] 71)).alloc (.cells #[.int .i64 0, .bool false, .int .i64 0, .bool false, .int .i64 0, .bool false, .int .i64 0] 74) = W at hbx hW ⊢
  have CE := Lib.hide (firstError_any ⟨4, (t : Int), (A : Int), b, n⟩ W)
  rw [hfe] at CE
  refine CE.out.mono ?_
  rintro e w1 ⟨rfl, hb1⟩
  have hbw := Below.next hW hb1
  have hA1 := hbx.1.next hb1
  have hR1 := hbx.2.next hb1
  have hm1 := H.out.next hbw
  have a0 := hA1.cell 0 _ rfl
  have a1 := hA1.cell 1 _ rfl
  have a2 := hA1.cell 2 _ rfl
  have a3 := hA1.cell 3 _ rfl
  have a4 := hA1.cell 4 _ rfl
  have al := hA1.lt
  have HBW := Lib.hide hbw
  have HA1 := Lib.hide hA1
  have HR1 := Lib.hide hR1
  have HM1 := Lib.hide hm1
  have hw1B : B ≤ w1.heap.size := Nat.le_trans hB hbw.size
  clear hbx hW hb1 hbw hA1 hR1 hm1 CE
  have CM := Lib.hide (create_any B mb k ρ c m l k' 4 t A b n w1 HM1.out HI.out.inv hw1B ht hA)
  go_wp2_with fail
  refine CM.out.mono ?_
  rintro e w2 hpost
  obtain ⟨x, c', m', ρ', hrel, rfl, hm2, hmv2⟩ := hpost.toW
  have hnr1 : ρ (w.heap.size + 1) = none := NR.out _ (Nat.le_succ _)
  have hR2 := HR1.out.movedW hmv2 hnr1
  have hn2 : ρ' (w.heap.size + 1) = none := hmv2.none _ HR1.out.lt hnr1
  have r0 := hR2.cell 0 _ rfl
  have f0 := hR2.warm 0
  have r1 := hR2.cell 1 _ rfl
  have f1 := hR2.warm 1
  have r2 := hR2.cell 2 _ rfl
  have f2 := hR2.warm 2
  have r3 := hR2.cell 3 _ rfl
  have f3 := hR2.warm 3
  have r4 := hR2.cell 4 _ rfl
  have f4 := hR2.warm 4
  have r5 := hR2.cell 5 _ rfl
  have f5 := hR2.warm 5
  have r6 := hR2.cell 6 _ rfl
  have f6 := hR2.warm 6
  have rl := hR2.lt
  have hM9 := hm2.farPuts hn2 0 (ansCells (.err x))
  have hV9 := ((MovedW.below HBW.out).trans hmv2).farPuts (Nat.le_succ _) 0 (ansCells (.err x))
  rw [puts_err] at hM9 hV9
  have HP := Lib.hide (show MAnsW w B mb (k + 1) ρ (CNew c t A n) (.returned (ansVal (.err x))) _ from ⟨_, c', m', ρ', hrel, rfl, hM9.more (by omega), hV9⟩)
  clear hm2 hmv2 hrel hR2 hn2 hM9 hV9 hpost hnr1 a0 a1 a2 a3 a4 al
  go_wp2
  refine bodyPost_ret (v := ansVal (.err x)) (by simp only [results, Try.results66]; go_simp; simp [ansVal, Ans.err]) rfl ?_
  exact HP.out

set_option maxHeartbeats 1600000 in
set_option maxRecDepth 100000 in
theorem perform_get (B mb k : Nat) (ρ : Roles) (c : Mc) (m : Mem) (l : List Nat) (k' : Nat) (t A b : Nat) (n : Int) (w : World) (h : Mach w B mb k ρ c m) (hi : Good c l k') (hB : B ≤ w.heap.size) (hk : k ≤ 400) (hk' : k' ≤ 400) (ht : t < 4) (hA : A < 4) (hb : b < 4) (hfe : firstErr ⟨5, (t : Int), (A : Int), (b : Int), n⟩ = 0) :
    Calls Try.prog 66 #[.pointer (some ⟨mb, 0, none⟩), .agg #[.int .i64 5, .int .i64 (t : Int), .int .i64 (A : Int), .int .i64 (b : Int), .int .i64 n]] w (MAnsW w B mb (k + 1) ρ (CGet c l t A b n)) := by
  have H := Lib.hide h
  have HI := Lib.hide hi
  have NR := Lib.hide (fun b (hb : w.heap.size ≤ b) => h.noRole hb)
  have mlt := h.blk.lt
  clear h hi
  go_enter Try.func66, Try.ntmps66
  go_wp2_with fail
  have hbx := act_boxes w 5 (t : Int) (A : Int) (b : Int) n
  have hW : Below w.heap.size w ((w.alloc (.cells #[.int .i64 5, .int .i64 (t : Int), .int .i64 (A : Int), .int .i64 (b : Int), .int .i64 n] 71)).alloc (.cells #[.int .i64 0, .bool false, .int .i64 0, .bool false, .int .i64 0, .bool false, .int .i64 0] 74)) := (by repeat (first | exact Below.refl _ _ | assumption | refine Below.drew ?_ | refine below_drewN ?_ _ | refine Below.allocs ?_ | refine Below.next ?_ (by assumption) | refine Below.setCell ?_ (by dsimp only; omega) _))
  generalize (w.alloc (.cells #[.int .i64 5, .int .i64 (t : Int), .int .i64 (A : Int), .int .i64 (b : Int), .int .i64 n] 71)).alloc (.cells #[.int .i64 0, .bool false, .int .i64 0, .bool false, .int .i64 0, .bool false, .int .i64 0] 74) = W at hbx hW ⊢
  have CE := Lib.hide (firstError_any ⟨5, (t : Int), (A : Int), (b : Int), n⟩ W)
  rw [hfe] at CE
  refine CE.out.mono ?_
  rintro e w1 ⟨rfl, hb1⟩
  have hbw := Below.next hW hb1
  have hA1 := hbx.1.next hb1
  have hR1 := hbx.2.next hb1
  have hm1 := H.out.next hbw
  have a0 := hA1.cell 0 _ rfl
  have a1 := hA1.cell 1 _ rfl
  have a2 := hA1.cell 2 _ rfl
  have a3 := hA1.cell 3 _ rfl
  have a4 := hA1.cell 4 _ rfl
  have al := hA1.lt
  have HBW := Lib.hide hbw
  have HA1 := Lib.hide hA1
  have HR1 := Lib.hide hR1
  have HM1 := Lib.hide hm1
  have hw1B : B ≤ w1.heap.size := Nat.le_trans hB hbw.size
  clear hbx hW hb1 hbw hA1 hR1 hm1 CE
  have CM := Lib.hide (get_any B mb k ρ c m l k' 5 t A b n w1 HM1.out HI.out.inv hk' hk ht hA hb)
  go_wp2_with fail
  refine CM.out.mono ?_
  rintro e w2 hpost
  obtain ⟨r, c', m', ρ', hrel, rfl, hm2, hmv2⟩ := hpost.toW
  have hnr1 : ρ (w.heap.size + 1) = none := NR.out _ (Nat.le_succ _)
  have hR2 := HR1.out.movedW hmv2 hnr1
  have hn2 : ρ' (w.heap.size + 1) = none := hmv2.none _ HR1.out.lt hnr1
  have r0 := hR2.cell 0 _ rfl
  have f0 := hR2.warm 0
  have r1 := hR2.cell 1 _ rfl
  have f1 := hR2.warm 1
  have r2 := hR2.cell 2 _ rfl
  have f2 := hR2.warm 2
  have r3 := hR2.cell 3 _ rfl
  have f3 := hR2.warm 3
  have r4 := hR2.cell 4 _ rfl
  have f4 := hR2.warm 4
  have r5 := hR2.cell 5 _ rfl
  have f5 := hR2.warm 5
  have r6 := hR2.cell 6 _ rfl
  have f6 := hR2.warm 6
  have rl := hR2.lt
  have hM9 := hm2.farPuts hn2 0 (ansCells r)
  have hV9 := ((MovedW.below HBW.out).trans hmv2).farPuts (Nat.le_succ _) 0 (ansCells r)
  rw [puts_ans] at hM9 hV9
  have HP := Lib.hide (show MAnsW w B mb (k + 1) ρ (CGet c l t A b n) (.returned (ansVal r)) _ from ⟨_, c', m', ρ', hrel, rfl, hM9.more (by omega), hV9⟩)
  unfold ansVal
  clear hm2 hmv2 hrel hR2 hn2 hM9 hV9 hpost hnr1 a0 a1 a2 a3 a4 al
  obtain ⟨rcode, rnum, rnumber, ryes, rwords, rgoing, rfreed⟩ := r
  go_wp2
  refine bodyPost_ret (v := ansVal ⟨rcode, rnum, rnumber, ryes, rwords, rgoing, rfreed⟩) (by simp only [results, Try.results66]; go_simp; simp [ansVal]) rfl ?_
  exact HP.out

set_option maxHeartbeats 1600000 in
set_option maxRecDepth 100000 in
theorem perform_put (B mb k : Nat) (ρ : Roles) (c : Mc) (m : Mem) (l : List Nat) (k' : Nat) (t A b : Nat) (n : Int) (w : World) (h : Mach w B mb k ρ c m) (hi : Good c l k') (hB : B ≤ w.heap.size) (hk : k ≤ 400) (hk' : k' ≤ 400) (ht : t < 4) (hA : A < 4) (hb : b < 4) (hfe : firstErr ⟨6, (t : Int), (A : Int), (b : Int), n⟩ = 0) :
    Calls Try.prog 66 #[.pointer (some ⟨mb, 0, none⟩), .agg #[.int .i64 6, .int .i64 (t : Int), .int .i64 (A : Int), .int .i64 (b : Int), .int .i64 n]] w (MAnsW w B mb (k + 1) ρ (CPut c l t A b n)) := by
  have H := Lib.hide h
  have HI := Lib.hide hi
  have NR := Lib.hide (fun b (hb : w.heap.size ≤ b) => h.noRole hb)
  have mlt := h.blk.lt
  clear h hi
  go_enter Try.func66, Try.ntmps66
  go_wp2_with fail
  have hbx := act_boxes w 6 (t : Int) (A : Int) (b : Int) n
  have hW : Below w.heap.size w ((w.alloc (.cells #[.int .i64 6, .int .i64 (t : Int), .int .i64 (A : Int), .int .i64 (b : Int), .int .i64 n] 71)).alloc (.cells #[.int .i64 0, .bool false, .int .i64 0, .bool false, .int .i64 0, .bool false, .int .i64 0] 74)) := (by repeat (first | exact Below.refl _ _ | assumption | refine Below.drew ?_ | refine below_drewN ?_ _ | refine Below.allocs ?_ | refine Below.next ?_ (by assumption) | refine Below.setCell ?_ (by dsimp only; omega) _))
  generalize (w.alloc (.cells #[.int .i64 6, .int .i64 (t : Int), .int .i64 (A : Int), .int .i64 (b : Int), .int .i64 n] 71)).alloc (.cells #[.int .i64 0, .bool false, .int .i64 0, .bool false, .int .i64 0, .bool false, .int .i64 0] 74) = W at hbx hW ⊢
  have CE := Lib.hide (firstError_any ⟨6, (t : Int), (A : Int), (b : Int), n⟩ W)
  rw [hfe] at CE
  refine CE.out.mono ?_
  rintro e w1 ⟨rfl, hb1⟩
  have hbw := Below.next hW hb1
  have hA1 := hbx.1.next hb1
  have hR1 := hbx.2.next hb1
  have hm1 := H.out.next hbw
  have a0 := hA1.cell 0 _ rfl
  have a1 := hA1.cell 1 _ rfl
  have a2 := hA1.cell 2 _ rfl
  have a3 := hA1.cell 3 _ rfl
  have a4 := hA1.cell 4 _ rfl
  have al := hA1.lt
  have HBW := Lib.hide hbw
  have HA1 := Lib.hide hA1
  have HR1 := Lib.hide hR1
  have HM1 := Lib.hide hm1
  have hw1B : B ≤ w1.heap.size := Nat.le_trans hB hbw.size
  clear hbx hW hb1 hbw hA1 hR1 hm1 CE
  have CM := Lib.hide (put_any B mb k ρ c m l k' 6 t A b n w1 HM1.out HI.out.inv hk' hk hw1B ht hA hb)
  go_wp2_with fail
  refine CM.out.mono ?_
  rintro e w2 hpost
  obtain ⟨x, c', m', ρ', hrel, rfl, hm2, hmv2⟩ := hpost.toW
  have hnr1 : ρ (w.heap.size + 1) = none := NR.out _ (Nat.le_succ _)
  have hR2 := HR1.out.movedW hmv2 hnr1
  have hn2 : ρ' (w.heap.size + 1) = none := hmv2.none _ HR1.out.lt hnr1
  have r0 := hR2.cell 0 _ rfl
  have f0 := hR2.warm 0
  have r1 := hR2.cell 1 _ rfl
  have f1 := hR2.warm 1
  have r2 := hR2.cell 2 _ rfl
  have f2 := hR2.warm 2
  have r3 := hR2.cell 3 _ rfl
  have f3 := hR2.warm 3
  have r4 := hR2.cell 4 _ rfl
  have f4 := hR2.warm 4
  have r5 := hR2.cell 5 _ rfl
  have f5 := hR2.warm 5
  have r6 := hR2.cell 6 _ rfl
  have f6 := hR2.warm 6
  have rl := hR2.lt
  have hM9 := hm2.farPuts hn2 0 (ansCells (.err x))
  have hV9 := ((MovedW.below HBW.out).trans hmv2).farPuts (Nat.le_succ _) 0 (ansCells (.err x))
  rw [puts_err] at hM9 hV9
  have HP := Lib.hide (show MAnsW w B mb (k + 1) ρ (CPut c l t A b n) (.returned (ansVal (.err x))) _ from ⟨_, c', m', ρ', hrel, rfl, hM9.more (by omega), hV9⟩)
  clear hm2 hmv2 hrel hR2 hn2 hM9 hV9 hpost hnr1 a0 a1 a2 a3 a4 al
  go_wp2
  refine bodyPost_ret (v := ansVal (.err x)) (by simp only [results, Try.results66]; go_simp; simp [ansVal, Ans.err]) rfl ?_
  exact HP.out

set_option maxHeartbeats 1600000 in
set_option maxRecDepth 100000 in
theorem perform_set (B mb k : Nat) (ρ : Roles) (c : Mc) (m : Mem) (l : List Nat) (k' : Nat) (t A : Nat) (b n : Int) (w : World) (h : Mach w B mb k ρ c m) (hi : Good c l k') (hB : B ≤ w.heap.size) (hk : k ≤ 400) (hk' : k' ≤ 400) (ht : t < 4) (hA : A < 4) (hfe : firstErr ⟨7, (t : Int), (A : Int), b, n⟩ = 0) :
    Calls Try.prog 66 #[.pointer (some ⟨mb, 0, none⟩), .agg #[.int .i64 7, .int .i64 (t : Int), .int .i64 (A : Int), .int .i64 b, .int .i64 n]] w (MAnsW w B mb (k + 1) ρ (CSet c t A n)) := by
  have H := Lib.hide h
  have HI := Lib.hide hi
  have NR := Lib.hide (fun b (hb : w.heap.size ≤ b) => h.noRole hb)
  have mlt := h.blk.lt
  clear h hi
  go_enter Try.func66, Try.ntmps66
  go_wp2_with fail
  have hbx := act_boxes w 7 (t : Int) (A : Int) b n
  have hW : Below w.heap.size w ((w.alloc (.cells #[.int .i64 7, .int .i64 (t : Int), .int .i64 (A : Int), .int .i64 b, .int .i64 n] 71)).alloc (.cells #[.int .i64 0, .bool false, .int .i64 0, .bool false, .int .i64 0, .bool false, .int .i64 0] 74)) := (by repeat (first | exact Below.refl _ _ | assumption | refine Below.drew ?_ | refine below_drewN ?_ _ | refine Below.allocs ?_ | refine Below.next ?_ (by assumption) | refine Below.setCell ?_ (by dsimp only; omega) _))
  generalize (w.alloc (.cells #[.int .i64 7, .int .i64 (t : Int), .int .i64 (A : Int), .int .i64 b, .int .i64 n] 71)).alloc (.cells #[.int .i64 0, .bool false, .int .i64 0, .bool false, .int .i64 0, .bool false, .int .i64 0] 74) = W at hbx hW ⊢
  have CE := Lib.hide (firstError_any ⟨7, (t : Int), (A : Int), b, n⟩ W)
  rw [hfe] at CE
  refine CE.out.mono ?_
  rintro e w1 ⟨rfl, hb1⟩
  have hbw := Below.next hW hb1
  have hA1 := hbx.1.next hb1
  have hR1 := hbx.2.next hb1
  have hm1 := H.out.next hbw
  have a0 := hA1.cell 0 _ rfl
  have a1 := hA1.cell 1 _ rfl
  have a2 := hA1.cell 2 _ rfl
  have a3 := hA1.cell 3 _ rfl
  have a4 := hA1.cell 4 _ rfl
  have al := hA1.lt
  have HBW := Lib.hide hbw
  have HA1 := Lib.hide hA1
  have HR1 := Lib.hide hR1
  have HM1 := Lib.hide hm1
  have hw1B : B ≤ w1.heap.size := Nat.le_trans hB hbw.size
  clear hbx hW hb1 hbw hA1 hR1 hm1 CE
  have CM := Lib.hide (set_any B mb k ρ c m 7 b t A n w1 HM1.out ht hA)
  go_wp2_with fail
  refine CM.out.mono ?_
  rintro e w2 hpost
  obtain ⟨r, c', m', ρ', hrel, rfl, hm2, hmv2⟩ := hpost.toW
  have hnr1 : ρ (w.heap.size + 1) = none := NR.out _ (Nat.le_succ _)
  have hR2 := HR1.out.movedW hmv2 hnr1
  have hn2 : ρ' (w.heap.size + 1) = none := hmv2.none _ HR1.out.lt hnr1
  have r0 := hR2.cell 0 _ rfl
  have f0 := hR2.warm 0
  have r1 := hR2.cell 1 _ rfl
  have f1 := hR2.warm 1
  have r2 := hR2.cell 2 _ rfl
  have f2 := hR2.warm 2
  have r3 := hR2.cell 3 _ rfl
  have f3 := hR2.warm 3
  have r4 := hR2.cell 4 _ rfl
  have f4 := hR2.warm 4
  have r5 := hR2.cell 5 _ rfl
  have f5 := hR2.warm 5
  have r6 := hR2.cell 6 _ rfl
  have f6 := hR2.warm 6
  have rl := hR2.lt
  have hM9 := hm2.farPuts hn2 0 (ansCells r)
  have hV9 := ((MovedW.below HBW.out).trans hmv2).farPuts (Nat.le_succ _) 0 (ansCells r)
  rw [puts_ans] at hM9 hV9
  have HP := Lib.hide (show MAnsW w B mb (k + 1) ρ (CSet c t A n) (.returned (ansVal r)) _ from ⟨_, c', m', ρ', hrel, rfl, hM9.more (by omega), hV9⟩)
  unfold ansVal
  clear hm2 hmv2 hrel hR2 hn2 hM9 hV9 hpost hnr1 a0 a1 a2 a3 a4 al
  obtain ⟨rcode, rnum, rnumber, ryes, rwords, rgoing, rfreed⟩ := r
  go_wp2
  refine bodyPost_ret (v := ansVal ⟨rcode, rnum, rnumber, ryes, rwords, rgoing, rfreed⟩) (by simp only [results, Try.results66]; go_simp; simp [ansVal]) rfl ?_
  exact HP.out

set_option maxHeartbeats 1600000 in
set_option maxRecDepth 100000 in
theorem perform_copy (B mb k : Nat) (ρ : Roles) (c : Mc) (m : Mem) (l : List Nat) (k' : Nat) (t A b u : Nat) (w : World) (h : Mach w B mb k ρ c m) (hi : Good c l k') (hB : B ≤ w.heap.size) (hk : k ≤ 400) (hk' : k' ≤ 400) (ht : t < 4) (hA : A < 4) (hb : b < 4) (hu : u < 4) (hfe : firstErr ⟨8, (t : Int), (A : Int), (b : Int), (u : Int)⟩ = 0) :
    Calls Try.prog 66 #[.pointer (some ⟨mb, 0, none⟩), .agg #[.int .i64 8, .int .i64 (t : Int), .int .i64 (A : Int), .int .i64 (b : Int), .int .i64 (u : Int)]] w (MAnsW w B mb (k + 1) ρ (CCopy c t A b u)) := by
  have H := Lib.hide h
  have HI := Lib.hide hi
  have NR := Lib.hide (fun b (hb : w.heap.size ≤ b) => h.noRole hb)
  have mlt := h.blk.lt
  clear h hi
  go_enter Try.func66, Try.ntmps66
  go_wp2_with fail
  have hbx := act_boxes w 8 (t : Int) (A : Int) (b : Int) (u : Int)
  have hW : Below w.heap.size w ((w.alloc (.cells #[.int .i64 8, .int .i64 (t : Int), .int .i64 (A : Int), .int .i64 (b : Int), .int .i64 (u : Int)] 71)).alloc (.cells #[.int .i64 0, .bool false, .int .i64 0, .bool false, .int .i64 0, .bool false, .int .i64 0] 74)) := (by repeat (first | exact Below.refl _ _ | assumption | refine Below.drew ?_ | refine below_drewN ?_ _ | refine Below.allocs ?_ | refine Below.next ?_ (by assumption) | refine Below.setCell ?_ (by dsimp only; omega) _))
  generalize (w.alloc (.cells #[.int .i64 8, .int .i64 (t : Int), .int .i64 (A : Int), .int .i64 (b : Int), .int .i64 (u : Int)] 71)).alloc (.cells #[.int .i64 0, .bool false, .int .i64 0, .bool false, .int .i64 0, .bool false, .int .i64 0] 74) = W at hbx hW ⊢
  have CE := Lib.hide (firstError_any ⟨8, (t : Int), (A : Int), (b : Int), (u : Int)⟩ W)
  rw [hfe] at CE
  refine CE.out.mono ?_
  rintro e w1 ⟨rfl, hb1⟩
  have hbw := Below.next hW hb1
  have hA1 := hbx.1.next hb1
  have hR1 := hbx.2.next hb1
  have hm1 := H.out.next hbw
  have a0 := hA1.cell 0 _ rfl
  have a1 := hA1.cell 1 _ rfl
  have a2 := hA1.cell 2 _ rfl
  have a3 := hA1.cell 3 _ rfl
  have a4 := hA1.cell 4 _ rfl
  have al := hA1.lt
  have HBW := Lib.hide hbw
  have HA1 := Lib.hide hA1
  have HR1 := Lib.hide hR1
  have HM1 := Lib.hide hm1
  have hw1B : B ≤ w1.heap.size := Nat.le_trans hB hbw.size
  clear hbx hW hb1 hbw hA1 hR1 hm1 CE
  have CM := Lib.hide (copyRegister_any B mb k ρ c m 8 t A b u w1 HM1.out ht hA hb hu)
  go_wp2_with fail
  refine CM.out.mono ?_
  rintro e w2 hpost
  obtain ⟨x, c', m', ρ', hrel, rfl, hm2, hmv2⟩ := hpost.toW
  have hnr1 : ρ (w.heap.size + 1) = none := NR.out _ (Nat.le_succ _)
  have hR2 := HR1.out.movedW hmv2 hnr1
  have hn2 : ρ' (w.heap.size + 1) = none := hmv2.none _ HR1.out.lt hnr1
  have r0 := hR2.cell 0 _ rfl
  have f0 := hR2.warm 0
  have r1 := hR2.cell 1 _ rfl
  have f1 := hR2.warm 1
  have r2 := hR2.cell 2 _ rfl
  have f2 := hR2.warm 2
  have r3 := hR2.cell 3 _ rfl
  have f3 := hR2.warm 3
  have r4 := hR2.cell 4 _ rfl
  have f4 := hR2.warm 4
  have r5 := hR2.cell 5 _ rfl
  have f5 := hR2.warm 5
  have r6 := hR2.cell 6 _ rfl
  have f6 := hR2.warm 6
  have rl := hR2.lt
  have hM9 := hm2.farPuts hn2 0 (ansCells (.err x))
  have hV9 := ((MovedW.below HBW.out).trans hmv2).farPuts (Nat.le_succ _) 0 (ansCells (.err x))
  rw [puts_err] at hM9 hV9
  have HP := Lib.hide (show MAnsW w B mb (k + 1) ρ (CCopy c t A b u) (.returned (ansVal (.err x))) _ from ⟨_, c', m', ρ', hrel, rfl, hM9.more (by omega), hV9⟩)
  clear hm2 hmv2 hrel hR2 hn2 hM9 hV9 hpost hnr1 a0 a1 a2 a3 a4 al
  go_wp2
  refine bodyPost_ret (v := ansVal (.err x)) (by simp only [results, Try.results66]; go_simp; simp [ansVal, Ans.err]) rfl ?_
  exact HP.out

set_option maxHeartbeats 1600000 in
set_option maxRecDepth 100000 in
theorem perform_collect (B mb k : Nat) (ρ : Roles) (c : Mc) (m : Mem) (l : List Nat) (k' : Nat) (t A b n : Int) (w : World) (h : Mach w B mb k ρ c m) (hi : Good c l k') (hB : B ≤ w.heap.size) (hk : k ≤ 400) (hk' : k' ≤ 400)  (hfe : firstErr ⟨10, t, A, b, n⟩ = 0) :
    Calls Try.prog 66 #[.pointer (some ⟨mb, 0, none⟩), .agg #[.int .i64 10, .int .i64 t, .int .i64 A, .int .i64 b, .int .i64 n]] w (MAnsW w B mb (k + 1) ρ (CCollect c l)) := by
  have H := Lib.hide h
  have HI := Lib.hide hi
  have NR := Lib.hide (fun b (hb : w.heap.size ≤ b) => h.noRole hb)
  have mlt := h.blk.lt
  clear h hi
  go_enter Try.func66, Try.ntmps66
  go_wp2_with fail
  have hbx := act_boxes w 10 t A b n
  have hW : Below w.heap.size w ((w.alloc (.cells #[.int .i64 10, .int .i64 t, .int .i64 A, .int .i64 b, .int .i64 n] 71)).alloc (.cells #[.int .i64 0, .bool false, .int .i64 0, .bool false, .int .i64 0, .bool false, .int .i64 0] 74)) := (by repeat (first | exact Below.refl _ _ | assumption | refine Below.drew ?_ | refine below_drewN ?_ _ | refine Below.allocs ?_ | refine Below.next ?_ (by assumption) | refine Below.setCell ?_ (by dsimp only; omega) _))
  generalize (w.alloc (.cells #[.int .i64 10, .int .i64 t, .int .i64 A, .int .i64 b, .int .i64 n] 71)).alloc (.cells #[.int .i64 0, .bool false, .int .i64 0, .bool false, .int .i64 0, .bool false, .int .i64 0] 74) = W at hbx hW ⊢
  have CE := Lib.hide (firstError_any ⟨10, t, A, b, n⟩ W)
  rw [hfe] at CE
  refine CE.out.mono ?_
  rintro e w1 ⟨rfl, hb1⟩
  have hbw := Below.next hW hb1
  have hA1 := hbx.1.next hb1
  have hR1 := hbx.2.next hb1
  have hm1 := H.out.next hbw
  have a0 := hA1.cell 0 _ rfl
  have a1 := hA1.cell 1 _ rfl
  have a2 := hA1.cell 2 _ rfl
  have a3 := hA1.cell 3 _ rfl
  have a4 := hA1.cell 4 _ rfl
  have al := hA1.lt
  have HBW := Lib.hide hbw
  have HA1 := Lib.hide hA1
  have HR1 := Lib.hide hR1
  have HM1 := Lib.hide hm1
  have hw1B : B ≤ w1.heap.size := Nat.le_trans hB hbw.size
  clear hbx hW hb1 hbw hA1 hR1 hm1 CE
  have CM := Lib.hide (collect_any B mb k ρ c m l k' w1 HM1.out HI.out.inv hw1B (by omega))
  go_wp2_with fail
  refine CM.out.mono ?_
  rintro e w2 hpost
  obtain ⟨x, c', m', ρ', hrel, rfl, hm2, hmv2⟩ := (id hpost)
  have hnr1 : ρ (w.heap.size + 1) = none := NR.out _ (Nat.le_succ _)
  have hR2 := HR1.out.movedW hmv2 hnr1
  have hn2 : ρ' (w.heap.size + 1) = none := hmv2.none _ HR1.out.lt hnr1
  have r0 := hR2.cell 0 _ rfl
  have f0 := hR2.warm 0
  have r1 := hR2.cell 1 _ rfl
  have f1 := hR2.warm 1
  have r2 := hR2.cell 2 _ rfl
  have f2 := hR2.warm 2
  have r3 := hR2.cell 3 _ rfl
  have f3 := hR2.warm 3
  have r4 := hR2.cell 4 _ rfl
  have f4 := hR2.warm 4
  have r5 := hR2.cell 5 _ rfl
  have f5 := hR2.warm 5
  have r6 := hR2.cell 6 _ rfl
  have f6 := hR2.warm 6
  have rl := hR2.lt
  have hM9 := hm2.farPuts hn2 0 (ansCells (.err x))
  have hV9 := ((MovedW.below HBW.out).trans hmv2).farPuts (Nat.le_succ _) 0 (ansCells (.err x))
  rw [puts_err] at hM9 hV9
  have HP := Lib.hide (show MAnsW w B mb (k + 1) ρ (CCollect c l) (.returned (ansVal (.err x))) _ from ⟨_, c', m', ρ', hrel, rfl, hM9.more (by omega), hV9⟩)
  clear hm2 hmv2 hrel hR2 hn2 hM9 hV9 hpost hnr1 a0 a1 a2 a3 a4 al
  go_wp2
  refine bodyPost_ret (v := ansVal (.err x)) (by simp only [results, Try.results66]; go_simp; simp [ansVal, Ans.err]) rfl ?_
  exact HP.out

set_option maxHeartbeats 1600000 in
set_option maxRecDepth 100000 in
theorem perform_step (B mb k : Nat) (ρ : Roles) (c : Mc) (m : Mem) (l : List Nat) (k' : Nat) (t A b n : Int) (w : World) (h : Mach w B mb k ρ c m) (hi : Good c l k') (hB : B ≤ w.heap.size) (hk : k ≤ 400) (hk' : k' ≤ 400)  (hfe : firstErr ⟨11, t, A, b, n⟩ = 0) :
    Calls Try.prog 66 #[.pointer (some ⟨mb, 0, none⟩), .agg #[.int .i64 11, .int .i64 t, .int .i64 A, .int .i64 b, .int .i64 n]] w (MAnsW w B mb (k + 1) ρ (CStepC c l n)) := by
  have H := Lib.hide h
  have HI := Lib.hide hi
  have NR := Lib.hide (fun b (hb : w.heap.size ≤ b) => h.noRole hb)
  have mlt := h.blk.lt
  clear h hi
  go_enter Try.func66, Try.ntmps66
  go_wp2_with fail
  have hbx := act_boxes w 11 t A b n
  have hW : Below w.heap.size w ((w.alloc (.cells #[.int .i64 11, .int .i64 t, .int .i64 A, .int .i64 b, .int .i64 n] 71)).alloc (.cells #[.int .i64 0, .bool false, .int .i64 0, .bool false, .int .i64 0, .bool false, .int .i64 0] 74)) := (by repeat (first | exact Below.refl _ _ | assumption | refine Below.drew ?_ | refine below_drewN ?_ _ | refine Below.allocs ?_ | refine Below.next ?_ (by assumption) | refine Below.setCell ?_ (by dsimp only; omega) _))
  generalize (w.alloc (.cells #[.int .i64 11, .int .i64 t, .int .i64 A, .int .i64 b, .int .i64 n] 71)).alloc (.cells #[.int .i64 0, .bool false, .int .i64 0, .bool false, .int .i64 0, .bool false, .int .i64 0] 74) = W at hbx hW ⊢
  have CE := Lib.hide (firstError_any ⟨11, t, A, b, n⟩ W)
  rw [hfe] at CE
  refine CE.out.mono ?_
  rintro e w1 ⟨rfl, hb1⟩
  have hbw := Below.next hW hb1
  have hA1 := hbx.1.next hb1
  have hR1 := hbx.2.next hb1
  have hm1 := H.out.next hbw
  have a0 := hA1.cell 0 _ rfl
  have a1 := hA1.cell 1 _ rfl
  have a2 := hA1.cell 2 _ rfl
  have a3 := hA1.cell 3 _ rfl
  have a4 := hA1.cell 4 _ rfl
  have al := hA1.lt
  have HBW := Lib.hide hbw
  have HA1 := Lib.hide hA1
  have HR1 := Lib.hide hR1
  have HM1 := Lib.hide hm1
  have hw1B : B ≤ w1.heap.size := Nat.le_trans hB hbw.size
  clear hbx hW hb1 hbw hA1 hR1 hm1 CE
  have CM := Lib.hide (step_any B mb k ρ c m l k' n w1 HM1.out HI.out hw1B (by omega))
  go_wp2_with fail
  refine CM.out.mono ?_
  rintro e w2 hpost
  obtain ⟨r, c', m', ρ', hrel, rfl, hm2, hmv2⟩ := (id hpost)
  have hnr1 : ρ (w.heap.size + 1) = none := NR.out _ (Nat.le_succ _)
  have hR2 := HR1.out.movedW hmv2 hnr1
  have hn2 : ρ' (w.heap.size + 1) = none := hmv2.none _ HR1.out.lt hnr1
  have r0 := hR2.cell 0 _ rfl
  have f0 := hR2.warm 0
  have r1 := hR2.cell 1 _ rfl
  have f1 := hR2.warm 1
  have r2 := hR2.cell 2 _ rfl
  have f2 := hR2.warm 2
  have r3 := hR2.cell 3 _ rfl
  have f3 := hR2.warm 3
  have r4 := hR2.cell 4 _ rfl
  have f4 := hR2.warm 4
  have r5 := hR2.cell 5 _ rfl
  have f5 := hR2.warm 5
  have r6 := hR2.cell 6 _ rfl
  have f6 := hR2.warm 6
  have rl := hR2.lt
  have hM9 := hm2.farPuts hn2 0 (ansCells r)
  have hV9 := ((MovedW.below HBW.out).trans hmv2).farPuts (Nat.le_succ _) 0 (ansCells r)
  rw [puts_ans] at hM9 hV9
  have HP := Lib.hide (show MAnsW w B mb (k + 1) ρ (CStepC c l n) (.returned (ansVal r)) _ from ⟨_, c', m', ρ', hrel, rfl, hM9.more (by omega), hV9⟩)
  unfold ansVal
  clear hm2 hmv2 hrel hR2 hn2 hM9 hV9 hpost hnr1 a0 a1 a2 a3 a4 al
  obtain ⟨rcode, rnum, rnumber, ryes, rwords, rgoing, rfreed⟩ := r
  go_wp2
  refine bodyPost_ret (v := ansVal ⟨rcode, rnum, rnumber, ryes, rwords, rgoing, rfreed⟩) (by simp only [results, Try.results66]; go_simp; simp [ansVal]) rfl ?_
  exact HP.out

set_option maxHeartbeats 1600000 in
set_option maxRecDepth 100000 in
theorem perform_stat (B mb k : Nat) (ρ : Roles) (c : Mc) (m : Mem) (l : List Nat) (k' : Nat) (t A b n : Int) (w : World) (h : Mach w B mb k ρ c m) (hi : Good c l k') (hB : B ≤ w.heap.size) (hk : k ≤ 400) (hk' : k' ≤ 400)  (hfe : firstErr ⟨12, t, A, b, n⟩ = 0) :
    Calls Try.prog 66 #[.pointer (some ⟨mb, 0, none⟩), .agg #[.int .i64 12, .int .i64 t, .int .i64 A, .int .i64 b, .int .i64 n]] w (MAnsW w B mb (k + 1) ρ (CStat c)) := by
  have H := Lib.hide h
  have HI := Lib.hide hi
  have NR := Lib.hide (fun b (hb : w.heap.size ≤ b) => h.noRole hb)
  have mlt := h.blk.lt
  clear h hi
  go_enter Try.func66, Try.ntmps66
  go_wp2_with fail
  have hbx := act_boxes w 12 t A b n
  have hW : Below w.heap.size w ((w.alloc (.cells #[.int .i64 12, .int .i64 t, .int .i64 A, .int .i64 b, .int .i64 n] 71)).alloc (.cells #[.int .i64 0, .bool false, .int .i64 0, .bool false, .int .i64 0, .bool false, .int .i64 0] 74)) := (by repeat (first | exact Below.refl _ _ | assumption | refine Below.drew ?_ | refine below_drewN ?_ _ | refine Below.allocs ?_ | refine Below.next ?_ (by assumption) | refine Below.setCell ?_ (by dsimp only; omega) _))
  generalize (w.alloc (.cells #[.int .i64 12, .int .i64 t, .int .i64 A, .int .i64 b, .int .i64 n] 71)).alloc (.cells #[.int .i64 0, .bool false, .int .i64 0, .bool false, .int .i64 0, .bool false, .int .i64 0] 74) = W at hbx hW ⊢
  have CE := Lib.hide (firstError_any ⟨12, t, A, b, n⟩ W)
  rw [hfe] at CE
  refine CE.out.mono ?_
  rintro e w1 ⟨rfl, hb1⟩
  have hbw := Below.next hW hb1
  have hA1 := hbx.1.next hb1
  have hR1 := hbx.2.next hb1
  have hm1 := H.out.next hbw
  have a0 := hA1.cell 0 _ rfl
  have a1 := hA1.cell 1 _ rfl
  have a2 := hA1.cell 2 _ rfl
  have a3 := hA1.cell 3 _ rfl
  have a4 := hA1.cell 4 _ rfl
  have al := hA1.lt
  have HBW := Lib.hide hbw
  have HA1 := Lib.hide hA1
  have HR1 := Lib.hide hR1
  have HM1 := Lib.hide hm1
  have hw1B : B ≤ w1.heap.size := Nat.le_trans hB hbw.size
  clear hbx hW hb1 hbw hA1 hR1 hm1 CE
  have CM := Lib.hide (stat_any B mb k ρ c m w1 HM1.out (by have := HI.out.inv.valid.top1; omega) (by have := HI.out.inv.valid.top2; have := HI.out.inv.valid.len2; omega))
  go_wp2_with fail
  refine CM.out.mono ?_
  rintro e w2 hpost
  obtain ⟨r, c', m', ρ', hrel, rfl, hm2, hmv2⟩ := hpost.toW
  have hnr1 : ρ (w.heap.size + 1) = none := NR.out _ (Nat.le_succ _)
  have hR2 := HR1.out.movedW hmv2 hnr1
  have hn2 : ρ' (w.heap.size + 1) = none := hmv2.none _ HR1.out.lt hnr1
  have r0 := hR2.cell 0 _ rfl
  have f0 := hR2.warm 0
  have r1 := hR2.cell 1 _ rfl
  have f1 := hR2.warm 1
  have r2 := hR2.cell 2 _ rfl
  have f2 := hR2.warm 2
  have r3 := hR2.cell 3 _ rfl
  have f3 := hR2.warm 3
  have r4 := hR2.cell 4 _ rfl
  have f4 := hR2.warm 4
  have r5 := hR2.cell 5 _ rfl
  have f5 := hR2.warm 5
  have r6 := hR2.cell 6 _ rfl
  have f6 := hR2.warm 6
  have rl := hR2.lt
  have hM9 := hm2.farPuts hn2 0 (ansCells r)
  have hV9 := ((MovedW.below HBW.out).trans hmv2).farPuts (Nat.le_succ _) 0 (ansCells r)
  rw [puts_ans] at hM9 hV9
  have HP := Lib.hide (show MAnsW w B mb (k + 1) ρ (CStat c) (.returned (ansVal r)) _ from ⟨_, c', m', ρ', hrel, rfl, hM9.more (by omega), hV9⟩)
  unfold ansVal
  clear hm2 hmv2 hrel hR2 hn2 hM9 hV9 hpost hnr1 a0 a1 a2 a3 a4 al
  obtain ⟨rcode, rnum, rnumber, ryes, rwords, rgoing, rfreed⟩ := r
  go_wp2
  refine bodyPost_ret (v := ansVal ⟨rcode, rnum, rnumber, ryes, rwords, rgoing, rfreed⟩) (by simp only [results, Try.results66]; go_simp; simp [ansVal]) rfl ?_
  exact HP.out

set_option maxHeartbeats 1600000 in
set_option maxRecDepth 100000 in
theorem perform_err (B mb k : Nat) (ρ : Roles) (c : Mc) (m : Mem) (l : List Nat) (k' : Nat) (kd t A b n x : Int) (w : World) (h : Mach w B mb k ρ c m) (hi : Good c l k') (hB : B ≤ w.heap.size) (hk : k ≤ 400) (hk' : k' ≤ 400) (hx : x ≠ 0) (hfe : firstErr ⟨kd, t, A, b, n⟩ = x) :
    Calls Try.prog 66 #[.pointer (some ⟨mb, 0, none⟩), .agg #[.int .i64 kd, .int .i64 t, .int .i64 A, .int .i64 b, .int .i64 n]] w (MAnsW w B mb (k + 1) ρ (fun r c' => r = .err x ∧ c' = c)) := by
  have H := Lib.hide h
  have HI := Lib.hide hi
  have NR := Lib.hide (fun b (hb : w.heap.size ≤ b) => h.noRole hb)
  have mlt := h.blk.lt
  clear h hi
  go_enter Try.func66, Try.ntmps66
  go_wp2_with fail
  have hbx := act_boxes w kd t A b n
  have hW : Below w.heap.size w ((w.alloc (.cells #[.int .i64 kd, .int .i64 t, .int .i64 A, .int .i64 b, .int .i64 n] 71)).alloc (.cells #[.int .i64 0, .bool false, .int .i64 0, .bool false, .int .i64 0, .bool false, .int .i64 0] 74)) := (by repeat (first | exact Below.refl _ _ | assumption | refine Below.drew ?_ | refine below_drewN ?_ _ | refine Below.allocs ?_ | refine Below.next ?_ (by assumption) | refine Below.setCell ?_ (by dsimp only; omega) _))
  generalize (w.alloc (.cells #[.int .i64 kd, .int .i64 t, .int .i64 A, .int .i64 b, .int .i64 n] 71)).alloc (.cells #[.int .i64 0, .bool false, .int .i64 0, .bool false, .int .i64 0, .bool false, .int .i64 0] 74) = W at hbx hW ⊢
  have CE := Lib.hide (firstError_any ⟨kd, t, A, b, n⟩ W)
  rw [hfe] at CE
  refine CE.out.mono ?_
  rintro e w1 ⟨rfl, hb1⟩
  have hbw := Below.next hW hb1
  have hA1 := hbx.1.next hb1
  have hR1 := hbx.2.next hb1
  have hm1 := H.out.next hbw
  have a0 := hA1.cell 0 _ rfl
  have a1 := hA1.cell 1 _ rfl
  have a2 := hA1.cell 2 _ rfl
  have a3 := hA1.cell 3 _ rfl
  have a4 := hA1.cell 4 _ rfl
  have al := hA1.lt
  have HBW := Lib.hide hbw
  have HA1 := Lib.hide hA1
  have HR1 := Lib.hide hR1
  have HM1 := Lib.hide hm1
  have hw1B : B ≤ w1.heap.size := Nat.le_trans hB hbw.size
  clear hbx hW hb1 hbw hA1 hR1 hm1 CE
  have hR2 := HR1.out
  have r0 := hR2.cell 0 _ rfl
  have f0 := hR2.warm 0
  have r1 := hR2.cell 1 _ rfl
  have f1 := hR2.warm 1
  have r2 := hR2.cell 2 _ rfl
  have f2 := hR2.warm 2
  have r3 := hR2.cell 3 _ rfl
  have f3 := hR2.warm 3
  have r4 := hR2.cell 4 _ rfl
  have f4 := hR2.warm 4
  have r5 := hR2.cell 5 _ rfl
  have f5 := hR2.warm 5
  have r6 := hR2.cell 6 _ rfl
  have f6 := hR2.warm 6
  have rl := hR2.lt
  have hn2 : ρ (w.heap.size + 1) = none := NR.out _ (Nat.le_succ _)
  have hM9 := HM1.out.farPuts hn2 0 (ansCells (.err x))
  have hV9 := (MovedW.below HBW.out).farPuts (ρ := ρ) (Nat.le_succ _) 0 (ansCells (.err x))
  rw [puts_err] at hM9 hV9
  have HP := Lib.hide (show MAnsW w B mb (k + 1) ρ (fun r c' => r = .err x ∧ c' = c) (.returned (ansVal (.err x))) _ from ⟨_, c, m, ρ, ⟨rfl, rfl⟩, rfl, hM9.more (by omega), hV9⟩)
  have hne : (x != 0) = true := by simpa using hx
  clear hR2 hn2 hM9 hV9 a0 a1 a2 a3 a4 al hx hfe
  go_wp2
  refine bodyPost_ret (v := ansVal (.err x)) (by simp only [results, Try.results66]; go_simp; simp [ansVal, Ans.err]) rfl ?_
  exact HP.out
end Go.Proofs.Ytpdcaoagpjcgbab

