/-
  The walk of get of package stm. It proves no statement by itself.
-/
import Derived.Test.YtpdcaoagpjcgbabStmOwn
set_option linter.unusedVariables false
set_option linter.unusedSimpArgs false
namespace Go.Proofs.Ytpdcaoagpjcgbab
open Go.RowKit Stm

/-- A box of cells at block b. -/
structure BoxL (w : World) (b : Nat) (vs : List Value) : Prop where
  lt : b < w.heap.size
  cell : ∀ i v, vs[i]? = some v → w.cell? ⟨b, i, none⟩ = some v
  warm : ∀ i, w.frozen? ⟨b, i, none⟩ = false
theorem BoxL.new (w : World) (vs : List Value) (t : TypeId) : BoxL (w.alloc (.cells vs.toArray t)) w.heap.size vs := by
  have e : (w.alloc (.cells vs.toArray t)).heap[w.heap.size]? = some (.cells vs.toArray t) := (MapKept.heap_alloc w _).1
  refine ⟨by simp, fun i v hv => ?_, fun i => ?_⟩
  · unfold World.cell?
    rw [e]
    simpa using hv
  · unfold World.frozen?
    rw [e]
    simp
theorem BoxL.kept {w w' : World} {b : Nat} {vs : List Value} (h : BoxL w b vs) (e : w'.heap[b]? = w.heap[b]?) (hs : w.heap.size ≤ w'.heap.size) : BoxL w' b vs :=
  ⟨Nat.lt_of_lt_of_le h.lt hs, fun i v hv => (World.cell?_of_block (a := ⟨b, i, none⟩) e).trans (h.cell i v hv), fun i => (World.frozen?_of_block (a := ⟨b, i, none⟩) e).trans (h.warm i)⟩
theorem BoxL.next {w w' : World} {b : Nat} {vs : List Value} (h : BoxL w b vs) (hb : Below w.heap.size w w') : BoxL w' b vs := h.kept (hb.block b h.lt) hb.size
theorem BoxL.moved {w w' : World} {b : Nat} {vs : List Value} {ρ ρ' : Roles} (h : BoxL w b vs) (hm : Moved ρ w ρ' w') (hr : ρ b = none) : BoxL w' b vs := h.kept (hm.block b h.lt hr) hm.size

def actList (kd : Int) (t A : Nat) (b n : Int) : List Value := [.int .i64 kd, .int .i64 t, .int .i64 A, .int .i64 b, .int .i64 n]
def ansZero : List Value := [.int .i64 0, .bool false, .int .i64 0, .bool false, .int .i64 0, .bool false, .int .i64 0]
theorem two_boxes (w : World) (kd : Int) (t A b : Nat) (n : Int) : BoxL ((w.alloc (.cells #[.int .i64 kd, .int .i64 t, .int .i64 A, .int .i64 b, .int .i64 n] 71)).alloc (.cells #[.int .i64 0, .bool false, .int .i64 0, .bool false, .int .i64 0, .bool false, .int .i64 0] 74)) w.heap.size (actList kd t A b n) ∧
    BoxL ((w.alloc (.cells #[.int .i64 kd, .int .i64 t, .int .i64 A, .int .i64 b, .int .i64 n] 71)).alloc (.cells #[.int .i64 0, .bool false, .int .i64 0, .bool false, .int .i64 0, .bool false, .int .i64 0] 74)) (w.heap.size + 1) ansZero := by
  refine ⟨(BoxL.new w (actList kd t A b n) 71).next (by repeat (first | exact Below.refl _ _ | assumption | refine Below.drew ?_ | refine below_drewN ?_ _ | refine Below.allocs ?_ | refine Below.next ?_ (by assumption) | refine Below.setCell ?_ (by dsimp only; omega) _)), ?_⟩
  have := BoxL.new (w.alloc (.cells (actList kd t A b n).toArray 71)) ansZero 74
  rw [show (w.alloc (.cells (actList kd t A b n).toArray 71)).heap.size = w.heap.size + 1 by simp] at this
  exact this

theorem Moved.alloc {ρ ρ' : Roles} {w wr : World} (h : Moved ρ w ρ' wr) (o : Obj) : Moved ρ w ρ' (wr.alloc o) := h.trans (Moved.of_below ((Below.refl _ _).alloc (Nat.le_refl _) _))
/-- An answer's cells. -/
def ansCells (r : Ans) : List Value := [.int .i64 r.code, .bool r.isNum, .int .i64 r.number, .bool r.yes, .int .i64 r.words, .bool r.going, .int .i64 r.freed]
theorem puts_ans (w : World) (b : Nat) (r : Ans) : puts w b 0 (ansCells r) = (((((((w.setCell ⟨b, 0, none⟩ (.int .i64 r.code)).setCell ⟨b, 1, none⟩ (.bool r.isNum)).setCell ⟨b, 2, none⟩ (.int .i64 r.number)).setCell ⟨b, 3, none⟩ (.bool r.yes)).setCell ⟨b, 4, none⟩ (.int .i64 r.words)).setCell ⟨b, 5, none⟩ (.bool r.going)).setCell ⟨b, 6, none⟩ (.int .i64 r.freed)) := rfl
theorem puts_err (w : World) (b : Nat) (x : Int) : puts w b 0 (ansCells (.err x)) = (((((((w.setCell ⟨b, 0, none⟩ (.int .i64 x)).setCell ⟨b, 1, none⟩ (.bool false)).setCell ⟨b, 2, none⟩ (.int .i64 0)).setCell ⟨b, 3, none⟩ (.bool false)).setCell ⟨b, 4, none⟩ (.int .i64 0)).setCell ⟨b, 5, none⟩ (.bool false)).setCell ⟨b, 6, none⟩ (.int .i64 0)) := rfl
theorem puts_num (w : World) (b : Nat) (x : Int) : puts w b 0 (ansCells (.num x)) = (((((((w.setCell ⟨b, 0, none⟩ (.int .i64 0)).setCell ⟨b, 1, none⟩ (.bool true)).setCell ⟨b, 2, none⟩ (.int .i64 x)).setCell ⟨b, 3, none⟩ (.bool false)).setCell ⟨b, 4, none⟩ (.int .i64 0)).setCell ⟨b, 5, none⟩ (.bool false)).setCell ⟨b, 6, none⟩ (.int .i64 0)) := rfl

theorem Ans.err_inj {x y : Int} (h : Ans.err x = Ans.err y) : x = y := congrArg Ans.code h

/-- An access ends with an error, whatever else would have been good, or it is good. -/
theorem acc_cases {c c' : Mc} {l : List Nat} {t : Nat} {v : Val} {n x : Int} {good : Prop} (h : CAcc c l t v n (.err x) c' good) : (x ≠ 0 ∧ ∀ g' : Prop, CAcc c l t v n (.err x) c' g') ∨ ((c.tx t).isOpen = true ∧ (v.k = 1 ∧ v.n ≠ 0) ∧ HasField c.xs l v.n n ∧ ¬ Owned c.xs t v.n ∧ good) := by
  by_cases h1 : (c.tx t).isOpen = true
  · have h := h.yes h1
    by_cases h2 : v.k = 1 ∧ v.n ≠ 0
    · have h := h.yes h2
      by_cases h3 : v.n ∈ nums l ∧ 0 ≤ n ∧ n < c.xs.getD (v.n.toNat + 1) 0
      · have h := h.yes h3
        by_cases h4 : Owned c.xs t v.n
        · have h := h.yes h4
          have e := Ans.err_inj h.1
          exact .inl ⟨by omega, fun g' => Ite.pos h1 (Ite.pos h2 (Ite.pos h3 (Ite.pos h4 h)))⟩
        · exact .inr ⟨h1, h2, h3, h4, h.no h4⟩
      · have h := h.no h3
        have e := Ans.err_inj h.1
        exact .inl ⟨by omega, fun g' => Ite.pos h1 (Ite.pos h2 (Ite.neg h3 h))⟩
    · have h := h.no h2
      have e := Ans.err_inj h.1
      exact .inl ⟨by omega, fun g' => Ite.pos h1 (Ite.neg h2 h)⟩
  · have h := h.no h1
    have e := Ans.err_inj h.1
    exact .inl ⟨by omega, fun g' => Ite.neg h1 h⟩

set_option maxHeartbeats 800000 in
theorem get_any (B mb k : Nat) (ρ : Roles) (c : Mc) (m : Mem) (l : List Nat) (k' : Nat) (kd : Int) (t A b : Nat) (n : Int) (w : World) (h : Mach w B mb k ρ c m) (hi : Inv c l k') (hk : k' ≤ 400) (hk4 : k ≤ 400) (ht : t < 4) (hA : A < 4) (hb : b < 4) :
    Calls Try.prog 89 #[.pointer (some ⟨mb, 0, none⟩), .agg #[.int .i64 kd, .int .i64 t, .int .i64 A, .int .i64 b, .int .i64 n]] w (MAns w B mb (k + 1) ρ (CGet c l t A b n)) := by
  have x0 := h.blk.regk t b ht hb
  have x1 := h.blk.regn t b ht hb
  have hlt := h.blk.lt
  have H := Lib.hide h
  have HI := Lib.hide hi
  have NR := Lib.hide (fun b (hb : w.heap.size ≤ b) => h.noRole hb)
  clear h hi
  obtain ⟨v, hv⟩ : ∃ v, c.regs t b = v := ⟨_, rfl⟩
  rw [hv] at x0 x1
  have HV := Lib.hide hv
  clear hv
  go_enter Try.func89, Try.ntmps89
  go_wp2
  have hbx := two_boxes w kd t A b n
  have hW := (H.out.alloc (.cells #[.int .i64 kd, .int .i64 t, .int .i64 A, .int .i64 b, .int .i64 n] 71)).alloc (.cells #[.int .i64 0, .bool false, .int .i64 0, .bool false, .int .i64 0, .bool false, .int .i64 0] 74)
  have hM : Moved ρ w ρ ((w.alloc (.cells #[.int .i64 kd, .int .i64 t, .int .i64 A, .int .i64 b, .int .i64 n] 71)).alloc (.cells #[.int .i64 0, .bool false, .int .i64 0, .bool false, .int .i64 0, .bool false, .int .i64 0] 74)) := Moved.of_below (by repeat (first | exact Below.refl _ _ | assumption | refine Below.drew ?_ | refine below_drewN ?_ _ | refine Below.allocs ?_ | refine Below.next ?_ (by assumption) | refine Below.setCell ?_ (by dsimp only; omega) _))
  generalize (w.alloc (.cells #[.int .i64 kd, .int .i64 t, .int .i64 A, .int .i64 b, .int .i64 n] 71)).alloc (.cells #[.int .i64 0, .bool false, .int .i64 0, .bool false, .int .i64 0, .bool false, .int .i64 0] 74) = W at hbx hW hM ⊢
  have y0 := hW.blk.regk t b ht hb
  have y1 := hW.blk.regn t b ht hb
  rw [HV.out] at y0 y1
  have y2 := hW.blk.lt
  have a1 := hbx.1.cell 1 _ rfl
  have a2 := hbx.1.cell 2 _ rfl
  have a3 := hbx.1.cell 3 _ rfl
  have a4 := hbx.1.cell 4 _ rfl
  have al := hbx.1.lt
  have HW := Lib.hide hW
  have MV := Lib.hide hM
  have BA := Lib.hide hbx.1
  have BR := Lib.hide hbx.2
  clear hW hM hbx x0 x1
  go_region
  have hWX := HW.out.next (w' := (W.alloc (.cells #[.int .i64 v.k, .int .i64 v.n] 34)).drew) (by repeat (first | exact Below.refl _ _ | assumption | refine Below.drew ?_ | refine below_drewN ?_ _ | refine Below.allocs ?_ | refine Below.next ?_ (by assumption) | refine Below.setCell ?_ (by dsimp only; omega) _))
  have hMX := MV.out.next (w1 := (W.alloc (.cells #[.int .i64 v.k, .int .i64 v.n] 34)).drew) (by repeat (first | exact Below.refl _ _ | assumption | refine Below.drew ?_ | refine below_drewN ?_ _ | refine Below.allocs ?_ | refine Below.next ?_ (by assumption) | refine Below.setCell ?_ (by dsimp only; omega) _))
  have hAX := BA.out.next (w' := (W.alloc (.cells #[.int .i64 v.k, .int .i64 v.n] 34)).drew) (by repeat (first | exact Below.refl _ _ | assumption | refine Below.drew ?_ | refine below_drewN ?_ _ | refine Below.allocs ?_ | refine Below.next ?_ (by assumption) | refine Below.setCell ?_ (by dsimp only; omega) _))
  have hRX := BR.out.next (w' := (W.alloc (.cells #[.int .i64 v.k, .int .i64 v.n] 34)).drew) (by repeat (first | exact Below.refl _ _ | assumption | refine Below.drew ?_ | refine below_drewN ?_ _ | refine Below.allocs ?_ | refine Below.next ?_ (by assumption) | refine Below.setCell ?_ (by dsimp only; omega) _))
  have hVX : Box2 (W.alloc (.cells #[.int .i64 v.k, .int .i64 v.n] 34)).drew W.heap.size (.int .i64 v.k) (.int .i64 v.n) := (Box2.new W _ _ _).next (by repeat (first | exact Below.refl _ _ | assumption | refine Below.drew ?_ | refine below_drewN ?_ _ | refine Below.allocs ?_ | refine Below.next ?_ (by assumption) | refine Below.setCell ?_ (by dsimp only; omega) _))
  have hs : w.heap.size + 1 < W.heap.size := BR.out.lt
  generalize hBV : W.heap.size = bv at hVX hs ⊢
  generalize hXe : (W.alloc (.cells #[.int .i64 v.k, .int .i64 v.n] 34)).drew = X at hWX hMX hAX hRX hVX ⊢
  have HWX := Lib.hide hWX
  have MVX := Lib.hide hMX
  have BAX := Lib.hide hAX
  have BRX := Lib.hide hRX
  have BVX := Lib.hide hVX
  have a1 := hAX.cell 1 _ rfl
  have a4 := hAX.cell 4 _ rfl
  have al := hAX.lt
  obtain ⟨d0, d1, d2, d3, d4⟩ := hVX
  clear hWX hMX hAX hRX hBV hXe HW MV BA BR y0 y1 y2 a2 a3
  go_wp2_with fail
  refine (access_any B mb k ρ c m l k' t v n _ HWX.out HI.out hk ht).mono ?_
  rintro e w2 ⟨x, u, c', m', ρ', hc, rfl, hm', hmv⟩
  have BA2 := Lib.hide (BAX.out.moved hmv (NR.out _ (Nat.le_refl _)))
  have BR2 := Lib.hide (BRX.out.moved hmv (NR.out _ (Nat.le_succ _)))
  have hbv : Box2 w2 bv (.int .i64 v.k) (.int .i64 v.n) := BVX.out.kept (hmv.block bv d4 (NR.out _ (by omega))) hmv.size
  have nr2 : ∀ b, w.heap.size ≤ b → b < X.heap.size → ρ' b = none := fun b h1 h2 => hmv.noRole h2 (NR.out b h1)
  have hXs := MVX.out.size
  have hX2 := hmv.size
  have NRA := Lib.hide (show ρ' w.heap.size = none from nr2 _ (Nat.le_refl _) BAX.out.lt)
  have NR2 := Lib.hide (show ρ' (w.heap.size + 1) = none from nr2 _ (Nat.le_succ _) BRX.out.lt)
  have HM' := Lib.hide hm'
  have MV2 := Lib.hide (MVX.out.trans hmv)
  have BV2 := Lib.hide hbv
  clear hm' hmv nr2 a1 a4 al d0 d1 d2 d3 d4 hbv
  rcases acc_cases hc with ⟨hx, hg⟩ | ⟨h1, h2, h3, h4, hx, hcc, hu⟩
  · have HC := Lib.hide (show CGet c l t A b n (.err x) c' by unfold CGet; rw [HV.out]; exact hg _)
    have hne : (x != 0) = true := by simpa using hx
    clear hc hg hx
    have r0 := BR2.out.cell 0 _ rfl
    have r1 := BR2.out.cell 1 _ rfl
    have r2 := BR2.out.cell 2 _ rfl
    have r3 := BR2.out.cell 3 _ rfl
    have r4 := BR2.out.cell 4 _ rfl
    have r5 := BR2.out.cell 5 _ rfl
    have r6 := BR2.out.cell 6 _ rfl
    have f0 := BR2.out.warm 0
    have f1 := BR2.out.warm 1
    have f2 := BR2.out.warm 2
    have f3 := BR2.out.warm 3
    have f4 := BR2.out.warm 4
    have f5 := BR2.out.warm 5
    have f6 := BR2.out.warm 6
    have rl := BR2.out.lt
    go_wp2
    refine bodyPost_ret (v := ansVal (.err x)) (by simp only [results, Try.results89]; go_simp; simp [ansVal, Ans.err]) rfl ?_
    have hM9 := ((HM'.out.more (Nat.le_succ k)).farPuts NR2.out 0 (ansCells (.err x))).alloc (.cells #[.int .i64 u.k, .int .i64 u.n] 34)
    have hV9 := (MV2.out.farPuts (Nat.le_succ _) 0 (ansCells (.err x))).alloc (.cells #[.int .i64 u.k, .int .i64 u.n] 34)
    rw [puts_err] at hM9 hV9
    exact ⟨.err x, c', m', ρ', HC.out, rfl, hM9, hV9⟩
  · subst hx
    subst hcc
    obtain ⟨q, hq, hql⟩ := nums_mem h3.1
    have hpl := HI.out.place hql
    have hsm := HI.out.small hk hql
    have hn4 := HI.out.valid.len2
    have hq2 : q < c'.xs.length := by omega
    have hC0 : CGet c' l t A b n (ctold u) (getMc c' t A (q : Int) n.toNat) := by
      unfold CGet
      rw [HV.out, ← hu, ← hq]
      exact Ite.pos h1 (Ite.pos h2 (Ite.pos h3 (Ite.neg h4 ⟨rfl, rfl⟩)))
    have hmc : getMc c' t A (q : Int) n.toNat = ⟨c'.xs, c'.top, upd c'.regs t (upd (c'.regs t) A u), upd c'.tx t (recTx c' t (q : Int)), c'.coll⟩ := by
      unfold getMc
      rw [hu, hq]
    rw [hmc] at hC0
    have HC := Lib.hide hC0
    have hk01 : u.k = 0 ∨ u.k = 1 := by
      rw [hu, valOf_eq]
      exact Int.emod_two_eq _
    have B6 := Lib.hide (Box2.new w2 (.int .i64 u.k) (.int .i64 u.n) 34)
    have NR6 := Lib.hide (HM'.out.noRole (Nat.le_refl _))
    have a1 := BA2.out.cell 1 _ rfl
    have a2 := BA2.out.cell 2 _ rfl
    have al := BA2.out.lt
    obtain ⟨d0, d1, d2, d3, d4⟩ := BV2.out
    have HU := Lib.hide hu
    have HO := Lib.hide h1
    have hvq : v.n = (q : Int) := hq
    rw [hvq] at d1
    clear hc hu hmc hC0 h1 h2 h3 h4 hq hpl hql
    go_wp2_with fail
    refine (record_any B mb k ρ' c' m' t q _ (HM'.out.alloc (.cells #[.int .i64 u.k, .int .i64 u.n] 34)) hk4 ht HO.out hq2 hn4 hsm.1 hsm.2).mono ?_
    rintro e w3 ⟨m2, rfl, hm2, hmv2⟩
    have BA3 := Lib.hide ((BA2.out.next (w' := w2.alloc (.cells #[.int .i64 u.k, .int .i64 u.n] 34)) (Below.allocs (Below.refl _ _))).moved hmv2 NRA.out)
    have BR3 := Lib.hide ((BR2.out.next (w' := w2.alloc (.cells #[.int .i64 u.k, .int .i64 u.n] 34)) (Below.allocs (Below.refl _ _))).moved hmv2 NR2.out)
    have hb6 : Box2 w3 w2.heap.size (.int .i64 u.k) (.int .i64 u.n) := B6.out.kept (hmv2.block _ B6.out.lt NR6.out) hmv2.size
    have HM3 := Lib.hide hm2
    have MV3 := Lib.hide ((MV2.out.alloc (.cells #[.int .i64 u.k, .int .i64 u.n] 34)).trans hmv2)
    have g0 := hm2.blk.regk t A ht hA
    have g1 := hm2.blk.regn t A ht hA
    have g2 := hm2.blk.warm (2 + t * 8 + A * 2)
    have g3 := hm2.blk.warm (2 + t * 8 + A * 2 + 1)
    have g4 := hm2.blk.lt
    obtain ⟨e0, e1, e2, e3, e4⟩ := hb6
    have n6 : w2.heap.size ≠ mb := fun e => by have := HM'.out.blk.lt; omega
    have s1 := BA3.out.cell 1 _ rfl
    have s2 := BA3.out.cell 2 _ rfl
    have sl := BA3.out.lt
    have na : w.heap.size ≠ mb := by omega
    have nb : w.heap.size + 1 ≠ mb := by omega
    have hw2 : w.heap.size + 1 < w2.heap.size := BR2.out.lt
    clear hm2 hmv2 a1 a2 al d0 d1 d2 d3 d4
    go_wp2
    go_region
    have hM4 := (HM3.out.setReg ht hA u).drew
    have hV4 := (MV3.out.trans (Moved.put HM3.out (2 + t * 8 + A * 2) [.int .i64 u.k, .int .i64 u.n])).trans (Moved.drew _ _)
    have hR4 : BoxL (puts w3 mb (2 + t * 8 + A * 2) [.int .i64 u.k, .int .i64 u.n]).drew (w.heap.size + 1) ansZero := BR3.out.kept (puts_other _ _ _ _ _ nb) (Nat.le_of_eq (puts_size _ _ _ _).symm)
    have hU4 : Box2 (puts w3 mb (2 + t * 8 + A * 2) [.int .i64 u.k, .int .i64 u.n]).drew w2.heap.size (.int .i64 u.k) (.int .i64 u.n) := (show Box2 w3 w2.heap.size (.int .i64 u.k) (.int .i64 u.n) from ⟨e0, e1, e2, e3, e4⟩).kept (puts_other _ _ _ _ _ n6) (Nat.le_of_eq (puts_size _ _ _ _).symm)
    rw [puts_two] at hM4 hV4 hR4 hU4
    generalize ((w3.setCell ⟨mb, 2 + t * 8 + A * 2, none⟩ (.int .i64 u.k)).setCell ⟨mb, 2 + t * 8 + A * 2 + 1, none⟩ (.int .i64 u.n)).drew = Y at hM4 hV4 hR4 hU4 ⊢
    have HM4 := Lib.hide hM4
    have MV4 := Lib.hide hV4
    have r0 := hR4.cell 0 _ rfl
    have f0 := hR4.warm 0
    have r1 := hR4.cell 1 _ rfl
    have f1 := hR4.warm 1
    have r2 := hR4.cell 2 _ rfl
    have f2 := hR4.warm 2
    have r3 := hR4.cell 3 _ rfl
    have f3 := hR4.warm 3
    have r4 := hR4.cell 4 _ rfl
    have f4 := hR4.warm 4
    have r5 := hR4.cell 5 _ rfl
    have f5 := hR4.warm 5
    have r6 := hR4.cell 6 _ rfl
    have f6 := hR4.warm 6
    have rl := hR4.lt
    obtain ⟨t0, t1, t2, t3, t4⟩ := hU4
    have nx : w2.heap.size ≠ w.heap.size + 1 := by omega
    obtain ⟨uk, un⟩ := u
    dsimp only at hk01 t0 t1
    clear hM4 hV4 hR4 g0 g1 g2 g3 g4 e0 e1 e2 e3 e4 s1 s2 sl
    rcases hk01 with rfl | rfl
    · go_wp2
      refine bodyPost_ret (v := ansVal (.num un)) (by simp only [results, Try.results89]; go_simp; simp [ansVal, Ans.num]) rfl ?_
      have hM9 := HM4.out.farPuts NR2.out 0 (ansCells (.num un))
      have hV9 := MV4.out.farPuts (Nat.le_succ _) 0 (ansCells (.num un))
      rw [puts_num] at hM9 hV9
      exact ⟨.num un, _, m2, ρ', HC.out, rfl, hM9, hV9⟩
    · go_wp2
      refine bodyPost_ret (v := ansVal .ok) (by simp only [results, Try.results89]; go_simp; simp [ansVal, Ans.ok, Ans.err]) rfl ?_
      have hM9 := HM4.out.farPuts NR2.out 0 (ansCells (.err 0))
      have hV9 := MV4.out.farPuts (Nat.le_succ _) 0 (ansCells (.err 0))
      rw [puts_err] at hM9 hV9
      exact ⟨.ok, _, m2, ρ', HC.out, rfl, hM9, hV9⟩
end Go.Proofs.Ytpdcaoagpjcgbab

