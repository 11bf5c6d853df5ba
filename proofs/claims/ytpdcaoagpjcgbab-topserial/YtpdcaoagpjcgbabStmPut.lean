/-
  The walk of put of package stm. It proves no statement by itself.
-/
import Derived.Test.YtpdcaoagpjcgbabStmCreate
import Derived.Test.YtpdcaoagpjcgbabHeapC
import Derived.Deep.RegionLaw
import Derived.Deep.RegionHeld3
set_option linter.unusedVariables false
set_option linter.unusedSimpArgs false
namespace Go.Proofs.Ytpdcaoagpjcgbab
open Go.RowKit Stm

open Lw in
/-- A heap behind the change of an object's state. -/
theorem Lw.Valid.head {xs : List Int} {top : Int} {l : List Nat} (hv : Valid xs top l) {p : Nat} (hp : p ∈ l) {y : Int} (h0 : 0 ≤ y) (h1 : y ≤ 2147483648) : Valid (xs.set p y) top l := by
  have ho := hv.objects.1
  have hs := objs_spec top.toNat 1 l (by omega) ho
  have hgap := objs_gap ho
  have hne : ∀ q ∈ l, q + 1 ≠ p := fun q hq e => by
    have := hgap q hq p hp (by omega)
    omega
  have hfit := (hs.1 p hp).2
  have hlens : ∀ q ∈ l, (xs.set p y).getD (q + 1) 0 = xs.getD (q + 1) 0 := fun q hq => getD_set_ne (Ne.symm (hne q hq))
  refine ⟨by rw [List.length_set]; exact hv.len1, by rw [List.length_set]; exact hv.len2, hv.top1, by rw [List.length_set]; exact hv.top2, ⟨objs_same (by have := hv.top1; omega) ho hlens, fun q hq => ?_⟩, fun q hq j hj => ?_, fun j hj1 hj2 => ?_⟩
  · unfold StOk
    rw [getD_set]
    split
    · exact ⟨h0, h1⟩
    · exact hv.objects.2 q hq
  · rw [hlens q hq] at hj
    rw [getD_set_ne (Ne.symm (field_apart ho hq hp hj).1)]
    exact hv.fields q hq j hj
  · rw [List.length_set] at hj2
    rw [getD_set_ne (by omega)]
    exact hv.rest j hj1 hj2

theorem ownXs_length (c : Mc) (t : Nat) (p : Int) : (ownXs c t p).length = c.xs.length := by
  unfold ownXs
  split
  · rw [List.length_set]
  · rfl
open Lw in
theorem Inv.ownValid {c : Mc} {l : List Nat} {k : Nat} (h : Inv c l k) {p t : Nat} (hp : p ∈ l) (ht : t < 4) : Valid (ownXs c t p) c.top l := by
  unfold ownXs
  split
  · rw [Int.toNat_natCast]
    exact h.valid.head hp (by omega) (by omega)
  · exact h.valid
theorem ownXs_fits {c : Mc} {l : List Nat} {k : Nat} (h : Inv c l k) (t : Nat) (ht : t < 4) (p : Int) : ∀ x ∈ ownXs c t p, Fits x := by
  unfold ownXs
  split
  · intro x hx
    rcases List.mem_or_eq_of_mem_set hx with hx | rfl
    · exact h.fits x hx
    · exact fits_small (by omega) (by omega)
  · exact h.fits
theorem ownXs_len {c : Mc} {l : List Nat} {k : Nat} (h : Inv c l k) {p q : Nat} (hp : p ∈ l) (hq : q ∈ l) (t : Nat) : (ownXs c t p).getD (q + 1) 0 = c.xs.getD (q + 1) 0 := by
  unfold ownXs
  split
  · rw [Int.toNat_natCast]
    refine Lw.getD_set_ne (fun e => ?_)
    have := objs_gap h.valid.objects.1 q hq p hp (by omega)
    omega
  · rfl
theorem ValIn.code {c : Mc} {l : List Nat} {k : Nat} (h : Inv c l k) {v : Val} (hv : ValIn (keepL c l) v) : codeOf (nums l) v.k v.n = 0 := by
  unfold codeOf
  rcases hv with ⟨h1, h2, h3⟩ | ⟨h1, h2⟩
  · rw [if_pos h1, if_pos ⟨h2, h3⟩]
  · rw [if_neg (by omega), if_pos h1, if_pos (.inr (h.sub h2))]

/-- A call of a Go function, by its contract, as one step of a region that draws its order. -/
theorem step_callQ {ops : Array Oper} {o : Oper} {a : Go.Act} {w : World} {K : Go.Act → World → Prop} {Q : Exit → Go.Act → World → Prop} {E : Prop} (hgd : o.guard = none) (f : FuncId) (args : Array Value)
    (hrun : (execOp a.eval o).run Try.prog w = .ok (.enter f args) w) (R : Ending → World → Prop) (hc : Calls Try.prog f args w R) (h : ∀ e w', R e w' → ∃ V, e = .returned V ∧ K (a.put o.dst V) w') :
    if Region.wanted o (yielded ops a.tmps) = true then Oper.wp Try.prog o a w K Q else E := by
  have hw : Region.wanted o (yielded ops a.tmps) = true := by simp [Region.wanted, hgd]
  rw [if_pos hw]
  unfold Oper.wp
  rw [hrun, Oper.upon_enter]
  refine hc.mono fun e w'' hh => ?_
  obtain ⟨V, rfl, hr⟩ := h e w'' hh
  exact hr

set_option maxHeartbeats 1600000 in
set_option maxRecDepth 100000 in
theorem put_any (B mb k : Nat) (ρ : Roles) (c : Mc) (m : Mem) (l : List Nat) (k' : Nat) (kd : Int) (t A b : Nat) (n : Int) (w : World) (h : Mach w B mb k ρ c m) (hi : Inv c l k') (hk : k' ≤ 400) (hk4 : k ≤ 400) (hB : B ≤ w.heap.size) (ht : t < 4) (hA : A < 4) (hb : b < 4) :
    Calls Try.prog 90 #[.pointer (some ⟨mb, 0, none⟩), .agg #[.int .i64 kd, .int .i64 t, .int .i64 A, .int .i64 b, .int .i64 n]] w (MCode w B mb (k + 1) ρ (CPut c l t A b n)) := by
  have x0 := h.blk.regk t A ht hA
  have x1 := h.blk.regn t A ht hA
  have hlt := h.blk.lt
  have H := Lib.hide h
  have HI := Lib.hide hi
  have NR := Lib.hide (fun b (hb : w.heap.size ≤ b) => h.noRole hb)
  clear h hi
  obtain ⟨v, hv⟩ : ∃ v, c.regs t A = v := ⟨_, rfl⟩
  rw [hv] at x0 x1
  have HV := Lib.hide hv
  clear hv
  go_enter Try.func90, Try.ntmps90
  go_wp2
  have hbx : BoxL (w.alloc (.cells #[.int .i64 kd, .int .i64 t, .int .i64 A, .int .i64 b, .int .i64 n] 71)) w.heap.size (actList kd t A b n) := BoxL.new w (actList kd t A b n) 71
  have hW := H.out.alloc (.cells #[.int .i64 kd, .int .i64 t, .int .i64 A, .int .i64 b, .int .i64 n] 71)
  have hM : Moved ρ w ρ (w.alloc (.cells #[.int .i64 kd, .int .i64 t, .int .i64 A, .int .i64 b, .int .i64 n] 71)) := Moved.of_below (by repeat (first | exact Below.refl _ _ | assumption | refine Below.drew ?_ | refine below_drewN ?_ _ | refine Below.allocs ?_ | refine Below.next ?_ (by assumption) | refine Below.setCell ?_ (by dsimp only; omega) _))
  generalize w.alloc (.cells #[.int .i64 kd, .int .i64 t, .int .i64 A, .int .i64 b, .int .i64 n] 71) = W at hbx hW hM ⊢
  have y0 := hW.blk.regk t A ht hA
  have y1 := hW.blk.regn t A ht hA
  rw [HV.out] at y0 y1
  have y2 := hW.blk.lt
  have a1 := hbx.cell 1 _ rfl
  have a2 := hbx.cell 2 _ rfl
  have a4 := hbx.cell 4 _ rfl
  have al := hbx.lt
  have HW := Lib.hide hW
  have MV := Lib.hide hM
  have BA := Lib.hide hbx
  clear hW hM hbx x0 x1
  go_region
  have hWX := HW.out.next (w' := (W.alloc (.cells #[.int .i64 v.k, .int .i64 v.n] 34)).drew) (by repeat (first | exact Below.refl _ _ | assumption | refine Below.drew ?_ | refine below_drewN ?_ _ | refine Below.allocs ?_ | refine Below.next ?_ (by assumption) | refine Below.setCell ?_ (by dsimp only; omega) _))
  have hMX := MV.out.next (w1 := (W.alloc (.cells #[.int .i64 v.k, .int .i64 v.n] 34)).drew) (by repeat (first | exact Below.refl _ _ | assumption | refine Below.drew ?_ | refine below_drewN ?_ _ | refine Below.allocs ?_ | refine Below.next ?_ (by assumption) | refine Below.setCell ?_ (by dsimp only; omega) _))
  have hAX := BA.out.next (w' := (W.alloc (.cells #[.int .i64 v.k, .int .i64 v.n] 34)).drew) (by repeat (first | exact Below.refl _ _ | assumption | refine Below.drew ?_ | refine below_drewN ?_ _ | refine Below.allocs ?_ | refine Below.next ?_ (by assumption) | refine Below.setCell ?_ (by dsimp only; omega) _))
  have hVX : Box2 (W.alloc (.cells #[.int .i64 v.k, .int .i64 v.n] 34)).drew W.heap.size (.int .i64 v.k) (.int .i64 v.n) := (Box2.new W _ _ _).next (by repeat (first | exact Below.refl _ _ | assumption | refine Below.drew ?_ | refine below_drewN ?_ _ | refine Below.allocs ?_ | refine Below.next ?_ (by assumption) | refine Below.setCell ?_ (by dsimp only; omega) _))
  have hs : w.heap.size < W.heap.size := BA.out.lt
  generalize hBV : W.heap.size = bv at hVX hs ⊢
  generalize hXe : (W.alloc (.cells #[.int .i64 v.k, .int .i64 v.n] 34)).drew = X at hWX hMX hAX hVX ⊢
  have HWX := Lib.hide hWX
  have MVX := Lib.hide hMX
  have BAX := Lib.hide hAX
  have BVX := Lib.hide hVX
  have a1 := hAX.cell 1 _ rfl
  have a4 := hAX.cell 4 _ rfl
  have al := hAX.lt
  obtain ⟨d0, d1, d2, d3, d4⟩ := hVX
  clear hWX hMX hAX hBV hXe HW MV BA y0 y1 y2 a2
  go_wp2_with fail
  refine (access_any B mb k ρ c m l k' t v n _ HWX.out HI.out hk ht).mono ?_
  rintro e w2 ⟨x, u, c', m', ρ', hc, rfl, hm', hmv⟩
  have BA2 := Lib.hide (BAX.out.moved hmv (NR.out _ (Nat.le_refl _)))
  have hbv : Box2 w2 bv (.int .i64 v.k) (.int .i64 v.n) := BVX.out.kept (hmv.block bv d4 (NR.out _ (by omega))) hmv.size
  have nr2 : ∀ b, w.heap.size ≤ b → b < X.heap.size → ρ' b = none := fun b h1 h2 => hmv.noRole h2 (NR.out b h1)
  have hXs := MVX.out.size
  have hX2 := hmv.size
  have NRA := Lib.hide (show ρ' w.heap.size = none from nr2 _ (Nat.le_refl _) BAX.out.lt)
  have NRV := Lib.hide (show ρ' bv = none from nr2 _ (by omega) d4)
  have HM' := Lib.hide hm'
  have MV2 := Lib.hide (MVX.out.trans hmv)
  have BV2 := Lib.hide hbv
  clear hm' hmv nr2 a1 a4 al d0 d1 d2 d3 d4 hbv
  rcases acc_cases hc with ⟨hx, hg⟩ | ⟨h1, h2, h3, h4, hx, hcc, hu⟩
  · have HC := Lib.hide (show CPut c l t A b n (.err x) c' by unfold CPut; rw [HV.out]; exact hg _)
    have hne : (x != 0) = true := by simpa using hx
    clear hc hg hx
    go_wp2
    go_ret
    exact ⟨x, c', m', ρ', HC.out, rfl, (HM'.out.more (Nat.le_succ k)).alloc _, MV2.out.alloc _⟩
  · subst hx
    subst hcc
    obtain ⟨q, hq, hql⟩ := nums_mem h3.1
    obtain ⟨f, hf⟩ := Int.eq_ofNat_of_zero_le h3.2.1
    subst hf
    have hpl := HI.out.place hql
    have hsm := HI.out.small hk hql
    have hn4 := HI.out.valid.len2
    have hfl := hpl.2.2.2.1
    have hf3 : f < lenAt c'.xs q := by
      have := h3.2.2
      rw [hq, Int.toNat_natCast] at this
      omega
    have hC0 : CPut c' l t A b (f : Int) .ok (putMc c' t b (q : Int) f) := by
      unfold CPut
      rw [HV.out, ← hq]
      exact Ite.pos h1 (Ite.pos h2 (Ite.pos h3 (Ite.neg h4 ⟨rfl, rfl⟩)))
    have HC := Lib.hide hC0
    have HF3 := Lib.hide hf3
    have HPL := Lib.hide hpl
    have HQL := Lib.hide hql
    have a1 := BA2.out.cell 1 _ rfl
    have al := BA2.out.lt
    obtain ⟨d0, d1, d2, d3, d4⟩ := BV2.out
    have HO := Lib.hide h1
    have hvq : v.n = (q : Int) := hq
    rw [hvq] at d1
    have hwB : B ≤ w2.heap.size := by omega
    clear hc hu hC0 h1 h2 h3 h4 hq hpl hql hf3 hfl
    go_wp2_with fail
    refine (own_any B mb k ρ' c' m' t q (lenAt c'.xs q) _ (HM'.out.alloc (.cells #[.int .i64 u.k, .int .i64 u.n] 34)) hk4 (by simp; omega) ht HO.out HPL.out.1 HPL.out.2.1 HPL.out.2.2.2.1 hn4 hsm.1 hsm.2 HI.out.fits).mono ?_
    rintro e w3 ⟨m2, ρ2, rfl, hm2, hmv2⟩
    have hA3 := (BA2.out.next (w' := w2.alloc (.cells #[.int .i64 u.k, .int .i64 u.n] 34)) (Below.allocs (Below.refl _ _))).moved hmv2 NRA.out
    have hV3 : Box2 w3 bv (.int .i64 v.k) (.int .i64 (q : Int)) := by
      have := (BV2.out.next (w' := w2.alloc (.cells #[.int .i64 u.k, .int .i64 u.n] 34)) (Below.allocs (Below.refl _ _)))
      rw [hvq] at this
      exact this.kept (hmv2.block bv this.lt NRV.out) hmv2.size
    have HM3 := Lib.hide hm2
    have MV3 := Lib.hide ((MV2.out.alloc (.cells #[.int .i64 u.k, .int .i64 u.n] 34)).trans hmv2)
    have hww := hmv2.size
    have hw3 : B ≤ w3.heap.size := by
      have h9 : (w2.alloc (.cells #[.int .i64 u.k, .int .i64 u.n] 34)).heap.size = w2.heap.size + 1 := by simp
      omega
    have g0 : w3.cell? ⟨mb, 0, none⟩ = some (.slice m2.wa c'.xs.length m2.wcap) := by have := hm2.blk.words; rwa [show (ownMc c' t q).xs.length = c'.xs.length from ownXs_length _ _ _] at this
    have g1 : w3.cell? ⟨mb, 1, none⟩ = some (.int .i64 c'.top) := hm2.blk.top
    obtain ⟨z, hz⟩ : ∃ z, c'.regs t b = z := ⟨_, rfl⟩
    have g2 : w3.cell? ⟨mb, 2 + t * 8 + b * 2, none⟩ = some (.int .i64 z.k) := by rw [← hz]; exact hm2.blk.regk t b ht hb
    have g3 : w3.cell? ⟨mb, 2 + t * 8 + b * 2 + 1, none⟩ = some (.int .i64 z.n) := by rw [← hz]; exact hm2.blk.regn t b ht hb
    have gl := hm2.blk.lt
    have s1 := hA3.cell 1 _ rfl
    have s3 := hA3.cell 3 _ rfl
    have s4 := hA3.cell 4 _ rfl
    have sl := hA3.lt
    have e1 := hV3.c1
    have el := hV3.lt
    have hfw := hm2.blk.warm 0
    have hfw1 := hm2.blk.warm 1
    have hH3 : IsHeap w3 m2.wa c'.xs.length m2.wcap (ownXs c' t q) c'.top := by
      have := hm2.words
      rw [show (ownMc c' t q).xs.length = c'.xs.length from ownXs_length _ _ _] at this
      have v1 := HI.out.valid.top1
      have v2 := HI.out.valid.top2
      exact Own.isHeap this (ownXs_fits HI.out t ht q) (fits_small (by omega) (by omega))
    have HH3 := Lib.hide hH3
    have HVA := Lib.hide (HI.out.ownValid (t := t) HQL.out ht)
    have HHF := Lib.hide (show HasField (ownXs c' t q) l q f from ⟨mem_nums.2 HQL.out, by omega, by rw [Int.toNat_natCast, ownXs_len HI.out HQL.out HQL.out, HPL.out.2.2.2.1]; have := HF3.out; omega⟩)
    have HCO := Lib.hide (show codeOf (nums l) z.k z.n = 0 by rw [← hz]; exact ValIn.code HI.out (HI.out.regs t b))
    have HZ := Lib.hide hz
    clear hm2 hmv2 a1 al d0 d1 d2 d3 d4 hA3 hV3 hH3 hz
    go_wp2
    have it1 : (0 : Int) ≤ (t : Int) := by omega
    have it2 : (t : Int) < 4 := by omega
    have ib1 : (0 : Int) ≤ (b : Int) := by omega
    have ib2 : (b : Int) < 4 := by omega
    have nwm : w.heap.size ≠ mb := by omega
    have nbv : bv ≠ mb := by omega
    refine wp_region_held_drew (S := (fun w' => w'.cell? ⟨bv, 1, none⟩ = some (.int .i64 (q : Int)) ∧ w'.cell? ⟨w.heap.size, 4, none⟩ = some (.int .i64 (f : Int)) ∧ w'.cell? ⟨w.heap.size, 1, none⟩ = some (.int .i64 (t : Int)) ∧ w'.cell? ⟨w.heap.size, 3, none⟩ = some (.int .i64 (b : Int)) ∧ w'.cell? ⟨mb, 2 + t * 8 + b * 2, none⟩ = some (.int .i64 z.k) ∧ w'.cell? ⟨mb, 2 + t * 8 + b * 2 + 1, none⟩ = some (.int .i64 z.n))) (by kernel_rfl) ⟨e1, s4, s1, s3, g2, g3⟩ (fun hHeld => ?_)
    refine wpAnyH_take (i := 0) (oi := ?o0) (v := ?v0) ?hi0 (by kernel_rfl) (by kernel_rfl) (by kernel_rfl) ?hQ0 ?hy0 (by assumption) ?rest0
    case hi0 => (simp only [List.getElem?_toArray, List.getElem?_cons_zero, List.getElem?_cons_succ]; rfl)
    case hQ0 => exact fun _ _ _ h => h
    case hy0 => (refine Or.inl ⟨by rfl, ?_⟩; intro w hSw; (try dsimp only at hSw); go_simp; try with_reducible rfl)
    try simp only [Act.put, List.setIfInBounds_toArray, List.set_cons_zero, List.set_cons_succ]
    refine wpAnyH_take (i := 1) (oi := ?o1) (v := ?v1) ?hi1 (by kernel_rfl) (by kernel_rfl) (by kernel_rfl) ?hQ1 ?hy1 (by assumption) ?rest1
    case hi1 => (simp only [List.getElem?_toArray, List.getElem?_cons_zero, List.getElem?_cons_succ]; rfl)
    case hQ1 => exact fun _ _ _ h => h
    case hy1 => (refine Or.inl ⟨by rfl, ?_⟩; intro w hSw; (try dsimp only at hSw); go_simp; try with_reducible rfl)
    try simp only [Act.put, List.setIfInBounds_toArray, List.set_cons_zero, List.set_cons_succ]
    refine wpAnyH_take (i := 2) (oi := ?o2) (v := ?v2) ?hi2 (by kernel_rfl) (by kernel_rfl) (by kernel_rfl) ?hQ2 ?hy2 (by assumption) ?rest2
    case hi2 => (simp only [List.getElem?_toArray, List.getElem?_cons_zero, List.getElem?_cons_succ]; rfl)
    case hQ2 => exact fun _ _ _ h => h
    case hy2 => (refine Or.inl ⟨by rfl, ?_⟩; intro w hSw; (try dsimp only at hSw); go_simp; try with_reducible rfl)
    try simp only [Act.put, List.setIfInBounds_toArray, List.set_cons_zero, List.set_cons_succ]
    refine wpAnyH_take (i := 3) (oi := ?o3) (v := ?v3) ?hi3 (by kernel_rfl) (by kernel_rfl) (by kernel_rfl) ?hQ3 ?hy3 (by assumption) ?rest3
    case hi3 => (simp only [List.getElem?_toArray, List.getElem?_cons_zero, List.getElem?_cons_succ]; rfl)
    case hQ3 => exact fun _ _ _ h => h
    case hy3 => (refine Or.inl ⟨by rfl, ?_⟩; intro w hSw; (try dsimp only at hSw); go_simp; try with_reducible rfl)
    try simp only [Act.put, List.setIfInBounds_toArray, List.set_cons_zero, List.set_cons_succ]
    refine wpAnyH_take (i := 5) (oi := ?o5) (v := ?v5) ?hi5 (by kernel_rfl) (by kernel_rfl) (by kernel_rfl) ?hQ5 ?hy5 (by assumption) ?rest5
    case hi5 => (simp only [List.getElem?_toArray, List.getElem?_cons_zero, List.getElem?_cons_succ]; rfl)
    case hQ5 => exact fun _ _ _ h => h
    case hy5 => (refine Or.inl ⟨by rfl, ?_⟩; intro w hSw; (try dsimp only at hSw); go_simp; try with_reducible rfl)
    try simp only [Act.put, List.setIfInBounds_toArray, List.set_cons_zero, List.set_cons_succ]
    refine wpAnyH_take (i := 6) (oi := ?o6) (v := ?v6) ?hi6 (by kernel_rfl) (by kernel_rfl) (by kernel_rfl) ?hQ6 ?hy6 (by assumption) ?rest6
    case hi6 => (simp only [List.getElem?_toArray, List.getElem?_cons_zero, List.getElem?_cons_succ]; rfl)
    case hQ6 => exact fun _ _ _ h => h
    case hy6 => (refine Or.inl ⟨by rfl, ?_⟩; intro w hSw; (try dsimp only at hSw); go_simp; try with_reducible rfl)
    try simp only [Act.put, List.setIfInBounds_toArray, List.set_cons_zero, List.set_cons_succ]
    refine wpAnyH_take (i := 7) (oi := ?o7) (v := ?v7) ?hi7 (by kernel_rfl) (by kernel_rfl) (by kernel_rfl) ?hQ7 ?hy7 (by assumption) ?rest7
    case hi7 => (simp only [List.getElem?_toArray, List.getElem?_cons_zero, List.getElem?_cons_succ]; rfl)
    case hQ7 => exact fun _ _ _ h => h
    case hy7 => (refine Or.inl ⟨by rfl, ?_⟩; intro w hSw; (try dsimp only at hSw); go_simp; try with_reducible rfl)
    try simp only [Act.put, List.setIfInBounds_toArray, List.set_cons_zero, List.set_cons_succ]
    refine wpAnyH_take (i := 8) (oi := ?o8) (v := ?v8) ?hi8 (by kernel_rfl) (by kernel_rfl) (by kernel_rfl) ?hQ8 ?hy8 (by assumption) ?rest8
    case hi8 => (simp only [List.getElem?_toArray, List.getElem?_cons_zero, List.getElem?_cons_succ]; rfl)
    case hQ8 => exact fun _ _ _ h => h
    case hy8 => (refine Or.inl ⟨by rfl, ?_⟩; intro w hSw; (try dsimp only at hSw); go_simp; try with_reducible rfl)
    try simp only [Act.put, List.setIfInBounds_toArray, List.set_cons_zero, List.set_cons_succ]
    refine wpAnyH_take (i := 9) (oi := ?o9) (v := ?v9) ?hi9 (by kernel_rfl) (by kernel_rfl) (by kernel_rfl) ?hQ9 ?hy9 (by assumption) ?rest9
    case hi9 => (simp only [List.getElem?_toArray, List.getElem?_cons_zero, List.getElem?_cons_succ]; rfl)
    case hQ9 => exact fun _ _ _ h => h
    case hy9 => (refine Or.inl ⟨by rfl, ?_⟩; intro w hSw; (try dsimp only at hSw); go_simp; try with_reducible rfl)
    try simp only [Act.put, List.setIfInBounds_toArray, List.set_cons_zero, List.set_cons_succ]
    refine wpAnyH_take (i := 10) (oi := ?o10) (v := ?v10) ?hi10 (by kernel_rfl) (by kernel_rfl) (by kernel_rfl) ?hQ10 ?hy10 (by assumption) ?rest10
    case hi10 => (simp only [List.getElem?_toArray, List.getElem?_cons_zero, List.getElem?_cons_succ]; rfl)
    case hQ10 => exact fun _ _ _ h => h
    case hy10 => (refine Or.inl ⟨by rfl, ?_⟩; intro w hSw; (try dsimp only at hSw); go_simp; try with_reducible rfl)
    try simp only [Act.put, List.setIfInBounds_toArray, List.set_cons_zero, List.set_cons_succ]
    refine wpAnyH_take (i := 11) (oi := ?o11) (v := ?v11) ?hi11 (by kernel_rfl) (by kernel_rfl) (by kernel_rfl) ?hQ11 ?hy11 (by assumption) ?rest11
    case hi11 => (simp only [List.getElem?_toArray, List.getElem?_cons_zero, List.getElem?_cons_succ]; rfl)
    case hQ11 => exact fun _ _ _ h => h
    case hy11 => (refine Or.inl ⟨by rfl, ?_⟩; intro w hSw; (try dsimp only at hSw); go_simp; try with_reducible rfl)
    try simp only [Act.put, List.setIfInBounds_toArray, List.set_cons_zero, List.set_cons_succ]
    refine wpAnyH_take (i := 12) (oi := ?o12) (v := ?v12) ?hi12 (by kernel_rfl) (by kernel_rfl) (by kernel_rfl) ?hQ12 ?hy12 (by assumption) ?rest12
    case hi12 => (simp only [List.getElem?_toArray, List.getElem?_cons_zero, List.getElem?_cons_succ]; rfl)
    case hQ12 => exact fun _ _ _ h => h
    case hy12 => (refine Or.inl ⟨by rfl, ?_⟩; intro w hSw; (try dsimp only at hSw); go_simp; try with_reducible rfl)
    try simp only [Act.put, List.setIfInBounds_toArray, List.set_cons_zero, List.set_cons_succ]
    refine wpAnyH_take (i := 13) (oi := ?o13) (v := ?v13) ?hi13 (by kernel_rfl) (by kernel_rfl) (by kernel_rfl) ?hQ13 ?hy13 (by assumption) ?rest13
    case hi13 => (simp only [List.getElem?_toArray, List.getElem?_cons_zero, List.getElem?_cons_succ]; rfl)
    case hQ13 => exact fun _ _ _ h => h
    case hy13 => (refine Or.inl ⟨by rfl, ?_⟩; intro w hSw; (try dsimp only at hSw); go_simp; try with_reducible rfl)
    try simp only [Act.put, List.setIfInBounds_toArray, List.set_cons_zero, List.set_cons_succ]
    refine wpAnyH_take (i := 14) (oi := ?o14) (v := ?v14) ?hi14 (by kernel_rfl) (by kernel_rfl) (by kernel_rfl) ?hQ14 ?hy14 (by assumption) ?rest14
    case hi14 => (simp only [List.getElem?_toArray, List.getElem?_cons_zero, List.getElem?_cons_succ]; rfl)
    case hQ14 => exact fun _ _ _ h => h
    case hy14 => (refine Or.inl ⟨by rfl, ?_⟩; intro w hSw; (try dsimp only at hSw); go_simp; try with_reducible rfl)
    try simp only [Act.put, List.setIfInBounds_toArray, List.set_cons_zero, List.set_cons_succ]
    refine wpAnyH_take (i := 15) (oi := ?o15) (v := ?v15) ?hi15 (by kernel_rfl) (by kernel_rfl) (by kernel_rfl) ?hQ15 ?hy15 (by assumption) ?rest15
    case hi15 => (simp only [List.getElem?_toArray, List.getElem?_cons_zero, List.getElem?_cons_succ]; rfl)
    case hQ15 => exact fun _ _ _ h => h
    case hy15 => (refine Or.inl ⟨by rfl, ?_⟩; intro w hSw; (try dsimp only at hSw); go_simp; try with_reducible rfl)
    try simp only [Act.put, List.setIfInBounds_toArray, List.set_cons_zero, List.set_cons_succ]
    refine wpAnyH_take (i := 16) (oi := ?o16) (v := ?v16) ?hi16 (by kernel_rfl) (by kernel_rfl) (by kernel_rfl) ?hQ16 ?hy16 (by assumption) ?rest16
    case hi16 => (simp only [List.getElem?_toArray, List.getElem?_cons_zero, List.getElem?_cons_succ]; rfl)
    case hQ16 => exact fun _ _ _ h => h
    case hy16 => (refine Or.inl ⟨by rfl, ?_⟩; intro w hSw; (try dsimp only at hSw); go_simp; try with_reducible rfl)
    try simp only [Act.put, List.setIfInBounds_toArray, List.set_cons_zero, List.set_cons_succ]
    refine wpAnyH_take (i := 17) (oi := ?o17) (v := ?v17) ?hi17 (by kernel_rfl) (by kernel_rfl) (by kernel_rfl) ?hQ17 ?hy17 (by assumption) ?rest17
    case hi17 => (simp only [List.getElem?_toArray, List.getElem?_cons_zero, List.getElem?_cons_succ]; rfl)
    case hQ17 => exact fun _ _ _ h => h
    case hy17 => (refine Or.inl ⟨by rfl, ?_⟩; intro w hSw; (try dsimp only at hSw); go_simp; try with_reducible rfl)
    try simp only [Act.put, List.setIfInBounds_toArray, List.set_cons_zero, List.set_cons_succ]
    refine wpAnyH_take (i := 18) (oi := ?o18) (v := ?v18) ?hi18 (by kernel_rfl) (by kernel_rfl) (by kernel_rfl) ?hQ18 ?hy18 (by assumption) ?rest18
    case hi18 => (simp only [List.getElem?_toArray, List.getElem?_cons_zero, List.getElem?_cons_succ]; rfl)
    case hQ18 => exact fun _ _ _ h => h
    case hy18 => (refine Or.inl ⟨by rfl, ?_⟩; intro w hSw; (try dsimp only at hSw); go_simp; try with_reducible rfl)
    try simp only [Act.put, List.setIfInBounds_toArray, List.set_cons_zero, List.set_cons_succ]
    refine wpAnyH_ready (rs := [4]) (by kernel_rfl) (by simp) ?_
    refine AllReadyH.cons (o := ?o4) ?hi4 ?step4 AllReadyH.nil
    case hi4 => (simp only [List.getElem?_toArray, List.getElem?_cons_zero, List.getElem?_cons_succ]; rfl)
    intro K hK
    go_simp
    refine hK.out _ _ ⟨e1, s4, s1, s3, g2, g3⟩ (fun hHeld => ?_)
    clear hK K
    try simp only [Act.put, List.setIfInBounds_toArray, List.set_cons_zero, List.set_cons_succ]
    refine wpAnyH_ready (rs := [19]) (by kernel_rfl) (by simp) ?_
    refine AllReadyH.cons (o := ?o19) ?hi19 ?step19 AllReadyH.nil
    case hi19 => (simp only [List.getElem?_toArray, List.getElem?_cons_zero, List.getElem?_cons_succ]; rfl)
    intro K hK
    go_simp
    refine (store_yes m2.wa c'.xs.length m2.wcap (ownXs c' t q) c'.top z.k z.n q f l w3.drew (HH3.out.below (by repeat (first | exact Below.refl _ _ | assumption | refine Below.drew ?_ | refine below_drewN ?_ _ | refine Below.allocs ?_ | refine Below.next ?_ (by assumption) | refine Below.setCell ?_ (by dsimp only; omega) _))) HVA.out HHF.out HCO.out).mono ?_
    rintro e w4 ⟨a5, c5, rfl, ho5, hb5⟩
    have HB5 := Lib.hide (show Below w3.heap.size w3 w4 from (by repeat (first | exact Below.refl _ _ | assumption | refine Below.drew ?_ | refine below_drewN ?_ _ | refine Below.allocs ?_ | refine Below.next ?_ (by assumption) | refine Below.setCell ?_ (by dsimp only; omega) _)))
    have k0 := (HB5.out.cell (p := ⟨mb, 0, none⟩) gl).trans g0
    have k1 := (HB5.out.cell (p := ⟨mb, 1, none⟩) gl).trans g1
    have k2 := (HB5.out.frozen (p := ⟨mb, 0, none⟩) gl).trans hfw
    have k3 := (HB5.out.frozen (p := ⟨mb, 1, none⟩) gl).trans hfw1
    have k4 := (HB5.out.cell (p := ⟨bv, 1, none⟩) el).trans e1
    have k5 := (HB5.out.cell (p := ⟨w.heap.size, 4, none⟩) sl).trans s4
    have k6 := (HB5.out.cell (p := ⟨w.heap.size, 1, none⟩) sl).trans s1
    have k7 := (HB5.out.cell (p := ⟨w.heap.size, 3, none⟩) sl).trans s3
    have k8 := (HB5.out.cell (p := ⟨mb, 2 + t * 8 + b * 2, none⟩) gl).trans g2
    have k9 := (HB5.out.cell (p := ⟨mb, 2 + t * 8 + b * 2 + 1, none⟩) gl).trans g3
    have HO5 := Lib.hide (show Own w4 w3.heap.size (.slice a5 c'.xs.length c5) ((ownXs c' t q).set (q + 2 + f) (wordOf z.k z.n)) from ho5)
    clear ho5
    go_simp
    refine hK.out _ _ ⟨k4, k5, k6, k7, k8, k9⟩ (fun hHeld => ?_)
    clear hK K
    try simp only [Act.put, List.setIfInBounds_toArray, List.set_cons_zero, List.set_cons_succ]
    refine wpAnyH_take (i := 20) (oi := ?o20) (v := ?v20) ?hi20 (by kernel_rfl) (by kernel_rfl) (by kernel_rfl) ?hQ20 ?hy20 (by assumption) ?rest20
    case hi20 => (simp only [List.getElem?_toArray, List.getElem?_cons_zero, List.getElem?_cons_succ]; rfl)
    case hQ20 => exact fun _ _ _ h => h
    case hy20 => (refine Or.inl ⟨by rfl, ?_⟩; intro w hSw; (try dsimp only at hSw); go_simp; try with_reducible rfl)
    try simp only [Act.put, List.setIfInBounds_toArray, List.set_cons_zero, List.set_cons_succ]
    refine wpAnyH_take (i := 21) (oi := ?o21) (v := ?v21) ?hi21 (by kernel_rfl) (by kernel_rfl) (by kernel_rfl) ?hQ21 ?hy21 (by assumption) ?rest21
    case hi21 => (simp only [List.getElem?_toArray, List.getElem?_cons_zero, List.getElem?_cons_succ]; rfl)
    case hQ21 => exact fun _ _ _ h => h
    case hy21 => (refine Or.inl ⟨by rfl, ?_⟩; intro w hSw; (try dsimp only at hSw); go_simp; try with_reducible rfl)
    try simp only [Act.put, List.setIfInBounds_toArray, List.set_cons_zero, List.set_cons_succ]
    refine wpAnyH_take (i := 22) (oi := ?o22) (v := ?v22) ?hi22 (by kernel_rfl) (by kernel_rfl) (by kernel_rfl) ?hQ22 ?hy22 (by assumption) ?rest22
    case hi22 => (simp only [List.getElem?_toArray, List.getElem?_cons_zero, List.getElem?_cons_succ]; rfl)
    case hQ22 => exact fun _ _ _ h => h
    case hy22 => (refine Or.inl ⟨by rfl, ?_⟩; intro w hSw; (try dsimp only at hSw); go_simp; try with_reducible rfl)
    try simp only [Act.put, List.setIfInBounds_toArray, List.set_cons_zero, List.set_cons_succ]
    refine wpAnyH_take (i := 23) (oi := ?o23) (v := ?v23) ?hi23 (by kernel_rfl) (by kernel_rfl) (by kernel_rfl) ?hQ23 ?hy23 (by assumption) ?rest23
    case hi23 => (simp only [List.getElem?_toArray, List.getElem?_cons_zero, List.getElem?_cons_succ]; rfl)
    case hQ23 => exact fun _ _ _ h => h
    case hy23 => (refine Or.inl ⟨by rfl, ?_⟩; intro w hSw; (try dsimp only at hSw); go_simp; try with_reducible rfl)
    try simp only [Act.put, List.setIfInBounds_toArray, List.set_cons_zero, List.set_cons_succ]
    refine wpAnyH_take (i := 24) (oi := ?o24) (v := ?v24) ?hi24 (by kernel_rfl) (by kernel_rfl) (by kernel_rfl) ?hQ24 ?hy24 (by assumption) ?rest24
    case hi24 => (simp only [List.getElem?_toArray, List.getElem?_cons_zero, List.getElem?_cons_succ]; rfl)
    case hQ24 => exact fun _ _ _ h => h
    case hy24 => (refine Or.inl ⟨by rfl, ?_⟩; intro w hSw; (try dsimp only at hSw); go_simp; try with_reducible rfl)
    try simp only [Act.put, List.setIfInBounds_toArray, List.set_cons_zero, List.set_cons_succ]
    refine wpAnyH_ready (rs := [25]) (by kernel_rfl) (by simp) ?_
    refine AllReadyH.cons (o := ?o25) ?hi25 ?step25 AllReadyH.nil
    case hi25 => (simp only [List.getElem?_toArray, List.getElem?_cons_zero, List.getElem?_cons_succ]; rfl)
    intro K hK
    go_simp
    refine hK.out _ _ ⟨far_cell (far_cell k4 nbv) nbv, far_cell (far_cell k5 nwm) nwm, far_cell (far_cell k6 nwm) nwm, far_cell (far_cell k7 nwm) nwm, by rw [set_cell_ne _ _ _ _ _ (by omega), set_cell_ne _ _ _ _ _ (by omega)]; exact k8, by rw [set_cell_ne _ _ _ _ _ (by omega), set_cell_ne _ _ _ _ _ (by omega)]; exact k9⟩ (fun hHeld => ?_)
    clear hK K
    try simp only [Act.put, List.setIfInBounds_toArray, List.set_cons_zero, List.set_cons_succ]
    refine wpAnyH_done (by kernel_rfl) ?_ _
    go_wp2
    go_ret
    obtain ⟨ρ', hM6, hV6⟩ := HM3.out.newWords hw3 HB5.out (by rw [List.length_set, ownXs_length]) HO5.out c'.top
    have hpm := puts_mem w4 mb (.slice a5 c'.xs.length c5) (.int .i64 c'.top)
    rw [hpm] at hM6 hV6
    have hmc : (⟨(ownXs c' t q).set (q + 2 + f) (wordOf z.k z.n), c'.top, (ownMc c' t q).regs, (ownMc c' t q).tx, (ownMc c' t q).coll⟩ : Mc) = putMc c' t b (q : Int) f := by
      unfold putMc
      rw [HZ.out, Int.toNat_natCast]
      rfl
    rw [hmc] at hM6
    exact ⟨0, _, _, ρ', HC.out, rfl, hM6, MV3.out.trans hV6⟩
end Go.Proofs.Ytpdcaoagpjcgbab

