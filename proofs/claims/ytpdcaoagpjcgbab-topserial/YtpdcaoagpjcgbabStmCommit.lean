/-
  The walk of commit of package stm. It proves no statement by itself.
-/
import Derived.Test.YtpdcaoagpjcgbabStmUndo
import Derived.Test.YtpdcaoagpjcgbabStmC
set_option linter.unusedVariables false
set_option linter.unusedSimpArgs false
namespace Go.Proofs.Ytpdcaoagpjcgbab
open Go.RowKit Stm

theorem Committed.start (xs : List Int) : Committed xs (fun _ => none) xs := ⟨rfl, fun p o h => (by cases h), fun _ _ => rfl⟩
theorem Committed.step {xs ys : List Int} {own : Int → Option Orig} (h : Committed xs own ys) {p : Nat} {o : Orig} (hr : p < xs.length) : Committed xs (setAt own p (some o)) (ys.set p (2 * (o.ver + 1))) := by
  have hl := h.len
  refine ⟨by rw [List.length_set, hl], fun q o' hq => ?_, fun j hj => ?_⟩
  · by_cases e : q = p
    · subst e
      rw [setAt_same] at hq
      injection hq with hq
      subst hq
      exact Lw.getD_set_eq (by omega)
    · rw [setAt_other _ _ (by omega)] at hq
      rw [Lw.getD_set_ne (by omega)]
      exact h.head q o' hq
  · have e : j ≠ p := fun e => by subst e; rw [setAt_same] at hj; cases hj
    rw [setAt_other _ _ (by omega)] at hj
    rw [Lw.getD_set_ne (by omega)]
    exact h.rest j hj

set_option maxHeartbeats 1600000 in
set_option maxRecDepth 100000 in
theorem commit_yes (B mb k : Nat) (ρ : Roles) (c : Mc) (m : Mem) (t : Nat) (w : World) (h : Mach w B mb k ρ c m) (ht : t < 4) (ho : (c.tx t).isOpen = true) (hB : B ≤ w.heap.size) (hn : c.xs.length ≤ 400) (h0 : 0 < c.xs.length) (hok : OwnOk c t) (hk : Keyed4 c t) (hh : Holds c t) :
    Calls Try.prog 86 #[.pointer (some ⟨mb, 0, none⟩), .int .i64 t] w (MCode w B mb k ρ (CCommit c t)) := by
  have x0 := h.blk.isOpen t ht
  rw [ho] at x0
  have H := Lib.hide h
  have HOK := Lib.hide hok
  have HK := Lib.hide hk
  have HHO := Lib.hide hh
  have HO := Lib.hide ho
  clear h hok hk hh ho
  go_enter Try.func86, Try.ntmps86
  go_wp2_with (first
    | (go_at_call 109; refine (holds_any B mb k ρ c m t _ H.out ht HO.out hn HK.out true (tiff HHO.out)).mono ?_; rintro e w2 ⟨rfl, hb2⟩; have HB2 := Lib.hide hb2; have HM2 := Lib.hide (H.out.next hb2); obtain ⟨b, n, e', _, hrb, hm⟩ := HM2.out.ownMap ht HO.out; have q1 := HM2.out.blk.own t ht; rw [e'] at q1; have hlt := HM2.out.blk.lt; have HM := Lib.hide hm; have HRB := Lib.hide hrb; clear hb2 hm e' hrb)
    | (at_range; refine wpList_range_R _ rfl _ 107 rfl 156 Try.underlying107 b n _ rfl HM.out ?_; intro w0 cnt0 hrg0 hg0 hs0)
    | go_in)
  go_frame
  have HRG0 := Lib.hide hrg0
  have HG0 := Lib.hide hg0
  have hbl := HM.out.lt
  obtain ⟨g, hwa, hBg, hgl, hrg, _⟩ := HM2.out.row h0
  have hbg : b ≠ g := fun e => by have := HRB.out; rw [e, hrg] at this; cases this
  have hmg : mb ≠ g := fun e => by have := HM2.out.rmb; rw [e, hrg] at this; cases this
  have HWA := Lib.hide hwa
  have HRG := Lib.hide hrg
  have hs2 := HB2.out.size
  clear hrg0 hg0 hs0 hwa hrg x0 q1
  go_loopw [5] (fun _ wr => ∃ (left : Int → Bool) (cnt : Nat) (ys : List Int), RangeR wr b w2.heap.size n (ownV (c.tx t).own (m.fa t) (m.fc t)) left cnt ∧ Mach wr B mb k ρ (withXs c ys) m ∧ Moved ρ w2 ρ wr ∧ Committed c.xs (doneOf (c.tx t).own left) ys)
    (fun _ wr => wr.rangeLeft b w2.heap.size)
  case atStart =>
    have hbel : Below w2.heap.size w2 w0 := ⟨HG0.out.os, HG0.out.tape, HG0.out.output, HG0.out.size, fun i hi => HG0.out.block i hi (by simp)⟩
    refine ⟨_, _, c.xs, HRG0.out, HM2.out.next hbel, Moved.of_below hbel, ?_⟩
    rw [doneOf_start _ _ (fun p => by cases e : (c.tx t).own p <;> simp [ownV, e])]
    exact Committed.start _
  case round =>
    obtain ⟨left, cnt, ys, hrg, hmc, hmv, hun⟩ := hrel
    have hyl : ys.length = c.xs.length := hun.len
    have HRG2 := Lib.hide hrg
    have HMC := Lib.hide hmc
    have HMV := Lib.hide hmv
    have HUN := Lib.hide hun
    have hwl := hmv.size
    clear hrg hmc hmv hun HRG0 HG0
    go_wp2_with (first
      | (at_next; refine wpList_next_R _ rfl _ rfl mkOrig b w2.heap.size n _ _ _ ownV_inv rfl HRG2.out ?_ ?_)
      | go_in)
    · intro hc0 hl0
      have HL := Lib.hide hl0
      clear hl0
      obtain ⟨x0, x1, x2, x3, x4, x5, x6, x7, x8, x9, x10⟩ := HMC.out.blk.tx11 ht
      obtain ⟨f0, f1, f2, f3, f4, f5, f6, f7, f8, f9, f10⟩ := HMC.out.blk.warm11 (34 + t * 11)
      have hml := HMC.out.blk.lt
      go_wp2
      go_ret
      have hd := HUN.out
      rw [doneOf_end _ _ HL.out] at hd
      have h2 : Mach (puts wr mb (34 + t * 11) (txCells false (fun _ => .zero) none none)) B mb k ρ ⟨ys, c.top, c.regs, upd c.tx t .zero, c.coll⟩ (m.setTx t none none (fun _ => none) (fun _ => 0)) := HMC.out.setTx ht .zero none none (fun _ => none) (fun _ => 0) (TxMem.zero _ _ _ _ _ _ _)
      have m2 := ((Moved.of_below (ρ := ρ) HB2.out).trans HMV.out).trans (Moved.put HMC.out (34 + t * 11) (txCells false (fun _ => .zero) none none))
      rw [puts_txz] at h2 m2
      refine ⟨0, _, m.setTx t none none (fun _ => none) (fun _ => 0), ρ, Ite.pos HO.out (Ite.pos HHO.out ⟨rfl, ys, hd, rfl⟩), rfl, ?_, ?_⟩
      · with_reducible exact h2
      · with_reducible exact m2
    · intro x ver a len cp w1 cnt1 hfx hlx hv hrg1 hlt1 hg1 hs1 hen
      obtain ⟨o, hown, rfl, rfl, rfl, rfl⟩ := ownV_some hv
      obtain ⟨q, rfl, hq1, hq2, hq3, hq4, hq5⟩ := HOK.out.at_ x o hown
      have hri : ρ w2.heap.size = none := Classical.byContradiction fun hn => by have := (HM2.out.low _ hn).2; omega
      have hmv1 := HMV.out.grown hg1 (Nat.le_refl _)
      have hmc1 := HMC.out.kept (w' := w1) (fun i hi => hg1.block i (HMC.out.low i hi).2 (fun e => by rw [Option.some.inj e] at hi; exact hi hri)) hg1.size
      have hund := Committed.step HUN.out (p := q) (o := o) (by omega)
      rw [← doneOf_step hown] at hund
      have HUND := Lib.hide hund
      have HLT := Lib.hide hlt1
      simp only [mkOrig] at hen ⊢
      obtain ⟨vr, hvr⟩ : ∃ vr, o.ver = vr := ⟨_, rfl⟩
      obtain ⟨fa', hfa'⟩ : ∃ fa', m.fa t q = fa' := ⟨_, rfl⟩
      obtain ⟨fc', hfc'⟩ : ∃ fc', m.fc t q = fc' := ⟨_, rfl⟩
      obtain ⟨fl, hfl⟩ : ∃ fl, o.fields.length = fl := ⟨_, rfl⟩
      rw [hvr, hfa', hfc', hfl] at hen ⊢
      rw [hvr] at hq3 hq4
      rw [hfl] at hq2
      have HVR := Lib.hide hvr
      have hmc2 := hmc1.alloc (.cells #[.int .i64 vr, .slice fa' fl fc'] 156)
      have hrg2 := hrg1.kept (w' := w1.alloc (.cells #[.int .i64 vr, .slice fa' fl fc'] 156)) (Below.heap_alloc _ _ _ hrg1.owns.lt) (Below.heap_alloc _ _ _ hrg1.lt)
      have hmv2 := hmv1.next (w1 := w1.alloc (.cells #[.int .i64 vr, .slice fa' fl fc'] 156)) (by repeat (first | exact Below.refl _ _ | assumption | refine Below.drew ?_ | refine below_drewN ?_ _ | refine Below.allocs ?_ | refine Below.next ?_ (by assumption) | refine Below.setCell ?_ (by dsimp only; omega) _))
      obtain ⟨b0, b1, b2, b3, b4⟩ := Box2.new w1 (.int .i64 vr) (.slice fa' fl fc') 156
      have z0 := hmc2.blk.words
      have z1 := hmc2.blk.lt
      obtain ⟨g', hwa', _, hgl', _, hc1, hc2, hcc, hcf⟩ := hmc2.row (by show 0 < ys.length; omega)
      obtain rfl : g' = g := by rw [HWA.out] at hwa'; injection hwa' with hwa'; injection hwa' with hwa' _; exact hwa'.symm
      rw [hwa'] at z0
      have z2 := hcc q (by show q < ys.length; omega)
      have z3 := hcf q
      have hyl2 : (withXs c ys).xs.length = c.xs.length := hyl
      rw [hyl2] at z0 hc1
      have HMC2 := Lib.hide hmc2
      have HRG3 := Lib.hide hrg2
      have HMV2 := Lib.hide hmv2
      have hw1 := hg1.size
      have hgw : w1.heap.size ≠ g' := by omega
      have hbw : b ≠ w1.heap.size := by omega
      clear hv hrg1 hg1 hs1 hlx hown hlt1 hund hmc1 hmv1 hmc2 hrg2 hmv2 hcc hcf hwa' hyl2 hvr hfa' hfc' hfl hq5
      obtain ⟨N, hN⟩ : ∃ N, c.xs.length = N := ⟨_, rfl⟩
      rw [hN] at z0 hc1 hn h0 hq2 hyl
      have HN := Lib.hide hN
      clear hN
      have j1 : (0 : Int) ≤ (q : Int) := by omega
      have j2 : (q : Int) < (N : Int) := by omega
      have i1 : IntKind.i64.wrap (vr + 1) = vr + 1 := IntWalk.i64_in _ (by omega)
      go_wp2
      go_region_held3 (fun w' => w'.cell? ⟨mb, 0, none⟩ = some (.slice (some ⟨g', 0, none⟩) N m.wcap) ∧ w'.cell? ⟨w1.heap.size, 0, none⟩ = some (.int .i64 vr))
        (first | exact ⟨z0, b0⟩ | exact ⟨far_cell z0 hmg, far_cell b0 hgw⟩)
        (first | (go_at_call 111; refine (freeState_any (vr + 1) _ (by omega) (by omega)).mono ?_; rintro e w' ⟨rfl, rfl⟩))
      have hW : Mach ((w1.alloc (.cells #[.int .i64 vr, .slice fa' fl fc'] 156)).setCell ⟨g', q, none⟩ (.int .i64 (2 * (vr + 1)))).drew B mb k ρ (withXs c (ys.set q (2 * (o.ver + 1)))) m := by
        have := (HMC2.out.setWord HWA.out q (2 * (vr + 1))).drew
        rw [HVR.out]
        exact this
      have mW : Moved ρ w2 ρ ((w1.alloc (.cells #[.int .i64 vr, .slice fa' fl fc'] 156)).setCell ⟨g', q, none⟩ (.int .i64 (2 * (vr + 1)))).drew := (HMV2.out.trans (Moved.setWord HMC2.out HWA.out q _)).trans (Moved.drew _ _)
      have rW : RangeR ((w1.alloc (.cells #[.int .i64 vr, .slice fa' fl fc'] 156)).setCell ⟨g', q, none⟩ (.int .i64 (2 * (vr + 1)))).drew b w2.heap.size n (ownV (c.tx t).own (m.fa t) (m.fc t)) (fun z => left z && !decide (z = (q : Int))) cnt1 := HRG3.out.kept (set_other _ _ _ _ _ hbg) (set_other _ _ _ _ _ (by omega))
      have HW := Lib.hide hW
      have MW := Lib.hide mW
      have RW := Lib.hide rW
      clear hW mW rW
      go_wp2
      go_roundw
      case rel => exact ⟨_, cnt1, _, RW.out, HW.out, MW.out, HUND.out⟩
      case measure => rw [RW.out.left_eq, HRG2.out.left_eq]; exact HLT.out

theorem commit_any (B mb k : Nat) (ρ : Roles) (c : Mc) (m : Mem) (t : Nat) (w : World) (h : Mach w B mb k ρ c m) (ht : t < 4) (hB : B ≤ w.heap.size) (hn : c.xs.length ≤ 400) (h0 : 0 < c.xs.length) (hok : OwnOk c t) (hk : Keyed4 c t) :
    Calls Try.prog 86 #[.pointer (some ⟨mb, 0, none⟩), .int .i64 t] w (MCode w B mb k ρ (CCommit c t)) := by
  have x0 := h.blk.isOpen t ht
  have H := Lib.hide h
  have HOK := Lib.hide hok
  have HK := Lib.hide hk
  cases ho : (c.tx t).isOpen
  · rw [ho] at x0
    have HO := Lib.hide ho
    clear ho h hok hk
    go_enter Try.func86, Try.ntmps86
    go_wp2
    go_ret
    exact ⟨5, c, m, ρ, Ite.neg (by rw [HO.out]; simp) ⟨rfl, rfl⟩, rfl, H.out, Moved.refl _ _⟩
  · by_cases hh : Holds c t
    · exact commit_yes B mb k ρ c m t w h ht ho hB hn h0 hok hk hh
    · rw [ho] at x0
      have HO := Lib.hide ho
      have HHO := Lib.hide hh
      clear ho h hok hk hh
      go_enter Try.func86, Try.ntmps86
      go_wp2_with (first
        | (go_at_call 109; refine (holds_any B mb k ρ c m t _ H.out ht HO.out hn HK.out false (fiff HHO.out)).mono ?_; rintro e w2 ⟨rfl, hb2⟩; have HB2 := Lib.hide hb2; have HM2 := Lib.hide (H.out.next hb2); have hB2 := Nat.le_trans hB hb2.size; clear hb2)
        | (go_at_call 110; refine (undo_any B mb k ρ c m t _ HM2.out ht HO.out hB2 hn h0 HOK.out).mono ?_; rintro e w' ⟨c', m', ρ', hc, rfl, hm', hv'⟩; have HC := Lib.hide hc; have HM' := Lib.hide hm'; have HV' := Lib.hide hv'; clear hc hm' hv')
        | go_in)
      go_ret
      exact ⟨6, c', m', ρ', Ite.pos HO.out (Ite.neg HHO.out ⟨rfl, HC.out⟩), rfl, HM'.out, (Moved.of_below HB2.out).trans HV'.out⟩
end Go.Proofs.Ytpdcaoagpjcgbab

