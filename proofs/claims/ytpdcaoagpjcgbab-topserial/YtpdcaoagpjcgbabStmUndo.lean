/-
  The walks of undo and abort of package stm. They prove no statement by themselves.
-/
import Derived.Test.YtpdcaoagpjcgbabStmB
import Derived.Deep.RegionHeld3
set_option linter.unusedVariables false
set_option linter.unusedSimpArgs false
namespace Go.Proofs.Ytpdcaoagpjcgbab
open Go.RowKit Stm

/-- What is known of what a thread owns: its objects lie in the words, apart, and their values are small. -/
structure OwnOk (c : Mc) (t : Nat) : Prop where
  at_ : ∀ p o, (c.tx t).own p = some o → ∃ q : Nat, p = q ∧ 1 ≤ q ∧ q + 2 + o.fields.length ≤ c.xs.length ∧ 0 ≤ o.ver ∧ o.ver ≤ 1000000 ∧ ∀ v ∈ o.fields, -2305843009213693952 ≤ v.n ∧ v.n ≤ 2305843009213693952
  apart : ∀ (p q : Nat) (o o' : Orig), (c.tx t).own p = some o → (c.tx t).own q = some o' → q ≠ p → q + 2 + o'.fields.length ≤ p ∨ p + 2 + o.fields.length ≤ q

def MVoid (w : World) (B mb k : Nat) (ρ : Roles) (R : Mc → Prop) (e : Ending) (w' : World) : Prop :=
  ∃ (c' : Mc) (m' : Mem) (ρ' : Roles), R c' ∧ e = .returned (.tuple #[]) ∧ Mach w' B mb k ρ' c' m' ∧ Moved ρ w ρ' w'

def mkOrig (x : Int × Option Addr × Nat × Nat) : Value := .agg #[.int .i64 x.1, .slice x.2.1 x.2.2.1 x.2.2.2]
theorem ownV_inv {f : Int → Option Orig} {fa : Int → Option Addr} {fc : Int → Nat} (x : Int) (v : Value) (h : ownV f fa fc x = some v) : ∃ c, v = mkOrig c := by
  unfold ownV at h
  cases hf : f x with
  | none => rw [hf] at h; cases h
  | some o => rw [hf] at h; injection h with h; exact ⟨(o.ver, fa x, o.fields.length, fc x), h.symm⟩
theorem ownV_some {f : Int → Option Orig} {fa : Int → Option Addr} {fc : Int → Nat} {x : Int} {ver : Int} {a : Option Addr} {n c : Nat} (h : ownV f fa fc x = some (mkOrig (ver, a, n, c))) : ∃ o, f x = some o ∧ o.ver = ver ∧ fa x = a ∧ o.fields.length = n ∧ fc x = c := by
  unfold ownV at h
  cases hf : f x with
  | none => rw [hf] at h; cases h
  | some o =>
    rw [hf] at h
    injection h with h
    unfold mkOrig ownVal at h
    injection h with h
    injection h with h
    injection h with h1 h2
    injection h1 with _ h1
    injection h2 with h2 _
    injection h2 with h2 h3 h4
    exact ⟨o, rfl, h1, h2, h3, h4⟩

/-- The machine with other words. -/
def withXs (c : Mc) (xs : List Int) : Mc := ⟨xs, c.top, c.regs, c.tx, c.coll⟩

set_option maxHeartbeats 1200000 in
set_option maxRecDepth 100000 in
theorem undo_any (B mb k : Nat) (ρ : Roles) (c : Mc) (m : Mem) (t : Nat) (w : World) (h : Mach w B mb k ρ c m) (ht : t < 4) (ho : (c.tx t).isOpen = true) (hB : B ≤ w.heap.size) (hn : c.xs.length ≤ 400) (h0 : 0 < c.xs.length) (hok : OwnOk c t) :
    Calls Try.prog 110 #[.pointer (some ⟨mb, 0, none⟩), .int .i64 t] w (MVoid w B mb k ρ (CUndo c t)) := by
  have q1 := h.blk.own t ht
  obtain ⟨b, n, e', _, hrb, hm⟩ := h.ownMap ht ho
  obtain ⟨g, hwa, hBg, hgl, hrg, _⟩ := h.row h0
  rw [e'] at q1
  have hlt := h.blk.lt
  have hbl := hm.lt
  have hbg : b ≠ g := fun e => by subst e; rw [hrb] at hrg; cases hrg
  have hmg : mb ≠ g := fun e => by have := h.rmb; rw [e, hrg] at this; cases this
  have H := Lib.hide h
  have HM := Lib.hide hm
  have HOK := Lib.hide hok
  have HWA := Lib.hide hwa
  have HRG := Lib.hide hrg
  have HB := Lib.hide hB
  clear h hm hok hwa hrg ho e' hrb hB
  go_enter Try.func110, Try.ntmps110
  go_wp2_with (first
    | (at_range; refine wpList_range_R _ rfl _ 107 rfl 156 Try.underlying107 b n _ rfl HM.out ?_; intro w0 cnt0 hrg0 hg0 hs0)
    | go_in)
  go_frame
  have HRG0 := Lib.hide hrg0
  have HG0 := Lib.hide hg0
  clear hrg0 hg0 hs0
  go_loopw [5] (fun _ wr => ∃ (left : Int → Bool) (cnt : Nat) (ys : List Int), RangeR wr b w.heap.size n (ownV (c.tx t).own (m.fa t) (m.fc t)) left cnt ∧ Mach wr B mb k ρ (withXs c ys) m ∧ Moved ρ w ρ wr ∧ Undone c.xs (doneOf (c.tx t).own left) ys ∧ (∀ p, left p = true → (c.tx t).own p ≠ none))
    (fun _ wr => wr.rangeLeft b w.heap.size)
  case atStart =>
    have hbel : Below w.heap.size w w0 := ⟨HG0.out.os, HG0.out.tape, HG0.out.output, HG0.out.size, fun i hi => HG0.out.block i hi (by simp)⟩
    refine ⟨_, _, c.xs, HRG0.out, H.out.next hbel, Moved.of_below hbel, ?_, fun p hp => ?_⟩
    · rw [doneOf_start _ _ (fun p => by cases e : (c.tx t).own p <;> simp [ownV, e])]
      exact Undone.start _
    · intro e
      simp [ownV, e] at hp
  case round =>
    obtain ⟨left, cnt, ys, hrg, hmc, hmv, hun, hlf⟩ := hrel
    have hyl : ys.length = c.xs.length := hun.len
    have HRG2 := Lib.hide hrg
    have HMC := Lib.hide hmc
    have HMV := Lib.hide hmv
    have HUN := Lib.hide hun
    have HLF := Lib.hide hlf
    have hwl := hmv.size
    clear hrg hmc hmv hun hlf HRG0 HG0
    go_wp2_with (first
      | (at_next; refine wpList_next_R _ rfl _ rfl mkOrig b w.heap.size n _ _ _ ownV_inv rfl HRG2.out ?_ ?_)
      | go_in)
    · intro hc0 hl0
      have HL := Lib.hide hl0
      clear hl0
      obtain ⟨x0, x1, x2, x3, x4, x5, x6, x7, x8, x9, x10⟩ := HMC.out.blk.tx11 ht
      obtain ⟨r0, r1, r2, r3, r4, r5, r6, r7⟩ := HMC.out.blk.regs8 ht
      obtain ⟨f0, f1, f2, f3, f4, f5, f6, f7, f8, f9, f10⟩ := HMC.out.blk.warm11 (34 + t * 11)
      obtain ⟨y0, y1, y2, y3, y4, y5, y6, y7, y8, y9, y10⟩ := HMC.out.blk.warm11 (2 + t * 8)
      clear y8 y9 y10
      have hml := HMC.out.blk.lt
      unfold withXs at x0 x1 x2 x3 x4 x5 x6 x7 x8 r0 r1 r2 r3 r4 r5 r6 r7
      dsimp only at x0 x1 x2 x3 x4 x5 x6 x7 x8 r0 r1 r2 r3 r4 r5 r6 r7
      go_wp2
      go_region
      go_wp2
      go_end0
      have hd := HUN.out
      rw [doneOf_end _ _ HL.out] at hd
      have h1 := HMC.out.setRegs ht (c.tx t).saved
      have m1 := Moved.put HMC.out (2 + t * 8) (regCells (c.tx t).saved)
      have h2 := h1.setTx ht .zero none none (fun _ => none) (fun _ => 0) (TxMem.zero _ _ _ _ _ _ _)
      have m2 := Moved.put h1 (34 + t * 11) (txCells false (fun _ => .zero) none none)
      have h3 : Mach (puts (puts wr mb (2 + t * 8) (regCells (c.tx t).saved)) mb (34 + t * 11) (txCells false (fun _ => .zero) none none)).drew B mb k ρ ⟨ys, c.top, upd c.regs t (c.tx t).saved, upd c.tx t .zero, c.coll⟩ (m.setTx t none none (fun _ => none) (fun _ => 0)) := h2.drew
      have m4 := (HMV.out.trans m1).trans (m2.trans (Moved.drew _ _))
      rw [puts_txz, puts_regs] at h3 m4
      refine ⟨_, m.setTx t none none (fun _ => none) (fun _ => 0), ρ, ⟨ys, hd, rfl⟩, rfl, ?_, ?_⟩
      · with_reducible exact h3
      · with_reducible exact m4
    · intro x ver a len cp w1 cnt1 hfx hlx hv hrg1 hlt1 hg1 hs1 hen
      obtain ⟨o, hown, rfl, rfl, rfl, rfl⟩ := ownV_some hv
      obtain ⟨q, rfl, hq1, hq2, hq3, hq4, hq5⟩ := HOK.out.at_ x o hown
      have hri : ρ w.heap.size = none := Classical.byContradiction fun hn => by have := (H.out.low _ hn).2; omega
      have hmv1 := HMV.out.grown hg1 (Nat.le_refl _)
      have hmc1 := HMC.out.kept (w' := w1) (fun i hi => hg1.block i (HMC.out.low i hi).2 (fun e => by rw [Option.some.inj e] at hi; exact hi hri)) hg1.size
      have hund := Undone.step HUN.out (p := q) (o := o) (by simp [doneOf, hlx]) hq2 (fun q' o' hq' hne => by
        have hq'' : (c.tx t).own q' = some o' := by
          unfold doneOf at hq'
          split at hq'
          · cases hq'
          · exact hq'
        exact HOK.out.apart q q' o o' hown hq'' hne)
      have hls : ∀ z : Int, (left z && !decide (z = (q : Int))) = true → (c.tx t).own z ≠ none := fun z hz => HLF.out z (by simp at hz; exact hz.1)
      rw [← doneOf_step hown] at hund
      have hv1 := (hmc1.txs t ht).fields q o hown
      have HUND := Lib.hide hund
      have HLS := Lib.hide hls
      have HLT := Lib.hide hlt1
      have HOWN := Lib.hide hown
      have hwr := hg1.size
      simp only [mkOrig] at hen ⊢
      obtain ⟨vr, hvr⟩ : ∃ vr, o.ver = vr := ⟨_, rfl⟩
      obtain ⟨fl, hfl⟩ : ∃ fl, o.fields.length = fl := ⟨_, rfl⟩
      have hfa : ∃ fa', m.fa t q = fa' ∧ (0 < fl → ∃ g2, fa' = some ⟨g2, 0, none⟩) := ⟨_, rfl, fun hp => by
        rw [hfl] at hv1
        obtain ⟨_, g2, e2, _⟩ := hv1.1.row hp
        exact ⟨g2, e2⟩⟩
      obtain ⟨fa', hfa', hfp⟩ := hfa
      rw [hvr, hfl, hfa'] at hen ⊢
      rw [hvr] at hq3 hq4
      rw [hfl] at hq2
      obtain ⟨fc', hfc'⟩ : ∃ fc', m.fc t q = fc' := ⟨_, rfl⟩
      rw [hfc'] at hen ⊢
      have HVR := Lib.hide hvr
      have HFL := Lib.hide hfl
      have HFA := Lib.hide hfa'
      have HFP := Lib.hide hfp
      have HFC := Lib.hide hfc'
      have HQ5 := Lib.hide hq5
      have hmc2 := hmc1.alloc (.cells #[.int .i64 vr, .slice fa' fl fc'] 156)
      have hrg2 := hrg1.kept (w' := w1.alloc (.cells #[.int .i64 vr, .slice fa' fl fc'] 156)) (Below.heap_alloc _ _ _ hrg1.owns.lt) (Below.heap_alloc _ _ _ hrg1.lt)
      have hmv2 := hmv1.next (w1 := w1.alloc (.cells #[.int .i64 vr, .slice fa' fl fc'] 156)) (by repeat (first | exact Below.refl _ _ | assumption | refine Below.drew ?_ | refine below_drewN ?_ _ | refine Below.allocs ?_ | refine Below.next ?_ (by assumption) | refine Below.setCell ?_ (by dsimp only; omega) _))
      obtain ⟨b0, b1, b2, b3, b4⟩ := Box2.new w1 (.int .i64 vr) (.slice fa' fl fc') 156
      have HBX := Lib.hide (Box2.new w1 (.int .i64 vr) (.slice fa' fl fc') 156)
      have z0 := hmc2.blk.words
      have z1 := hmc2.blk.lt
      obtain ⟨g', hwa', _, hgl', _, hc1, hc2, hcc, hcf⟩ := hmc2.row (by show 0 < ys.length; omega)
      obtain rfl : g' = g := by rw [HWA.out] at hwa'; injection hwa' with hwa'; injection hwa' with hwa' _; exact hwa'.symm
      rw [hwa'] at z0
      have z2 := hcc q (by show q < ys.length; omega)
      have z3 := hcf q
      have hyl2 : (withXs c ys).xs.length = c.xs.length := hyl
      rw [hyl2] at z0 hc1
      have HMC2 := Lib.hide hmc2
      have HRG3 := Lib.hide hrg2
      have HMV2 := Lib.hide hmv2
      have hw1 := hg1.size
      have hgw : w1.heap.size ≠ g' := by omega
      have hbw : b ≠ w1.heap.size := by omega
      clear hv hrg1 hg1 hs1 hlx hown hlt1 hund hls hv1 hmc1 hmv1 hmc2 hrg2 hmv2 hcc hcf hwa' hyl2 hvr hfl hfa' hfp hfc' hq5
      obtain ⟨N, hN⟩ : ∃ N, c.xs.length = N := ⟨_, rfl⟩
      rw [hN] at z0 hc1 hn h0 hq2 hyl
      have HN := Lib.hide hN
      clear hN
      have j1 : (0 : Int) ≤ (q : Int) := by omega
      have j2 : (q : Int) < (N : Int) := by omega
      go_wp2
      go_region_held3 (fun w' => w'.cell? ⟨mb, 0, none⟩ = some (.slice (some ⟨g', 0, none⟩) N m.wcap) ∧ w'.cell? ⟨w1.heap.size, 0, none⟩ = some (.int .i64 vr))
        (first | exact ⟨z0, b0⟩ | exact ⟨far_cell z0 hmg, far_cell b0 hgw⟩)
        (first | (go_at_call 111; refine (freeState_any vr _ hq3 (by omega)).mono ?_; rintro e w' ⟨rfl, rfl⟩))
      have hW : Mach ((w1.alloc (.cells #[.int .i64 vr, .slice fa' fl fc'] 156)).setCell ⟨g', q, none⟩ (.int .i64 (2 * vr))).drew B mb k ρ (withXs c (restF ys q o 0)) m := by
        have := (HMC2.out.setWord HWA.out q (2 * vr)).drew
        rw [← HVR.out] at this
        rw [← HVR.out]
        exact this
      have mW : Moved ρ w ρ ((w1.alloc (.cells #[.int .i64 vr, .slice fa' fl fc'] 156)).setCell ⟨g', q, none⟩ (.int .i64 (2 * vr))).drew := (HMV2.out.trans (Moved.setWord HMC2.out HWA.out q _)).trans (Moved.drew _ _)
      have rW : RangeR ((w1.alloc (.cells #[.int .i64 vr, .slice fa' fl fc'] 156)).setCell ⟨g', q, none⟩ (.int .i64 (2 * vr))).drew b w.heap.size n (ownV (c.tx t).own (m.fa t) (m.fc t)) (fun z => left z && !decide (z = (q : Int))) cnt1 := HRG3.out.kept (set_other _ _ _ _ _ hbg) (set_other _ _ _ _ _ (by omega))
      have bW : Box2 ((w1.alloc (.cells #[.int .i64 vr, .slice fa' fl fc'] 156)).setCell ⟨g', q, none⟩ (.int .i64 (2 * vr))).drew w1.heap.size (.int .i64 vr) (.slice fa' fl fc') := (HBX.out.far hgw _).next (by repeat (first | exact Below.refl _ _ | assumption | refine Below.drew ?_ | refine below_drewN ?_ _ | refine Below.allocs ?_ | refine Below.next ?_ (by assumption) | refine Below.setCell ?_ (by dsimp only; omega) _))
      obtain ⟨W, hWe⟩ : ∃ W, ((w1.alloc (.cells #[.int .i64 vr, .slice fa' fl fc'] 156)).setCell ⟨g', q, none⟩ (.int .i64 (2 * vr))).drew = W := ⟨_, rfl⟩
      rw [hWe] at hW mW rW bW ⊢
      have HW := Lib.hide hW
      have MW := Lib.hide mW
      have RW := Lib.hide rW
      have BW := Lib.hide bW
      obtain ⟨d0, d1, d2, d3, d4⟩ := bW
      clear hW mW rW hWe z0 z1 z2 z3 b0 b1 b2 b3 b4 HMC2 HRG3 HMV2 HBX hen
      go_wp2
      go_loopw [34] (fun u wx => ∃ i, i ≤ fl ∧ u = .int .i64 (i : Int) ∧ RangeR wx b w.heap.size n (ownV (c.tx t).own (m.fa t) (m.fc t)) (fun z => left z && !decide (z = (q : Int))) cnt1 ∧ Mach wx B mb k ρ (withXs c (restF ys q o i)) m ∧ Moved ρ w ρ wx ∧ w1.heap.size < wx.heap.size)
        (fun u _ => fl - (intOf u).toNat)
      case atStart => exact ⟨0, Nat.zero_le _, rfl, RW.out, HW.out, MW.out, d4⟩
      case round =>
        obtain ⟨i, hi, rfl, rx, mx, vx, sx⟩ := hrel
        have RX := Lib.hide rx
        have MX := Lib.hide mx
        have VX := Lib.hide vx
        clear rx mx vx RW HW MW BW
        by_cases hlt2 : i < fl
        · have hfv := (MX.out.txs t ht).fields q o HOWN.out
          have ev : (withXs c (restF ys q o i)).tx = c.tx := rfl
          rw [HFL.out, HFA.out, HFC.out] at hfv
          obtain ⟨_, g2, e2, _, hg2l, hg2c, hg2d, hcv, _⟩ := hfv.1.row (by omega)
          subst e2
          obtain ⟨c0, c1⟩ := hcv i hlt2
          obtain ⟨v, hvv⟩ : ∃ v, o.fields.getD i .zero = v := ⟨_, rfl⟩
          have hvm : -2305843009213693952 ≤ v.n ∧ v.n ≤ 2305843009213693952 := by
            have hlen := HFL.out
            have hm : v ∈ o.fields := by
              rw [← hvv, List.getD_eq_getElem?_getD, List.getElem?_eq_getElem (by omega)]
              simp
            exact HQ5.out v hm
          rw [hvv] at c0 c1
          have HVV := Lib.hide hvv
          have z0 := MX.out.blk.words
          have z1 := MX.out.blk.lt
          obtain ⟨g3, hwa', _, hgl3, _, _, _, hcc, hcf⟩ := MX.out.row (by show 0 < (restF ys q o i).length; rw [restF_length]; omega)
          obtain rfl : g3 = g' := by rw [HWA.out] at hwa'; injection hwa' with hwa'; injection hwa' with hwa' _; exact hwa'.symm
          rw [hwa'] at z0
          have hxl : (withXs c (restF ys q o i)).xs.length = N := by show (restF ys q o i).length = N; rw [restF_length]; exact hyl
          rw [hxl] at z0
          have z2 := hcc (q + 2 + i) (by rw [hxl]; omega)
          have z3 := hcf (q + 2 + i)
          have i1 : IntKind.i64.wrap ((q : Int) + 2) = (q : Int) + 2 := IntWalk.i64_in _ (by omega)
          have i2 : IntKind.i64.wrap ((q : Int) + 2 + (i : Int)) = (q : Int) + 2 + (i : Int) := IntWalk.i64_in _ (by omega)
          have i3 : (0 : Int) ≤ (q : Int) + 2 + (i : Int) := by omega
          have i4 : (q : Int) + 2 + (i : Int) < (N : Int) := by omega
          have i5 : ((q : Int) + 2 + (i : Int)).toNat = q + 2 + i := by omega
          clear hcc hcf hcv hfv hvv hwa' hxl ev
          go_wp2
          have hW7 : Mach (wr.alloc (.cells #[.int .i64 v.k, .int .i64 v.n] 34)).drew B mb k ρ (withXs c (restF ys q o i)) m := (MX.out.alloc _).drew
          have rW7 := RX.out.kept (w' := (wr.alloc (.cells #[.int .i64 v.k, .int .i64 v.n] 34)).drew) (Below.heap_alloc _ _ _ RX.out.owns.lt) (Below.heap_alloc _ _ _ RX.out.lt)
          have vW7 := VX.out.next (w1 := (wr.alloc (.cells #[.int .i64 v.k, .int .i64 v.n] 34)).drew) (by repeat (first | exact Below.refl _ _ | assumption | refine Below.drew ?_ | refine below_drewN ?_ _ | refine Below.allocs ?_ | refine Below.next ?_ (by assumption) | refine Below.setCell ?_ (by dsimp only; omega) _))
          have bW7 : Box2 (wr.alloc (.cells #[.int .i64 v.k, .int .i64 v.n] 34)).drew wr.heap.size (.int .i64 v.k) (.int .i64 v.n) := (Box2.new wr _ _ _).next (by repeat (first | exact Below.refl _ _ | assumption | refine Below.drew ?_ | refine below_drewN ?_ _ | refine Below.allocs ?_ | refine Below.next ?_ (by assumption) | refine Below.setCell ?_ (by dsimp only; omega) _))
          have sW7 : w1.heap.size < (wr.alloc (.cells #[.int .i64 v.k, .int .i64 v.n] 34)).drew.heap.size := by simp; omega
          have wW7 : (wr.alloc (.cells #[.int .i64 v.k, .int .i64 v.n] 34)).drew.cell? ⟨mb, 0, none⟩ = some (.slice (some ⟨g3, 0, none⟩) N m.wcap) := by
            rw [← z0]
            exact Below.cell (p := ⟨mb, 0, none⟩) (show Below wr.heap.size wr (wr.alloc (.cells #[.int .i64 v.k, .int .i64 v.n] 34)).drew from (by repeat (first | exact Below.refl _ _ | assumption | refine Below.drew ?_ | refine below_drewN ?_ _ | refine Below.allocs ?_ | refine Below.next ?_ (by assumption) | refine Below.setCell ?_ (by dsimp only; omega) _))) z1
          have hgx : wr.heap.size ≠ g3 := by omega
          have HW7 := Lib.hide hW7
          have RW7 := Lib.hide rW7
          have VW7 := Lib.hide vW7
          have BW7 := Lib.hide bW7
          obtain ⟨b0, b1, b2, b3, b4⟩ := bW7
          clear hW7 rW7 vW7 z0
          go_region_held3 (fun w' => w'.cell? ⟨mb, 0, none⟩ = some (.slice (some ⟨g3, 0, none⟩) N m.wcap) ∧ w'.cell? ⟨wr.heap.size, 0, none⟩ = some (.int .i64 v.k) ∧ w'.cell? ⟨wr.heap.size, 1, none⟩ = some (.int .i64 v.n))
            (first | exact ⟨wW7, b0, b1⟩ | exact ⟨k0, k1, k2⟩ | exact ⟨far_cell k0 hmg, far_cell k1 hgx, far_cell k2 hgx⟩)
            (first | (go_at_call 55; refine (word_any v.k v.n _ hvm.1 hvm.2).mono ?_; rintro e w6 ⟨rfl, hb6⟩; have HM6 := Lib.hide (HW7.out.next hb6); have HB6 := Lib.hide hb6; have k0 := (hb6.cell (p := ⟨mb, 0, none⟩) HW7.out.blk.lt).trans wW7; obtain ⟨k1, k2, _, _, _⟩ := BW7.out.next hb6; obtain ⟨g4, hwa4, _, hgl4, _, _, _, hcc4, hcf4⟩ := HM6.out.row (by show 0 < (restF ys q o i).length; rw [restF_length]; omega); obtain rfl : g4 = g3 := (by rw [HWA.out] at hwa4; injection hwa4 with hwa4; injection hwa4 with hwa4 _; exact hwa4.symm); have k4 := hcc4 (q + 2 + i) (by show q + 2 + i < (restF ys q o i).length; rw [restF_length]; omega); have k5 := hcf4 (q + 2 + i); clear hb6 hcc4 hcf4 hwa4))
          have hX : Mach (w6.setCell ⟨g4, q + 2 + i, none⟩ (.int .i64 (wordOf v.k v.n))) B mb k ρ (withXs c (restF ys q o (i + 1))) m := by
            have h8 := HM6.out.setWord HWA.out (q + 2 + i) (wordOf v.k v.n)
            have e8 : restF ys q o (i + 1) = (restF ys q o i).set (q + 2 + i) (wordOf v.k v.n) := by
              show (restF ys q o i).set (q + 2 + i) (Stm.wordOf (o.fields.getD i .zero)) = _
              rw [HVV.out]
              rfl
            rw [e8]
            exact h8
          have rX := (RW7.out.kept (HB6.out.block _ RW7.out.owns.lt) (HB6.out.block _ RW7.out.lt)).kept (w' := w6.setCell ⟨g4, q + 2 + i, none⟩ (.int .i64 (wordOf v.k v.n))) (set_other _ _ _ _ _ hbg) (set_other _ _ _ _ _ (by omega))
          have vX := (VW7.out.next HB6.out).trans (Moved.setWord HM6.out HWA.out (q + 2 + i) (.int .i64 (wordOf v.k v.n)))
          have sX : w1.heap.size < (w6.setCell ⟨g4, q + 2 + i, none⟩ (.int .i64 (wordOf v.k v.n))).heap.size := by
            have := HB6.out.size
            simp [World.setCell]
            omega
          have HX := Lib.hide hX
          have RX2 := Lib.hide rX
          have VX2 := Lib.hide vX
          clear hX rX vX
          go_wp2
          go_roundw
          case rel => exact ⟨i + 1, by omega, by go_num, RX2.out, HX.out, VX2.out, sX⟩
          case measure => simp [intOf]; omega
        · obtain rfl : i = fl := by omega
          go_wp2
          go_roundw
          case rel => exact ⟨_, cnt1, _, RX.out, MX.out, VX.out, (by rw [← HFL.out]; exact HUND.out), HLS.out⟩
          case measure => rw [RX.out.left_eq, HRG2.out.left_eq]; exact HLT.out

theorem abort_any (B mb k : Nat) (ρ : Roles) (c : Mc) (m : Mem) (t : Nat) (w : World) (h : Mach w B mb k ρ c m) (ht : t < 4) (hB : B ≤ w.heap.size) (hn : c.xs.length ≤ 400) (h0 : 0 < c.xs.length) (hok : OwnOk c t) :
    Calls Try.prog 87 #[.pointer (some ⟨mb, 0, none⟩), .int .i64 t] w (MCode w B mb k ρ (CAbort c t)) := by
  have x0 := h.blk.isOpen t ht
  have H := Lib.hide h
  have HOK := Lib.hide hok
  cases ho : (c.tx t).isOpen
  · rw [ho] at x0
    have HO := Lib.hide ho
    clear ho h hok
    go_enter Try.func87, Try.ntmps87
    go_wp2
    go_ret
    exact ⟨5, c, m, ρ, Ite.neg (by rw [HO.out]; simp) ⟨rfl, rfl⟩, rfl, H.out, Moved.refl _ _⟩
  · rw [ho] at x0
    have HO := Lib.hide ho
    clear ho h hok
    go_enter Try.func87, Try.ntmps87
    go_wp2_with (first
      | (go_at_call 110; refine (undo_any B mb k ρ c m t _ H.out ht HO.out hB hn h0 HOK.out).mono ?_; rintro e w' ⟨c', m', ρ', hc, rfl, hm', hv'⟩; have HC := Lib.hide hc; have HM' := Lib.hide hm'; have HV' := Lib.hide hv'; clear hc hm' hv')
      | go_in)
    go_ret
    exact ⟨0, c', m', ρ', Ite.pos HO.out ⟨rfl, HC.out⟩, rfl, HM'.out, HV'.out⟩
end Go.Proofs.Ytpdcaoagpjcgbab

