/-
  The walks of finish and step of package stm. They prove no statement by themselves.
-/
import Derived.Test.YtpdcaoagpjcgbabColA
import Derived.StillTailTactics
set_option linter.unusedVariables false
set_option linter.unusedSimpArgs false
namespace Go.Proofs.Ytpdcaoagpjcgbab
open Go.RowKit Stm

theorem sorted_ge {qs : List Nat} (h : qs.Pairwise (· < ·)) : ∀ i, i < qs.length → i ≤ qs.getD i 0
  | 0, _ => Nat.zero_le _
  | i + 1, hi => by
    have h1 := sorted_ge h i (by omega)
    have h2 := sorted_at (nums_sorted h) (i := i) (j := i + 1) (by omega) (by rw [nums_length]; exact hi)
    rw [nums_getD, nums_getD] at h2
    omega
theorem sorted_len {qs : List Nat} {t : Nat} (h : qs.Pairwise (· < ·)) (hb : ∀ q ∈ qs, q < t) : qs.length ≤ t := by
  rcases Nat.eq_zero_or_pos qs.length with h0 | h0
  · omega
  · have h1 := sorted_ge h (qs.length - 1) (by omega)
    have h2 := hb _ (getD_mem (qs := qs) (j := qs.length - 1) (by omega))
    omega

theorem mvV_eq (m : Int → Option Int) : mvV m = mvF (mvN m) := rfl

/-- What a collection keeps, as a list of objects. -/
theorem Inv.kept {c : Mc} {l : List Nat} {k : Nat} (h : Inv c l k) (hg : c.coll.going = true) : ∃ qs, keepL c l = nums qs ∧ Kept l qs ∧ Closed c.xs qs qs.length := by
  obtain ⟨q0, h1, h2, h3⟩ := h.ret hg
  have hs := (Lw.objs_spec c.top.toNat 1 l (by omega) h.valid.objects.1).2
  have hk : keepL c l = nums (q0 ++ l.filter (fun q : Nat => decide (c.coll.top ≤ (q : Int)))) := by
    unfold keepL
    rw [if_pos hg, h1, nums_append]
    congr 1
    unfold nums
    rw [List.filter_map]
    rfl
  obtain ⟨qs, hqs⟩ : ∃ qs, q0 ++ l.filter (fun q : Nat => decide (c.coll.top ≤ (q : Int))) = qs := ⟨_, rfl⟩
  rw [hqs] at hk
  refine ⟨qs, hk, ⟨fun q hq => ?_, ?_⟩, fun i hi q hr => ?_⟩
  · rw [← hqs] at hq
    rcases List.mem_append.1 hq with h' | h'
    · exact h2.sub q h'
    · exact (List.mem_filter.1 h').1
  · rw [← hqs, List.pairwise_append]
    refine ⟨h2.sorted, hs.filter _, fun a ha b hb => ?_⟩
    have h5 := h3 a ha
    have h6 := (List.mem_filter.1 hb).2
    simp at h6
    omega
  · have hm : ((qs.getD i 0 : Nat) : Int) ∈ keepL c l := by
      rw [hk]
      exact mem_nums.2 (getD_mem hi)
    have := h.closed _ hm q hr
    rwa [hk] at this

theorem toAt_mono {xs : List Int} {qs : List Nat} {i j : Nat} (h : i < j) (hj : j < qs.length) : toAt xs qs i < toAt xs qs j := by
  have := toAt_lt (xs := xs) (qs := qs) (i := i) (j - i - 1) (by omega)
  rwa [show i + (j - i - 1) + 1 = j by omega] at this
theorem mvN_inj {xs : List Int} {qs : List Nat} {m : Int → Option Int} (hd : Dest xs qs qs.length m) {p q : Int} (hp : p ∈ nums qs) (hq : q ∈ nums qs) (h : mvN m p = mvN m q) : p = q := by
  obtain ⟨i, hi, ei⟩ := mem_at.1 hp
  obtain ⟨j, hj, ej⟩ := mem_at.1 hq
  rw [nums_length] at hi hj
  rw [nums_getD] at ei ej
  unfold mvN at h
  rw [← ei, ← ej, hd.new i hi, hd.new j hj] at h
  simp at h
  rcases Nat.lt_trichotomy i j with h' | h' | h'
  · have := toAt_mono (xs := xs) h' hj; omega
  · subst h'; rw [← ei, ← ej]
  · have := toAt_mono (xs := xs) h' hi; omega

/-- The machine behind an append to its list of retained objects. -/
theorem Mach.appended {w w3 : World} {B mb k : Nat} {ρ : Roles} {c : Mc} {m : Mem} (h : Mach w B mb k ρ c m) (hg : w.grownBy w3 (Value.slice m.ra c.coll.ret.length m.rcap).ownBlock) (ho : Own w3 B (.slice m.ra c.coll.ret.length m.rcap) c.coll.ret) : Mach w3 B mb k ρ c m ∧ MovedW ρ w ρ w3 := by
  have hne : ∀ i x, ρ i = some x → x ≠ (2, 0, 0) → w3.heap[i]? = w.heap[i]? := fun i x hx hn => hg.block i (h.low i (by rw [hx]; simp)).2 (fun e => by
    rw [h.rret i e.symm] at hx
    exact hn (Option.some.inj hx).symm)
  refine ⟨⟨h.blk.kept (hne mb _ h.rmb (by simp)) hg.size, ownsRow_kept h.words (fun g hg => hne g _ (h.rwords g hg) (by simp)), ho, fun t ht => (h.txs t ht).kept (fun i hi => by rcases hi with h | h | ⟨p, h⟩ <;> exact hne i _ h (by simp)), h.rmb, h.rwords, h.rret, fun i hi => ⟨(h.low i hi).1, Nat.lt_of_lt_of_le (h.low i hi).2 hg.size⟩⟩, ?_⟩
  exact ⟨hg.os, hg.tape, hg.output, hg.size, fun i hi hn => hg.block i hi (fun e => by rw [h.rret i e.symm] at hn; cases hn), fun _ _ hn => hn⟩

/-- Registers of threads that there are not do not count. -/
theorem Mach.regsExt {w : World} {B mb k : Nat} {ρ : Roles} {c : Mc} {m : Mem} (h : Mach w B mb k ρ c m) (g : Nat → Nat → Val) (hg : ∀ t r, t < 4 → r < 4 → g t r = c.regs t r) : Mach w B mb k ρ ⟨c.xs, c.top, g, c.tx, c.coll⟩ m :=
  ⟨{ h.blk with regk := fun t r ht hr => by dsimp only; rw [hg t r ht hr]; exact h.blk.regk t r ht hr, regn := fun t r ht hr => by dsimp only; rw [hg t r ht hr]; exact h.blk.regn t r ht hr }, h.words, h.ret, h.txs, h.rmb, h.rwords, h.rret, h.low⟩

theorem FTx.mv {m : Int → Option Int} {x x' : Tx} (h : FTx (mvN m) x x') : MvTx m x x' := by
  refine ⟨h.isOpen, h.saved, fun q v => ?_, fun q v => ?_⟩
  · rw [h.recd]
    exact ⟨fun ⟨p, h1, h2⟩ => ⟨p, v, h1, h2, rfl⟩, fun ⟨p, u, h1, h2, h3⟩ => ⟨p, h3 ▸ h1, h2⟩⟩
  · rw [h.own]
    exact ⟨fun ⟨p, o, h1, h2, h3⟩ => ⟨p, o, h1, h2, h3⟩, fun ⟨p, o, h1, h2, h3⟩ => ⟨p, o, h1, h2, h3⟩⟩
theorem MvTx.zero (m : Int → Option Int) : MvTx m .zero .zero := ⟨rfl, fun _ => rfl, fun q v => ⟨fun h => (by cases h), fun ⟨p, u, h, _⟩ => (by cases h)⟩, fun q v => ⟨fun h => (by cases h), fun ⟨p, u, h, _⟩ => (by cases h)⟩⟩

/-- What finish leaves. -/
def FinPost (w : World) (B mb k : Nat) (ρ : Roles) (c : Mc) (l : List Nat) (e : Ending) (w' : World) : Prop :=
  ∃ (f : Int) (c' : Mc) (m' : Mem) (ρ' : Roles), CFinish c l f c' ∧ e = .returned (.int .i64 f) ∧ Mach w' B mb k ρ' c' m' ∧ MovedW ρ w ρ' w'

set_option maxHeartbeats 3200000 in
set_option maxRecDepth 100000 in
theorem finish_any (B mb k : Nat) (ρ : Roles) (c : Mc) (m : Mem) (l : List Nat) (k' : Nat) (w : World) (h : Mach w B mb k ρ c m) (hi : Inv c l k') (hB : B ≤ w.heap.size) (hk : k ≤ 1000) (hg : c.coll.going = true) :
    Calls Try.prog 116 #[.pointer (some ⟨mb, 0, none⟩)] w (FinPost w B mb k ρ c l) := by
  obtain ⟨i0, hi0, hz0, hz1, hz2⟩ := info_parts Try.intInfo
  obtain ⟨qs, hqs, hkept, hclosed⟩ := hi.kept hg
  have hlaid := Objects.laid hi.valid.objects
  have v1 := hi.valid.top1
  have v2 := hi.valid.top2
  have v3 := hi.valid.len2
  have hl4 : l.length ≤ 400 := by have := hlaid.short; omega
  have hlt := h.blk.lt
  have y0 := h.blk.words
  have y1 := h.blk.top
  have CP := Lib.hide (places_yes m.wa c.xs.length m.wcap c.xs c.top l w (h.isHeap hi) hi.valid)
  have H := Lib.hide h
  have HI := Lib.hide hi
  have HQS := Lib.hide hqs
  have HKE := Lib.hide hkept
  have HCL := Lib.hide hclosed
  have HLA := Lib.hide hlaid
  have HG := Lib.hide hg
  clear h hi hqs hkept hclosed hlaid hg
  go_enter Try.func116, Try.ntmps116
  go_wp2_with fail
  refine CP.out.mono ?_
  rintro e w1 ⟨a1, cap1, rfl, ho1, hb1⟩
  have hm1 := H.out.next hb1
  have z1 := hm1.blk.ctop
  have zl := hm1.blk.lt
  have CB := Lib.hide (bs_index a1 l.length cap1 (nums l) c.coll.top w1 ho1.reads.2 (nums_length l) hl4 (nums_sorted HLA.out.sorted))
  have HM1 := Lib.hide hm1
  have HB1 := Lib.hide hb1
  have HO1 := Lib.hide ho1
  clear hm1 hb1 ho1 y0 y1 hlt CP
  go_wp2_with fail
  refine CB.out.mono ?_
  rintro e w1' ⟨fi, fb, rfl, rfl, hfi, hlo, hhi⟩
  rw [nums_length] at hfi
  have hdrop : c.coll.ret ++ (nums l).drop fi = nums qs := by
    rw [drop_filter hlo hhi, ← HQS.out]
    unfold keepL
    rw [if_pos HG.out]
  have HDR := Lib.hide hdrop
  have z2 := HM1.out.blk.ret
  have hret := HM1.out.ret
  have hrl : c.coll.ret.length ≤ 400 := by
    obtain ⟨q0, e0, hk0, _⟩ := HI.out.ret HG.out
    rw [e0, nums_length]
    exact sorted_len hk0.sorted (fun q hq => by have := HI.out.place (hk0.sub q hq); omega)
  have HRT := Lib.hide hret
  have hw1B : B ≤ w1.heap.size := Nat.le_trans hB HB1.out.size
  clear hlo hhi hdrop hret CB z1
  have hend : ∀ (v7 : Value) (w3 : World), w1.drew.grownBy w3 (Value.slice m.ra c.coll.ret.length m.rcap).ownBlock → Own w3 B v7 (nums qs) → Own w3 B (.slice m.ra c.coll.ret.length m.rcap) c.coll.ret →
      (∃ a7 c7, v7 = .slice a7 qs.length c7) ∧ Mach w3 B mb k ρ c m ∧ MovedW ρ w ρ w3 := fun v7 w3 hg h1 h2 => by
    obtain ⟨hm, hv⟩ := HM1.out.drew.appended hg h2
    refine ⟨?_, hm, (MovedW.below HB1.out).trans ((Moved.drew ρ w1).w.trans hv)⟩
    rcases h1.2 with ⟨e1, e2⟩ | ⟨g, cap, cur, e1, _⟩
    · rw [nums_length] at e2
      exact ⟨none, 0, by rw [e1, e2]⟩
    · rw [nums_length] at e1
      exact ⟨_, cap, e1⟩
  have HEND := Lib.hide hend
  clear hend
  have j1 : (0 : Int) ≤ (fi : Int) := by omega
  have j2 : (fi : Int) ≤ (l.length : Int) := by omega
  rcases HO1.out.2 with ⟨e1, e2⟩ | ⟨g, cap, cur, e1, hg1, hg2, hg3, hg4, hg5, hg6⟩
  · rw [nums_length] at e2
    injection e1 with e1 e3 e4
    obtain rfl : fi = 0 := by omega
    subst e1 e4
    have hl0 : l.length = 0 := e2
    rw [hl0]
    rw [hl0] at j2
    have hnil : nums l = [] := by unfold nums; rw [List.length_eq_zero_iff.1 hl0]; rfl
    have hres : c.coll.ret = nums qs := by have := HDR.out; rw [hnil] at this; simpa using this
    have hE := HEND.out (.slice m.ra c.coll.ret.length m.rcap) w1.drew ⟨rfl, rfl, rfl, Nat.le_refl _, fun _ _ _ => rfl⟩ (by rw [← hres]; exact HRT.out) HRT.out
    have hO7 : Own w1.drew B (.slice m.ra c.coll.ret.length m.rcap) (nums qs) := by rw [← hres]; exact HRT.out
    obtain ⟨⟨a7, c7, e7⟩, hm3, hmv3⟩ := hE
    rw [e7] at z2 HRT hO7
    obtain ⟨w3, hw3⟩ : ∃ w3, w1.drew = w3 := ⟨_, rfl⟩
    rw [hw3] at hm3 hmv3 hO7
    have p0 := hm3.blk.words
    have p1 := hm3.blk.top
    have pl := hm3.blk.lt
    have CC := Lib.hide (compact_yes m.wa c.xs.length m.wcap c.xs c.top l qs a7 qs.length c7 w3 (hm3.isHeap HI.out) HI.out.valid hO7.reads.2 rfl HKE.out HCL.out)
    have HM3 := Lib.hide hm3
    have MV3 := Lib.hide hmv3
    have HO7 := Lib.hide hO7
    have HR1 := Lib.hide (show w1.drew.ownsRow B 3 1 (.slice a7 qs.length c7) c.coll.ret.length (c.coll.ret.map (Value.int .i64)) from HRT.out)
    have HW3 := Lib.hide hw3
    clear e2 e3 hnil hres e7 hm3 hmv3 hO7 hw3 hl0
    go_wp2
    go_still_tail 8, (by kernel_rfl)
    change wpList _ _ _ _ _ w1.drew
    go_wp2_with (at_builtin; refine wpList_append_none _ rfl (.tmp 34) (.tmp 37) 25 rfl B 3 i0 1 Try.underlying25 hi0 _ _ _ rfl HR1.out rfl ?_; rw [HW3.out])
    refine CC.out.mono ?_
    rintro e w4 ⟨a8, c8, a9, c9, d, hd, rfl, ho8, ho9, hb4⟩
    have hroom := Room.of HI.out.valid.objects HKE.out
    have hte := hroom.end_le (by omega) qs.length (Nat.le_refl _)
    obtain ⟨T, hT⟩ : ∃ T, toAt c.xs qs qs.length = T := ⟨_, rfl⟩
    rw [hT] at hte
    have hX : Below w3.heap.size w3 (w4.alloc (.cells #[.slice a8 c.xs.length c8, .int .i64 (T : Int)] 27)).drew := by have h9 := Below.next hb4 (Below.allocs (Below.refl w4.heap.size w4) : Below w4.heap.size w4 (w4.alloc (.cells #[.slice a8 c.xs.length c8, .int .i64 (T : Int)] 27))); exact h9.drew
    have hO8 : Own (w4.alloc (.cells #[.slice a8 c.xs.length c8, .int .i64 (T : Int)] 27)).drew w3.heap.size (.slice a8 c.xs.length c8) (built c.xs.length c.xs d qs qs.length) := ownsRow_kept ho8 (fun g hg => Below.heap_alloc _ _ _ (World.ownsRow.lt ho8 _ hg).2)
    have hO9 : OwnM (w4.alloc (.cells #[.slice a8 c.xs.length c8, .int .i64 (T : Int)] 27)).drew w3.heap.size (.slice a9 qs.length c9) (planOf c.xs qs qs.length) := ownsRow_kept ho9 (fun g hg => Below.heap_alloc _ _ _ (World.ownsRow.lt ho9 _ hg).2)
    have hmX := HM3.out.next hX
    have x0 := (HM3.out.next hb4).blk
    have x1 := x0.words
    have x2 := x0.top
    have x3 := x0.warm 0
    have x4 := x0.warm 1
    have x5 := x0.lt
    have hw3B : B ≤ w3.heap.size := Nat.le_trans hB MV3.out.size
    obtain ⟨ρ5, hm5, hmv5⟩ := HM3.out.newWords hw3B hX (hroom.built_length (by omega) (by omega) rfl d (Nat.le_refl _)) hO8 (T : Int)
    rw [puts_mem] at hm5 hmv5
    have hO9' : OwnM (((w4.alloc (.cells #[.slice a8 c.xs.length c8, .int .i64 (T : Int)] 27)).drew.setCell ⟨mb, 0, none⟩ (.slice a8 c.xs.length c8)).setCell ⟨mb, 1, none⟩ (.int .i64 (T : Int))) w3.heap.size (.slice a9 qs.length c9) (planOf c.xs qs qs.length) := ownsRow_kept hO9 (fun g hg => by have := (World.ownsRow.lt hO9 _ hg).1; exact (set_other _ _ _ _ _ (by omega)).trans (set_other _ _ _ _ _ (by omega)))
    obtain ⟨a9', c9', e9, hmv9⟩ := hO9'.shape
    injection e9 with e9 e10 e11
    clear e10 e11
    subst e9
    have hqq : ∀ q ∈ qs, 1 ≤ q ∧ q ≤ 400 := fun q hq => by have := hroom.fit hq; omega
    have hql : qs.length ≤ 400 := sorted_len HKE.out.sorted (fun q hq => by have := hroom.fit hq; omega)
    have hvis : VisOk ⟨built c.xs.length c.xs d qs qs.length, (T : Int), c.regs, c.tx, c.coll⟩ (mvN d) := by
      have h9 := HI.out.vis (f := mvN d) (fun p q hp hq => mvN_inj hd (HQS.out ▸ hp) (HQS.out ▸ hq))
      exact ⟨h9.recInj, h9.ownInj, h9.regs, h9.saved, h9.fields⟩
    generalize hYe : (((w4.alloc (.cells #[.slice a8 c.xs.length c8, .int .i64 (T : Int)] 27)).drew.setCell ⟨mb, 0, none⟩ (.slice a8 c.xs.length c8)).setCell ⟨mb, 1, none⟩ (.int .i64 (T : Int))) = Y at hm5 hmv5 hmv9
    have CF := Lib.hide (follow_any B mb k ρ5 _ _ c.xs qs d a9 qs.length c9 Y hm5 (Nat.le_trans hw3B hmv5.size) hk hmv9 rfl hql hqq HKE.out.sorted (fun j hj => by have := hroom.end_le (by omega) j (by omega); omega) hd hvis)
    have HD := Lib.hide hd
    have HT := Lib.hide hT
    have hYe2 : (((w4.setCell ⟨mb, 0, none⟩ (.slice a8 c.xs.length c8)).setCell ⟨mb, 1, none⟩ (.int .i64 (T : Int))).alloc (.cells #[.slice a8 c.xs.length c8, .int .i64 (T : Int)] 27)).drew = Y := by
      have e1 := puts_alloc [.slice a8 c.xs.length c8, .int .i64 (T : Int)] w4 mb 0 (.cells #[.slice a8 c.xs.length c8, .int .i64 (T : Int)] 27) x5
      have e2 := puts_drew [.slice a8 c.xs.length c8, .int .i64 (T : Int)] (w4.alloc (.cells #[.slice a8 c.xs.length c8, .int .i64 (T : Int)] 27)) mb 0
      rw [puts_mem, puts_mem] at e1 e2
      rw [← hYe, e2, e1]
    have HYE := Lib.hide hYe2
    have MV5 := Lib.hide (MV3.out.trans hmv5.w)
    have hfr : IntKind.i64.wrap (c.top - (T : Int)) = c.top - (T : Int) := IntWalk.i64_in _ (by omega)
    have HBD := Lib.hide (show B ≤ w1.heap.size from hw1B)
    rw [hT]
    clear hroom hX hO8 hO9 hO9' hmX x0 hm5 hmv5 hmv9 hd hT hYe hYe2 ho8 ho9 hb4 hqq hql hvis p0 p1 pl hte hw3B hw1B v1 v2 v3 hl4 hfi hrl j1 j2 z2 zl
    go_wp2
    go_region
    go_wp2_with fail
    rw [HYE.out]
    refine CF.out.mono ?_
    rintro e w6 ⟨tx', m6, ρ6, rfl, hft, htx, hm6, hmv6⟩
    have h7 := (hm6.regsExt (fun t r => mvV d (c.regs t r)) (fun t r ht hr => by dsimp only; unfold regsI; rw [if_pos ht, mvV_eq])).setColl false none 0 0 [] 0 0 rfl (World.ownsRow_nil _ _ _ _) (fun g hg => by cases hg)
    have q1 := hm6.blk.going
    have q2 := hm6.blk.ret
    have q3 := hm6.blk.left
    have q4 := hm6.blk.ctop
    have f1 := hm6.blk.warm 78
    have f2 := hm6.blk.warm 79
    have f3 := hm6.blk.warm 80
    have f4 := hm6.blk.warm 81
    have ql := hm6.blk.lt
    have hmv7 := MV5.out.trans (hmv6.trans (Moved.put hm6 78 [.bool false, .slice none 0 0, .int .i64 0, .int .i64 0]).w)
    rw [puts_four] at h7 hmv7
    have hmvt : ∀ t, MvTx d (c.tx t) (tx' t) := fun t => by
      rcases Nat.lt_or_ge t 4 with h4 | h4
      · exact (hft t h4).mv
      · rw [htx t h4]
        dsimp only
        rw [HI.out.high t h4]
        exact MvTx.zero d
    have HP := Lib.hide (show FinPost w B mb k ρ c l (.returned (.int .i64 (c.top - (T : Int)))) _ from ⟨c.top - (T : Int), _, _, ρ6, ⟨qs, d, tx', HQS.out, HD.out, hmvt, by rw [HT.out], by rw [HT.out]; rfl⟩, rfl, h7, hmv7⟩)
    clear hft htx hm6 hmv6 h7 hmv7 hmvt
    go_wp2
    go_ret
    exact HP.out
  · rw [nums_length] at e1
    injection e1 with e1 e3 e4
    subst e1 e4
    have hnl : ((nums l).drop fi).length = l.length - fi := by rw [List.length_drop, nums_length]
    have hcell : ∀ (o : Nat), (o = fi ∨ l.length = fi) → ∀ j u, (((nums l).map (Value.int .i64)).drop fi)[j]? = some u → w1.drew.cell? ((⟨g, o, none⟩ : Addr).add j) = some u := fun o ho j u hu => by
      have hj : j < l.length - fi := by
        rw [← hnl]
        rcases Nat.lt_or_ge j ((nums l).drop fi).length with h' | h'
        · exact h'
        · rw [List.getElem?_eq_none (by rw [List.length_drop, List.length_map, nums_length]; rw [hnl] at h'; exact h')] at hu; cases hu
      obtain rfl : o = fi := ho.resolve_right (by omega)
      have hc := World.ownsRow.cellAt (w := w1) (show w1.ownsRow w.heap.size 3 1 (.slice (some ⟨g, 0, none⟩) l.length cap1) l.length ((nums l).map (Value.int .i64)) by have h9 := HO1.out; unfold Own at h9; rwa [nums_length] at h9) (o + j) (by omega)
      have e5 : (⟨g, o, none⟩ : Addr).add j = ⟨g, o + j, none⟩ := by
        unfold Addr.add
        by_cases h0 : j = 0 <;> simp [h0]
      rw [e5]
      refine Eq.trans hc ?_
      rw [← hu, List.getElem?_drop]
    have hall : ∀ u ∈ ((nums l).map (Value.int .i64)).drop fi, u.oneCell' = true := fun u hu => by
      obtain ⟨z, _, rfl⟩ := List.mem_map.1 (List.mem_of_mem_drop hu)
      rfl
    have HCE := Lib.hide hcell
    have HAL := Lib.hide hall
    have HNL := Lib.hide (show (((nums l).map (Value.int .i64)).drop fi).length = (l.length - fi) * 1 by rw [List.length_drop, List.length_map, nums_length, Nat.mul_one])
    have HR1 := Lib.hide (show w1.drew.ownsRow B 3 1 (.slice m.ra c.coll.ret.length m.rcap) c.coll.ret.length (c.coll.ret.map (Value.int .i64)) from HRT.out)
    have hjoin : ∀ v7 w3, w3.ownsRow B 3 1 v7 (c.coll.ret.length + (l.length - fi)) (c.coll.ret.map (Value.int .i64) ++ ((nums l).map (Value.int .i64)).drop fi) → Own w3 B v7 (nums qs) := fun v7 w3 h9 => by
      unfold Own
      rw [← HDR.out, List.map_append, List.length_append, hnl, List.map_drop]
      exact h9
    have HJ := Lib.hide hjoin
    clear hcell hall hnl hjoin hg1 hg2 hg5 hg6
    by_cases hcf : cap1 = fi
    · rw [nums_length] at hg3
      obtain rfl : fi = l.length := by omega
      have hsub : l.length - l.length = 0 := by omega
      rw [hsub] at HNL HJ
      go_wp2
      go_still_tail 8, (by kernel_rfl)
      change wpList _ _ _ _ _ w1.drew
      go_wp2_with (at_builtin; refine wpList_append_at _ rfl (.tmp 34) (.tmp 37) 25 rfl B 3 i0 (.int .i64 0) 1 8 Try.underlying25 hi0 hz0 hz1 hz2 rfl (by decide) _ _ _ rfl HR1.out ⟨g, 0, none⟩ 0 0 (((nums l).map (Value.int .i64)).drop l.length) rfl HNL.out (HCE.out 0 (.inr (by simp))) HAL.out ?c3 ?c4 ?c5 ?_)
      case c3 => unfold maxLen; omega
      case c4 => omega
      case c5 => exact hw1B
      intro v7 w3 ho7 hg7 _ hold
      have hO7 := HJ.out v7 w3 ho7
      obtain ⟨⟨a7, c7, rfl⟩, hm3, hmv3⟩ := HEND.out v7 w3 hg7 hO7 hold
      have p0 := hm3.blk.words
      have p1 := hm3.blk.top
      have pl := hm3.blk.lt
      have CC := Lib.hide (compact_yes m.wa c.xs.length m.wcap c.xs c.top l qs a7 qs.length c7 w3 (hm3.isHeap HI.out) HI.out.valid hO7.reads.2 rfl HKE.out HCL.out)
      have HM3 := Lib.hide hm3
      have MV3 := Lib.hide hmv3
      clear ho7 hg7 hold hO7 hm3 hmv3
      go_wp2_with fail
      refine CC.out.mono ?_
      rintro e w4 ⟨a8, c8, a9, c9, d, hd, rfl, ho8, ho9, hb4⟩
      have hroom := Room.of HI.out.valid.objects HKE.out
      have hte := hroom.end_le (by omega) qs.length (Nat.le_refl _)
      obtain ⟨T, hT⟩ : ∃ T, toAt c.xs qs qs.length = T := ⟨_, rfl⟩
      rw [hT] at hte
      have hX : Below w3.heap.size w3 (w4.alloc (.cells #[.slice a8 c.xs.length c8, .int .i64 (T : Int)] 27)).drew := by have h9 := Below.next hb4 (Below.allocs (Below.refl w4.heap.size w4) : Below w4.heap.size w4 (w4.alloc (.cells #[.slice a8 c.xs.length c8, .int .i64 (T : Int)] 27))); exact h9.drew
      have hO8 : Own (w4.alloc (.cells #[.slice a8 c.xs.length c8, .int .i64 (T : Int)] 27)).drew w3.heap.size (.slice a8 c.xs.length c8) (built c.xs.length c.xs d qs qs.length) := ownsRow_kept ho8 (fun g hg => Below.heap_alloc _ _ _ (World.ownsRow.lt ho8 _ hg).2)
      have hO9 : OwnM (w4.alloc (.cells #[.slice a8 c.xs.length c8, .int .i64 (T : Int)] 27)).drew w3.heap.size (.slice a9 qs.length c9) (planOf c.xs qs qs.length) := ownsRow_kept ho9 (fun g hg => Below.heap_alloc _ _ _ (World.ownsRow.lt ho9 _ hg).2)
      have hmX := HM3.out.next hX
      have x0 := (HM3.out.next hb4).blk
      have x1 := x0.words
      have x2 := x0.top
      have x3 := x0.warm 0
      have x4 := x0.warm 1
      have x5 := x0.lt
      have hw3B : B ≤ w3.heap.size := Nat.le_trans hB MV3.out.size
      obtain ⟨ρ5, hm5, hmv5⟩ := HM3.out.newWords hw3B hX (hroom.built_length (by omega) (by omega) rfl d (Nat.le_refl _)) hO8 (T : Int)
      rw [puts_mem] at hm5 hmv5
      have hO9' : OwnM (((w4.alloc (.cells #[.slice a8 c.xs.length c8, .int .i64 (T : Int)] 27)).drew.setCell ⟨mb, 0, none⟩ (.slice a8 c.xs.length c8)).setCell ⟨mb, 1, none⟩ (.int .i64 (T : Int))) w3.heap.size (.slice a9 qs.length c9) (planOf c.xs qs qs.length) := ownsRow_kept hO9 (fun g hg => by have := (World.ownsRow.lt hO9 _ hg).1; exact (set_other _ _ _ _ _ (by omega)).trans (set_other _ _ _ _ _ (by omega)))
      obtain ⟨a9', c9', e9, hmv9⟩ := hO9'.shape
      injection e9 with e9 e10 e11
      clear e10 e11
      subst e9
      have hqq : ∀ q ∈ qs, 1 ≤ q ∧ q ≤ 400 := fun q hq => by have := hroom.fit hq; omega
      have hql : qs.length ≤ 400 := sorted_len HKE.out.sorted (fun q hq => by have := hroom.fit hq; omega)
      have hvis : VisOk ⟨built c.xs.length c.xs d qs qs.length, (T : Int), c.regs, c.tx, c.coll⟩ (mvN d) := by
        have h9 := HI.out.vis (f := mvN d) (fun p q hp hq => mvN_inj hd (HQS.out ▸ hp) (HQS.out ▸ hq))
        exact ⟨h9.recInj, h9.ownInj, h9.regs, h9.saved, h9.fields⟩
      generalize hYe : (((w4.alloc (.cells #[.slice a8 c.xs.length c8, .int .i64 (T : Int)] 27)).drew.setCell ⟨mb, 0, none⟩ (.slice a8 c.xs.length c8)).setCell ⟨mb, 1, none⟩ (.int .i64 (T : Int))) = Y at hm5 hmv5 hmv9
      have CF := Lib.hide (follow_any B mb k ρ5 _ _ c.xs qs d a9 qs.length c9 Y hm5 (Nat.le_trans hw3B hmv5.size) hk hmv9 rfl hql hqq HKE.out.sorted (fun j hj => by have := hroom.end_le (by omega) j (by omega); omega) hd hvis)
      have HD := Lib.hide hd
      have HT := Lib.hide hT
      have hYe2 : (((w4.setCell ⟨mb, 0, none⟩ (.slice a8 c.xs.length c8)).setCell ⟨mb, 1, none⟩ (.int .i64 (T : Int))).alloc (.cells #[.slice a8 c.xs.length c8, .int .i64 (T : Int)] 27)).drew = Y := by
        have e1 := puts_alloc [.slice a8 c.xs.length c8, .int .i64 (T : Int)] w4 mb 0 (.cells #[.slice a8 c.xs.length c8, .int .i64 (T : Int)] 27) x5
        have e2 := puts_drew [.slice a8 c.xs.length c8, .int .i64 (T : Int)] (w4.alloc (.cells #[.slice a8 c.xs.length c8, .int .i64 (T : Int)] 27)) mb 0
        rw [puts_mem, puts_mem] at e1 e2
        rw [← hYe, e2, e1]
      have HYE := Lib.hide hYe2
      have MV5 := Lib.hide (MV3.out.trans hmv5.w)
      have hfr : IntKind.i64.wrap (c.top - (T : Int)) = c.top - (T : Int) := IntWalk.i64_in _ (by omega)
      have HBD := Lib.hide (show B ≤ w1.heap.size from hw1B)
      rw [hT]
      clear hroom hX hO8 hO9 hO9' hmX x0 hm5 hmv5 hmv9 hd hT hYe hYe2 ho8 ho9 hb4 hqq hql hvis p0 p1 pl hte hw3B hw1B v1 v2 v3 hl4 hfi hrl j1 j2 z2 zl
      go_wp2
      go_region
      go_wp2_with fail
      rw [HYE.out]
      refine CF.out.mono ?_
      rintro e w6 ⟨tx', m6, ρ6, rfl, hft, htx, hm6, hmv6⟩
      have h7 := (hm6.regsExt (fun t r => mvV d (c.regs t r)) (fun t r ht hr => by dsimp only; unfold regsI; rw [if_pos ht, mvV_eq])).setColl false none 0 0 [] 0 0 rfl (World.ownsRow_nil _ _ _ _) (fun g hg => by cases hg)
      have q1 := hm6.blk.going
      have q2 := hm6.blk.ret
      have q3 := hm6.blk.left
      have q4 := hm6.blk.ctop
      have f1 := hm6.blk.warm 78
      have f2 := hm6.blk.warm 79
      have f3 := hm6.blk.warm 80
      have f4 := hm6.blk.warm 81
      have ql := hm6.blk.lt
      have hmv7 := MV5.out.trans (hmv6.trans (Moved.put hm6 78 [.bool false, .slice none 0 0, .int .i64 0, .int .i64 0]).w)
      rw [puts_four] at h7 hmv7
      have hmvt : ∀ t, MvTx d (c.tx t) (tx' t) := fun t => by
        rcases Nat.lt_or_ge t 4 with h4 | h4
        · exact (hft t h4).mv
        · rw [htx t h4]
          dsimp only
          rw [HI.out.high t h4]
          exact MvTx.zero d
      have HP := Lib.hide (show FinPost w B mb k ρ c l (.returned (.int .i64 (c.top - (T : Int)))) _ from ⟨c.top - (T : Int), _, _, ρ6, ⟨qs, d, tx', HQS.out, HD.out, hmvt, by rw [HT.out], by rw [HT.out]; rfl⟩, rfl, h7, hmv7⟩)
      clear hft htx hm6 hmv6 h7 hmv7 hmvt
      go_wp2
      go_ret
      exact HP.out
    · go_wp2
      go_still_tail 8, (by kernel_rfl)
      change wpList _ _ _ _ _ w1.drew
      go_wp2_with (at_builtin; refine wpList_append_at _ rfl (.tmp 34) (.tmp 37) 25 rfl B 3 i0 (.int .i64 0) 1 8 Try.underlying25 hi0 hz0 hz1 hz2 rfl (by decide) _ _ _ rfl HR1.out ⟨g, fi, none⟩ (l.length - fi) _ (((nums l).map (Value.int .i64)).drop fi) rfl HNL.out (HCE.out fi (.inl rfl)) HAL.out ?c3 ?c4 ?c5 ?_)
      case c3 => unfold maxLen; omega
      case c4 => omega
      case c5 => exact hw1B
      intro v7 w3 ho7 hg7 _ hold
      have hO7 := HJ.out v7 w3 ho7
      obtain ⟨⟨a7, c7, rfl⟩, hm3, hmv3⟩ := HEND.out v7 w3 hg7 hO7 hold
      have p0 := hm3.blk.words
      have p1 := hm3.blk.top
      have pl := hm3.blk.lt
      have CC := Lib.hide (compact_yes m.wa c.xs.length m.wcap c.xs c.top l qs a7 qs.length c7 w3 (hm3.isHeap HI.out) HI.out.valid hO7.reads.2 rfl HKE.out HCL.out)
      have HM3 := Lib.hide hm3
      have MV3 := Lib.hide hmv3
      clear ho7 hg7 hold hO7 hm3 hmv3
      go_wp2_with fail
      refine CC.out.mono ?_
      rintro e w4 ⟨a8, c8, a9, c9, d, hd, rfl, ho8, ho9, hb4⟩
      have hroom := Room.of HI.out.valid.objects HKE.out
      have hte := hroom.end_le (by omega) qs.length (Nat.le_refl _)
      obtain ⟨T, hT⟩ : ∃ T, toAt c.xs qs qs.length = T := ⟨_, rfl⟩
      rw [hT] at hte
      have hX : Below w3.heap.size w3 (w4.alloc (.cells #[.slice a8 c.xs.length c8, .int .i64 (T : Int)] 27)).drew := by have h9 := Below.next hb4 (Below.allocs (Below.refl w4.heap.size w4) : Below w4.heap.size w4 (w4.alloc (.cells #[.slice a8 c.xs.length c8, .int .i64 (T : Int)] 27))); exact h9.drew
      have hO8 : Own (w4.alloc (.cells #[.slice a8 c.xs.length c8, .int .i64 (T : Int)] 27)).drew w3.heap.size (.slice a8 c.xs.length c8) (built c.xs.length c.xs d qs qs.length) := ownsRow_kept ho8 (fun g hg => Below.heap_alloc _ _ _ (World.ownsRow.lt ho8 _ hg).2)
      have hO9 : OwnM (w4.alloc (.cells #[.slice a8 c.xs.length c8, .int .i64 (T : Int)] 27)).drew w3.heap.size (.slice a9 qs.length c9) (planOf c.xs qs qs.length) := ownsRow_kept ho9 (fun g hg => Below.heap_alloc _ _ _ (World.ownsRow.lt ho9 _ hg).2)
      have hmX := HM3.out.next hX
      have x0 := (HM3.out.next hb4).blk
      have x1 := x0.words
      have x2 := x0.top
      have x3 := x0.warm 0
      have x4 := x0.warm 1
      have x5 := x0.lt
      have hw3B : B ≤ w3.heap.size := Nat.le_trans hB MV3.out.size
      obtain ⟨ρ5, hm5, hmv5⟩ := HM3.out.newWords hw3B hX (hroom.built_length (by omega) (by omega) rfl d (Nat.le_refl _)) hO8 (T : Int)
      rw [puts_mem] at hm5 hmv5
      have hO9' : OwnM (((w4.alloc (.cells #[.slice a8 c.xs.length c8, .int .i64 (T : Int)] 27)).drew.setCell ⟨mb, 0, none⟩ (.slice a8 c.xs.length c8)).setCell ⟨mb, 1, none⟩ (.int .i64 (T : Int))) w3.heap.size (.slice a9 qs.length c9) (planOf c.xs qs qs.length) := ownsRow_kept hO9 (fun g hg => by have := (World.ownsRow.lt hO9 _ hg).1; exact (set_other _ _ _ _ _ (by omega)).trans (set_other _ _ _ _ _ (by omega)))
      obtain ⟨a9', c9', e9, hmv9⟩ := hO9'.shape
      injection e9 with e9 e10 e11
      clear e10 e11
      subst e9
      have hqq : ∀ q ∈ qs, 1 ≤ q ∧ q ≤ 400 := fun q hq => by have := hroom.fit hq; omega
      have hql : qs.length ≤ 400 := sorted_len HKE.out.sorted (fun q hq => by have := hroom.fit hq; omega)
      have hvis : VisOk ⟨built c.xs.length c.xs d qs qs.length, (T : Int), c.regs, c.tx, c.coll⟩ (mvN d) := by
        have h9 := HI.out.vis (f := mvN d) (fun p q hp hq => mvN_inj hd (HQS.out ▸ hp) (HQS.out ▸ hq))
        exact ⟨h9.recInj, h9.ownInj, h9.regs, h9.saved, h9.fields⟩
      generalize hYe : (((w4.alloc (.cells #[.slice a8 c.xs.length c8, .int .i64 (T : Int)] 27)).drew.setCell ⟨mb, 0, none⟩ (.slice a8 c.xs.length c8)).setCell ⟨mb, 1, none⟩ (.int .i64 (T : Int))) = Y at hm5 hmv5 hmv9
      have CF := Lib.hide (follow_any B mb k ρ5 _ _ c.xs qs d a9 qs.length c9 Y hm5 (Nat.le_trans hw3B hmv5.size) hk hmv9 rfl hql hqq HKE.out.sorted (fun j hj => by have := hroom.end_le (by omega) j (by omega); omega) hd hvis)
      have HD := Lib.hide hd
      have HT := Lib.hide hT
      have hYe2 : (((w4.setCell ⟨mb, 0, none⟩ (.slice a8 c.xs.length c8)).setCell ⟨mb, 1, none⟩ (.int .i64 (T : Int))).alloc (.cells #[.slice a8 c.xs.length c8, .int .i64 (T : Int)] 27)).drew = Y := by
        have e1 := puts_alloc [.slice a8 c.xs.length c8, .int .i64 (T : Int)] w4 mb 0 (.cells #[.slice a8 c.xs.length c8, .int .i64 (T : Int)] 27) x5
        have e2 := puts_drew [.slice a8 c.xs.length c8, .int .i64 (T : Int)] (w4.alloc (.cells #[.slice a8 c.xs.length c8, .int .i64 (T : Int)] 27)) mb 0
        rw [puts_mem, puts_mem] at e1 e2
        rw [← hYe, e2, e1]
      have HYE := Lib.hide hYe2
      have MV5 := Lib.hide (MV3.out.trans hmv5.w)
      have hfr : IntKind.i64.wrap (c.top - (T : Int)) = c.top - (T : Int) := IntWalk.i64_in _ (by omega)
      have HBD := Lib.hide (show B ≤ w1.heap.size from hw1B)
      rw [hT]
      clear hroom hX hO8 hO9 hO9' hmX x0 hm5 hmv5 hmv9 hd hT hYe hYe2 ho8 ho9 hb4 hqq hql hvis p0 p1 pl hte hw3B hw1B v1 v2 v3 hl4 hfi hrl j1 j2 z2 zl
      go_wp2
      go_region
      go_wp2_with fail
      rw [HYE.out]
      refine CF.out.mono ?_
      rintro e w6 ⟨tx', m6, ρ6, rfl, hft, htx, hm6, hmv6⟩
      have h7 := (hm6.regsExt (fun t r => mvV d (c.regs t r)) (fun t r ht hr => by dsimp only; unfold regsI; rw [if_pos ht, mvV_eq])).setColl false none 0 0 [] 0 0 rfl (World.ownsRow_nil _ _ _ _) (fun g hg => by cases hg)
      have q1 := hm6.blk.going
      have q2 := hm6.blk.ret
      have q3 := hm6.blk.left
      have q4 := hm6.blk.ctop
      have f1 := hm6.blk.warm 78
      have f2 := hm6.blk.warm 79
      have f3 := hm6.blk.warm 80
      have f4 := hm6.blk.warm 81
      have ql := hm6.blk.lt
      have hmv7 := MV5.out.trans (hmv6.trans (Moved.put hm6 78 [.bool false, .slice none 0 0, .int .i64 0, .int .i64 0]).w)
      rw [puts_four] at h7 hmv7
      have hmvt : ∀ t, MvTx d (c.tx t) (tx' t) := fun t => by
        rcases Nat.lt_or_ge t 4 with h4 | h4
        · exact (hft t h4).mv
        · rw [htx t h4]
          dsimp only
          rw [HI.out.high t h4]
          exact MvTx.zero d
      have HP := Lib.hide (show FinPost w B mb k ρ c l (.returned (.int .i64 (c.top - (T : Int)))) _ from ⟨c.top - (T : Int), _, _, ρ6, ⟨qs, d, tx', HQS.out, HD.out, hmvt, by rw [HT.out], by rw [HT.out]; rfl⟩, rfl, h7, hmv7⟩)
      clear hft htx hm6 hmv6 h7 hmv7 hmvt
      go_wp2
      go_ret
      exact HP.out
end Go.Proofs.Ytpdcaoagpjcgbab

