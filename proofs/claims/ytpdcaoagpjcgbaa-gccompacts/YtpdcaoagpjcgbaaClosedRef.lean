/-
  The walk of the reference's ClosedOf. It proves no statement by itself.
-/
import Derived.Test.YtpdcaoagpjcgbaaCompactWalks
import Derived.Test.YtpdcaoagpjcgbaaClosedModel
import Derived.Test.YtpdcaoagpjcgbaaLoadRef
import Derived.Test.YtpdcaoagpjcgbaaNewRef
import Derived.StillTailTactics
namespace Go.Proofs.Ytpdcaoagpjcgbaa
open Go.RowKit

set_option maxHeartbeats 800000 in
set_option maxRecDepth 100000 in
open Lw in
theorem closedOf_bad (a : Option Addr) (n cap : Nat) (xs : List Int) (top : Int) (a2 : Option Addr) (k cap2 : Nat) (w : World) (hh : IsHeap w a n cap xs top) (hv : ∀ l, ¬ Valid xs top l) :
    Calls Try.prog 36 #[.agg #[.slice a n cap, .int .i64 top], .slice a2 k cap2] w (CompactNo w 5) := by
  have H := Lib.hide hh
  have HV := Lib.hide hv
  have HB := Lib.hide (two_heaps w (.slice a n cap) (.int .i64 top) (.slice none 0 0) (.int .i64 0) 24)
  clear hh hv
  go_enter Try.func36, Try.ntmps36
  go_wp2_with (go_at_call 22; refine (placesOfRef_no a n cap xs top _ (H.out.below (by repeat (first | exact Below.refl _ _ | assumption | refine Below.drew ?_ | refine below_drewN ?_ _ | refine Below.allocs ?_ | refine Below.next ?_ (by assumption) | refine Below.setCell ?_ (by dsimp only; omega) _))) HV.out).mono ?_; rintro e w1 ⟨rfl, hb1⟩; obtain ⟨q0, q1, q2, q3, q4⟩ := HB.out.2.next hb1)
  exact bodyPost_ret (v := .tuple #[.agg #[.slice none 0 0, .int .i64 0], .slice none 0 0, .int .i64 5]) (by simp [results, Try.results36, go_sem, q0, q1]) rfl ⟨rfl, (by repeat (first | exact Below.refl _ _ | assumption | refine Below.drew ?_ | refine below_drewN ?_ _ | refine Below.allocs ?_ | refine Below.next ?_ (by assumption) | refine Below.setCell ?_ (by dsimp only; omega) _))⟩

/-- What ClosedOf keeps in memory behind the world w1: the words in block g, the new heap's box behind them, the list of moves. -/
structure RefSt (w1 wr : World) (n t : Nat) (ys : List Int) (v : Value) (ps : List (Nat × Nat)) : Prop where
  bm : Box2 wr (w1.heap.size + 1) (.slice (some ⟨w1.heap.size, 0, none⟩) n n) (.int .i64 t)
  own : Own wr w1.heap.size (.slice (some ⟨w1.heap.size, 0, none⟩) n n) ys
  mv : OwnM wr (w1.heap.size + 2) v ps
  below : Below w1.heap.size w1 wr

theorem RefSt.next {w1 wr w' : World} {n t : Nat} {ys : List Int} {v : Value} {ps : List (Nat × Nat)} (h : RefSt w1 wr n t ys v ps) (hb : Below wr.heap.size wr w') : RefSt w1 w' n t ys v ps :=
  ⟨h.bm.next hb, Own.below h.own hb, OwnM.below h.mv hb, Below.next h.below hb⟩

theorem RefSt.tops {w1 wr : World} {n t : Nat} {ys : List Int} {v : Value} {ps : List (Nat × Nat)} (h : RefSt w1 wr n t ys v ps) (t' : Nat) : RefSt w1 (wr.setCell ⟨w1.heap.size + 1, 1, none⟩ (.int .i64 t')) n t' ys v ps := by
  have hm : v.ownBlock ≠ some (w1.heap.size + 1) := fun e => by have := (World.ownsRow.lt h.mv _ e).1; omega
  refine ⟨?_, h.own.far (by simp [Value.ownBlock]) _, ownsRow_setCell_other h.mv hm _, h.below.setCell (by dsimp only; omega) _⟩
  obtain ⟨b0, b1, b2, b3, b4⟩ := h.bm
  constructor <;> go_simp

theorem RefSt.stored {w1 wr : World} {n t : Nat} {ys : List Int} {v : Value} {ps : List (Nat × Nat)} (h : RefSt w1 wr n t ys v ps) (i : Nat) (y : Int) : RefSt w1 (wr.setCell ⟨w1.heap.size, i, none⟩ (.int .i64 y)) n t (ys.set i y) v ps := by
  have hm : v.ownBlock ≠ some w1.heap.size := fun e => by have := (World.ownsRow.lt h.mv _ e).1; omega
  exact ⟨h.bm.far (by dsimp only; omega) _, h.own.stored i y, ownsRow_setCell_other h.mv hm _, h.below.setCell (by dsimp only; omega) _⟩

theorem RefSt.more {w1 wr w2 w3 : World} {n t : Nat} {ys : List Int} {v v' : Value} {ps : List (Nat × Nat)} {q : Nat × Nat} {o : Obj} (h : RefSt w1 wr n t ys v ps) (hb2 : Below wr.heap.size wr w2)
    (hown3 : w3.ownsRow (w1.heap.size + 2) 72 2 v' (ps.length + 1) (mcells ps ++ [.int .i64 (q.1 : Int), .int .i64 (q.2 : Int)])) (hg : (w2.alloc o).grownBy w3 v.ownBlock) : RefSt w1 w3 n t ys v' (ps ++ [q]) := by
  have h2 := (h.next hb2).next (w' := w2.alloc o) (by repeat (first | exact Below.refl _ _ | assumption | refine Below.drew ?_ | refine below_drewN ?_ _ | refine Below.allocs ?_ | refine Below.next ?_ (by assumption) | refine Below.setCell ?_ (by dsimp only; omega) _))
  have hmb : ∀ k, v.ownBlock = some k → w1.heap.size + 2 ≤ k := fun k hk => (World.ownsRow.lt h.mv _ hk).1
  refine ⟨h2.bm.kept (hg.block _ h2.bm.lt (fun e => by have := hmb _ e.symm; omega)) hg.size, ?_, ?_, h2.below.grown hg h2.below.size (fun k hk => by have := hmb k hk; omega)⟩
  · exact World.ownsRow.kept h2.own hg (.inr (fun e => by have := hmb w1.heap.size e.symm; omega))
  · unfold OwnM
    rw [mcells_snoc, List.length_append]
    exact hown3

/-- append to a list of the call's own, as one step of a region that draws its order. -/
theorem step_append_row {P : Program} {ops : Array Oper} {o : Oper} {a : Act} {w : World} {K : Act → World → Prop} {Q : Exit → Act → World → Prop} {E : Prop} (hgd : o.guard = none) (s x : Operand) (t : TypeId)
    (ho : o.op = .call { callee := .builtin .append, args := #[s, x], argTypes := #[t, t] })
    (base : Nat) (e : TypeId) (i : TypeInfo) (z : Value) (size bytes : Nat) (ht : P.underlying t = some (.slice e)) (hi : P.info? e = some i) (hz : i.zero = some z)
    (hsize : i.size = size) (hby : i.bytes = bytes) (hzs : z.cells.size = size) (hsz : 0 < size)
    (v : Value) (n : Nat) (xs : List Value) (hs : a.eval s = v) (hown : w.ownsRow base e size v n xs)
    (ad : Addr) (m c : Nat) (news : List Value) (hx : a.eval x = .slice (some ad) m c) (hl : news.length = m * size) (hnews : ∀ j u, news[j]? = some u → w.cell? (ad.add j) = some u) (h1 : ∀ u ∈ news, u.oneCell' = true)
    (h63 : n + m ≤ maxLen) (hbytes : (n + m) * bytes ≤ 140737488355328) (hbase : base ≤ w.heap.size)
    (h : ∀ v' w', w'.ownsRow base e size v' (n + m) (xs ++ news) → w.grownBy w' v.ownBlock → (v' = .slice none 0 0 ↔ v = .slice none 0 0 ∧ m = 0) → K (a.put o.dst v') w') :
    if Region.wanted o (yielded ops a.tmps) = true then Oper.wp P o a w K Q else E := by
  have hw : Region.wanted o (yielded ops a.tmps) = true := by simp [Region.wanted, hgd]
  rw [if_pos hw]
  exact wp_append_own w s x t ho base e i z size bytes ht hi hz hsize hby hzs hsz v n xs hs hown ad m c news hx hl hnews h1 h63 hbytes hbase h

theorem toAt_append {xs : List Int} {qs rs : List Nat} {j : Nat} (hj : j ≤ qs.length) : toAt xs (qs ++ rs) j = toAt xs qs j := by
  unfold toAt
  rw [List.take_append_of_le_length hj]
theorem planOf_append {xs : List Int} {qs rs : List Nat} {j : Nat} (hj : j ≤ qs.length) : planOf xs (qs ++ rs) j = planOf xs qs j := by
  unfold planOf
  refine List.map_congr_left fun i hi => ?_
  rw [List.mem_range] at hi
  rw [toAt_append (by omega)]
  simp [List.getD_eq_getElem?_getD, List.getElem?_append_left (show i < qs.length by omega)]
theorem planOf_snoc (xs : List Int) (qs : List Nat) (p : Nat) : planOf xs (qs ++ [p]) (qs.length + 1) = planOf xs qs qs.length ++ [(p, toAt xs qs qs.length)] := by
  rw [planOf_succ, planOf_append (Nat.le_refl _), toAt_append (Nat.le_refl _)]
  simp [List.getD_eq_getElem?_getD]
theorem toAt_snoc (xs : List Int) (qs : List Nat) (p : Nat) : toAt xs (qs ++ [p]) (qs.length + 1) = toAt xs qs qs.length + (2 + lenAt xs p) := by
  rw [toAt_succ (by simp), toAt_append (Nat.le_refl _)]
  simp [List.getD_eq_getElem?_getD]

theorem Kept.snoc {l qs : List Nat} (h : Kept l qs) {p : Nat} (hp : p ∈ l) (hlt : ∀ q ∈ qs, q < p) : Kept l (qs ++ [p]) := by
  refine ⟨fun q hq => ?_, ?_⟩
  · rcases List.mem_append.1 hq with hq | hq
    · exact h.sub q hq
    · simp at hq; subst hq; exact hp
  · rw [List.pairwise_append]
    exact ⟨h.sorted, by simp, fun q hq r hr => by simp at hr; subst hr; exact hlt q hq⟩

theorem OwnM.at {w : World} {base b o n c : Nat} {ps : List (Nat × Nat)} (h : OwnM w base (.slice (some ⟨b, o, none⟩) n c) ps) (h0 : 0 < ps.length) : b < w.heap.size ∧ ∀ i, i < ps.length → w.cell? ⟨b, o + i * 2, none⟩ = some (.int .i64 ((ps.getD i (0, 0)).1 : Int)) ∧ w.cell? ⟨b, o + i * 2 + 1, none⟩ = some (.int .i64 ((ps.getD i (0, 0)).2 : Int)) := by
  obtain ⟨a', c', h1, h2⟩ := h.shape
  have h3 := (Value.slice.inj h1).1
  subst h3
  obtain ⟨b', o', h4, h5, h6⟩ := h2.at h0
  injection h4 with h4
  injection h4 with h7 h8
  subst h7
  subst h8
  exact ⟨h5, h6⟩

theorem out_cell {w : World} {base g n c i : Nat} {ys : List Int} (h : Own w base (.slice (some ⟨g, 0, none⟩) n c) ys) (hi : i < n) : g < w.heap.size ∧ w.cell? ⟨g, i, none⟩ = some (.int .i64 (ys.getD i 0)) ∧ w.frozen? ⟨g, i, none⟩ = false := by
  obtain ⟨g', he, _, h2, h3, h4⟩ := h.row (by omega)
  injection he with he
  injection he with he
  subst he
  exact ⟨h2, h3 i hi, h4 i⟩

/-- What ClosedOf hands back for a valid heap. -/
def ClosedEnd (w : World) (n : Nat) (xs : List Int) (l : List Nat) (ks : List Int) (e : Ending) (w' : World) : Prop :=
  (¬ InOrder (nums l) ks ∧ CompactNo w 4 e w') ∨ ∃ qs, ks = nums qs ∧ Kept l qs ∧ ((Closed xs qs qs.length ∧ CompactYes w n xs qs e w') ∨ (¬ Closed xs qs qs.length ∧ CompactNo w 5 e w'))

set_option maxHeartbeats 8000000 in
set_option maxRecDepth 100000 in
open Lw in
theorem closedOf_any (a : Option Addr) (n cap : Nat) (xs : List Int) (top : Int) (l : List Nat) (a2 : Option Addr) (k cap2 : Nat) (ks : List Int) (w : World) (hh : IsHeap w a n cap xs top) (hv : Valid xs top l) (hi2 : Ints w a2 ks) (hk : ks.length = k) (hkm : k * 8 ≤ 140737488351232) :
    Calls Try.prog 36 #[.agg #[.slice a n cap, .int .i64 top], .slice a2 k cap2] w (ClosedEnd w n xs l ks) := by
  obtain ⟨iM, hiM, hM0, hM1, hM2⟩ := info_parts Try.moveInfo
  have hx := hh.len
  have v1 := hv.len1
  have v2 := hv.len2
  have v3 := hv.top1
  have v4 := hv.top2
  rw [hx] at v1 v2 v4
  have hl := Objects.laid hv.objects
  have ht1 : 1 ≤ top.toNat := by omega
  have ht : top.toNat ≤ n := by omega
  have hl4 : l.length ≤ 400 := by have := hl.short; omega
  have hmk := fun W => run_make_row' (P := Try.prog) 22 3 (.int .i64 0) 8 Try.underlying22 Try.intInfo rfl .i64 .i64 n (by omega) (by omega) W
  have HH := Lib.hide hh
  have HV := Lib.hide hv
  have HL := Lib.hide hl
  have HX := Lib.hide hx
  have HI2 := Lib.hide hi2
  have HK := Lib.hide hk
  have HB := Lib.hide (two_heaps w (.slice a n cap) (.int .i64 top) (.slice none 0 0) (.int .i64 0) 24)
  clear hh hv hl hx hi2 hk
  go_enter Try.func36, Try.ntmps36
  go_wp2_with (go_at_call 22; refine (placesOfRef_yes a n cap xs top l _ (HH.out.below (by repeat (first | exact Below.refl _ _ | assumption | refine Below.drew ?_ | refine below_drewN ?_ _ | refine Below.allocs ?_ | refine Below.next ?_ (by assumption) | refine Below.setCell ?_ (by dsimp only; omega) _))) HV.out).mono ?_; rintro e w1 ⟨a1, c1, rfl, ho1, hb1⟩; have HO1 := Lib.hide ho1; clear ho1; have HB1 := Lib.hide (HB.out.1.next hb1); have HR1 := Lib.hide (HB.out.2.next hb1); obtain ⟨q0, q1, q2, q3, q4⟩ := HB1.out)
  have hst : RefSt w1 ((w1.alloc (.cells (madeCells #[.int .i64 0] n) 3)).alloc (.cells #[.slice (some ⟨w1.heap.size, 0, none⟩) n n, .int .i64 1] 24)) n (toAt xs [] 0) (List.replicate n 0) (.slice none 0 0) (planOf xs [] 0) := by
    refine ⟨?_, ?_, World.ownsRow_nil _ _ _ _, (by repeat (first | exact Below.refl _ _ | assumption | refine Below.drew ?_ | refine below_drewN ?_ _ | refine Below.allocs ?_ | refine Below.next ?_ (by assumption) | refine Below.setCell ?_ (by dsimp only; omega) _))⟩
    · have := Box2.new (w1.alloc (.cells (madeCells #[.int .i64 0] n) 3)) (.slice (some ⟨w1.heap.size, 0, none⟩) n n) (.int .i64 1) 24
      rwa [show (w1.alloc (.cells (madeCells #[.int .i64 0] n) 3)).heap.size = w1.heap.size + 1 by simp] at this
    · exact own_made (Nat.le_refl _) (by unfold maxLen; omega) ((Below.heap_alloc _ _ _ (by simp)).trans (heap_alloc_new _ _))
  have HST := Lib.hide hst
  have HBW1 := Lib.hide (show Below w.heap.size w w1 from (by repeat (first | exact Below.refl _ _ | assumption | refine Below.drew ?_ | refine below_drewN ?_ _ | refine Below.allocs ?_ | refine Below.next ?_ (by assumption) | refine Below.setCell ?_ (by dsimp only; omega) _)))
  clear hst q0 q1 q2 q3 hmk
  go_loopg [10, 11] k (fun q v u wr => ∃ (i : Nat) (qs : List Nat), i ≤ k ∧ q = k - i ∧ u = .int .i64 i ∧ qs.length = i ∧ ks.take i = nums qs ∧ Kept l qs ∧ RefSt w1 wr n (toAt xs qs i) (List.replicate n 0) v (planOf xs qs i))
  case atStart => exact ⟨0, [], Nat.zero_le _, rfl, rfl, rfl, rfl, ⟨fun q hq => (by cases hq), List.Pairwise.nil⟩, HST.out⟩
  case round =>
    clear HST
    obtain ⟨i, qs, hi, rfl, rfl, hql, htk, hkp, hst⟩ := hrel
    have HQL := Lib.hide hql
    have HTK := Lib.hide htk
    have HKP := Lib.hide hkp
    have HST := Lib.hide hst
    have HBX := Lib.hide (HB1.out.next hst.below)
    have HRX := Lib.hide (HR1.out.next hst.below)
    have hbwr := Below.next HBW1.out hst.below
    have HBWR := Lib.hide hbwr
    have hi4 : i ≤ 400 := by have := kept_length hkp HL.out; omega
    have HRO := Lib.hide (Room.of HV.out.objects hkp)
    have htj := HRO.out.end_le ht1 i (by omega)
    clear hql htk hkp hst hbwr
    by_cases hlt : i < k
    · obtain ⟨b2, o2, rfl, hb2w, hc2⟩ := HI2.out.at (by rw [HK.out]; omega)
      have hb2 : b2 < wr.heap.size := Nat.lt_of_lt_of_le hb2w HBWR.out.size
      have ew := hc2 i (by rw [HK.out]; exact hlt)
      have e1 := (HBWR.out.cell (p := ⟨b2, o2 + i, none⟩) hb2w).trans ew
      obtain ⟨x0, x1, x2, x3, x4⟩ := HBX.out
      obtain ⟨r0, r1, r2, r3, r4⟩ := HRX.out
      obtain ⟨y, hy⟩ : ∃ y, ks.getD i 0 = y := ⟨_, rfl⟩
      rw [hy] at e1 ew
      have HY := Lib.hide hy
      have HC2 := Lib.hide hc2
      have EW := Lib.hide ew
      clear hy hc2 ew
      by_cases hym : y ∈ nums l
      · have CH := Lib.hide (fun w' (h : Below wr.heap.size wr w') => has_any a1 l.length c1 (nums l) y w' ((HO1.out.reads.2.below HST.out.below).below h) (nums_length l) (by omega) true (decide_eq_true hym))
        obtain ⟨p, rfl, _⟩ := place_bounds hym HL.out
        have hpl := mem_nums.1 hym
        have HPL := Lib.hide hpl
        clear hym
        rcases Nat.eq_zero_or_pos i with hi0 | hi0
        · have hlast : ∀ q ∈ qs, q < p := fun q hq => by
            rw [List.eq_nil_of_length_eq_zero (HQL.out.trans hi0)] at hq
            cases hq
          have HLA := Lib.hide hlast
          have i2 : decide ((0 : Int) < (i : Int)) = false := decide_eq_false (by omega)
          have i3 : decide (0 < i) = false := decide_eq_false (by omega)
          clear hlast hpl hi0
          go_wp2
          go_quiet ((go_at_call 42; exact quiet_left (CH.out _ (by repeat (first | exact Below.refl _ _ | assumption | refine Below.drew ?_ | refine below_drewN ?_ _ | refine Below.allocs ?_ | refine Below.next ?_ (by assumption) | refine Below.setCell ?_ (by dsimp only; omega) _)))))
          have hbW : Below wr.heap.size wr (wr.drewN nq) := (by repeat (first | exact Below.refl _ _ | assumption | refine Below.drew ?_ | refine below_drewN ?_ _ | refine Below.allocs ?_ | refine Below.next ?_ (by assumption) | refine Below.setCell ?_ (by dsimp only; omega) _))
          have HSW := Lib.hide (HST.out.next hbW)
          have HBXW := Lib.hide (HBX.out.next hbW)
          have eW : (wr.drewN nq).cell? ⟨b2, o2 + i, none⟩ = some (.int .i64 p) := (hbW.cell (p := ⟨b2, o2 + i, none⟩) hb2).trans e1
          have hbl : b2 < (wr.drewN nq).heap.size := Nat.lt_of_lt_of_le hb2 hbW.size
          have HBWW := Lib.hide (Below.next HBWR.out hbW)
          clear hbW e1 x0 x1 x2 x3 r0 r1 r2 r3
          generalize wr.drewN nq = W at HSW HBXW eW hbl HBWW ⊢
          obtain ⟨y0, y1, y2, y3, y4⟩ := HBXW.out
          obtain ⟨z0, z1, z2, z3, z4⟩ := HSW.out.bm
          have hfit := HL.out.fit p HPL.out
          obtain ⟨hp1, fit1, fit2, fit3, fit4⟩ := hfit
          obtain ⟨f, hf⟩ := Int.eq_ofNat_of_zero_le fit2
          have hlf : lenAt xs p = f := by unfold lenAt; rw [hf]; rfl
          rw [hf] at fit3 fit4
          rw [Int.toNat_natCast] at fit4
          obtain ⟨b, o, he, hb, hc⟩ := (HH.out.ints.below HBWW.out).at (by rw [HX.out]; omega)
          subst he
          have e3 := hc (p + 1) (by rw [HX.out]; omega)
          rw [hf] at e3
          have hkp' := HKP.out.snoc HPL.out HLA.out
          have htk' : ks.take (i + 1) = nums (qs ++ [p]) := by
            rw [nums_append, ← HTK.out, List.take_succ_eq_append_getElem (by rw [HK.out]; exact hlt)]
            have e : ks.getD i 0 = ks[i]'(by rw [HK.out]; exact hlt) := by simp [List.getD_eq_getElem?_getD, List.getElem?_eq_getElem (show i < ks.length by rw [HK.out]; exact hlt)]
            rw [← e, HY.out]
            rfl
          have hps := planOf_snoc xs qs p
          have hts := toAt_snoc xs qs p
          rw [HQL.out] at hps hts
          rw [hlf] at hts
          obtain ⟨ti, hti⟩ : ∃ ti, toAt xs qs i = ti := ⟨_, rfl⟩
          rw [hti] at hps hts htj z1
          have HKP' := Lib.hide hkp'
          have HTK' := Lib.hide htk'
          have HPS := Lib.hide hps
          have HTS := Lib.hide hts
          have hpl2 : (planOf xs qs i).length = i := planOf_length _ _ _
          have HPL2 := Lib.hide hpl2
          have hWs := HSW.out.below.size
          have hbmW := HSW.out.bm.lt
          have hpi : (0 : Int) ≤ (i : Int) := by omega
          have hpk : (i : Int) < (k : Int) := by omega
          have HTI := Lib.hide hti
          have HFF := Lib.hide hf
          clear fit2 hf hlf hc hkp' htk' hps hts hti hpl2
          have HSWd := Lib.hide (HSW.out.next (w' := W.drew) (by repeat (first | exact Below.refl _ _ | assumption | refine Below.drew ?_ | refine below_drewN ?_ _ | refine Below.allocs ?_ | refine Below.next ?_ (by assumption) | refine Below.setCell ?_ (by dsimp only; omega) _)))
          go_wp2_with fail
          go_region_held3 (fun w' => w'.cell? ⟨b2, o2 + i, none⟩ = some (.int .i64 p) ∧ w'.cell? ⟨w1.heap.size + 1, 1, none⟩ = some (.int .i64 ti))
            (first | exact ⟨eW, z1⟩ | exact ⟨k0, k1⟩ | go_keep)
            (first | (refine step_append_row (by rfl) (.tmp 64) (.tmp 72) 51 (by rfl) (w1.heap.size + 2) 72 iM (.agg #[.int .i64 0, .int .i64 0]) 2 16 Try.underlying51 hiM hM0 hM1 hM2 rfl (by decide) u10 (planOf xs qs i).length _ (by rfl) (World.ownsRow.alloc (w := W.drew) HSWd.out.mv _) ⟨W.heap.size, 0, none⟩ 1 1 [.int .i64 p, .int .i64 ti] (by rfl) (by rfl) (cells_two_new W.drew _ _ _) (fun u hu => by simp at hu; rcases hu with rfl | rfl <;> rfl) (by rw [HPL2.out]; unfold maxLen; omega) (by rw [HPL2.out]; omega) (by simp; omega) ?_; intro v' w3 hown3 hg3 _; have hs3 := HSW.out.more (q := (p, ti)) (w2 := W.drew) (by repeat (first | exact Below.refl _ _ | assumption | refine Below.drew ?_ | refine below_drewN ?_ _ | refine Below.allocs ?_ | refine Below.next ?_ (by assumption) | refine Below.setCell ?_ (by dsimp only; omega) _)) hown3 hg3; have HS3 := Lib.hide hs3; have hb3W : Below w1.heap.size w1 w3 := hs3.below; have k1 := (show RefSt w1 w3 n ti _ _ _ from by rw [← HTI.out]; exact hs3).bm.c1; have k0 : w3.cell? ⟨b2, o2 + i, none⟩ = some (.int .i64 p) := (Below.cell (p := ⟨b2, o2 + i, none⟩) (Below.next HBW1.out hb3W) hb2w).trans EW.out; clear hown3 hg3 hs3))
          have hs3' : RefSt w1 w3 n ti (List.replicate n 0) v' (planOf xs qs i ++ [(p, ti)]) := by have h := HS3.out; rw [HTI.out] at h; exact h
          have HS3' := Lib.hide hs3'
          obtain ⟨n0, n1, n2, n3, n4⟩ := hs3'.bm
          obtain ⟨m0, m1, m2, m3, m4⟩ := HB1.out.next hs3'.below
          have hbw3 := Below.next HBW1.out hs3'.below
          obtain ⟨b', o', he', hb3', hc3⟩ := (HH.out.ints.below hbw3).at (by rw [HX.out]; omega)
          have e5 : w3.cell? ⟨b, o + (p + 1), none⟩ = some (.int .i64 f) := by
            injection he' with he'
            injection he' with h1 h2
            subst h1
            subst h2
            rw [hc3 (p + 1) (by rw [HX.out]; omega), HFF.out]
          have hb5 : b < w3.heap.size := by
            injection he' with he'
            injection he' with h1 h2
            subst h1
            exact hb3'
          have hb6 : b2 < w3.heap.size := Nat.lt_of_lt_of_le hb2w hbw3.size
          clear hs3' hbw3 he' hb3' hc3 e3 z0 z1 z2 z3 y0 y1 y2 y3 eW
          have hpn1 : p + 1 < n := by omega
          have j1 : IntKind.i64.wrap ((p : Int) + 1) = (p : Int) + 1 := IntWalk.i64_in _ (by omega)
          have j2 : (0 : Int) ≤ (p : Int) + 1 := by omega
          have j3 : (p : Int) + 1 < (n : Int) := by omega
          have j4 : ((p : Int) + 1).toNat = p + 1 := by omega
          have j5 : IntKind.i64.wrap ((ti : Int) + 2) = (ti : Int) + 2 := IntWalk.i64_in _ (by omega)
          have j6 : IntKind.i64.wrap ((ti : Int) + 2 + (f : Int)) = (ti : Int) + 2 + (f : Int) := IntWalk.i64_in _ (by omega)
          go_wp2_with fail
          go_still_tail 14, (by kernel_rfl)
          change wpList _ _ _ _ _ w3.drew
          clear j1 j2 j3 j4 j5 j6
          go_wp2
          go_roundg (k - (i + 1))
          case measure => omega
          case rel =>
            refine ⟨i + 1, qs ++ [p], by omega, rfl, by go_num, by rw [List.length_append, HQL.out]; rfl, HTK'.out, HKP'.out, ?_⟩
            rw [HTS.out, HPS.out, show ((ti : Int) + 2 + (f : Int)) = ((ti + (2 + f) : Nat) : Int) by omega]
            exact (HS3'.out.next (w' := w3.drew) (by repeat (first | exact Below.refl _ _ | assumption | refine Below.drew ?_ | refine below_drewN ?_ _ | refine Below.allocs ?_ | refine Below.next ?_ (by assumption) | refine Below.setCell ?_ (by dsimp only; omega) _))).tops (ti + (2 + f))
        · have e2 := (HBWR.out.cell (p := ⟨b2, o2 + (i - 1), none⟩) hb2w).trans (HC2.out (i - 1) (by rw [HK.out]; omega))
          have hlq : qs.getD (i - 1) 0 ∈ qs := getD_mem (by rw [HQL.out]; omega)
          have hle : ∀ q ∈ qs, q ≤ qs.getD (i - 1) 0 := fun q hq => by
            obtain ⟨z, hz, rfl⟩ := List.mem_iff_getElem.1 hq
            have ez : qs.getD z 0 = qs[z] := by simp [List.getD_eq_getElem?_getD, List.getElem?_eq_getElem hz]
            rw [← ez]
            rcases Nat.lt_or_ge z (i - 1) with h | h
            · have := sorted_at (nums_sorted HKP.out.sorted) (i := z) (j := i - 1) h (by rw [nums_length, HQL.out]; omega)
              rw [nums_getD, nums_getD] at this
              omega
            · obtain rfl : z = i - 1 := by rw [HQL.out] at hz; omega
              exact Nat.le_refl _
          have hpv : ks.getD (i - 1) 0 = ((qs.getD (i - 1) 0 : Nat) : Int) := by
            have h1 : (ks.take i).getD (i - 1) 0 = ks.getD (i - 1) 0 := by simp [List.getD_eq_getElem?_getD, List.getElem?_take, show i - 1 < i by omega]
            rw [← h1, HTK.out, nums_getD]
          rw [hpv] at e2
          obtain ⟨pv, hpv'⟩ : ∃ pv, qs.getD (i - 1) 0 = pv := ⟨_, rfl⟩
          rw [hpv'] at e2 hle hpv hlq
          have hpv4 : pv ≤ 400 := by have := (HL.out.fit pv (HKP.out.sub pv hlq)).2.1; omega
          have HPV := Lib.hide hpv
          have HLE := Lib.hide hle
          clear hpl hlq hle hpv hpv'
          have i1 : IntKind.i64.wrap ((i : Int) - 1) = (i : Int) - 1 := IntWalk.i64_in _ (by omega)
          have i2 : decide ((0 : Int) < (i : Int)) = true := decide_eq_true (by omega)
          have i3 : decide (0 < i) = true := decide_eq_true (by omega)
          have i4 : (0 : Int) ≤ (i : Int) - 1 := by omega
          have i5 : (i : Int) - 1 < (k : Int) := by omega
          have i6 : ((i : Int) - 1).toNat = i - 1 := by omega
          by_cases hpp : p ≤ pv
          · have hd : decide ((p : Int) ≤ (pv : Int)) = true := decide_eq_true (by omega)
            have hd2 : decide (p ≤ pv) = true := decide_eq_true hpp
            have hno : ¬ InOrder (nums l) ks := fun h => by
              have := (h i (by rw [HK.out]; exact hlt)).2 hi0
              rw [HY.out, HPV.out] at this
              omega
            have HNO := Lib.hide hno
            have hbwr := HBWR.out
            clear hno hpp
            go_wp2
            go_quiet ((go_at_call 42; exact quiet_left (CH.out _ (by repeat (first | exact Below.refl _ _ | assumption | refine Below.drew ?_ | refine below_drewN ?_ _ | refine Below.allocs ?_ | refine Below.next ?_ (by assumption) | refine Below.setCell ?_ (by dsimp only; omega) _)))))
            clear i1 i4 i5 i6
            go_wp2
            exact bodyPost_ret (v := .tuple #[.agg #[.slice none 0 0, .int .i64 0], .slice none 0 0, .int .i64 4]) (by simp only [results, Try.results36]; go_simp) rfl (.inl ⟨HNO.out, rfl, (by repeat (first | exact Below.refl _ _ | assumption | refine Below.drew ?_ | refine below_drewN ?_ _ | refine Below.allocs ?_ | refine Below.next ?_ (by assumption) | refine Below.setCell ?_ (by dsimp only; omega) _))⟩)
          · have hd : decide ((p : Int) ≤ (pv : Int)) = false := decide_eq_false (by omega)
            have hd2 : decide (p ≤ pv) = false := decide_eq_false hpp
            have hlast : ∀ q ∈ qs, q < p := fun q hq => by have := HLE.out q hq; omega
            have HLA := Lib.hide hlast
            clear hlast hpp
            go_wp2
            go_quiet ((go_at_call 42; exact quiet_left (CH.out _ (by repeat (first | exact Below.refl _ _ | assumption | refine Below.drew ?_ | refine below_drewN ?_ _ | refine Below.allocs ?_ | refine Below.next ?_ (by assumption) | refine Below.setCell ?_ (by dsimp only; omega) _)))))
            clear i1 i2 i3 i4 i5 i6 hd hd2 e2
            have hbW : Below wr.heap.size wr (wr.drewN nq) := (by repeat (first | exact Below.refl _ _ | assumption | refine Below.drew ?_ | refine below_drewN ?_ _ | refine Below.allocs ?_ | refine Below.next ?_ (by assumption) | refine Below.setCell ?_ (by dsimp only; omega) _))
            have HSW := Lib.hide (HST.out.next hbW)
            have HBXW := Lib.hide (HBX.out.next hbW)
            have eW : (wr.drewN nq).cell? ⟨b2, o2 + i, none⟩ = some (.int .i64 p) := (hbW.cell (p := ⟨b2, o2 + i, none⟩) hb2).trans e1
            have hbl : b2 < (wr.drewN nq).heap.size := Nat.lt_of_lt_of_le hb2 hbW.size
            have HBWW := Lib.hide (Below.next HBWR.out hbW)
            clear hbW e1 x0 x1 x2 x3 r0 r1 r2 r3
            generalize wr.drewN nq = W at HSW HBXW eW hbl HBWW ⊢
            obtain ⟨y0, y1, y2, y3, y4⟩ := HBXW.out
            obtain ⟨z0, z1, z2, z3, z4⟩ := HSW.out.bm
            have hfit := HL.out.fit p HPL.out
            obtain ⟨hp1, fit1, fit2, fit3, fit4⟩ := hfit
            obtain ⟨f, hf⟩ := Int.eq_ofNat_of_zero_le fit2
            have hlf : lenAt xs p = f := by unfold lenAt; rw [hf]; rfl
            rw [hf] at fit3 fit4
            rw [Int.toNat_natCast] at fit4
            obtain ⟨b, o, he, hb, hc⟩ := (HH.out.ints.below HBWW.out).at (by rw [HX.out]; omega)
            subst he
            have e3 := hc (p + 1) (by rw [HX.out]; omega)
            rw [hf] at e3
            have hkp' := HKP.out.snoc HPL.out HLA.out
            have htk' : ks.take (i + 1) = nums (qs ++ [p]) := by
              rw [nums_append, ← HTK.out, List.take_succ_eq_append_getElem (by rw [HK.out]; exact hlt)]
              have e : ks.getD i 0 = ks[i]'(by rw [HK.out]; exact hlt) := by simp [List.getD_eq_getElem?_getD, List.getElem?_eq_getElem (show i < ks.length by rw [HK.out]; exact hlt)]
              rw [← e, HY.out]
              rfl
            have hps := planOf_snoc xs qs p
            have hts := toAt_snoc xs qs p
            rw [HQL.out] at hps hts
            rw [hlf] at hts
            obtain ⟨ti, hti⟩ : ∃ ti, toAt xs qs i = ti := ⟨_, rfl⟩
            rw [hti] at hps hts htj z1
            have HKP' := Lib.hide hkp'
            have HTK' := Lib.hide htk'
            have HPS := Lib.hide hps
            have HTS := Lib.hide hts
            have hpl2 : (planOf xs qs i).length = i := planOf_length _ _ _
            have HPL2 := Lib.hide hpl2
            have hWs := HSW.out.below.size
            have hbmW := HSW.out.bm.lt
            have hpi : (0 : Int) ≤ (i : Int) := by omega
            have hpk : (i : Int) < (k : Int) := by omega
            have HTI := Lib.hide hti
            have HFF := Lib.hide hf
            clear fit2 hf hlf hc hkp' htk' hps hts hti hpl2
            have HSWd := Lib.hide (HSW.out.next (w' := W.drew) (by repeat (first | exact Below.refl _ _ | assumption | refine Below.drew ?_ | refine below_drewN ?_ _ | refine Below.allocs ?_ | refine Below.next ?_ (by assumption) | refine Below.setCell ?_ (by dsimp only; omega) _)))
            go_wp2_with fail
            go_region_held3 (fun w' => w'.cell? ⟨b2, o2 + i, none⟩ = some (.int .i64 p) ∧ w'.cell? ⟨w1.heap.size + 1, 1, none⟩ = some (.int .i64 ti))
              (first | exact ⟨eW, z1⟩ | exact ⟨k0, k1⟩ | go_keep)
              (first | (refine step_append_row (by rfl) (.tmp 64) (.tmp 72) 51 (by rfl) (w1.heap.size + 2) 72 iM (.agg #[.int .i64 0, .int .i64 0]) 2 16 Try.underlying51 hiM hM0 hM1 hM2 rfl (by decide) u10 (planOf xs qs i).length _ (by rfl) (World.ownsRow.alloc (w := W.drew) HSWd.out.mv _) ⟨W.heap.size, 0, none⟩ 1 1 [.int .i64 p, .int .i64 ti] (by rfl) (by rfl) (cells_two_new W.drew _ _ _) (fun u hu => by simp at hu; rcases hu with rfl | rfl <;> rfl) (by rw [HPL2.out]; unfold maxLen; omega) (by rw [HPL2.out]; omega) (by simp; omega) ?_; intro v' w3 hown3 hg3 _; have hs3 := HSW.out.more (q := (p, ti)) (w2 := W.drew) (by repeat (first | exact Below.refl _ _ | assumption | refine Below.drew ?_ | refine below_drewN ?_ _ | refine Below.allocs ?_ | refine Below.next ?_ (by assumption) | refine Below.setCell ?_ (by dsimp only; omega) _)) hown3 hg3; have HS3 := Lib.hide hs3; have hb3W : Below w1.heap.size w1 w3 := hs3.below; have k1 := (show RefSt w1 w3 n ti _ _ _ from by rw [← HTI.out]; exact hs3).bm.c1; have k0 : w3.cell? ⟨b2, o2 + i, none⟩ = some (.int .i64 p) := (Below.cell (p := ⟨b2, o2 + i, none⟩) (Below.next HBW1.out hb3W) hb2w).trans EW.out; clear hown3 hg3 hs3))
            have hs3' : RefSt w1 w3 n ti (List.replicate n 0) v' (planOf xs qs i ++ [(p, ti)]) := by have h := HS3.out; rw [HTI.out] at h; exact h
            have HS3' := Lib.hide hs3'
            obtain ⟨n0, n1, n2, n3, n4⟩ := hs3'.bm
            obtain ⟨m0, m1, m2, m3, m4⟩ := HB1.out.next hs3'.below
            have hbw3 := Below.next HBW1.out hs3'.below
            obtain ⟨b', o', he', hb3', hc3⟩ := (HH.out.ints.below hbw3).at (by rw [HX.out]; omega)
            have e5 : w3.cell? ⟨b, o + (p + 1), none⟩ = some (.int .i64 f) := by
              injection he' with he'
              injection he' with h1 h2
              subst h1
              subst h2
              rw [hc3 (p + 1) (by rw [HX.out]; omega), HFF.out]
            have hb5 : b < w3.heap.size := by
              injection he' with he'
              injection he' with h1 h2
              subst h1
              exact hb3'
            have hb6 : b2 < w3.heap.size := Nat.lt_of_lt_of_le hb2w hbw3.size
            clear hs3' hbw3 he' hb3' hc3 e3 z0 z1 z2 z3 y0 y1 y2 y3 eW
            have hpn1 : p + 1 < n := by omega
            have j1 : IntKind.i64.wrap ((p : Int) + 1) = (p : Int) + 1 := IntWalk.i64_in _ (by omega)
            have j2 : (0 : Int) ≤ (p : Int) + 1 := by omega
            have j3 : (p : Int) + 1 < (n : Int) := by omega
            have j4 : ((p : Int) + 1).toNat = p + 1 := by omega
            have j5 : IntKind.i64.wrap ((ti : Int) + 2) = (ti : Int) + 2 := IntWalk.i64_in _ (by omega)
            have j6 : IntKind.i64.wrap ((ti : Int) + 2 + (f : Int)) = (ti : Int) + 2 + (f : Int) := IntWalk.i64_in _ (by omega)
            go_wp2_with fail
            go_still_tail 14, (by kernel_rfl)
            change wpList _ _ _ _ _ w3.drew
            clear j1 j2 j3 j4 j5 j6
            go_wp2
            go_roundg (k - (i + 1))
            case measure => omega
            case rel =>
              refine ⟨i + 1, qs ++ [p], by omega, rfl, by go_num, by rw [List.length_append, HQL.out]; rfl, HTK'.out, HKP'.out, ?_⟩
              rw [HTS.out, HPS.out, show ((ti : Int) + 2 + (f : Int)) = ((ti + (2 + f) : Nat) : Int) by omega]
              exact (HS3'.out.next (w' := w3.drew) (by repeat (first | exact Below.refl _ _ | assumption | refine Below.drew ?_ | refine below_drewN ?_ _ | refine Below.allocs ?_ | refine Below.next ?_ (by assumption) | refine Below.setCell ?_ (by dsimp only; omega) _))).tops (ti + (2 + f))
      · have CH := Lib.hide (fun w' (h : Below wr.heap.size wr w') => has_any a1 l.length c1 (nums l) y w' ((HO1.out.reads.2.below HST.out.below).below h) (nums_length l) (by omega) false (decide_eq_false hym))
        have hno : ¬ InOrder (nums l) ks := fun h => by
          have := (h i (by rw [HK.out]; exact hlt)).1
          rw [HY.out] at this
          exact hym this
        have HNO := Lib.hide hno
        have hbwr := HBWR.out
        clear hym hno
        go_wp2
        go_quiet ((go_at_call 42; exact quiet_left (CH.out _ (by repeat (first | exact Below.refl _ _ | assumption | refine Below.drew ?_ | refine below_drewN ?_ _ | refine Below.allocs ?_ | refine Below.next ?_ (by assumption) | refine Below.setCell ?_ (by dsimp only; omega) _)))))
        go_wp2
        exact bodyPost_ret (v := .tuple #[.agg #[.slice none 0 0, .int .i64 0], .slice none 0 0, .int .i64 4]) (by simp only [results, Try.results36]; go_simp) rfl (.inl ⟨HNO.out, rfl, (by repeat (first | exact Below.refl _ _ | assumption | refine Below.drew ?_ | refine below_drewN ?_ _ | refine Below.allocs ?_ | refine Below.next ?_ (by assumption) | refine Below.setCell ?_ (by dsimp only; omega) _))⟩)
    · obtain rfl : k = i := by omega
      have hkq : ks = nums qs := by rw [← HTK.out, List.take_of_length_le (by rw [HK.out]; exact Nat.le_refl _)]
      have HKQ := Lib.hide hkq
      obtain ⟨m, hde⟩ := Dest.exists (xs := xs) HKP.out.sorted (fun q hq => by have := (HRO.out.fit hq).1; omega) qs.length (Nat.le_refl _)
      have HDE := Lib.hide hde
      obtain ⟨aM, cM, hvM, hMv⟩ := HST.out.mv.shape
      rw [planOf_length] at hvM
      subst hvM
      obtain ⟨T, hT⟩ : ∃ T, toAt xs qs k = T := ⟨_, rfl⟩
      have hb0 : RefSt w1 wr n T (built n xs m qs 0) (.slice aM k cM) (planOf xs qs k) := by rw [built_zero _ _ _ _ v1, ← hT]; exact HST.out
      have HB0 := Lib.hide hb0
      have HTT := Lib.hide hT
      clear hkq hi hde hMv hb0 hT HST HBX HRX HBWR HTK
      go_wp2
      go_loopg [12] k (fun q u wq => ∃ j : Nat, j ≤ k ∧ q = k - j ∧ u = .int .i64 j ∧ RefSt w1 wq n T (built n xs m qs j) (.slice aM k cM) (planOf xs qs k) ∧ Closed xs qs j)
      case atStart => exact ⟨0, Nat.zero_le _, rfl, rfl, HB0.out, fun i hi => absurd hi (Nat.not_lt_zero _)⟩
      case round =>
        clear HB0
        obtain ⟨j, hj, rfl, rfl, hst, hcl⟩ := hrel
        have HST := Lib.hide hst
        have HCL := Lib.hide hcl
        obtain ⟨x0, x1, x2, x3, x4⟩ := HB1.out.next hst.below
        obtain ⟨z0, z1, z2, z3, z4⟩ := hst.bm
        have hbw := Below.next HBW1.out hst.below
        have HBW := Lib.hide hbw
        clear hst hcl hbw
        by_cases hlt2 : j < k
        · have hjq : j < qs.length := by rw [HQL.out]; exact hlt2
          obtain ⟨aM', _, hsh, hMv⟩ := HST.out.mv.shape
          have hsh1 : aM = aM' := (Value.slice.inj hsh).1
          clear hsh
          subst hsh1
          obtain ⟨bM, oM, rfl, hbM, hcM⟩ := hMv.at (by rw [planOf_length]; omega)
          have e0 := (hcM j (by rw [planOf_length]; exact hlt2)).1
          have e1 := (hcM j (by rw [planOf_length]; exact hlt2)).2
          rw [planOf_getD hlt2] at e0 e1
          dsimp only at e0 e1
          clear hcM
          have hfit := HRO.out.fit (getD_mem (qs := qs) hjq)
          have hen := HRO.out.end_le ht1 (j + 1) (by omega)
          have hts := toAt_succ (xs := xs) hjq
          have hfl := HRO.out.front_length (by rw [HX.out]; exact ht) m j (by omega)
          have hfe := fill_end (n := n) HRO.out ht1 (by rw [HX.out]; exact ht) m hjq
          have hpq := HRO.out.kept.sub _ (getD_mem hjq)
          obtain ⟨p, hp⟩ : ∃ p, qs.getD j 0 = p := ⟨_, rfl⟩
          obtain ⟨tj, htj⟩ : ∃ tj, toAt xs qs j = tj := ⟨_, rfl⟩
          rw [hp] at e0 hfit hts hfe hpq
          rw [htj] at e1 hts hfl hfe
          rw [hts] at hen
          obtain ⟨f1, f2, f3, f4⟩ := hfit
          obtain ⟨f, hf⟩ : ∃ f, lenAt xs p = f := ⟨_, rfl⟩
          rw [hf] at f2 f3 f4 hen hfe
          have hsl := HST.out.own.reads.1
          obtain ⟨g', he, hg1, hg2, hgc, hgf⟩ := HST.out.own.row (by omega)
          injection he with he
          injection he with he
          subst he
          have u0 := hgc tj (by omega)
          have u1 := hgf tj
          obtain ⟨b, o, he2, hb0, hc⟩ := HH.out.ints.at (by rw [HX.out]; omega)
          subst he2
          have hb : b < wr.heap.size := Nat.lt_of_lt_of_le hb0 HBW.out.size
          have u2 := (HBW.out.cell (p := ⟨b, o + p, none⟩) hb0).trans (hc p (by rw [HX.out]; omega))
          have hfs := fill_start (n := n) (xs := xs) (m := m) (qs := qs) (j := j) (p := p) (f := f) (t := tj) hfl (by omega)
          obtain ⟨s0, hs0⟩ : ∃ s0, xs.getD p 0 = s0 := ⟨_, rfl⟩
          rw [hs0] at u2 hfs
          rw [f4] at hfs
          have HFS := Lib.hide hfs
          have HFE := Lib.hide hfe
          have HF4 := Lib.hide f4
          have HFL := Lib.hide hfl
          have HP := Lib.hide hp
          have HPQ := Lib.hide hpq
          have HHC := Lib.hide hc
          have hpn : p + 2 + f ≤ n := by omega
          have htn : tj + 2 + f ≤ n := by omega
          have hgne : ¬ w1.heap.size = w.heap.size := by have := HB1.out.lt; omega
          have i1 : (0 : Int) ≤ (p : Int) := by omega
          have i2 : (p : Int) < (n : Int) := by omega
          have i3 : (0 : Int) ≤ (tj : Int) := by omega
          have i4 : (tj : Int) < (n : Int) := by omega
          generalize (built n xs m qs j).getD tj 0 = q9 at u0
          clear hf hp htj hfl hfe hpq hfs hs0 f4 hc hts hgc hgf hsl
          go_wp2
          go_still_tail 9, (by kernel_rfl)
          change wpList _ _ _ _ _ wr.drew
          go_wp2
          have hsa := (HST.out.stored tj s0).next (w' := (wr.setCell ⟨w1.heap.size, tj, none⟩ (.int .i64 s0)).drew) (by repeat (first | exact Below.refl _ _ | assumption | refine Below.drew ?_ | refine below_drewN ?_ _ | refine Below.allocs ?_ | refine Below.next ?_ (by assumption) | refine Below.setCell ?_ (by dsimp only; omega) _))
          have HSA := Lib.hide hsa
          clear x0 x1 x2 x3 x4 z0 z1 z2 z3 z4 u0 u1 u2 i1 i2 i3 i4 e0 e1 hg1 hg2 hb hsa HST HBW hbM
          generalize (wr.setCell ⟨w1.heap.size, tj, none⟩ (.int .i64 s0)).drew = W at HSA ⊢
          obtain ⟨x0, x1, x2, x3, x4⟩ := HB1.out.next HSA.out.below
          obtain ⟨z0, z1, z2, z3, z4⟩ := HSA.out.bm
          have hbw := Below.next HBW1.out HSA.out.below
          have hb : b < W.heap.size := Nat.lt_of_lt_of_le hb0 hbw.size
          have u2 := (hbw.cell (p := ⟨b, o + (p + 1), none⟩) hb0).trans (HHC.out (p + 1) (by rw [HX.out]; omega))
          rw [HF4.out] at u2
          obtain ⟨g', he, hg1, hg2, hgc, hgf⟩ := HSA.out.own.row (by omega)
          injection he with he
          injection he with he
          subst he
          have u0 := hgc (tj + 1) (by omega)
          have u1 := hgf (tj + 1)
          generalize ((built n xs m qs j).set tj s0).getD (tj + 1) 0 = q8 at u0
          have j1 : IntKind.i64.wrap ((p : Int) + 1) = (p : Int) + 1 := IntWalk.i64_in _ (by omega)
          have j2 : (0 : Int) ≤ (p : Int) + 1 := by omega
          have j3 : (p : Int) + 1 < (n : Int) := by omega
          have j4 : ((p : Int) + 1).toNat = p + 1 := by omega
          have j5 : IntKind.i64.wrap ((tj : Int) + 1) = (tj : Int) + 1 := IntWalk.i64_in _ (by omega)
          have j6 : (0 : Int) ≤ (tj : Int) + 1 := by omega
          have j7 : (tj : Int) + 1 < (n : Int) := by omega
          have j8 : ((tj : Int) + 1).toNat = tj + 1 := by omega
          clear hgc hgf hbw
          go_wp2_with fail
          go_still_tail 11, (by kernel_rfl)
          change wpList _ _ _ _ _ W.drew
          clear j1 j2 j3 j4 j5 j6 j7 j8
          go_wp2
          have hsb := (HSA.out.stored (tj + 1) (f : Int)).next (w' := (W.setCell ⟨w1.heap.size, tj + 1, none⟩ (.int .i64 f)).drew) (by repeat (first | exact Below.refl _ _ | assumption | refine Below.drew ?_ | refine below_drewN ?_ _ | refine Below.allocs ?_ | refine Below.next ?_ (by assumption) | refine Below.setCell ?_ (by dsimp only; omega) _))
          rw [HFS.out] at hsb
          have HSB := Lib.hide hsb
          clear hsb
          go_loopg [15] f (fun g9 u wq => ∃ q : Nat, q ≤ f ∧ g9 = f - q ∧ u = .int .i64 q ∧ RefSt w1 wq n T (fill n xs m qs j p f tj q) (.slice (some ⟨bM, oM, none⟩) k cM) (planOf xs qs k) ∧ ∀ z, z < q → xs.getD (p + 2 + z) 0 % 2 = 1 → xs.getD (p + 2 + z) 0 / 2 ≠ 0 → xs.getD (p + 2 + z) 0 / 2 ∈ nums qs)
          case atStart => exact ⟨0, Nat.zero_le _, rfl, rfl, HSB.out, fun z hz => absurd hz (Nat.not_lt_zero _)⟩
          case round =>
            clear HSB HSA x0 x1 x2 x3 x4 z0 z1 z2 z3 z4 u0 u1 u2 hg1 hg2 hb
            obtain ⟨q, hq, rfl, rfl, hst, hdone⟩ := hrel
            have HST := Lib.hide hst
            have HDO := Lib.hide hdone
            obtain ⟨x0, x1, x2, x3, x4⟩ := HB1.out.next hst.below
            obtain ⟨y0, y1, y2, y3, y4⟩ := HR1.out.next hst.below
            obtain ⟨z0, z1, z2, z3, z4⟩ := hst.bm
            have hbw := Below.next HBW1.out hst.below
            have HBW := Lib.hide hbw
            have hb : b < wr.heap.size := Nat.lt_of_lt_of_le hb0 hbw.size
            have u2 := (hbw.cell (p := ⟨b, o + (p + 1), none⟩) hb0).trans (HHC.out (p + 1) (by rw [HX.out]; omega))
            rw [HF4.out] at u2
            clear hst hdone hbw
            by_cases hqf : q < f
            · have u3 := (HBW.out.cell (p := ⟨b, o + (p + 2 + q), none⟩) hb0).trans (HHC.out (p + 2 + q) (by rw [HX.out]; omega))
              have hyf : Fits (xs.getD (p + 2 + q) 0) := HH.out.fits _ (mem_at.2 ⟨_, by rw [HX.out]; omega, rfl⟩)
              have hfst := fun (z : Int) (hz : redir m (xs.getD (p + 2 + q) 0) = z) => fill_step (n := n) HFL.out (by rw [HX.out]; omega) htn hqf hz
              obtain ⟨y, hy⟩ : ∃ y, xs.getD (p + 2 + q) 0 = y := ⟨_, rfl⟩
              rw [hy] at u3 hyf hfst
              have HY := Lib.hide hy
              have HFST := Lib.hide hfst
              have hhf : HasField xs l p q := ⟨mem_nums.2 HPQ.out, by omega, by rw [Int.toNat_natCast, HF4.out]; omega⟩
              have CL := Lib.hide (fun w' (h : Below wr.heap.size wr w') => loadOf_yes (some ⟨b, o, none⟩) n cap xs top p q l w' (HH.out.below (Below.next HBW.out h)) HV.out hhf y (by rw [Int.toNat_natCast, Int.toNat_natCast]; exact HY.out))
              clear hy hfst hhf hyf
              have U3 := Lib.hide u3
              clear u3 y0 y1 y2 y3 z0 z1 z2 z3
              by_cases hpar : y % 2 = 1
              · have hd : (y % 2 == 1) = true := by simpa using hpar
                have HPAR := Lib.hide hpar
                clear hpar
                by_cases hy0 : y / 2 = 0
                · have hd2 : (y / 2 != 0) = false := by simpa using hy0
                  have hred : redir m y = y := by
                    unfold redir
                    rw [if_pos HPAR.out, hy0, HDE.out.zero]
                    have := HPAR.out
                    show 2 * (0 : Int) + 1 = y
                    omega
                  have HFS2 := Lib.hide (HFST.out _ hred)
                  have HY0 := Lib.hide hy0
                  clear hred hy0
                  go_wp2_with (go_at_call 28; refine (CL.out _ (Below.refl _ _)).mono ?_; rintro e w5 ⟨rfl, hb5⟩; have HS5 := Lib.hide (HST.out.next hb5); obtain ⟨l0, l1, l2, l3, l4⟩ := HB1.out.next HS5.out.below; obtain ⟨m0, m1, m2, m3, m4⟩ := HR1.out.next HS5.out.below; obtain ⟨n0, n1, n2, n3, n4⟩ := HS5.out.bm; have hb5w := Below.next HBW.out hb5; have k1 := (hb5.cell (p := ⟨b, o + (p + 2 + q), none⟩) hb).trans U3.out; have k2 : b < w5.heap.size := Nat.lt_of_lt_of_le hb0 hb5w.size; obtain ⟨k3, k4, k5⟩ := out_cell HS5.out.own (i := tj + 2 + q) (by omega); generalize (fill n xs m qs j p f tj q).getD (tj + 2 + q) 0 = q7 at k4; clear hb5w)
                  go_roundg (f - (q + 1))
                  case measure => omega
                  case rel =>
                    refine ⟨q + 1, by omega, rfl, by go_num, ?_, fun z hz h1 h2 => ?_⟩
                    · rw [← HFS2.out]
                      first
                        | exact (HS5.out.next (w' := w5.alloc (.cells #[.int .i64 (y % 2), .int .i64 (y / 2)] 40)) (by repeat (first | exact Below.refl _ _ | assumption | refine Below.drew ?_ | refine below_drewN ?_ _ | refine Below.allocs ?_ | refine Below.next ?_ (by assumption) | refine Below.setCell ?_ (by dsimp only; omega) _))).stored (tj + 2 + q) _
                        | exact (HS5.out.stored (tj + 2 + q) _).next (by repeat (first | exact Below.refl _ _ | assumption | refine Below.drew ?_ | refine below_drewN ?_ _ | refine Below.allocs ?_ | refine Below.next ?_ (by assumption) | refine Below.setCell ?_ (by dsimp only; omega) _))
                    · rcases Nat.lt_or_ge z q with h | h
                      · exact HDO.out z h h1 h2
                      · obtain rfl : z = q := by omega
                        rw [HY.out] at h1 h2 ⊢
                        exact absurd HY0.out h2
                · have hd2 : (y / 2 != 0) = true := by simpa using hy0
                  have HY0 := Lib.hide hy0
                  clear hy0
                  go_wp2_with (go_at_call 28; refine (CL.out _ (Below.refl _ _)).mono ?_; rintro e w5 ⟨rfl, hb5⟩; have HS5 := Lib.hide (HST.out.next hb5); obtain ⟨l0, l1, l2, l3, l4⟩ := HB1.out.next HS5.out.below; obtain ⟨m0, m1, m2, m3, m4⟩ := HR1.out.next HS5.out.below; obtain ⟨n0, n1, n2, n3, n4⟩ := HS5.out.bm; have hb5w := Below.next HBW.out hb5; have k1 := (hb5.cell (p := ⟨b, o + (p + 2 + q), none⟩) hb).trans U3.out; have k2 : b < w5.heap.size := Nat.lt_of_lt_of_le hb0 hb5w.size; obtain ⟨k3, k4, k5⟩ := out_cell HS5.out.own (i := tj + 2 + q) (by omega); generalize (fill n xs m qs j p f tj q).getD (tj + 2 + q) 0 = q7 at k4; clear hb5w)
                  have HSW := Lib.hide (HS5.out.next (w' := w5.alloc (.cells #[.int .i64 (y % 2), .int .i64 (y / 2)] 40)) (by repeat (first | exact Below.refl _ _ | assumption | refine Below.drew ?_ | refine below_drewN ?_ _ | refine Below.allocs ?_ | refine Below.next ?_ (by assumption) | refine Below.setCell ?_ (by dsimp only; omega) _)))
                  have HVB := Lib.hide (Box2.new w5 (.int .i64 (y % 2)) (.int .i64 (y / 2)) 40)
                  clear l0 l1 l2 l3 m0 m1 m2 m3 n0 n1 n2 n3 k1 k3 k4 k5 x0 x1 x2 x3
                  generalize w5.alloc (.cells #[.int .i64 (y % 2), .int .i64 (y / 2)] 40) = W at HSW HVB ⊢
                  go_loopg [18, 19] k (fun g9 v u wq => ∃ (z : Nat) (wv : Int), z ≤ k ∧ g9 = k - z ∧ u = .int .i64 z ∧ v = .int .i64 wv ∧ Found xs qs (y / 2) z wv ∧ Below W.heap.size W wq)
                  case atStart => exact ⟨0, 0, Nat.zero_le _, rfl, rfl, rfl, .inl ⟨fun i hi => absurd hi (Nat.not_lt_zero _), rfl⟩, Below.refl _ _⟩
                  case round =>
                    obtain ⟨z, wv, hz, rfl, rfl, rfl, hfo, hbq⟩ := hrel
                    have HFO := Lib.hide hfo
                    have HBQ := Lib.hide hbq
                    obtain ⟨r0, r1, r2, r3, r4⟩ := HVB.out.next hbq
                    clear hfo
                    by_cases hzk : z < k
                    · obtain ⟨hbM, hcM⟩ := (OwnM.below HSW.out.mv HBQ.out).at (by rw [planOf_length]; omega)
                      have t0 := (hcM z (by rw [planOf_length]; exact hzk)).1
                      have t1 := (hcM z (by rw [planOf_length]; exact hzk)).2
                      rw [planOf_getD hzk] at t0 t1
                      dsimp only at t0 t1
                      have hbd := HRO.out.end_le ht1 z (by rw [HQL.out]; omega)
                      obtain ⟨pz, hpz⟩ : ∃ pz, qs.getD z 0 = pz := ⟨_, rfl⟩
                      obtain ⟨tz, htz⟩ : ∃ tz, toAt xs qs z = tz := ⟨_, rfl⟩
                      rw [hpz] at t0
                      rw [htz] at t1 hbd
                      have HPZ := Lib.hide hpz
                      have HTZ := Lib.hide htz
                      clear hcM hpz htz
                      by_cases heq : (pz : Int) = y / 2
                      · have hd3 : ((pz : Int) == y / 2) = true := by simpa using heq
                        have HEQ := Lib.hide heq
                        clear heq
                        go_wp2
                        go_quiet (fail)
                        go_wp2
                        go_roundg (k - (z + 1))
                        case measure => omega
                        case rel => exact ⟨z + 1, 2 * (tz : Int) + 1, by omega, rfl, by go_num, rfl, .inr ⟨z, by omega, by rw [HPZ.out]; exact HEQ.out, by rw [HTZ.out]⟩, (by repeat (first | exact Below.refl _ _ | assumption | refine Below.drew ?_ | refine below_drewN ?_ _ | refine Below.allocs ?_ | refine Below.next ?_ (by assumption) | refine Below.setCell ?_ (by dsimp only; omega) _))⟩
                      · have hd3 : ((pz : Int) == y / 2) = false := by simpa using heq
                        have HEQ := Lib.hide heq
                        clear heq
                        go_wp2
                        go_quiet (fail)
                        go_wp2
                        go_roundg (k - (z + 1))
                        case measure => omega
                        case rel =>
                          refine ⟨z + 1, wv, by omega, rfl, by go_num, rfl, ?_, (by repeat (first | exact Below.refl _ _ | assumption | refine Below.drew ?_ | refine below_drewN ?_ _ | refine Below.allocs ?_ | refine Below.next ?_ (by assumption) | refine Below.setCell ?_ (by dsimp only; omega) _))⟩
                          rcases HFO.out with ⟨h1, h2⟩ | ⟨i, hi, h1, h2⟩
                          · refine .inl ⟨fun i hi => ?_, h2⟩
                            rcases Nat.lt_or_ge i z with h | h
                            · exact h1 i h
                            · obtain rfl : i = z := by omega
                              rw [HPZ.out]; exact HEQ.out
                          · exact .inr ⟨i, by omega, h1, h2⟩
                    · obtain rfl : k = z := by omega
                      have hfo2 : Found xs qs (y / 2) qs.length wv := by rw [HQL.out]; exact HFO.out
                      have HSQ := Lib.hide (HSW.out.next hbq)
                      by_cases hw0 : wv = 0
                      · have hd4 : (wv == 0) = true := by simpa using hw0
                        have hnc : ¬ Closed xs qs qs.length := fun h => hfo2.none hw0 (h j hjq (y / 2) (by
                          rw [HP.out]
                          exact ⟨q, by rw [HF4.out]; omega, by rw [HY.out]; exact HPAR.out, by rw [HY.out], HY0.out⟩))
                        have HNC := Lib.hide hnc
                        have hbf := Below.next HBW1.out HSQ.out.below
                        obtain ⟨m0, m1, m2, m3, m4⟩ := HR1.out.next HSQ.out.below
                        clear hw0 hfo2 hnc
                        go_wp2
                        exact bodyPost_ret (v := .tuple #[.agg #[.slice none 0 0, .int .i64 0], .slice none 0 0, .int .i64 5]) (by simp only [results, Try.results36]; go_simp) rfl (.inr ⟨qs, HKQ.out, HKP.out, .inr ⟨HNC.out, rfl, (by repeat (first | exact Below.refl _ _ | assumption | refine Below.drew ?_ | refine below_drewN ?_ _ | refine Below.allocs ?_ | refine Below.next ?_ (by assumption) | refine Below.setCell ?_ (by dsimp only; omega) _))⟩⟩)
                      · have hd4 : (wv == 0) = false := by simpa using hw0
                        have hred := hfo2.some HDE.out HPAR.out hw0
                        have HFS2 := Lib.hide (HFST.out _ hred)
                        have hmem : y / 2 ∈ nums qs := Classical.byContradiction fun hn => hw0 (by
                          rcases hfo2 with ⟨_, h⟩ | ⟨i, hi, h1, _⟩
                          · exact h
                          · exact absurd (by rw [← h1]; exact mem_nums.2 (getD_mem hi)) hn)
                        have HME := Lib.hide hmem
                        obtain ⟨n0, n1, n2, n3, n4⟩ := HSQ.out.bm
                        obtain ⟨k3, k4, k5⟩ := out_cell HSQ.out.own (i := tj + 2 + q) (by omega)
                        generalize (fill n xs m qs j p f tj q).getD (tj + 2 + q) 0 = q7 at k4
                        clear hw0 hfo2 hred hmem
                        go_wp2
                        go_roundg (f - (q + 1))
                        case measure => omega
                        case rel =>
                          refine ⟨q + 1, by omega, rfl, by go_num, by rw [← HFS2.out]; exact HSQ.out.stored (tj + 2 + q) _, fun z hz h1 h2 => ?_⟩
                          rcases Nat.lt_or_ge z q with h | h
                          · exact HDO.out z h h1 h2
                          · obtain rfl : z = q := by omega
                            rw [HY.out]
                            exact HME.out
              · have hd : (y % 2 == 1) = false := by simpa using hpar
                have hred : redir m y = y := by unfold redir; rw [if_neg hpar]
                have HFS2 := Lib.hide (HFST.out _ hred)
                have HPAR := Lib.hide hpar
                clear hred hpar
                go_wp2_with (go_at_call 28; refine (CL.out _ (Below.refl _ _)).mono ?_; rintro e w5 ⟨rfl, hb5⟩; have HS5 := Lib.hide (HST.out.next hb5); obtain ⟨l0, l1, l2, l3, l4⟩ := HB1.out.next HS5.out.below; obtain ⟨m0, m1, m2, m3, m4⟩ := HR1.out.next HS5.out.below; obtain ⟨n0, n1, n2, n3, n4⟩ := HS5.out.bm; have hb5w := Below.next HBW.out hb5; have k1 := (hb5.cell (p := ⟨b, o + (p + 2 + q), none⟩) hb).trans U3.out; have k2 : b < w5.heap.size := Nat.lt_of_lt_of_le hb0 hb5w.size; obtain ⟨k3, k4, k5⟩ := out_cell HS5.out.own (i := tj + 2 + q) (by omega); generalize (fill n xs m qs j p f tj q).getD (tj + 2 + q) 0 = q7 at k4; clear hb5w)
                go_roundg (f - (q + 1))
                case measure => omega
                case rel =>
                  refine ⟨q + 1, by omega, rfl, by go_num, ?_, fun z hz h1 h2 => ?_⟩
                  · rw [← HFS2.out]
                    first
                      | exact (HS5.out.next (w' := w5.alloc (.cells #[.int .i64 (y % 2), .int .i64 (y / 2)] 40)) (by repeat (first | exact Below.refl _ _ | assumption | refine Below.drew ?_ | refine below_drewN ?_ _ | refine Below.allocs ?_ | refine Below.next ?_ (by assumption) | refine Below.setCell ?_ (by dsimp only; omega) _))).stored (tj + 2 + q) _
                      | exact (HS5.out.stored (tj + 2 + q) _).next (by repeat (first | exact Below.refl _ _ | assumption | refine Below.drew ?_ | refine below_drewN ?_ _ | refine Below.allocs ?_ | refine Below.next ?_ (by assumption) | refine Below.setCell ?_ (by dsimp only; omega) _))
                  · rcases Nat.lt_or_ge z q with h | h
                    · exact HDO.out z h h1 h2
                    · obtain rfl : z = q := by omega
                      rw [HY.out] at h1 h2 ⊢
                      exact absurd h1 HPAR.out
            · obtain rfl : q = f := by omega
              go_wp2
              go_roundg (k - (j + 1))
              case measure => omega
              case rel =>
                refine ⟨j + 1, by omega, rfl, by go_num, by rw [← HFE.out]; exact HST.out, fun i hi r hr => ?_⟩
                rcases Nat.lt_or_ge i j with h | h
                · exact HCL.out i h r hr
                · obtain rfl : i = j := by omega
                  rw [HP.out] at hr
                  obtain ⟨z, hz, h1, h2, h3⟩ := hr
                  rw [HF4.out] at hz
                  rw [← h2] at h3 ⊢
                  exact HDO.out z (by omega) h1 h3
        · obtain rfl : k = j := by omega
          obtain ⟨y0, y1, y2, y3, y4⟩ := HR1.out.next HST.out.below
          have hlt1 := HR1.out.lt
          have hfin : ClosedEnd w n xs l ks (.returned (.tuple #[.agg #[.slice (some ⟨w1.heap.size, 0, none⟩) n n, .int .i64 T], .slice aM k cM, .int .i64 0])) ((wr.setCell ⟨w.heap.size + 1, 0, none⟩ (.slice (some ⟨w1.heap.size, 0, none⟩) n n)).setCell ⟨w.heap.size + 1, 1, none⟩ (.int .i64 T)) := by
            have n3 : (Value.slice aM k cM).ownBlock ≠ some (w.heap.size + 1) := fun e => by have := (World.ownsRow.lt HST.out.mv _ e).1; omega
            have n5 : (Value.slice (some ⟨w1.heap.size, 0, none⟩) n n).ownBlock ≠ some (w.heap.size + 1) := by simp [Value.ownBlock]; omega
            refine .inr ⟨qs, HKQ.out, HKP.out, .inl ⟨by rw [HQL.out]; exact HCL.out, some ⟨w1.heap.size, 0, none⟩, n, aM, cM, m, HDE.out, by rw [HQL.out, HTT.out], ?_, ?_, ?_⟩⟩
            · rw [HQL.out]
              exact ownsRow_base ((HST.out.own.far n5 _).far n5 _) HBW1.out.size
            · rw [HQL.out]
              exact ownsRow_base (ownsRow_setCell_other (ownsRow_setCell_other HST.out.mv n3 _) n3 _) (by have := HBW1.out.size; omega)
            · exact (HBW.out.setCell (by dsimp only; omega) _).setCell (by dsimp only; omega) _
          have HFIN := Lib.hide hfin
          clear hfin
          go_wp2
          exact bodyPost_ret (v := .tuple #[.agg #[.slice (some ⟨w1.heap.size, 0, none⟩) n n, .int .i64 T], .slice aM k cM, .int .i64 0]) (by simp only [results, Try.results36]; go_simp) rfl HFIN.out
end Go.Proofs.Ytpdcaoagpjcgbaa
