/-
  The walks of gc.areInOrder and gc.plan. It proves no statement by itself.
-/
import Derived.Test.YtpdcaoagpjcgbabCompactModel
import Derived.Test.YtpdcaoagpjcgbabMarkWalks
set_option linter.unusedVariables false
set_option linter.unusedSimpArgs false
namespace Go.Proofs.Ytpdcaoagpjcgbab
open Go.RowKit

set_option maxHeartbeats 800000 in
theorem areInOrder_any (a : Option Addr) (n cap : Nat) (zs : List Int) (a2 : Option Addr) (m cap2 : Nat) (ks : List Int) (w : World) (hi : Ints w a zs) (hz : zs.length = n) (hn : n ≤ 400) (hs : zs.Pairwise (· < ·)) (hpos : ∀ x ∈ zs, 1 ≤ x)
    (hi2 : Ints w a2 ks) (hz2 : ks.length = m) (hm : m * 8 ≤ 140737488351232) (r : Bool) (hr : r = true ↔ InOrder zs ks) :
    Calls Try.prog 62 #[.slice a n cap, .slice a2 m cap2] w fun e w' => e = .returned (.bool r) ∧ w = w' := by
  unfold InOrder at hr
  rw [hz2] at hr
  have HI := Lib.hide hi
  have HZ := Lib.hide hz
  have HS := Lib.hide hs
  have HI2 := Lib.hide hi2
  have HZ2 := Lib.hide hz2
  have HR := Lib.hide hr
  have HPO := Lib.hide hpos
  clear hi hz hs hi2 hz2 hr hpos
  go_enter Try.func62, Try.ntmps62
  go_wp2
  go_loop [5, 10] (fun v u => ∃ (i : Nat) (b : Int), i ≤ m ∧ u = .int .i64 i ∧ v = .int .i64 b ∧ (i = 0 → b = 0) ∧ (0 < i → b = ks.getD (i - 1) 0) ∧ ∀ k, k < i → ks.getD k 0 ∈ zs ∧ (0 < k → ks.getD (k - 1) 0 < ks.getD k 0)) (fun _ u => m - (intOf u).toNat)
  case atStart => exact ⟨0, 0, Nat.zero_le _, rfl, rfl, fun _ => rfl, fun h => absurd h (Nat.lt_irrefl _), fun k hk => absurd hk (Nat.not_lt_zero _)⟩
  case round =>
    obtain ⟨i, b, hin, rfl, rfl, hb0, hb1, hlo⟩ := hrel
    have HB0 := Lib.hide hb0
    have HB1 := Lib.hide hb1
    have HLO := Lib.hide hlo
    clear hlo hb0 hb1
    by_cases hlt : i < m
    · obtain ⟨b2, o2, rfl, hb, hc⟩ := HI2.out.at (by rw [HZ2.out]; omega)
      have e1 := hc i (by rw [HZ2.out]; omega)
      clear hc
      obtain ⟨y, hy⟩ : ∃ y, ks.getD i 0 = y := ⟨_, rfl⟩
      rw [hy] at e1
      have HY := Lib.hide hy
      clear hy
      by_cases hyb : y ≤ b
      · have hd : decide (y ≤ b) = true := by simpa using hyb
        have hrf : r = false := by
          cases r
          · rfl
          · exfalso
            have h1 := HR.out.1 rfl i hlt
            rw [HY.out] at h1
            rcases Nat.eq_zero_or_pos i with h0 | h0
            · have := HB0.out h0
              have := HPO.out y h1.1
              omega
            · have := HB1.out h0
              have := h1.2 h0
              omega
        subst hrf
        clear hyb
        go_wp2
        go_ret
        exact ⟨rfl, rfl⟩
      · have hd : decide (y ≤ b) = false := by simpa using hyb
        have HYB := Lib.hide hyb
        clear hyb
        by_cases hm' : y ∈ zs
        · have C := Lib.hide (fun w (h : Ints w a zs) => gcIsPlace_any a n cap zs y w h HZ.out hn HS.out true (decide_eq_true hm'))
          have HM := Lib.hide hm'
          clear hm'
          go_wp2_with (go_at_call 79; refine (C.out _ HI.out).mono ?_; rintro e w' ⟨rfl, rfl⟩)
          go_round
          case rel =>
            refine ⟨i + 1, y, by omega, by go_num, rfl, fun h => absurd h (Nat.succ_ne_zero _), fun _ => by rw [Nat.add_sub_cancel, HY.out], fun k hk => ?_⟩
            rcases Nat.lt_or_ge k i with h | h
            · exact HLO.out k h
            · obtain rfl : k = i := by omega
              rw [HY.out]
              refine ⟨HM.out, fun h0 => ?_⟩
              have := HB1.out h0
              have := HYB.out
              omega
          case measure => simp [intOf]; omega
        · have C := Lib.hide (fun w (h : Ints w a zs) => gcIsPlace_any a n cap zs y w h HZ.out hn HS.out false (decide_eq_false hm'))
          have hrf : r = false := by
            cases r
            · rfl
            · have := HR.out.1 rfl i hlt
              rw [HY.out] at this
              exact absurd this.1 hm'
          subst hrf
          clear hm'
          go_wp2_with (go_at_call 79; refine (C.out _ HI.out).mono ?_; rintro e w' ⟨rfl, rfl⟩)
          go_ret
          exact ⟨rfl, rfl⟩
    · have hrt : r = true := HR.out.2 (fun k hk => HLO.out k (by omega))
      subst hrt
      go_wp2
      go_ret
      exact ⟨rfl, rfl⟩

/-- The cells of a list of moves. -/
def mcells (ps : List (Nat × Nat)) : List Value := ps.flatMap fun q => [.int .i64 (q.1 : Int), .int .i64 (q.2 : Int)]
theorem mcells_length (ps : List (Nat × Nat)) : (mcells ps).length = ps.length * 2 := by
  induction ps with
  | nil => rfl
  | cons p ps ih =>
    have : mcells (p :: ps) = [.int .i64 (p.1 : Int), .int .i64 (p.2 : Int)] ++ mcells ps := rfl
    rw [this, List.length_append, ih]
    simp
    omega
theorem mcells_snoc (ps : List (Nat × Nat)) (q : Nat × Nat) : mcells (ps ++ [q]) = mcells ps ++ [.int .i64 (q.1 : Int), .int .i64 (q.2 : Int)] := by simp [mcells]
theorem mcells_at : ∀ (ps : List (Nat × Nat)) (i : Nat), i < ps.length → (mcells ps)[i * 2]? = some (.int .i64 ((ps.getD i (0, 0)).1 : Int)) ∧ (mcells ps)[i * 2 + 1]? = some (.int .i64 ((ps.getD i (0, 0)).2 : Int))
  | [], i, h => absurd h (Nat.not_lt_zero _)
  | p :: ps, 0, _ => ⟨rfl, rfl⟩
  | p :: ps, i + 1, h => by
    have e : mcells (p :: ps) = .int .i64 (p.1 : Int) :: .int .i64 (p.2 : Int) :: mcells ps := rfl
    have := mcells_at ps i (by simpa using h)
    rw [e, show (i + 1) * 2 = i * 2 + 1 + 1 by omega, show i * 2 + 1 + 1 + 1 = (i * 2 + 1) + 1 + 1 by omega]
    simpa using this

/-- A list of moves in memory of the call's own. -/
def OwnM (w : World) (base : Nat) (v : Value) (ps : List (Nat × Nat)) : Prop := w.ownsRow base 57 2 v ps.length (mcells ps)
/-- A list of moves at address a. -/
def Moves (w : World) (a : Option Addr) (ps : List (Nat × Nat)) : Prop :=
  ps = [] ∨ ∃ b o, a = some ⟨b, o, none⟩ ∧ b < w.heap.size ∧ ∀ i, i < ps.length → w.cell? ⟨b, o + i * 2, none⟩ = some (.int .i64 ((ps.getD i (0, 0)).1 : Int)) ∧ w.cell? ⟨b, o + i * 2 + 1, none⟩ = some (.int .i64 ((ps.getD i (0, 0)).2 : Int))
theorem Moves.below {w w' : World} {a : Option Addr} {ps : List (Nat × Nat)} (h : Moves w a ps) (hb : Below w.heap.size w w') : Moves w' a ps := by
  rcases h with h | ⟨b, o, e, hlt, hc⟩
  · exact .inl h
  · exact .inr ⟨b, o, e, Nat.lt_of_lt_of_le hlt hb.size, fun i hi => ⟨(hb.cell (p := ⟨b, o + i * 2, none⟩) hlt).trans (hc i hi).1, (hb.cell (p := ⟨b, o + i * 2 + 1, none⟩) hlt).trans (hc i hi).2⟩⟩
theorem OwnM.below {w w' : World} {base : Nat} {v : Value} {ps : List (Nat × Nat)} (h : OwnM w base v ps) (hb : Below w.heap.size w w') : OwnM w' base v ps := by
  refine ⟨h.1, ?_⟩
  rcases h.2 with h2 | ⟨g, cap, cur, hv, hg, hh, r⟩
  · exact .inl h2
  · have hlt : g < w.heap.size := by
      rcases Nat.lt_or_ge g w.heap.size with h' | h'
      · exact h'
      · rw [Array.getElem?_eq_none h'] at hh; cases hh
    exact .inr ⟨g, cap, cur, hv, hg, (hb.block g hlt).trans hh, r⟩
theorem OwnM.shape {w : World} {base : Nat} {v : Value} {ps : List (Nat × Nat)} (h : OwnM w base v ps) : ∃ a c, v = .slice a ps.length c ∧ Moves w a ps := by
  rcases h.2 with ⟨rfl, h0⟩ | ⟨g, cap, cur, rfl, hg, hh, r1, r2, r3, r4⟩
  · exact ⟨none, 0, by rw [h0], .inl (List.eq_nil_of_length_eq_zero h0)⟩
  · refine ⟨_, _, rfl, .inr ⟨g, 0, rfl, ?_, fun i hi => ?_⟩⟩
    · rcases Nat.lt_or_ge g w.heap.size with h' | h'
      · exact h'
      · rw [Array.getElem?_eq_none h'] at hh; cases hh
    · have h1 := World.ownsRow.cells h (g := g) rfl
      have h2 := mcells_at ps i hi
      have h3 := h1 _ _ h2.1
      have h4 := h1 _ _ h2.2
      rw [add_none] at h3 h4
      exact ⟨h3, by rw [Nat.add_assoc]; exact h4⟩

theorem Try.moveInfo : (Try.prog.info? 57).map (fun i => (i.zero, i.size, i.bytes)) = some (some (.agg #[.int .i64 0, .int .i64 0]), 2, 16) := by kernel_rfl

theorem cells_two_new (w : World) (x y : Value) (t : TypeId) : ∀ j u, [x, y][j]? = some u → (w.alloc (.cells #[x, y] t)).cell? ((⟨w.heap.size, 0, none⟩ : Addr).add j) = some u := by
  intro j u hj
  rw [add_none]
  match j, hj with
  | 0, hj => simp at hj; subst hj; go_simp
  | 1, hj => simp at hj; subst hj; go_simp
  | j + 2, hj => simp at hj

/-- What plan hands back. -/
def PlanPost (w : World) (xs : List Int) (qs : List Nat) (e : Ending) (w' : World) : Prop :=
  ∃ a c, e = .returned (.slice a qs.length c) ∧ OwnM w' w.heap.size (.slice a qs.length c) (planOf xs qs qs.length) ∧ Below w.heap.size w w'

/-- The list of moves behind an append. -/
theorem plan_step {w0 wr w2 w3 : World} {B : Nat} {v v' : Value} {ps : List (Nat × Nat)} {q : Nat × Nat} {o : Obj} (hbel : Below B w0 wr) (hB : B ≤ wr.heap.size) (hb2 : Below wr.heap.size wr w2) (hown : OwnM wr B v ps)
    (hown3 : w3.ownsRow B 57 2 v' (ps.length + 1) (mcells ps ++ [.int .i64 (q.1 : Int), .int .i64 (q.2 : Int)])) (hg : (w2.alloc o).grownBy w3 v.ownBlock) : Below B w0 w3 ∧ OwnM w3 B v' (ps ++ [q]) := by
  refine ⟨?_, ?_⟩
  · have h2 : Below B w0 w2 := hbel.trans (hb2.mono hB)
    have hs := hb2.size
    exact (h2.alloc (by omega) o).grown hg (by simp; omega) (fun k hk => (World.ownsRow.lt hown k hk).1)
  · unfold OwnM
    rw [mcells_snoc, List.length_append]
    exact hown3

set_option maxHeartbeats 1600000 in
theorem plan_any (a : Option Addr) (n cap : Nat) (xs : List Int) (top : Int) (t : Nat) (l qs : List Nat) (a2 : Option Addr) (k cap2 : Nat) (w : World) (hh : IsHeap w a n cap xs top) (hn : n ≤ 400) (ht1 : 1 ≤ t) (ht : t ≤ n) (hro : Room xs t l qs) (hi2 : Ints w a2 (nums qs)) (hk : qs.length = k) (hk4 : k ≤ 400) :
    Calls Try.prog 63 #[.agg #[.slice a n cap, .int .i64 top], .slice a2 k cap2] w (PlanPost w xs qs) := by
  obtain ⟨iM, hiM, hM0, hM1, hM2⟩ := info_parts Try.moveInfo
  have kc1 := hh.cap1
  have kc2 := hh.cap2
  have HH := Lib.hide hh
  have HX := Lib.hide hh.len
  have HRO := Lib.hide hro
  have HI2 := Lib.hide hi2
  have HK := Lib.hide hk
  clear hh hro hi2 hk
  go_enter Try.func63, Try.ntmps63
  go_wp2_with (at_make; refine wpList_make_own _ rfl _ _ 52 rfl (w.heap.size + 1) 57 iM (.agg #[.int .i64 0, .int .i64 0]) 2 Try.underlying52 hiM hM0 hM1 .i64 .i64 k k rfl rfl rfl (by rw [hM2]; omega) (by unfold maxLen; omega) (by simp) ?_; intro w1 hown1 hg1)
  have hb1 : Below (w.heap.size + 1) (w.alloc (.cells #[.slice a n cap, .int .i64 top] 27)) w1 := (Below.refl _ _).grown hg1 (by simp) (by simp)
  rw [show (w.alloc (.cells #[.slice a n cap, .int .i64 top] 27)).heap.size = w.heap.size + 1 by simp] at hown1
  have HO1 := Lib.hide hown1
  have HB1 := Lib.hide hb1
  clear hown1 hb1 hg1
  go_loopg [5, 6, 14] k (fun g v t u wr => ∃ j : Nat, j ≤ k ∧ g = k - j ∧ u = .int .i64 j ∧ t = .int .i64 (toAt xs qs j) ∧ OwnM wr (w.heap.size + 1) v (planOf xs qs j) ∧ Below (w.heap.size + 1) (w.alloc (.cells #[.slice a n cap, .int .i64 top] 27)) wr)
  case atStart => exact ⟨0, Nat.zero_le _, rfl, rfl, by rw [toAt_zero]; rfl, HO1.out, HB1.out⟩
  case round =>
    obtain ⟨j, hj, rfl, rfl, rfl, hown, hbel⟩ := hrel
    have HOW := Lib.hide hown
    have HBE := Lib.hide hbel
    have hsz := hbel.size
    simp at hsz
    have hbx : Box2 wr w.heap.size (.slice a n cap) (.int .i64 top) := (Box2.new w _ _ _).next (by simpa using hbel)
    have HBX := Lib.hide hbx
    obtain ⟨x0, x1, x2, x3, x4⟩ := hbx
    have hbw : Below w.heap.size w wr := Below.trans (b := w.alloc (.cells #[.slice a n cap, .int .i64 top] 27)) (by repeat (first | exact Below.refl _ _ | assumption | refine Below.drew ?_ | refine below_drewN ?_ _ | refine Below.allocs ?_ | refine Below.next ?_ (by assumption) | refine Below.setCell ?_ (by dsimp only; omega) _)) (hbel.mono (by omega))
    have HBW := Lib.hide hbw
    clear hown hbel hbw
    have htj := HRO.out.end_le ht1 j (by rw [HK.out]; exact hj)
    by_cases hlt : j < k
    · obtain ⟨b, o, rfl, hb, hc⟩ := (HI2.out.below HBW.out).at (by rw [nums_length, HK.out]; omega)
      have e1 := hc j (by rw [nums_length, HK.out]; exact hlt)
      rw [nums_getD] at e1
      clear hc
      have hfit := HRO.out.fit (getD_mem (qs := qs) (j := j) (by rw [HK.out]; exact hlt))
      have hps := planOf_succ xs qs j
      have hts := toAt_succ (xs := xs) (qs := qs) (j := j) (by rw [HK.out]; exact hlt)
      obtain ⟨p, hp⟩ : ∃ p, qs.getD j 0 = p := ⟨_, rfl⟩
      rw [hp] at e1 hfit hps hts
      obtain ⟨f1, f2, f3, f4⟩ := hfit
      obtain ⟨f, hf⟩ : ∃ f, lenAt xs p = f := ⟨_, rfl⟩
      rw [hf] at f2 f3 f4 hts
      obtain ⟨tj, htj'⟩ : ∃ tj, toAt xs qs j = tj := ⟨_, rfl⟩
      rw [htj'] at hps hts htj
      rw [htj']
      have HPS := Lib.hide hps
      have HTS := Lib.hide hts
      have HF4 := Lib.hide f4
      have hpl : (planOf xs qs j).length = j := planOf_length _ _ _
      have HPL := Lib.hide hpl
      clear hps hts f4 hp hf htj' hpl
      go_wp2_with (first
        | (at_builtin; refine wpList_append_own _ rfl (.tmp 18) (.tmp 22) 52 rfl (w.heap.size + 1) 57 iM (.agg #[.int .i64 0, .int .i64 0]) 2 16 Try.underlying52 hiM hM0 hM1 hM2 rfl (by decide) u5 (planOf xs qs j).length _ rfl (World.ownsRow.alloc (w := wr) HOW.out _) ⟨wr.heap.size, 0, none⟩ 1 1 [.int .i64 p, .int .i64 tj] rfl rfl (cells_two_new _ _ _ _) (fun u hu => by simp at hu; rcases hu with rfl | rfl <;> rfl) (by rw [HPL.out]; unfold maxLen; omega) (by rw [HPL.out]; omega) (by simp; omega) ?_; intro v' w3 hown3 hg3 _; obtain ⟨hbel3, hown4⟩ := plan_step (q := (p, tj)) HBE.out hsz (Below.refl _ _) HOW.out hown3 hg3; have HB3 := Lib.hide hbel3; have HO4 := Lib.hide hown4; have hbx3 : Box2 w3 w.heap.size (.slice a n cap) (.int .i64 top) := (Box2.new w _ _ _).next (by simpa using hbel3); obtain ⟨y0, y1, y2, y3, y4⟩ := hbx3; have hs3 := hbel3.size; simp at hs3; clear hown3 hg3 hbel3 hown4)
        | (go_at_call 81; refine (fields_any a n cap xs top p f _ (HH.out.ints.below (Below.trans (b := w.alloc (.cells #[.slice a n cap, .int .i64 top] 27)) (by repeat (first | exact Below.refl _ _ | assumption | refine Below.drew ?_ | refine below_drewN ?_ _ | refine Below.allocs ?_ | refine Below.next ?_ (by assumption) | refine Below.setCell ?_ (by dsimp only; omega) _)) (HB3.out.mono (by omega)))) HX.out hn kc1 kc2 (by omega) HF4.out).mono ?_; rintro e w4 ⟨a4, c4, rfl, _, _, _, _, hb4⟩))
      go_roundg (k - (j + 1))
      case measure => omega
      case rel =>
        refine ⟨j + 1, by omega, rfl, by go_num, ?_, ?_, HB3.out.trans (hb4.mono hs3)⟩
        · rw [HTS.out]; go_num
        · rw [HPS.out]; exact OwnM.below HO4.out hb4
    · obtain rfl : j = k := by omega
      have hown := HOW.out
      obtain ⟨a', c', hv, _⟩ := hown.shape
      rw [planOf_length] at hv
      have HV := Lib.hide hv
      clear hv hown
      go_wp2
      go_ret
      refine ⟨a', c', ?_, ?_, HBW.out⟩
      · rw [HK.out, ← HV.out]; rfl
      · rw [HK.out, ← HV.out]; exact ownsRow_base HOW.out (by omega)
end Go.Proofs.Ytpdcaoagpjcgbab
