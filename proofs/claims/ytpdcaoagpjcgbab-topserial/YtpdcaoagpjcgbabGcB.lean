/-
  The walks of gc.areInOrder and gc.plan. It proves no statement by itself.
-/
import Derived.Test.YtpdcaoagpjcgbabGcA
set_option linter.unusedVariables false
set_option linter.unusedSimpArgs false
namespace Go.Proofs.Ytpdcaoagpjcgbab
open Go.RowKit

set_option maxHeartbeats 800000 in
theorem areInOrder_any (a : Option Addr) (n cap : Nat) (zs : List Int) (a2 : Option Addr) (m cap2 : Nat) (ks : List Int) (w : World) (hi : Ints w a zs) (hz : zs.length = n) (hn : n ≤ 400) (hs : zs.Pairwise (· < ·)) (hpos : ∀ x ∈ zs, 1 ≤ x)
    (hi2 : Ints w a2 ks) (hz2 : ks.length = m) (hm : m * 8 ≤ 140737488351232) (r : Bool) (hr : r = true ↔ InOrder zs ks) :
    Calls Try.prog 62 #[.slice a n cap, .slice a2 m cap2] w fun e w' => e = .returned (.bool r) ∧ w = w' := by
  unfold InOrder at hr
  rw [hz2] at hr
  have HI := Lib.hide hi
  have HZ := Lib.hide hz
  have HS := Lib.hide hs
  have HI2 := Lib.hide hi2
  have HZ2 := Lib.hide hz2
  have HR := Lib.hide hr
  have HPO := Lib.hide hpos
  clear hi hz hs hi2 hz2 hr hpos
  go_enter Try.func62, Try.ntmps62
  go_wp2
  go_loop [5, 10] (fun v u => ∃ (i : Nat) (b : Int), i ≤ m ∧ u = .int .i64 i ∧ v = .int .i64 b ∧ (i = 0 → b = 0) ∧ (0 < i → b = ks.getD (i - 1) 0) ∧ ∀ k, k < i → ks.getD k 0 ∈ zs ∧ (0 < k → ks.getD (k - 1) 0 < ks.getD k 0)) (fun _ u => m - (intOf u).toNat)
  case atStart => exact ⟨0, 0, Nat.zero_le _, rfl, rfl, fun _ => rfl, fun h => absurd h (Nat.lt_irrefl _), fun k hk => absurd hk (Nat.not_lt_zero _)⟩
  case round =>
    obtain ⟨i, b, hin, rfl, rfl, hb0, hb1, hlo⟩ := hrel
    have HB0 := Lib.hide hb0
    have HB1 := Lib.hide hb1
    have HLO := Lib.hide hlo
    clear hlo hb0 hb1
    by_cases hlt : i < m
    · obtain ⟨b2, o2, rfl, hb, hc⟩ := HI2.out.at (by rw [HZ2.out]; omega)
      have e1 := hc i (by rw [HZ2.out]; omega)
      clear hc
      obtain ⟨y, hy⟩ : ∃ y, ks.getD i 0 = y := ⟨_, rfl⟩
      rw [hy] at e1
      have HY := Lib.hide hy
      clear hy
      by_cases hyb : y ≤ b
      · have hd : decide (y ≤ b) = true := by simpa using hyb
        have hrf : r = false := by
          cases r
          · rfl
          · exfalso
            have h1 := HR.out.1 rfl i hlt
            rw [HY.out] at h1
            rcases Nat.eq_zero_or_pos i with h0 | h0
            · have := HB0.out h0
              have := HPO.out y h1.1
              omega
            · have := HB1.out h0
              have := h1.2 h0
              omega
        subst hrf
        clear hyb
        go_wp2
        go_ret
        exact ⟨rfl, rfl⟩
      · have hd : decide (y ≤ b) = false := by simpa using hyb
        have HYB := Lib.hide hyb
        clear hyb
        by_cases hm' : y ∈ zs
        · have C := Lib.hide (fun w (h : Ints w a zs) => gcIsPlace_any a n cap zs y w h HZ.out hn HS.out true (decide_eq_true hm'))
          have HM := Lib.hide hm'
          clear hm'
          go_wp2_with (go_at_call 79; refine (C.out _ HI.out).mono ?_; rintro e w' ⟨rfl, rfl⟩)
          go_round
          case rel =>
            refine ⟨i + 1, y, by omega, by go_num, rfl, fun h => absurd h (Nat.succ_ne_zero _), fun _ => by rw [Nat.add_sub_cancel, HY.out], fun k hk => ?_⟩
            rcases Nat.lt_or_ge k i with h | h
            · exact HLO.out k h
            · obtain rfl : k = i := by omega
              rw [HY.out]
              refine ⟨HM.out, fun h0 => ?_⟩
              have := HB1.out h0
              have := HYB.out
              omega
          case measure => simp [intOf]; omega
        · have C := Lib.hide (fun w (h : Ints w a zs) => gcIsPlace_any a n cap zs y w h HZ.out hn HS.out false (decide_eq_false hm'))
          have hrf : r = false := by
            cases r
            · rfl
            · have := HR.out.1 rfl i hlt
              rw [HY.out] at this
              exact absurd this.1 hm'
          subst hrf
          clear hm'
          go_wp2_with (go_at_call 79; refine (C.out _ HI.out).mono ?_; rintro e w' ⟨rfl, rfl⟩)
          go_ret
          exact ⟨rfl, rfl⟩
    · have hrt : r = true := HR.out.2 (fun k hk => HLO.out k (by omega))
      subst hrt
      go_wp2
      go_ret
      exact ⟨rfl, rfl⟩

/-- The cells of a list of moves. -/
def mcells (ps : List (Nat × Nat)) : List Value := ps.flatMap fun q => [.int .i64 (q.1 : Int), .int .i64 (q.2 : Int)]
theorem mcells_length (ps : List (Nat × Nat)) : (mcells ps).length = ps.length * 2 := by
  induction ps with
  | nil => rfl
  | cons p ps ih =>
    have : mcells (p :: ps) = [.int .i64 (p.1 : Int), .int .i64 (p.2 : Int)] ++ mcells ps := rfl
    rw [this, List.length_append, ih]
    simp
    omega
theorem mcells_snoc (ps : List (Nat × Nat)) (q : Nat × Nat) : mcells (ps ++ [q]) = mcells ps ++ [.int .i64 (q.1 : Int), .int .i64 (q.2 : Int)] := by simp [mcells]
theorem mcells_at : ∀ (ps : List (Nat × Nat)) (i : Nat), i < ps.length → (mcells ps)[i * 2]? = some (.int .i64 ((ps.getD i (0, 0)).1 : Int)) ∧ (mcells ps)[i * 2 + 1]? = some (.int .i64 ((ps.getD i (0, 0)).2 : Int))
  | [], i, h => absurd h (Nat.not_lt_zero _)
  | p :: ps, 0, _ => ⟨rfl, rfl⟩
  | p :: ps, i + 1, h => by
    have e : mcells (p :: ps) = .int .i64 (p.1 : Int) :: .int .i64 (p.2 : Int) :: mcells ps := rfl
    have := mcells_at ps i (by simpa using h)
    rw [e, show (i + 1) * 2 = i * 2 + 1 + 1 by omega, show i * 2 + 1 + 1 + 1 = (i * 2 + 1) + 1 + 1 by omega]
    simpa using this

/-- A list of moves in memory of the call's own. -/
def OwnM (w : World) (base : Nat) (v : Value) (ps : List (Nat × Nat)) : Prop := w.ownsRow base 57 2 v ps.length (mcells ps)
/-- A list of moves at address a. -/
def Moves (w : World) (a : Option Addr) (ps : List (Nat × Nat)) : Prop :=
  ps = [] ∨ ∃ b o, a = some ⟨b, o, none⟩ ∧ b < w.heap.size ∧ ∀ i, i < ps.length → w.cell? ⟨b, o + i * 2, none⟩ = some (.int .i64 ((ps.getD i (0, 0)).1 : Int)) ∧ w.cell? ⟨b, o + i * 2 + 1, none⟩ = some (.int .i64 ((ps.getD i (0, 0)).2 : Int))
theorem Moves.below {w w' : World} {a : Option Addr} {ps : List (Nat × Nat)} (h : Moves w a ps) (hb : Below w.heap.size w w') : Moves w' a ps := by
  rcases h with h | ⟨b, o, e, hlt, hc⟩
  · exact .inl h
  · exact .inr ⟨b, o, e, Nat.lt_of_lt_of_le hlt hb.size, fun i hi => ⟨(hb.cell (p := ⟨b, o + i * 2, none⟩) hlt).trans (hc i hi).1, (hb.cell (p := ⟨b, o + i * 2 + 1, none⟩) hlt).trans (hc i hi).2⟩⟩
theorem OwnM.below {w w' : World} {base : Nat} {v : Value} {ps : List (Nat × Nat)} (h : OwnM w base v ps) (hb : Below w.heap.size w w') : OwnM w' base v ps := by
  refine ⟨h.1, ?_⟩
  rcases h.2 with h2 | ⟨g, cap, cur, hv, hg, hh, r⟩
  · exact .inl h2
  · have hlt : g < w.heap.size := by
      rcases Nat.lt_or_ge g w.heap.size with h' | h'
      · exact h'
      · rw [Array.getElem?_eq_none h'] at hh; cases hh
    exact .inr ⟨g, cap, cur, hv, hg, (hb.block g hlt).trans hh, r⟩
theorem OwnM.shape {w : World} {base : Nat} {v : Value} {ps : List (Nat × Nat)} (h : OwnM w base v ps) : ∃ a c, v = .slice a ps.length c ∧ Moves w a ps := by
  rcases h.2 with ⟨rfl, h0⟩ | ⟨g, cap, cur, rfl, hg, hh, r1, r2, r3, r4⟩
  · exact ⟨none, 0, by rw [h0], .inl (List.eq_nil_of_length_eq_zero h0)⟩
  · refine ⟨_, _, rfl, .inr ⟨g, 0, rfl, ?_, fun i hi => ?_⟩⟩
    · rcases Nat.lt_or_ge g w.heap.size with h' | h'
      · exact h'
      · rw [Array.getElem?_eq_none h'] at hh; cases hh
    · have h1 := World.ownsRow.cells h (g := g) rfl
      have h2 := mcells_at ps i hi
      have h3 := h1 _ _ h2.1
      have h4 := h1 _ _ h2.2
      rw [add_none] at h3 h4
      exact ⟨h3, by rw [Nat.add_assoc]; exact h4⟩

theorem Try.moveInfo : (Try.prog.info? 57).map (fun i => (i.zero, i.size, i.bytes)) = some (some (.agg #[.int .i64 0, .int .i64 0]), 2, 16) := by kernel_rfl

theorem cells_two_new (w : World) (x y : Value) (t : TypeId) : ∀ j u, [x, y][j]? = some u → (w.alloc (.cells #[x, y] t)).cell? ((⟨w.heap.size, 0, none⟩ : Addr).add j) = some u := by
  intro j u hj
  rw [add_none]
  match j, hj with
  | 0, hj => simp at hj; subst hj; go_simp
  | 1, hj => simp at hj; subst hj; go_simp
  | j + 2, hj => simp at hj

/-- What plan hands back. -/
def PlanPost (w : World) (xs : List Int) (qs : List Nat) (e : Ending) (w' : World) : Prop :=
  ∃ a c, e = .returned (.slice a qs.length c) ∧ OwnM w' w.heap.size (.slice a qs.length c) (planOf xs qs qs.length) ∧ Below w.heap.size w w'

/-- The list of moves behind an append. -/
theorem plan_step {w0 wr w2 w3 : World} {B : Nat} {v v' : Value} {ps : List (Nat × Nat)} {q : Nat × Nat} {o : Obj} (hbel : Below B w0 wr) (hB : B ≤ wr.heap.size) (hb2 : Below wr.heap.size wr w2) (hown : OwnM wr B v ps)
    (hown3 : w3.ownsRow B 57 2 v' (ps.length + 1) (mcells ps ++ [.int .i64 (q.1 : Int), .int .i64 (q.2 : Int)])) (hg : (w2.alloc o).grownBy w3 v.ownBlock) : Below B w0 w3 ∧ OwnM w3 B v' (ps ++ [q]) := by
  refine ⟨?_, ?_⟩
  · have h2 : Below B w0 w2 := hbel.trans (hb2.mono hB)
    have hs := hb2.size
    exact (h2.alloc (by omega) o).grown hg (by simp; omega) (fun k hk => (World.ownsRow.lt hown k hk).1)
  · unfold OwnM
    rw [mcells_snoc, List.length_append]
    exact hown3

set_option maxHeartbeats 1600000 in
theorem plan_any (a : Option Addr) (n cap : Nat) (xs : List Int) (top : Int) (t : Nat) (l qs : List Nat) (a2 : Option Addr) (k cap2 : Nat) (w : World) (hh : IsHeap w a n cap xs top) (hn : n ≤ 400) (ht1 : 1 ≤ t) (ht : t ≤ n) (hro : Room xs t l qs) (hi2 : Ints w a2 (nums qs)) (hk : qs.length = k) (hk4 : k ≤ 400) :
    Calls Try.prog 63 #[.agg #[.slice a n cap, .int .i64 top], .slice a2 k cap2] w (PlanPost w xs qs) := by
  obtain ⟨iM, hiM, hM0, hM1, hM2⟩ := info_parts Try.moveInfo
  have kc1 := hh.cap1
  have kc2 := hh.cap2
  have HH := Lib.hide hh
  have HX := Lib.hide hh.len
  have HRO := Lib.hide hro
  have HI2 := Lib.hide hi2
  have HK := Lib.hide hk
  clear hh hro hi2 hk
  go_enter Try.func63, Try.ntmps63
  go_wp2_with (at_make; refine wpList_make_own _ rfl _ _ 52 rfl (w.heap.size + 1) 57 iM (.agg #[.int .i64 0, .int .i64 0]) 2 Try.underlying52 hiM hM0 hM1 .i64 .i64 k k rfl rfl rfl (by rw [hM2]; omega) (by unfold maxLen; omega) (by simp) ?_; intro w1 hown1 hg1)
  have hb1 : Below (w.heap.size + 1) (w.alloc (.cells #[.slice a n cap, .int .i64 top] 27)) w1 := (Below.refl _ _).grown hg1 (by simp) (by simp)
  rw [show (w.alloc (.cells #[.slice a n cap, .int .i64 top] 27)).heap.size = w.heap.size + 1 by simp] at hown1
  have HO1 := Lib.hide hown1
  have HB1 := Lib.hide hb1
  clear hown1 hb1 hg1
  go_loopg [5, 6, 14] k (fun g v t u wr => ∃ j : Nat, j ≤ k ∧ g = k - j ∧ u = .int .i64 j ∧ t = .int .i64 (toAt xs qs j) ∧ OwnM wr (w.heap.size + 1) v (planOf xs qs j) ∧ Below (w.heap.size + 1) (w.alloc (.cells #[.slice a n cap, .int .i64 top] 27)) wr)
  case atStart => exact ⟨0, Nat.zero_le _, rfl, rfl, by rw [toAt_zero]; rfl, HO1.out, HB1.out⟩
  case round =>
    obtain ⟨j, hj, rfl, rfl, rfl, hown, hbel⟩ := hrel
    have HOW := Lib.hide hown
    have HBE := Lib.hide hbel
    have hsz := hbel.size
    simp at hsz
    have hbx : Box2 wr w.heap.size (.slice a n cap) (.int .i64 top) := (Box2.new w _ _ _).next (by simpa using hbel)
    have HBX := Lib.hide hbx
    obtain ⟨x0, x1, x2, x3, x4⟩ := hbx
    have hbw : Below w.heap.size w wr := Below.trans (b := w.alloc (.cells #[.slice a n cap, .int .i64 top] 27)) (by repeat (first | exact Below.refl _ _ | assumption | refine Below.drew ?_ | refine below_drewN ?_ _ | refine Below.allocs ?_ | refine Below.next ?_ (by assumption) | refine Below.setCell ?_ (by dsimp only; omega) _)) (hbel.mono (by omega))
    have HBW := Lib.hide hbw
    clear hown hbel hbw
    have htj := HRO.out.end_le ht1 j (by rw [HK.out]; exact hj)
    by_cases hlt : j < k
    · obtain ⟨b, o, rfl, hb, hc⟩ := (HI2.out.below HBW.out).at (by rw [nums_length, HK.out]; omega)
      have e1 := hc j (by rw [nums_length, HK.out]; exact hlt)
      rw [nums_getD] at e1
      clear hc
      have hfit := HRO.out.fit (getD_mem (qs := qs) (j := j) (by rw [HK.out]; exact hlt))
      have hps := planOf_succ xs qs j
      have hts := toAt_succ (xs := xs) (qs := qs) (j := j) (by rw [HK.out]; exact hlt)
      obtain ⟨p, hp⟩ : ∃ p, qs.getD j 0 = p := ⟨_, rfl⟩
      rw [hp] at e1 hfit hps hts
      obtain ⟨f1, f2, f3, f4⟩ := hfit
      obtain ⟨f, hf⟩ : ∃ f, lenAt xs p = f := ⟨_, rfl⟩
      rw [hf] at f2 f3 f4 hts
      obtain ⟨tj, htj'⟩ : ∃ tj, toAt xs qs j = tj := ⟨_, rfl⟩
      rw [htj'] at hps hts htj
      rw [htj']
      have HPS := Lib.hide hps
      have HTS := Lib.hide hts
      have HF4 := Lib.hide f4
      have hpl : (planOf xs qs j).length = j := planOf_length _ _ _
      have HPL := Lib.hide hpl
      clear hps hts f4 hp hf htj' hpl
      go_wp2_with (first
        | (at_builtin; refine wpList_append_own _ rfl (.tmp 18) (.tmp 22) 52 rfl (w.heap.size + 1) 57 iM (.agg #[.int .i64 0, .int .i64 0]) 2 16 Try.underlying52 hiM hM0 hM1 hM2 rfl (by decide) u5 (planOf xs qs j).length _ rfl (World.ownsRow.alloc (w := wr) HOW.out _) ⟨wr.heap.size, 0, none⟩ 1 1 [.int .i64 p, .int .i64 tj] rfl rfl (cells_two_new _ _ _ _) (fun u hu => by simp at hu; rcases hu with rfl | rfl <;> rfl) (by rw [HPL.out]; unfold maxLen; omega) (by rw [HPL.out]; omega) (by simp; omega) ?_; intro v' w3 hown3 hg3 _; obtain ⟨hbel3, hown4⟩ := plan_step (q := (p, tj)) HBE.out hsz (Below.refl _ _) HOW.out hown3 hg3; have HB3 := Lib.hide hbel3; have HO4 := Lib.hide hown4; have hbx3 : Box2 w3 w.heap.size (.slice a n cap) (.int .i64 top) := (Box2.new w _ _ _).next (by simpa using hbel3); obtain ⟨y0, y1, y2, y3, y4⟩ := hbx3; have hs3 := hbel3.size; simp at hs3; clear hown3 hg3 hbel3 hown4)
        | (go_at_call 81; refine (fields_any a n cap xs top p f _ (HH.out.ints.below (Below.trans (b := w.alloc (.cells #[.slice a n cap, .int .i64 top] 27)) (by repeat (first | exact Below.refl _ _ | assumption | refine Below.drew ?_ | refine below_drewN ?_ _ | refine Below.allocs ?_ | refine Below.next ?_ (by assumption) | refine Below.setCell ?_ (by dsimp only; omega) _)) (HB3.out.mono (by omega)))) HX.out hn kc1 kc2 (by omega) HF4.out).mono ?_; rintro e w4 ⟨a4, c4, rfl, _, _, _, _, hb4⟩))
      go_roundg (k - (j + 1))
      case measure => omega
      case rel =>
        refine ⟨j + 1, by omega, rfl, by go_num, ?_, ?_, HB3.out.trans (hb4.mono hs3)⟩
        · rw [HTS.out]; go_num
        · rw [HPS.out]; exact OwnM.below HO4.out hb4
    · obtain rfl : j = k := by omega
      have hown := HOW.out
      obtain ⟨a', c', hv, _⟩ := hown.shape
      rw [planOf_length] at hv
      have HV := Lib.hide hv
      clear hv hown
      go_wp2
      go_ret
      refine ⟨a', c', ?_, ?_, HBW.out⟩
      · rw [HK.out, ← HV.out]; rfl
      · rw [HK.out, ← HV.out]; exact ownsRow_base HOW.out (by omega)
end Go.Proofs.Ytpdcaoagpjcgbab

/-
  The walk of gc.redirect, and a copy into a list of the call's own. It proves no statement by itself.
-/
namespace Go.Proofs.Ytpdcaoagpjcgbab
open Go.RowKit

theorem mid_get (A B : List Int) (x : Int) {k : Nat} (hk : A.length = k) : (A ++ x :: B).getD k 0 = x := by
  subst hk
  simp [List.getD_eq_getElem?_getD]
theorem mid_set (A B : List Int) (x y : Int) {k : Nat} (hk : A.length = k) : (A ++ x :: B).set k y = A ++ y :: B := by
  subst hk
  simp

/-- A part of a list, its first i numbers changed by a function. -/
def part (g : Int → Int) (pre fl post : List Int) (i : Nat) : List Int := (pre ++ (fl.take i).map g) ++ (fl.drop i ++ post)
theorem part_zero (g : Int → Int) (pre fl post : List Int) : part g pre fl post 0 = pre ++ (fl ++ post) := by simp [part]
theorem part_all (g : Int → Int) (pre fl post : List Int) : part g pre fl post fl.length = pre ++ (fl.map g ++ post) := by simp [part]
theorem part_get {g : Int → Int} {pre fl post : List Int} {i : Nat} (hi : i < fl.length) : (part g pre fl post i).getD (pre.length + i) 0 = fl.getD i 0 := by
  unfold part
  rw [List.drop_eq_getElem_cons hi, List.cons_append, mid_get]
  · simp [List.getD_eq_getElem?_getD, List.getElem?_eq_getElem hi]
  · simp; omega
theorem take_map_snoc {g : Int → Int} {fl : List Int} {i : Nat} (hi : i < fl.length) : (fl.take (i + 1)).map g = (fl.take i).map g ++ [g fl[i]] := by
  rw [List.take_succ_eq_append_getElem hi, List.map_append]
  rfl
theorem part_set {g : Int → Int} {pre fl post : List Int} {i : Nat} (hi : i < fl.length) {y : Int} (hy : g (fl.getD i 0) = y) : (part g pre fl post i).set (pre.length + i) y = part g pre fl post (i + 1) := by
  subst hy
  unfold part
  have e : fl.getD i 0 = fl[i] := by simp [List.getD_eq_getElem?_getD, List.getElem?_eq_getElem hi]
  rw [List.drop_eq_getElem_cons hi, List.cons_append, mid_set _ _ _ _ (by simp; omega), take_map_snoc hi, e]
  simp only [List.append_assoc, List.cons_append, List.nil_append]
theorem part_same {g : Int → Int} {pre fl post : List Int} {i : Nat} (hi : i < fl.length) (hy : g (fl.getD i 0) = fl.getD i 0) : part g pre fl post (i + 1) = part g pre fl post i := by
  unfold part
  have e : fl.getD i 0 = fl[i] := by simp [List.getD_eq_getElem?_getD, List.getElem?_eq_getElem hi]
  rw [e] at hy
  rw [List.drop_eq_getElem_cons hi, take_map_snoc hi, hy]
  simp only [List.append_assoc, List.cons_append, List.nil_append]

theorem Own.grown {w w' : World} {base : Nat} {v : Value} {xs : List Int} (h : Own w base v xs) {g : Nat} (hg : w.grownBy w' (some g)) (hne : v.ownBlock ≠ some g) : Own w' base v xs := World.ownsRow.kept h hg (.inr hne)

/-- A word that leads to an object that does not move along. -/
def Astray (m : Int → Option Int) (y : Int) : Prop := y % 2 = 1 ∧ m (y / 2) = none

set_option maxHeartbeats 1600000 in
/-- redirect, as long as all references have a place to go to. -/
theorem redirect_yes (aw : Option Addr) (f c g n cap base mb k off : Nat) (m : Int → Option Int) (pre fl post : List Int) (w : World) (ho : Own w base (.slice (some ⟨g, 0, none⟩) n cap) (pre ++ (fl ++ post))) (hoff : pre.length = off) (hfl : fl.length = f) (hf6 : f ≤ 6) (hn : n ≤ 400)
    (haw : 0 < f → aw = some ⟨g, off, none⟩) (hm : MapI w mb k m) (hmb : mb ≠ g) (hfit : ∀ y ∈ fl, Fits y) (hmf : ∀ x v, m x = some v → 0 ≤ v ∧ v ≤ 400) (hall : ∀ y ∈ fl, ¬ Astray m y) :
    Calls Try.prog 83 #[.slice aw f c, .map (some mb)] w fun e w' => e = .returned (.bool true) ∧ Own w' base (.slice (some ⟨g, 0, none⟩) n cap) (pre ++ (fl.map (redir m) ++ post)) ∧ w.grownBy w' (some g) := by
  have hlen := ho.reads.1
  have HO := Lib.hide ho
  have HOFF := Lib.hide hoff
  have HFL := Lib.hide hfl
  have HAW := Lib.hide haw
  have HM := Lib.hide hm
  have HFI := Lib.hide hfit
  have HMF := Lib.hide hmf
  have HALL := Lib.hide hall
  have hofn : off + f ≤ n := by
    rw [← hlen]
    simp
    omega
  have HMB := Lib.hide hmb
  clear ho hoff hfl haw hm hfit hmf hall hlen hmb
  go_enter Try.func83, Try.ntmps83
  go_wp2
  go_loopg [12] f (fun q u wr => ∃ i : Nat, i ≤ f ∧ q = f - i ∧ u = .int .i64 i ∧ Own wr base (.slice (some ⟨g, 0, none⟩) n cap) (part (redir m) pre fl post i) ∧ MapI wr mb k m ∧ w.grownBy wr (some g))
  case atStart => exact ⟨0, Nat.zero_le _, rfl, rfl, by rw [part_zero]; exact HO.out, HM.out, World.grownBy.refl _ _⟩
  case round =>
    obtain ⟨i, hi, rfl, rfl, hown, hmap, hgr⟩ := hrel
    have HOW := Lib.hide hown
    have HMA := Lib.hide hmap
    have HGR := Lib.hide hgr
    clear hown hmap hgr
    by_cases hlt : i < f
    · obtain rfl := HAW.out (by omega)
      have hif : i < fl.length := by rw [HFL.out]; exact hlt
      obtain ⟨g', he, hg1, hg2, hgc, hgf⟩ := HOW.out.row (by omega)
      injection he with he
      injection he with he
      subst he
      have e1 := hgc (off + i) (by omega)
      have e2 := hgf (off + i)
      have hpg := part_get (g := redir m) (pre := pre) (post := post) hif
      rw [HOFF.out] at hpg
      rw [hpg] at e1
      clear hgc hgf hpg
      have hyf := HFI.out _ (mem_at.2 ⟨i, hif, rfl⟩)
      have hya := HALL.out _ (mem_at.2 ⟨i, hif, rfl⟩)
      have hps := fun (y : Int) (h : redir m (fl.getD i 0) = y) => part_set (g := redir m) (pre := pre) (post := post) hif h
      have hpn := fun (h : redir m (fl.getD i 0) = fl.getD i 0) => part_same (g := redir m) (pre := pre) (post := post) hif h
      rw [HOFF.out] at hps
      obtain ⟨y, hy⟩ : ∃ y, fl.getD i 0 = y := ⟨_, rfl⟩
      rw [hy] at e1 hyf hya hps hpn
      have HPS := Lib.hide hps
      have HPN := Lib.hide hpn
      have HYF := Lib.hide hyf
      clear hy hps hpn hyf
      by_cases hpar : y % 2 = 1
      · have hd : (y % 2 != 1) = false := by simpa using hpar
        obtain ⟨v, hv⟩ : ∃ v, m (y / 2) = some v := by
          cases hmv : m (y / 2) with
          | none => exact absurd ⟨hpar, hmv⟩ hya
          | some v => exact ⟨v, rfl⟩
        obtain ⟨hv1, hv2⟩ := HMF.out _ _ hv
        have hq3 : Fits (y / 2) := by
          have := HYF.out.1
          have := HYF.out.2
          exact ⟨by omega, by omega⟩
        have hred : redir m y = 2 * v + 1 := by unfold redir; rw [if_pos hpar, hv]; rfl
        have hset := HPS.out _ hred
        have HSET := Lib.hide hset
        have LK := Lib.hide (fun w' (h : MapI w' mb k m) => h.look_ok hq3 v true (by rw [hv]; rfl) (by rw [hv]; rfl))
        clear hpar hv hya hred hset hq3
        have hne : mb < wr.heap.size := HMA.out.lt
        go_wp2_with (first
          | (go_at_call 26; refine (of_any y _ HYF.out).mono ?_; rintro e w5 ⟨rfl, hb5⟩; have hlk := LK.out (w5.alloc (.cells #[.int .i64 (y % 2), .int .i64 (y / 2)] 34)) (HMA.out.kept ((Below.heap_alloc _ _ _ (Nat.lt_of_lt_of_le hne hb5.size)).trans (hb5.block _ hne))))
          | (go_at_call 55; refine (word_any 1 v _ (by omega) (by omega)).mono ?_; rintro e w6 ⟨rfl, hb6⟩; have hb56 : Below wr.heap.size wr w6 := (by repeat (first | exact Below.refl _ _ | assumption | refine Below.drew ?_ | refine below_drewN ?_ _ | refine Below.allocs ?_ | refine Below.next ?_ (by assumption) | refine Below.setCell ?_ (by dsimp only; omega) _)); have d1 := (hb56.cell (p := ⟨g, off + i, none⟩) hg2).trans e1; have d2 := (hb56.frozen (p := ⟨g, off + i, none⟩) hg2).trans e2; have d3 : g < w6.heap.size := Nat.lt_of_lt_of_le hg2 hb56.size))
        go_roundg (f - (i + 1))
        case measure => omega
        case rel =>
          have hw1 : wordOf 1 v = 2 * v + 1 := by simp [wordOf]
          refine ⟨i + 1, by omega, rfl, by go_num, ?_, ?_, ?_⟩
          · have := (Own.below HOW.out hb56).stored (off + i) (2 * v + 1)
            rw [HSET.out] at this
            rw [hw1]
            exact this
          · exact (HMA.out.kept (hb56.block _ hne)).kept (Below.heap_setCell _ _ _ _ HMB.out)
          · refine grownBy_trans (grownBy_trans HGR.out (Below.grownBy hb56 _)) ⟨rfl, rfl, rfl, by simp [World.setCell], fun q hq hne => Below.heap_setCell _ _ _ _ (fun e => hne (by rw [e]))⟩
      · have hd : (y % 2 != 1) = true := by simpa using hpar
        have hred : redir m y = y := by unfold redir; rw [if_neg hpar]
        have hsame := HPN.out hred
        have HSAME := Lib.hide hsame
        clear hpar hya hred hsame
        go_wp2_with (go_at_call 26; refine (of_any y _ HYF.out).mono ?_; rintro e w5 ⟨rfl, hb5⟩)
        have hb5' : Below wr.heap.size wr (w5.alloc (.cells #[.int .i64 (y % 2), .int .i64 (y / 2)] 34)) := (by repeat (first | exact Below.refl _ _ | assumption | refine Below.drew ?_ | refine below_drewN ?_ _ | refine Below.allocs ?_ | refine Below.next ?_ (by assumption) | refine Below.setCell ?_ (by dsimp only; omega) _))
        go_roundg (f - (i + 1))
        case measure => omega
        case rel =>
          refine ⟨i + 1, by omega, rfl, by go_num, ?_, HMA.out.kept (hb5'.block _ HMA.out.lt), grownBy_trans HGR.out (Below.grownBy hb5' _)⟩
          rw [HSAME.out]
          exact Own.below HOW.out hb5'
    · obtain rfl : i = f := by omega
      have hown := HOW.out
      rw [← HFL.out, part_all] at hown
      have HOW2 := Lib.hide hown
      clear hown
      go_wp2
      go_ret
      exact ⟨rfl, HOW2.out, HGR.out⟩

set_option maxHeartbeats 1600000 in
/-- redirect, where a reference has no place to go to. -/
theorem redirect_no (aw : Option Addr) (f c g n cap base mb k off : Nat) (m : Int → Option Int) (pre fl post : List Int) (w : World) (ho : Own w base (.slice (some ⟨g, 0, none⟩) n cap) (pre ++ (fl ++ post))) (hoff : pre.length = off) (hfl : fl.length = f) (hf6 : f ≤ 6) (hn : n ≤ 400)
    (haw : 0 < f → aw = some ⟨g, off, none⟩) (hm : MapI w mb k m) (hmb : mb ≠ g) (hfit : ∀ y ∈ fl, Fits y) (hmf : ∀ x v, m x = some v → 0 ≤ v ∧ v ≤ 400) (hsome : ∃ y ∈ fl, Astray m y) :
    Calls Try.prog 83 #[.slice aw f c, .map (some mb)] w fun e w' => e = .returned (.bool false) ∧ w.grownBy w' (some g) := by
  have hlen := ho.reads.1
  have HO := Lib.hide ho
  have HOFF := Lib.hide hoff
  have HFL := Lib.hide hfl
  have HAW := Lib.hide haw
  have HM := Lib.hide hm
  have HFI := Lib.hide hfit
  have HMF := Lib.hide hmf
  have HSO := Lib.hide hsome
  have hofn : off + f ≤ n := by
    rw [← hlen]
    simp
    omega
  have HMB := Lib.hide hmb
  clear ho hoff hfl haw hm hfit hmf hsome hlen hmb
  go_enter Try.func83, Try.ntmps83
  go_wp2
  go_loopg [12] f (fun q u wr => ∃ i : Nat, i ≤ f ∧ q = f - i ∧ u = .int .i64 i ∧ Own wr base (.slice (some ⟨g, 0, none⟩) n cap) (part (redir m) pre fl post i) ∧ MapI wr mb k m ∧ w.grownBy wr (some g) ∧ ∀ j, j < i → ¬ Astray m (fl.getD j 0))
  case atStart => exact ⟨0, Nat.zero_le _, rfl, rfl, by rw [part_zero]; exact HO.out, HM.out, World.grownBy.refl _ _, fun j hj => absurd hj (Nat.not_lt_zero _)⟩
  case round =>
    obtain ⟨i, hi, rfl, rfl, hown, hmap, hgr, hno⟩ := hrel
    have HOW := Lib.hide hown
    have HMA := Lib.hide hmap
    have HGR := Lib.hide hgr
    have HNO := Lib.hide hno
    clear hown hmap hgr hno
    by_cases hlt : i < f
    · obtain rfl := HAW.out (by omega)
      have hif : i < fl.length := by rw [HFL.out]; exact hlt
      obtain ⟨g', he, hg1, hg2, hgc, hgf⟩ := HOW.out.row (by omega)
      injection he with he
      injection he with he
      subst he
      have e1 := hgc (off + i) (by omega)
      have e2 := hgf (off + i)
      have hpg := part_get (g := redir m) (pre := pre) (post := post) hif
      rw [HOFF.out] at hpg
      rw [hpg] at e1
      clear hgc hgf hpg
      have hyf := HFI.out _ (mem_at.2 ⟨i, hif, rfl⟩)
      have hps := fun (y : Int) (h : redir m (fl.getD i 0) = y) => part_set (g := redir m) (pre := pre) (post := post) hif h
      have hpn := fun (h : redir m (fl.getD i 0) = fl.getD i 0) => part_same (g := redir m) (pre := pre) (post := post) hif h
      rw [HOFF.out] at hps
      obtain ⟨y, hy⟩ : ∃ y, fl.getD i 0 = y := ⟨_, rfl⟩
      rw [hy] at e1 hyf hps hpn
      have HPS := Lib.hide hps
      have HPN := Lib.hide hpn
      have HYF := Lib.hide hyf
      have HY := Lib.hide hy
      clear hy hps hpn hyf
      have hne : mb < wr.heap.size := HMA.out.lt
      by_cases hpar : y % 2 = 1
      · have hd : (y % 2 != 1) = false := by simpa using hpar
        have hq3 : Fits (y / 2) := by
          have := HYF.out.1
          have := HYF.out.2
          exact ⟨by omega, by omega⟩
        cases hmv : m (y / 2) with
        | none =>
          have LK := Lib.hide (fun w' (h : MapI w' mb k m) => h.look_ok hq3 0 false (by rw [hmv]; rfl) (by rw [hmv]; rfl))
          clear hpar hmv hq3
          go_wp2_with (go_at_call 26; refine (of_any y _ HYF.out).mono ?_; rintro e w5 ⟨rfl, hb5⟩; have hlk := LK.out (w5.alloc (.cells #[.int .i64 (y % 2), .int .i64 (y / 2)] 34)) (HMA.out.kept ((Below.heap_alloc _ _ _ (Nat.lt_of_lt_of_le hne hb5.size)).trans (hb5.block _ hne))))
          have hb5' : Below wr.heap.size wr (w5.alloc (.cells #[.int .i64 (y % 2), .int .i64 (y / 2)] 34)) := (by repeat (first | exact Below.refl _ _ | assumption | refine Below.drew ?_ | refine below_drewN ?_ _ | refine Below.allocs ?_ | refine Below.next ?_ (by assumption) | refine Below.setCell ?_ (by dsimp only; omega) _))
          go_ret
          exact ⟨rfl, grownBy_trans HGR.out (Below.grownBy hb5' _)⟩
        | some v =>
          obtain ⟨hv1, hv2⟩ := HMF.out _ _ hmv
          have hred : redir m y = 2 * v + 1 := by unfold redir; rw [if_pos hpar, hmv]; rfl
          have hset := HPS.out _ hred
          have HSET := Lib.hide hset
          have hnot : ¬ Astray m y := fun h => by have := h.2; rw [hmv] at this; cases this
          have HNT := Lib.hide hnot
          have LK := Lib.hide (fun w' (h : MapI w' mb k m) => h.look_ok hq3 v true (by rw [hmv]; rfl) (by rw [hmv]; rfl))
          clear hpar hmv hred hset hq3 hnot
          go_wp2_with (first
            | (go_at_call 26; refine (of_any y _ HYF.out).mono ?_; rintro e w5 ⟨rfl, hb5⟩; have hlk := LK.out (w5.alloc (.cells #[.int .i64 (y % 2), .int .i64 (y / 2)] 34)) (HMA.out.kept ((Below.heap_alloc _ _ _ (Nat.lt_of_lt_of_le hne hb5.size)).trans (hb5.block _ hne))))
            | (go_at_call 55; refine (word_any 1 v _ (by omega) (by omega)).mono ?_; rintro e w6 ⟨rfl, hb6⟩; have hb56 : Below wr.heap.size wr w6 := (by repeat (first | exact Below.refl _ _ | assumption | refine Below.drew ?_ | refine below_drewN ?_ _ | refine Below.allocs ?_ | refine Below.next ?_ (by assumption) | refine Below.setCell ?_ (by dsimp only; omega) _)); have d1 := (hb56.cell (p := ⟨g, off + i, none⟩) hg2).trans e1; have d2 := (hb56.frozen (p := ⟨g, off + i, none⟩) hg2).trans e2; have d3 : g < w6.heap.size := Nat.lt_of_lt_of_le hg2 hb56.size))
          go_roundg (f - (i + 1))
          case measure => omega
          case rel =>
            have hw1 : wordOf 1 v = 2 * v + 1 := by simp [wordOf]
            refine ⟨i + 1, by omega, rfl, by go_num, ?_, ?_, ?_, fun j hj => ?_⟩
            · have := (Own.below HOW.out hb56).stored (off + i) (2 * v + 1)
              rw [HSET.out] at this
              rw [hw1]
              exact this
            · exact (HMA.out.kept (hb56.block _ hne)).kept (Below.heap_setCell _ _ _ _ HMB.out)
            · refine grownBy_trans (grownBy_trans HGR.out (Below.grownBy hb56 _)) ⟨rfl, rfl, rfl, by simp [World.setCell], fun q hq hne => Below.heap_setCell _ _ _ _ (fun e => hne (by rw [e]))⟩
            · rcases Nat.lt_or_ge j i with h | h
              · exact HNO.out j h
              · obtain rfl : j = i := by omega
                rw [HY.out]; exact HNT.out
      · have hd : (y % 2 != 1) = true := by simpa using hpar
        have hred : redir m y = y := by unfold redir; rw [if_neg hpar]
        have hsame := HPN.out hred
        have HSAME := Lib.hide hsame
        have HPAR := Lib.hide hpar
        clear hpar hred hsame
        go_wp2_with (go_at_call 26; refine (of_any y _ HYF.out).mono ?_; rintro e w5 ⟨rfl, hb5⟩)
        have hb5' : Below wr.heap.size wr (w5.alloc (.cells #[.int .i64 (y % 2), .int .i64 (y / 2)] 34)) := (by repeat (first | exact Below.refl _ _ | assumption | refine Below.drew ?_ | refine below_drewN ?_ _ | refine Below.allocs ?_ | refine Below.next ?_ (by assumption) | refine Below.setCell ?_ (by dsimp only; omega) _))
        go_roundg (f - (i + 1))
        case measure => omega
        case rel =>
          refine ⟨i + 1, by omega, rfl, by go_num, ?_, HMA.out.kept (hb5'.block _ HMA.out.lt), grownBy_trans HGR.out (Below.grownBy hb5' _), fun j hj => ?_⟩
          · rw [HSAME.out]
            exact Own.below HOW.out hb5'
          · rcases Nat.lt_or_ge j i with h | h
            · exact HNO.out j h
            · obtain rfl : j = i := by omega
              rw [HY.out]; exact fun h => HPAR.out h.1
    · exfalso
      obtain ⟨y, hy, ha⟩ := HSO.out
      obtain ⟨j, hj, rfl⟩ := mem_at.1 hy
      rw [HFL.out] at hj
      exact HNO.out j (by omega) ha

theorem take_splice {α : Type} (L Z : List α) {off n : Nat} (h1 : off + Z.length ≤ n) (h2 : n ≤ L.length) : (L.take off ++ (Z ++ L.drop (off + Z.length))).take n = (L.take n).take off ++ (Z ++ (L.take n).drop (off + Z.length)) := by
  have e1 : (L.take off).length = off := by simp; omega
  rw [List.take_append, e1, List.take_of_length_le (by omega : (L.take off).length ≤ n), List.take_append, List.take_of_length_le (by omega : Z.length ≤ n - off), List.take_take, Nat.min_eq_left (by omega), List.drop_take]
  rw [show n - off - Z.length = n - (off + Z.length) by omega]

/-- copy into a list of the call's own, as one step of a region that draws its order. -/
theorem step_copy_into {ops : Array Oper} {o : Oper} {a : Act} {w : World} {K : Act → World → Prop} {Q : Exit → Act → World → Prop} {E : Prop} (hgd : o.guard = none) (d s : Operand)
    (ho : o.op = .call { callee := .builtin .copy, args := #[d, s], argTypes := #[25, 25] })
    (dp sp : Option Addr) (dLen dCap sLen sCap : Nat) (hd : a.eval d = .slice dp dLen dCap) (hs : a.eval s = .slice sp sLen sCap)
    (g off n c base : Nat) (ys zs : List Int) (hown : Own w base (.slice (some ⟨g, 0, none⟩) n c) ys) (hn : zs.length = Nat.min sLen dLen) (h0 : 0 < zs.length) (hdp : dp = some ⟨g, off, none⟩)
    (hpos : ∃ ad, sp = some ad ∧ ∀ j v, (zs.map (Value.int .i64))[j]? = some v → w.cell? (ad.add j) = some v) (hfit : off + zs.length ≤ n)
    (h : ∀ w', Own w' base (.slice (some ⟨g, 0, none⟩) n c) (splice ys off zs) → w.grownBy w' (some g) → K (a.put o.dst (goInt zs.length)) w') :
    if Region.wanted o (yielded ops a.tmps) = true then Oper.wp Try.prog o a w K Q else E := by
  have hw : Region.wanted o (yielded ops a.tmps) = true := by simp [Region.wanted, hgd]
  rw [if_pos hw]
  have hyl := hown.reads.1
  obtain ⟨ad, rfl, hsrc⟩ := hpos
  subst hdp
  have hsz : (Try.prog.info? 3).map (·.size) = some 1 := by kernel_rfl
  rcases hown.2 with ⟨h2, _⟩ | ⟨g', cap, cur, hv, hg, hh, r1, r2, r3, r4⟩
  · cases h2
  · simp only [Value.slice.injEq] at hv
    obtain ⟨hv1, hv2, hv3⟩ := hv
    subst hv3
    injection hv1 with hv1
    injection hv1 with hv1
    subst hv1
    rw [Nat.mul_one] at r3 r4
    have hrun := run_copy_row (P := Try.prog) w 25 25 o.type 3 g off dLen dCap ad sLen sCap cur 3 (zs.map (Value.int .i64)) Try.underlying25 hsz hh (by simpa using hn) hsrc (by simp; omega) (ints_one zs)
    unfold Oper.wp
    simp only [List.length_map] at hrun
    simp [execOp, ho, resolve, invoke, builtin, hd, hs, hrun, Result.andThen]
    refine h _ ?_ ?_
    · have hsl : (splice ys off zs).length = n := by rw [length_splice _ _ _ (by omega)]; exact hyl
      refine ⟨by simp, .inr ⟨g, c, _, by rw [hsl], hg, setRow_heap w g _ _ _ _ hh, ?_, r2, ?_, ?_⟩⟩
      · rw [hsl]; omega
      · simp
        omega
      · rw [hsl, Nat.mul_one]
        have h5 : ys.map (Value.int .i64) = cur.toList.take n := by rw [← r4, hyl]
        unfold splice
        rw [List.map_append, List.map_append, List.map_take, List.map_drop, h5]
        have h6 := take_splice cur.toList (zs.map (Value.int .i64)) (off := off) (n := n) (by simp; omega) (by simp; omega)
        rw [List.length_map] at h6
        exact h6
    · exact ⟨rfl, rfl, rfl, by simp, fun k _ hk => setRow_other w g k _ (fun e => hk (by rw [e]))⟩
end Go.Proofs.Ytpdcaoagpjcgbab

/-
  What gc.move keeps in memory, and plain mathematics of one of its steps. It proves no statement by itself.
-/
namespace Go.Proofs.Ytpdcaoagpjcgbab
open Go.RowKit

/-- The words of an object as they lie. -/
def rawWords (xs : List Int) (p f : Nat) : List Int := xs.getD p 0 :: xs.getD (p + 1) 0 :: fieldsAt xs p f
theorem rawWords_length {xs : List Int} {p f : Nat} (h : p + 2 + f ≤ xs.length) : (rawWords xs p f).length = 2 + f := by
  unfold rawWords
  simp [fieldsAt_length h]
  omega
theorem rawWords_at {xs : List Int} {p f i : Nat} (hi : i < 2 + f) : (rawWords xs p f).getD i 0 = xs.getD (p + i) 0 := by
  unfold rawWords
  match i with
  | 0 => simp
  | 1 => simp
  | i + 2 =>
    have := fieldsAt_getD (xs := xs) (p := p) (f := f) (k := i) (by omega)
    rw [show p + (i + 2) = p + 2 + i by omega, ← this]
    simp [List.getD_eq_getElem?_getD]

theorem Room.copied {xs : List Int} {t : Nat} {l qs : List Nat} (h : Room xs t l qs) (h1 : 1 ≤ t) (ht : t ≤ xs.length) {n : Nat} (hn : xs.length = n) (m : Int → Option Int) {j : Nat} (hj : j < qs.length) :
    splice (built n xs m qs j) (toAt xs qs j) (rawWords xs (qs.getD j 0) (lenAt xs (qs.getD j 0))) =
      (front xs m qs j ++ [xs.getD (qs.getD j 0) 0, xs.getD (qs.getD j 0 + 1) 0]) ++ (fieldsAt xs (qs.getD j 0) (lenAt xs (qs.getD j 0)) ++ List.replicate (n - toAt xs qs (j + 1)) 0) := by
  have hfl := h.front_length ht m j (by omega)
  have hts := toAt_succ (xs := xs) hj
  have hen := h.end_le h1 (j + 1) (by omega)
  have hfit := h.fit (getD_mem hj)
  have hrl := rawWords_length (xs := xs) (p := qs.getD j 0) (f := lenAt xs (qs.getD j 0)) (by omega)
  unfold splice built
  rw [hrl, ← hfl, List.take_left, List.drop_append, List.drop_eq_nil_of_le (by omega), List.drop_replicate]
  rw [hfl, show n - toAt xs qs j - (toAt xs qs j + (2 + lenAt xs (qs.getD j 0)) - toAt xs qs j) = n - toAt xs qs (j + 1) by omega]
  simp [rawWords]

theorem Room.redirected {xs : List Int} {t : Nat} {l qs : List Nat} (h : Room xs t l qs) (h1 : 1 ≤ t) (ht : t ≤ xs.length) {n : Nat} (m : Int → Option Int) {j : Nat} (hj : j < qs.length) :
    (front xs m qs j ++ [xs.getD (qs.getD j 0) 0, xs.getD (qs.getD j 0 + 1) 0]) ++ ((fieldsAt xs (qs.getD j 0) (lenAt xs (qs.getD j 0))).map (redir m) ++ List.replicate (n - toAt xs qs (j + 1)) 0) = built n xs m qs (j + 1) := by
  unfold built
  rw [h.front_length ht m (j + 1) (by omega), front_succ hj]
  simp [objWords]

theorem astray_iff {xs : List Int} {qs : List Nat} {m : Int → Option Int} (hd : Dest xs qs qs.length m) {p f : Nat} (hf : xs.getD (p + 1) 0 = (f : Int)) (hlen : p + 2 + f ≤ xs.length) :
    (∃ y ∈ fieldsAt xs p f, Astray m y) ↔ ¬ ∀ q, Refers xs p q → q ∈ nums qs := by
  constructor
  · rintro ⟨y, hy, h1, h2⟩ hall
    obtain ⟨k, hk, rfl⟩ := mem_at.1 hy
    rw [fieldsAt_length hlen] at hk
    rw [fieldsAt_getD hk] at h1 h2
    have hz : xs.getD (p + 2 + k) 0 / 2 ≠ 0 := fun e => by rw [e, hd.zero] at h2; cases h2
    have := hd.has.2 (.inr (hall _ ⟨k, by rw [hf]; omega, h1, rfl, hz⟩))
    rw [h2] at this
    cases this
  · intro hn
    refine Classical.byContradiction fun hno => hn fun q hq => ?_
    obtain ⟨k, hk, h1, h2, h3⟩ := hq
    rw [hf] at hk
    have hk' : k < f := by omega
    have hmem : xs.getD (p + 2 + k) 0 ∈ fieldsAt xs p f := mem_at.2 ⟨k, by rw [fieldsAt_length hlen]; exact hk', fieldsAt_getD hk'⟩
    cases hm : m q with
    | none => exact absurd ⟨_, hmem, h1, by rw [h2]; exact hm⟩ hno
    | some v =>
      have := (hd.has (x := q)).1 (by rw [hm]; rfl)
      exact this.resolve_left h3

theorem Dest.small {xs : List Int} {t : Nat} {l qs : List Nat} {m : Int → Option Int} (hd : Dest xs qs qs.length m) (h : Room xs t l qs) (h1 : 1 ≤ t) (ht : t ≤ 400) : ∀ x v, m x = some v → 0 ≤ v ∧ v ≤ 400 := by
  intro x v hv
  rcases (hd.has (x := x)).1 (by rw [hv]; rfl) with rfl | hm
  · rw [hd.zero] at hv
    injection hv with hv
    omega
  · obtain ⟨i, hi, rfl⟩ := mem_at.1 hm
    rw [nums_length] at hi
    rw [nums_getD, hd.new i hi] at hv
    injection hv with hv
    have := h.end_le h1 i (by omega)
    omega

theorem Box2.kept {w w' : World} {b : Nat} {x y : Value} (h : Box2 w b x y) (e : w'.heap[b]? = w.heap[b]?) (hs : w.heap.size ≤ w'.heap.size) : Box2 w' b x y :=
  ⟨(World.cell?_of_block e).trans h.c0, (World.cell?_of_block e).trans h.c1, (World.frozen?_of_block e).trans h.f0, (World.frozen?_of_block e).trans h.f1, Nat.lt_of_lt_of_le h.lt hs⟩

/-- What move keeps in memory: its argument, its result, the new heap (its box at block M, its words in block g, the map of new addresses behind the box). -/
structure MoveSt (w wr : World) (ah : Value) (top : Int) (g M n c t kk : Nat) (ys : List Int) (m : Int → Option Int) : Prop where
  bh : Box2 wr w.heap.size ah (.int .i64 top)
  br : Box2 wr (w.heap.size + 1) (.slice none 0 0) (.int .i64 0)
  bm : Box2 wr M (.slice (some ⟨g, 0, none⟩) n c) (.int .i64 t)
  own : Own wr (w.heap.size + 2) (.slice (some ⟨g, 0, none⟩) n c) ys
  map : MapI wr (M + 1) kk m
  below : Below w.heap.size w wr
  gM : g < M

theorem MoveSt.glt {w wr : World} {ah : Value} {top : Int} {g M n c t kk : Nat} {ys : List Int} {m : Int → Option Int} (h : MoveSt w wr ah top g M n c t kk ys m) : w.heap.size + 2 ≤ g := (World.ownsRow.lt h.own g rfl).1

theorem MoveSt.next {w wr w' : World} {ah : Value} {top : Int} {g M n c t kk : Nat} {ys : List Int} {m : Int → Option Int} (h : MoveSt w wr ah top g M n c t kk ys m) (hb : Below wr.heap.size wr w') : MoveSt w w' ah top g M n c t kk ys m :=
  ⟨h.bh.next hb, h.br.next hb, h.bm.next hb, Own.below h.own hb, h.map.kept (hb.block _ h.map.lt), Below.next h.below hb, h.gM⟩

/-- The words change. -/
theorem MoveSt.words {w wr w' : World} {ah : Value} {top : Int} {g M n c t kk : Nat} {ys ys' : List Int} {m : Int → Option Int} (h : MoveSt w wr ah top g M n c t kk ys m) (hg : wr.grownBy w' (some g)) (ho : Own w' (w.heap.size + 2) (.slice (some ⟨g, 0, none⟩) n c) ys') : MoveSt w w' ah top g M n c t kk ys' m := by
  have h1 := h.glt
  have h2 := h.gM
  refine ⟨h.bh.kept (hg.block _ h.bh.lt (fun e => by have := Option.some.inj e; omega)) hg.size, h.br.kept (hg.block _ h.br.lt (fun e => by have := Option.some.inj e; omega)) hg.size, h.bm.kept (hg.block _ h.bm.lt (fun e => by have := Option.some.inj e; omega)) hg.size, ho,
    h.map.kept (hg.block _ h.map.lt (fun e => by have := Option.some.inj e; omega)), ?_, h2⟩
  exact h.below.grown hg h.below.size (fun k hk => by have := Option.some.inj hk; omega)

/-- The map changes. -/
theorem MoveSt.puts {w wr w' : World} {ah : Value} {top : Int} {g M n c t kk kk' : Nat} {ys : List Int} {m m' : Int → Option Int} (h : MoveSt w wr ah top g M n c t kk ys m) (hg : wr.grownBy w' (some (M + 1))) (hm : MapI w' (M + 1) kk' m') : MoveSt w w' ah top g M n c t kk' ys m' := by
  have h1 := h.glt
  have h2 := h.gM
  refine ⟨h.bh.kept (hg.block _ h.bh.lt (fun e => by have := Option.some.inj e; omega)) hg.size, h.br.kept (hg.block _ h.br.lt (fun e => by have := Option.some.inj e; omega)) hg.size, h.bm.kept (hg.block _ h.bm.lt (fun e => by have := Option.some.inj e; omega)) hg.size,
    h.own.grown hg (by simp [Value.ownBlock]; omega), hm, ?_, h2⟩
  exact h.below.grown hg h.below.size (fun k hk => by have := Option.some.inj hk; omega)

/-- The top of the new heap changes. -/
theorem MoveSt.tops {w wr : World} {ah : Value} {top : Int} {g M n c t kk : Nat} {ys : List Int} {m : Int → Option Int} (h : MoveSt w wr ah top g M n c t kk ys m) (t' : Nat) : MoveSt w (wr.setCell ⟨M, 1, none⟩ (.int .i64 t')) ah top g M n c t' kk ys m := by
  have h1 := h.glt
  have h2 := h.gM
  refine ⟨h.bh.far (by dsimp only; omega) _, h.br.far (by dsimp only; omega) _, ?_, h.own.far (by simp [Value.ownBlock]; omega) _, h.map.kept (Below.heap_setCell _ _ _ _ (by dsimp only; omega)), h.below.setCell (by dsimp only; omega) _, h2⟩
  obtain ⟨b0, b1, b2, b3, b4⟩ := h.bm
  constructor <;> go_simp

theorem Moves.at {w : World} {a : Option Addr} {ps : List (Nat × Nat)} (h : Moves w a ps) (h0 : 0 < ps.length) : ∃ b o, a = some ⟨b, o, none⟩ ∧ b < w.heap.size ∧ ∀ i, i < ps.length → w.cell? ⟨b, o + i * 2, none⟩ = some (.int .i64 ((ps.getD i (0, 0)).1 : Int)) ∧ w.cell? ⟨b, o + i * 2 + 1, none⟩ = some (.int .i64 ((ps.getD i (0, 0)).2 : Int)) := by
  rcases h with rfl | h
  · simp at h0
  · exact h

theorem planOf_getD {xs : List Int} {qs : List Nat} {k i : Nat} (hi : i < k) : (planOf xs qs k).getD i (0, 0) = (qs.getD i 0, toAt xs qs i) := by
  simp [planOf, List.getD_eq_getElem?_getD, List.getElem?_map, List.getElem?_range hi]
end Go.Proofs.Ytpdcaoagpjcgbab

/-
  Plain mathematics of compaction: the compacted words are a valid heap, whose compaction is the heap itself. It proves no statement by itself.
-/
namespace Go.Proofs.Ytpdcaoagpjcgbab

/-- The new addresses. -/
def destOf (xs : List Int) (qs : List Nat) : List Nat := (List.range qs.length).map (toAt xs qs)
theorem destOf_length (xs : List Int) (qs : List Nat) : (destOf xs qs).length = qs.length := by simp [destOf]
theorem destOf_getD {xs : List Int} {qs : List Nat} {i : Nat} (hi : i < qs.length) : (destOf xs qs).getD i 0 = toAt xs qs i := by
  simp [destOf, List.getD_eq_getElem?_getD, hi]
theorem mem_destOf {xs : List Int} {qs : List Nat} {d : Nat} : d ∈ destOf xs qs ↔ ∃ i, i < qs.length ∧ d = toAt xs qs i := by
  simp only [destOf, List.mem_map, List.mem_range]
  constructor
  · rintro ⟨i, hi, rfl⟩; exact ⟨i, hi, rfl⟩
  · rintro ⟨i, hi, rfl⟩; exact ⟨i, hi, rfl⟩

theorem front_prefix (xs : List Int) (m : Int → Option Int) (qs : List Nat) (i : Nat) : ∀ d, i + d ≤ qs.length → ∃ r, front xs m qs (i + d) = front xs m qs i ++ r
  | 0, _ => ⟨[], by simp⟩
  | d + 1, h => by
    obtain ⟨r, hr⟩ := front_prefix xs m qs i d (by omega)
    refine ⟨r ++ objWords xs m (qs.getD (i + d) 0), ?_⟩
    rw [← Nat.add_assoc, front_succ (by omega), hr, List.append_assoc]

theorem getD_append_right' {a b : List Int} {n i : Nat} (h : a.length = n) : (a ++ b).getD (n + i) 0 = b.getD i 0 := by
  subst h
  simp [List.getD_eq_getElem?_getD, List.getElem?_append_right]
theorem getD_append_left' {a b : List Int} {i : Nat} (h : i < a.length) : (a ++ b).getD i 0 = a.getD i 0 := by
  simp [List.getD_eq_getElem?_getD, List.getElem?_append_left h]

theorem third_map (x y : Int) (g : Int → Int) {fs : List Int} {k : Nat} (h : k < fs.length) : (x :: y :: fs.map g).getD (k + 2) 0 = g (fs.getD k 0) := by
  simp [List.getD_eq_getElem?_getD, List.getElem?_eq_getElem h]

theorem getD_elem {fs : List Int} {k : Nat} (h : k < fs.length) : fs.getD k 0 = fs[k] := by simp [List.getD_eq_getElem?_getD, List.getElem?_eq_getElem h]

/-- The words of the i-th object behind the move. -/
theorem Room.built_at {xs : List Int} {t : Nat} {l qs : List Nat} (h : Room xs t l qs) (ht : t ≤ xs.length) (n : Nat) (m : Int → Option Int) {i s : Nat} (hi : i < qs.length) (hs : s < 2 + lenAt xs (qs.getD i 0)) :
    (built n xs m qs qs.length).getD (toAt xs qs i + s) 0 = (objWords xs m (qs.getD i 0)).getD s 0 := by
  obtain ⟨r, hr⟩ := front_prefix xs m qs (i + 1) (qs.length - (i + 1)) (by omega)
  rw [show i + 1 + (qs.length - (i + 1)) = qs.length by omega, front_succ hi] at hr
  unfold built
  have hl := objWords_length (xs := xs) (m := m) (p := qs.getD i 0) (by have := (h.fit (getD_mem hi)).2.1; omega)
  rw [hr, List.append_assoc, List.append_assoc, getD_append_right' (h.front_length ht m i (by omega)), getD_append_left' (by rw [hl]; exact hs)]

theorem Room.built_state {xs : List Int} {t : Nat} {l qs : List Nat} (h : Room xs t l qs) (ht : t ≤ xs.length) (n : Nat) (m : Int → Option Int) {i : Nat} (hi : i < qs.length) : (built n xs m qs qs.length).getD (toAt xs qs i) 0 = xs.getD (qs.getD i 0) 0 :=
  h.built_at ht n m hi (s := 0) (by omega)
theorem Room.built_len {xs : List Int} {t : Nat} {l qs : List Nat} (h : Room xs t l qs) (ht : t ≤ xs.length) (n : Nat) (m : Int → Option Int) {i : Nat} (hi : i < qs.length) : (built n xs m qs qs.length).getD (toAt xs qs i + 1) 0 = xs.getD (qs.getD i 0 + 1) 0 :=
  h.built_at ht n m hi (s := 1) (by omega)
theorem Room.built_field {xs : List Int} {t : Nat} {l qs : List Nat} (h : Room xs t l qs) (ht : t ≤ xs.length) (n : Nat) (m : Int → Option Int) {i k : Nat} (hi : i < qs.length) (hk : k < lenAt xs (qs.getD i 0)) :
    (built n xs m qs qs.length).getD (toAt xs qs i + 2 + k) 0 = redir m (xs.getD (qs.getD i 0 + 2 + k) 0) := by
  have := h.built_at ht n m hi (s := k + 2) (by omega)
  rw [show toAt xs qs i + (k + 2) = toAt xs qs i + 2 + k by omega] at this
  rw [this]
  unfold objWords
  have hl := fieldsAt_length (xs := xs) (p := qs.getD i 0) (f := lenAt xs (qs.getD i 0)) (by have := (h.fit (getD_mem hi)).2.1; omega)
  have h2 := fieldsAt_getD (xs := xs) (p := qs.getD i 0) (f := lenAt xs (qs.getD i 0)) hk
  rw [← h2]
  exact third_map _ _ _ (by omega)

theorem Room.built_rest {xs : List Int} {t : Nat} {l qs : List Nat} (h : Room xs t l qs) (ht : t ≤ xs.length) (n : Nat) (m : Int → Option Int) {k : Nat} (hk : toAt xs qs qs.length ≤ k) : (built n xs m qs qs.length).getD k 0 = 0 := by
  unfold built
  obtain ⟨d, rfl⟩ : ∃ d, k = toAt xs qs qs.length + d := ⟨k - toAt xs qs qs.length, by omega⟩
  rw [getD_append_right' (h.front_length ht m qs.length (Nat.le_refl _))]
  simp only [List.getD_eq_getElem?_getD, List.getElem?_replicate]
  split <;> rfl

theorem Room.lenAt_built {xs : List Int} {t : Nat} {l qs : List Nat} (h : Room xs t l qs) (ht : t ≤ xs.length) (n : Nat) (m : Int → Option Int) {i : Nat} (hi : i < qs.length) : lenAt (built n xs m qs qs.length) (toAt xs qs i) = lenAt xs (qs.getD i 0) := by
  unfold lenAt
  rw [h.built_len ht n m hi]

theorem Room.toAt_built {xs : List Int} {t : Nat} {l qs : List Nat} (h : Room xs t l qs) (ht : t ≤ xs.length) (n : Nat) (m : Int → Option Int) : ∀ j, j ≤ qs.length → toAt (built n xs m qs qs.length) (destOf xs qs) j = toAt xs qs j
  | 0, _ => by rw [toAt_zero, toAt_zero]
  | j + 1, hj => by
    rw [toAt_succ (by rw [destOf_length]; omega), toAt_succ (by omega), h.toAt_built ht n m j (by omega), destOf_getD (by omega), h.lenAt_built ht n m (by omega)]

/-- The new addresses lie one behind the other. -/
theorem toAt_lt {xs : List Int} {qs : List Nat} {i : Nat} : ∀ d, i + d + 1 ≤ qs.length → toAt xs qs i < toAt xs qs (i + d + 1)
  | 0, h => by rw [Nat.add_zero, toAt_succ (by omega)]; omega
  | d + 1, h => by
    have := toAt_lt (xs := xs) (qs := qs) (i := i) d (by omega)
    rw [show i + (d + 1) + 1 = (i + d + 1) + 1 by omega, toAt_succ (by omega)]
    omega

open Lw in
theorem Room.objs_built {xs : List Int} {t : Nat} {l qs : List Nat} (h : Room xs t l qs) (ht : t ≤ xs.length) (n : Nat) (m : Int → Option Int) : ∀ d i, i + d = qs.length → objs (built n xs m qs qs.length) (toAt xs qs qs.length) (toAt xs qs i) = some ((destOf xs qs).drop i)
  | 0, i, hi => by
    obtain rfl : i = qs.length := by omega
    rw [objs_end (Nat.le_refl _), List.drop_eq_nil_of_le (by rw [destOf_length]; omega)]
  | d + 1, i, hi => by
    have hi' : i < qs.length := by omega
    have h1 := toAt_lt (xs := xs) (qs := qs) (i := i) d (by omega)
    rw [show i + d + 1 = qs.length by omega] at h1
    have h2 := toAt_succ (xs := xs) hi'
    have h3 : toAt xs qs (i + 1) ≤ toAt xs qs qs.length := by
      rcases Nat.lt_or_ge (i + 1) qs.length with h' | h'
      · have := toAt_lt (xs := xs) (qs := qs) (i := i + 1) (qs.length - (i + 1) - 1) (by omega)
        rw [show i + 1 + (qs.length - (i + 1) - 1) + 1 = qs.length by omega] at this
        omega
      · rw [show i + 1 = qs.length by omega]; exact Nat.le_refl _
    have hb := h.built_len ht n m hi'
    obtain ⟨f1, f2, f3, f4⟩ := h.fit (getD_mem hi')
    have hfit : Fit (built n xs m qs qs.length) (toAt xs qs qs.length) (toAt xs qs i) := by
      refine ⟨by omega, ?_, ?_, ?_⟩ <;> rw [hb, f4] <;> omega
    have hn : nextOf (built n xs m qs qs.length) (toAt xs qs i) = toAt xs qs (i + 1) := by
      unfold nextOf
      rw [hb, f4]
      omega
    rw [objs_step h1 hfit, hn, h.objs_built ht n m d (i + 1) (by omega)]
    rw [List.drop_eq_getElem_cons (show i < (destOf xs qs).length by rw [destOf_length]; exact hi')]
    have := destOf_getD (xs := xs) hi'
    simp [List.getD_eq_getElem?_getD, List.getElem?_eq_getElem (show i < (destOf xs qs).length by rw [destOf_length]; exact hi')] at this
    simp [this]

/-- What a redirected field is. -/
theorem redir_cases {xs : List Int} {qs : List Nat} {m : Int → Option Int} (hd : Dest xs qs qs.length m) (hc : Closed xs qs qs.length) {i k : Nat} (hi : i < qs.length) (hk : (k : Int) < xs.getD (qs.getD i 0 + 1) 0) (y : Int) (hy : xs.getD (qs.getD i 0 + 2 + k) 0 = y) :
    (y % 2 = 0 ∧ redir m y = y) ∨ (y % 2 = 1 ∧ redir m y = 1) ∨ (y % 2 = 1 ∧ ∃ j, j < qs.length ∧ redir m y = 2 * ((toAt xs qs j : Nat) : Int) + 1) := by
  rcases Int.emod_two_eq y with h | h
  · left; exact ⟨h, by unfold redir; rw [if_neg (by omega)]⟩
  · right
    by_cases h0 : y / 2 = 0
    · left; refine ⟨h, ?_⟩
      unfold redir
      rw [if_pos h, h0, hd.zero]
      rfl
    · right; refine ⟨h, ?_⟩
      have hm := hc i hi (y / 2) ⟨k, hk, by rw [hy]; exact h, by rw [hy], h0⟩
      obtain ⟨j, hj, he⟩ := mem_at.1 hm
      rw [nums_length] at hj
      rw [nums_getD] at he
      refine ⟨j, hj, ?_⟩
      unfold redir
      rw [if_pos h, ← he, hd.new j hj]
      rfl

open Lw in
/-- The compacted words are a valid heap. -/
theorem valid_built {xs : List Int} {top : Int} {l qs : List Nat} (hv : Valid xs top l) (hk : Kept l qs) {m : Int → Option Int} (hd : Dest xs qs qs.length m) (hc : Closed xs qs qs.length) {n : Nat} (hn : xs.length = n) :
    Valid (built n xs m qs qs.length) ((toAt xs qs qs.length : Nat) : Int) (destOf xs qs) := by
  have h := Room.of hv.objects hk
  have v1 := hv.top1
  have v2 := hv.top2
  have v3 := hv.len1
  have v4 := hv.len2
  have ht : top.toNat ≤ xs.length := by omega
  have ht1 : 1 ≤ top.toNat := by omega
  have hbl := h.built_length ht1 ht hn m (Nat.le_refl qs.length)
  have hend := h.end_le ht1 qs.length (Nat.le_refl _)
  have h1 : 1 ≤ toAt xs qs qs.length := by unfold toAt; omega
  refine ⟨by omega, by omega, by omega, by omega, ⟨?_, fun d hdm => ?_⟩, fun d hdm k hkk => ?_, fun k hk1 _ => ?_⟩
  · have := h.objs_built ht n m qs.length 0 (by omega)
    rw [toAt_zero, List.drop_zero] at this
    rw [Int.toNat_natCast]
    exact this
  · obtain ⟨i, hi, rfl⟩ := mem_destOf.1 hdm
    unfold StOk
    rw [h.built_state ht n m hi]
    exact hv.objects.2 _ (hk.sub _ (getD_mem hi))
  · obtain ⟨i, hi, rfl⟩ := mem_destOf.1 hdm
    rw [h.built_len ht n m hi] at hkk
    have hkl : k < lenAt xs (qs.getD i 0) := by
      have := (h.fit (getD_mem hi)).2.2.2
      omega
    rw [h.built_field ht n m hi hkl]
    have hold := hv.fields _ (hk.sub _ (getD_mem hi)) k hkk
    rcases redir_cases hd hc hi hkk _ rfl with ⟨h2, h3⟩ | ⟨h2, h3⟩ | ⟨h2, j, hj, h3⟩
    · rw [h3]
      exact ⟨fun h4 => by omega, hold.2⟩
    · rw [h3]
      exact ⟨fun _ => .inl rfl, fun h4 => by omega⟩
    · rw [h3]
      exact ⟨fun _ => .inr ⟨toAt xs qs j, mem_destOf.2 ⟨j, hj, rfl⟩, by omega⟩, fun h4 => by omega⟩
  · rw [Int.toNat_natCast] at hk1
    exact h.built_rest ht n m hk1

theorem built_fits {xs : List Int} {t : Nat} {l qs : List Nat} {m : Int → Option Int} (hd : Dest xs qs qs.length m) (h : Room xs t l qs) (h1 : 1 ≤ t) (ht : t ≤ 400) (hf : ∀ x ∈ xs, Fits x) (n : Nat) : ∀ x ∈ built n xs m qs qs.length, Fits x := by
  have hz : Fits 0 := fits_small (by omega) (by omega)
  have hg : ∀ i, Fits (xs.getD i 0) := fun i => by
    rcases Nat.lt_or_ge i xs.length with h' | h'
    · rw [getD_elem h']; exact hf _ (List.getElem_mem h')
    · simp [List.getD_eq_getElem?_getD, List.getElem?_eq_none h']; exact hz
  intro x hx
  unfold built front at hx
  rcases List.mem_append.1 hx with hx | hx
  · rcases List.mem_cons.1 hx with rfl | hx
    · exact hz
    · obtain ⟨p, _, hx⟩ := List.mem_flatMap.1 hx
      unfold objWords at hx
      rcases List.mem_cons.1 hx with rfl | hx
      · exact hg _
      · rcases List.mem_cons.1 hx with rfl | hx
        · exact hg _
        · obtain ⟨y, hy, rfl⟩ := List.mem_map.1 hx
          unfold redir
          split
          · rcases he : m (y / 2) with _ | v
            · exact fits_small (by simp) (by simp)
            · have := hd.small h h1 ht _ _ he
              simp only [Option.getD_some]
              exact fits_small (by omega) (by omega)
          · unfold fieldsAt at hy
            exact hf _ (List.mem_of_mem_drop (List.mem_of_mem_take hy))
  · rw [List.eq_of_mem_replicate hx]; exact hz

open Lw in
/-- The compacted heap's compaction is itself. -/
theorem valid_again {xs : List Int} {top : Int} {l qs : List Nat} (hv : Valid xs top l) (hk : Kept l qs) {m : Int → Option Int} (hd : Dest xs qs qs.length m) (hc : Closed xs qs qs.length) {n : Nat} (hn : xs.length = n) {m2 : Int → Option Int} (hd2 : Dest (built n xs m qs qs.length) (destOf xs qs) (destOf xs qs).length m2) :
    built n (built n xs m qs qs.length) m2 (destOf xs qs) (destOf xs qs).length = built n xs m qs qs.length := by
  have h := Room.of hv.objects hk
  have v1 := hv.top1
  have v2 := hv.top2
  have ht : top.toNat ≤ xs.length := by omega
  have ht1 : 1 ≤ top.toNat := by omega
  have hbl := h.built_length ht1 ht hn m (Nat.le_refl qs.length)
  have hend := h.end_le ht1 qs.length (Nat.le_refl _)
  obtain ⟨ys, hys⟩ : ∃ ys, built n xs m qs qs.length = ys := ⟨_, rfl⟩
  have hobj : ∀ i, i < qs.length → objWords ys m2 (toAt xs qs i) = objWords xs m (qs.getD i 0) := by
    intro i hi
    obtain ⟨f1, f2, f3, f4⟩ := h.fit (getD_mem hi)
    have e0 := h.built_state ht n m hi
    have e1 := h.built_len ht n m hi
    have e2 := h.lenAt_built ht n m hi
    rw [hys] at e0 e1 e2
    unfold objWords
    rw [e0, e1, e2]
    have hspan : toAt xs qs i + 2 + lenAt xs (qs.getD i 0) ≤ ys.length := by
      have h2 := toAt_succ (xs := xs) hi
      have h3 := h.end_le ht1 (i + 1) (by omega)
      rw [← hys, hbl]
      omega
    have l1 := fieldsAt_length hspan
    have l2 := fieldsAt_length (xs := xs) (p := qs.getD i 0) (f := lenAt xs (qs.getD i 0)) (by omega)
    congr 2
    refine List.ext_getElem (by rw [List.length_map, List.length_map, l1, l2]) (fun k hk1 hk2 => ?_)
    rw [List.length_map, l1] at hk1
    rw [List.getElem_map, List.getElem_map]
    have g1 := fieldsAt_getD (xs := ys) (p := toAt xs qs i) (f := lenAt xs (qs.getD i 0)) hk1
    have g2 := fieldsAt_getD (xs := xs) (p := qs.getD i 0) (f := lenAt xs (qs.getD i 0)) hk1
    have g3 := h.built_field ht n m hi hk1
    rw [hys] at g3
    rw [getD_elem (by rw [l1]; exact hk1)] at g1
    rw [getD_elem (by rw [l2]; exact hk1)] at g2
    rw [g1, g2, g3]
    rcases redir_cases hd hc hi (k := k) (by rw [f4]; omega) _ rfl with ⟨h2, h3⟩ | ⟨h2, h3⟩ | ⟨h2, j, hj, h3⟩
    · rw [h3]; unfold redir; rw [if_neg (by omega)]
    · rw [h3]; unfold redir; rw [if_pos (by omega), show (1 : Int) / 2 = 0 by omega, hd2.zero]; rfl
    · rw [h3]
      unfold redir
      rw [if_pos (by omega), show (2 * ((toAt xs qs j : Nat) : Int) + 1) / 2 = ((toAt xs qs j : Nat) : Int) by omega]
      have := hd2.new j (by rw [destOf_length]; exact hj)
      rw [destOf_getD hj, h.toAt_built ht n m j (by omega)] at this
      rw [this]
      rfl
  have hfr : ∀ j, j ≤ qs.length → front ys m2 (destOf xs qs) j = front xs m qs j := by
    intro j
    induction j with
    | zero => intro _; rw [front_zero, front_zero]
    | succ j ih =>
      intro hj
      rw [front_succ (by rw [destOf_length]; omega), front_succ (by omega), ih (by omega), destOf_getD (by omega), hobj j (by omega)]
  rw [hys]
  conv => lhs; unfold built
  rw [destOf_length, hfr _ (Nat.le_refl _), ← hys]
  rfl
end Go.Proofs.Ytpdcaoagpjcgbab

