/-
  The walk of access of package stm. It proves no statement by itself.
-/
import Derived.Test.YtpdcaoagpjcgbabStmC
import Derived.Test.YtpdcaoagpjcgbabStmSet
set_option linter.unusedVariables false
set_option linter.unusedSimpArgs false
namespace Go.Proofs.Ytpdcaoagpjcgbab
open Go.RowKit Stm

/-- What access says where the thread may have the field. -/
def AccGood (c c' : Mc) (v : Val) (n x : Int) (u : Val) : Prop := x = 0 ∧ c' = c ∧ u = Stm.valOf (c.xs.getD (v.n.toNat + 2 + n.toNat) 0)

/-- A cell that is there is there behind a new block, too. -/
theorem alloc_cell {w : World} {o : Obj} {b j : Nat} {v : Value} (h : w.cell? ⟨b, j, none⟩ = some v) : (w.alloc o).cell? ⟨b, j, none⟩ = some v := by
  have hlt : b < w.heap.size := by
    unfold World.cell? at h
    rcases Nat.lt_or_ge b w.heap.size with h' | h'
    · exact h'
    · rw [Array.getElem?_eq_none h'] at h; cases h
  rw [← h]
  exact Below.cell (p := ⟨b, j, none⟩) (show Below w.heap.size w (w.alloc o) from (Below.refl _ _).alloc (Nat.le_refl _) _) hlt

/-- What access hands back: a code, and the field's value where the code is 0. -/
def AccEnd (w : World) (B mb k : Nat) (ρ : Roles) (c : Mc) (l : List Nat) (t : Nat) (v : Val) (n : Int) (e : Ending) (w' : World) : Prop :=
  ∃ (x : Int) (u : Val) (c' : Mc) (m' : Mem) (ρ' : Roles), CAcc c l t v n (.err x) c' (AccGood c c' v n x u) ∧ e = .returned (.tuple #[.agg #[.int .i64 u.k, .int .i64 u.n], .int .i64 x]) ∧ Mach w' B mb k ρ' c' m' ∧ Moved ρ w ρ' w'

set_option maxHeartbeats 1600000 in
theorem access_state (B mb k : Nat) (ρ : Roles) (c : Mc) (m : Mem) (l : List Nat) (t : Nat) (v : Val) (n : Int) (w : World) (h : Mach w B mb k ρ c m) (ht : t < 4) (ho : (c.tx t).isOpen = false) :
    Calls Try.prog 112 #[.pointer (some ⟨mb, 0, none⟩), .int .i64 t, .agg #[.int .i64 v.k, .int .i64 v.n], .int .i64 n] w (AccEnd w B mb k ρ c l t v n) := by
  have x0 := h.blk.isOpen t ht
  rw [ho] at x0
  have hlt := h.blk.lt
  have H := Lib.hide h
  have HC := Lib.hide (show CAcc c l t v n (.err 5) c (AccGood c c v n 5 .zero) from Ite.neg (by rw [ho]; simp) ⟨rfl, rfl⟩)
  clear h ho
  obtain ⟨vk, vn⟩ := v
  go_enter Try.func112, Try.ntmps112
  go_wp2
  refine bodyPost_ret (v := .tuple #[.agg #[.int .i64 0, .int .i64 0], .int .i64 5]) (by simp [results, Try.results112, go_sem]) rfl ?_
  exact ⟨5, .zero, c, m, ρ, HC.out, rfl, H.out.next (by repeat (first | exact Below.refl _ _ | assumption | refine Below.drew ?_ | refine below_drewN ?_ _ | refine Below.allocs ?_ | refine Below.next ?_ (by assumption) | refine Below.setCell ?_ (by dsimp only; omega) _)), Moved.of_below (by repeat (first | exact Below.refl _ _ | assumption | refine Below.drew ?_ | refine below_drewN ?_ _ | refine Below.allocs ?_ | refine Below.next ?_ (by assumption) | refine Below.setCell ?_ (by dsimp only; omega) _))⟩

set_option maxHeartbeats 1600000 in
theorem access_type (B mb k : Nat) (ρ : Roles) (c : Mc) (m : Mem) (l : List Nat) (t : Nat) (v : Val) (n : Int) (w : World) (h : Mach w B mb k ρ c m) (ht : t < 4) (ho : (c.tx t).isOpen = true) (hv : ¬ (v.k = 1 ∧ v.n ≠ 0)) :
    Calls Try.prog 112 #[.pointer (some ⟨mb, 0, none⟩), .int .i64 t, .agg #[.int .i64 v.k, .int .i64 v.n], .int .i64 n] w (AccEnd w B mb k ρ c l t v n) := by
  have x0 := h.blk.isOpen t ht
  rw [ho] at x0
  have hlt := h.blk.lt
  have H := Lib.hide h
  have HC := Lib.hide (show CAcc c l t v n (.err 7) c (AccGood c c v n 7 .zero) from Ite.pos ho (Ite.neg hv ⟨rfl, rfl⟩))
  clear h ho
  obtain ⟨vk, vn⟩ := v
  dsimp only at hv
  by_cases h1 : vk = 1
  · obtain rfl : vn = 0 := Classical.byContradiction fun hn => hv ⟨h1, hn⟩
    subst h1
    clear hv
    go_enter Try.func112, Try.ntmps112
    go_wp2
    refine bodyPost_ret (v := .tuple #[.agg #[.int .i64 0, .int .i64 0], .int .i64 7]) (by simp [results, Try.results112, go_sem]) rfl ?_
    exact ⟨7, .zero, c, m, ρ, HC.out, rfl, H.out.next (by repeat (first | exact Below.refl _ _ | assumption | refine Below.drew ?_ | refine below_drewN ?_ _ | refine Below.allocs ?_ | refine Below.next ?_ (by assumption) | refine Below.setCell ?_ (by dsimp only; omega) _)), Moved.of_below (by repeat (first | exact Below.refl _ _ | assumption | refine Below.drew ?_ | refine below_drewN ?_ _ | refine Below.allocs ?_ | refine Below.next ?_ (by assumption) | refine Below.setCell ?_ (by dsimp only; omega) _))⟩
  · have e1 : (vk != 1) = true := by simpa using h1
    clear hv h1
    go_enter Try.func112, Try.ntmps112
    go_wp2
    refine bodyPost_ret (v := .tuple #[.agg #[.int .i64 0, .int .i64 0], .int .i64 7]) (by simp [results, Try.results112, go_sem]) rfl ?_
    exact ⟨7, .zero, c, m, ρ, HC.out, rfl, H.out.next (by repeat (first | exact Below.refl _ _ | assumption | refine Below.drew ?_ | refine below_drewN ?_ _ | refine Below.allocs ?_ | refine Below.next ?_ (by assumption) | refine Below.setCell ?_ (by dsimp only; omega) _)), Moved.of_below (by repeat (first | exact Below.refl _ _ | assumption | refine Below.drew ?_ | refine below_drewN ?_ _ | refine Below.allocs ?_ | refine Below.next ?_ (by assumption) | refine Below.setCell ?_ (by dsimp only; omega) _))⟩

/-- The words, as the functions of package heap take them. -/
theorem Mach.isHeap {w : World} {B mb k : Nat} {ρ : Roles} {c : Mc} {m : Mem} (h : Mach w B mb k ρ c m) {l : List Nat} {k' : Nat} (hi : Inv c l k') : IsHeap w m.wa c.xs.length m.wcap c.xs c.top := by
  have := hi.valid.top1
  have := hi.valid.top2
  have := hi.valid.len2
  exact h.words.isHeap hi.fits (fits_small (by omega) (by omega))

set_option maxHeartbeats 3200000 in
theorem access_none (B mb k : Nat) (ρ : Roles) (c : Mc) (m : Mem) (l : List Nat) (k' : Nat) (t : Nat) (v : Val) (n : Int) (w : World) (h : Mach w B mb k ρ c m) (hi : Inv c l k') (ht : t < 4) (ho : (c.tx t).isOpen = true) (hv : v.k = 1 ∧ v.n ≠ 0) (hf : ¬ HasField c.xs l v.n n) :
    Calls Try.prog 112 #[.pointer (some ⟨mb, 0, none⟩), .int .i64 t, .agg #[.int .i64 v.k, .int .i64 v.n], .int .i64 n] w (AccEnd w B mb k ρ c l t v n) := by
  have x0 := h.blk.isOpen t ht
  rw [ho] at x0
  have hlt := h.blk.lt
  have H := Lib.hide h
  have HC := Lib.hide (show CAcc c l t v n (.err 4) c (AccGood c c v n 4 .zero) from Ite.pos ho (Ite.pos hv (Ite.neg hf ⟨rfl, rfl⟩)))
  have HF := Lib.hide hf
  have HI := Lib.hide hi
  have HO := Lib.hide ho
  have HH := Lib.hide (h.isHeap hi)
  have NR := Lib.hide (fun b (hb : w.heap.size ≤ b) => h.noRole hb)
  clear h ho hf hi
  obtain ⟨vk, vn⟩ := v
  dsimp only at hv HF
  obtain ⟨rfl, hv2⟩ := hv
  have e2 : (vn == 0) = false := by simpa using hv2
  clear hv2
  go_enter Try.func112, Try.ntmps112
  go_wp2
  have hW : Mach ((w.alloc (.cells #[.int .i64 1, .int .i64 vn] 34)).alloc (.cells #[.int .i64 0, .int .i64 0] 34)) B mb k ρ c m := (H.out.alloc _).alloc _
  have hM : Moved ρ w ρ ((w.alloc (.cells #[.int .i64 1, .int .i64 vn] 34)).alloc (.cells #[.int .i64 0, .int .i64 0] 34)) := Moved.of_below (by repeat (first | exact Below.refl _ _ | assumption | refine Below.drew ?_ | refine below_drewN ?_ _ | refine Below.allocs ?_ | refine Below.next ?_ (by assumption) | refine Below.setCell ?_ (by dsimp only; omega) _))
  have hb1 : Box2 ((w.alloc (.cells #[.int .i64 1, .int .i64 vn] 34)).alloc (.cells #[.int .i64 0, .int .i64 0] 34)) w.heap.size (.int .i64 1) (.int .i64 vn) := (Box2.new w _ _ _).alloc _
  have hb2 : Box2 ((w.alloc (.cells #[.int .i64 1, .int .i64 vn] 34)).alloc (.cells #[.int .i64 0, .int .i64 0] 34)) (w.heap.size + 1) (.int .i64 0) (.int .i64 0) := by
    have := Box2.new (w.alloc (.cells #[.int .i64 1, .int .i64 vn] 34)) (.int .i64 0) (.int .i64 0) 34
    rwa [show (w.alloc (.cells #[.int .i64 1, .int .i64 vn] 34)).heap.size = w.heap.size + 1 by simp] at this
  have hH := HH.out.below (w' := (w.alloc (.cells #[.int .i64 1, .int .i64 vn] 34)).alloc (.cells #[.int .i64 0, .int .i64 0] 34)) (by repeat (first | exact Below.refl _ _ | assumption | refine Below.drew ?_ | refine below_drewN ?_ _ | refine Below.allocs ?_ | refine Below.next ?_ (by assumption) | refine Below.setCell ?_ (by dsimp only; omega) _))
  have hWB : B ≤ ((w.alloc (.cells #[.int .i64 1, .int .i64 vn] 34)).alloc (.cells #[.int .i64 0, .int .i64 0] 34)).heap.size := by have := (H.out.low mb (by rw [H.out.rmb]; simp)); simp; omega
  generalize (w.alloc (.cells #[.int .i64 1, .int .i64 vn] 34)).alloc (.cells #[.int .i64 0, .int .i64 0] 34) = W at hW hM hb1 hb2 hH hWB ⊢
  have y0 := hW.blk.words
  have y1 := hW.blk.top
  have y2 := hW.blk.lt
  have HW := Lib.hide hW
  have MV := Lib.hide hM
  have B2 := Lib.hide hb2
  have B1 := Lib.hide hb1
  have HHW := Lib.hide hH
  obtain ⟨b0, b1, _, _, b4⟩ := hb1
  have n1 : mb ≠ W.heap.size := by omega
  have n2 : w.heap.size ≠ W.heap.size := by omega
  have n3 : w.heap.size + 1 ≠ W.heap.size := by have := hb2.lt; omega
  clear hW hM hb2 hH x0 HH H
  go_region_held3 (fun w' => w'.cell? ⟨mb, 0, none⟩ = some (.slice m.wa c.xs.length m.wcap) ∧ w'.cell? ⟨mb, 1, none⟩ = some (.int .i64 c.top) ∧ w'.cell? ⟨w.heap.size, 1, none⟩ = some (.int .i64 vn))
    (first | exact ⟨y0, y1, b1⟩ | exact ⟨k0, k1, k2⟩ | exact ⟨alloc_cell y0, alloc_cell y1, alloc_cell b1⟩ | exact ⟨alloc_cell k0, alloc_cell k1, alloc_cell k2⟩ | exact ⟨far_cell (far_cell k0 n1) n1, far_cell (far_cell k1 n1) n1, far_cell (far_cell k2 n2) n2⟩ | go_keep)
    (first
      | (go_at_call 19; (with_reducible refine (load_none m.wa c.xs.length m.wcap c.xs c.top vn n l W.drew (HHW.out.below (by repeat (first | exact Below.refl _ _ | assumption | refine Below.drew ?_ | refine below_drewN ?_ _ | refine Below.allocs ?_ | refine Below.next ?_ (by assumption) | refine Below.setCell ?_ (by dsimp only; omega) _))) HI.out.valid HF.out).mono ?_); rintro e w2 ⟨rfl, hb5⟩; have HB5 := Lib.hide (show Below W.heap.size W w2 from (by repeat (first | exact Below.refl _ _ | assumption | refine Below.drew ?_ | refine below_drewN ?_ _ | refine Below.allocs ?_ | refine Below.next ?_ (by assumption) | refine Below.setCell ?_ (by dsimp only; omega) _))); have k0 := (HB5.out.cell (p := ⟨mb, 0, none⟩) y2).trans y0; have k1 := (HB5.out.cell (p := ⟨mb, 1, none⟩) y2).trans y1; have k2 := (HB5.out.cell (p := ⟨w.heap.size, 1, none⟩) b4).trans b1)
      | (go_at_call 19; (with_reducible refine (load_none m.wa c.xs.length m.wcap c.xs c.top vn n l (W.alloc (.cells #[.int .i64 0, .int .i64 0] 34)).drew (HHW.out.below (by repeat (first | exact Below.refl _ _ | assumption | refine Below.drew ?_ | refine below_drewN ?_ _ | refine Below.allocs ?_ | refine Below.next ?_ (by assumption) | refine Below.setCell ?_ (by dsimp only; omega) _))) HI.out.valid HF.out).mono ?_); rintro e w2 ⟨rfl, hb5⟩; have HB5 := Lib.hide (show Below W.heap.size W w2 from (by repeat (first | exact Below.refl _ _ | assumption | refine Below.drew ?_ | refine below_drewN ?_ _ | refine Below.allocs ?_ | refine Below.next ?_ (by assumption) | refine Below.setCell ?_ (by dsimp only; omega) _))); have k0 := (HB5.out.cell (p := ⟨mb, 0, none⟩) y2).trans y0; have k1 := (HB5.out.cell (p := ⟨mb, 1, none⟩) y2).trans y1; have k2 := (HB5.out.cell (p := ⟨w.heap.size, 1, none⟩) b4).trans b1; obtain ⟨q0, q1, q2, q3, q4⟩ := ((Box2.new W (.int .i64 0) (.int .i64 0) 34).next (w' := (W.alloc (.cells #[.int .i64 0, .int .i64 0] 34)).drew) (by repeat (first | exact Below.refl _ _ | assumption | refine Below.drew ?_ | refine below_drewN ?_ _ | refine Below.allocs ?_ | refine Below.next ?_ (by assumption) | refine Below.setCell ?_ (by dsimp only; omega) _))).next hb5))
  · have hX : Below W.heap.size W (w2.alloc (.cells #[.int .i64 0, .int .i64 0] 34)) := (HB5.out.alloc HB5.out.size _)
    have bX : Box2 (w2.alloc (.cells #[.int .i64 0, .int .i64 0] 34)) w2.heap.size (.int .i64 0) (.int .i64 0) := Box2.new _ _ _ _
    have eb : w.heap.size + 1 ≠ w2.heap.size := by have := HB5.out.size; have := B2.out.lt; omega
    generalize hXe : w2.alloc (.cells #[.int .i64 0, .int .i64 0] 34) = X at hX bX ⊢
    generalize hbe : w2.heap.size = bx at bX eb ⊢
    clear hXe hbe
    have HMX := Lib.hide (HW.out.next hX)
    have MX := Lib.hide (MV.out.next hX)
    have BX := Lib.hide bX
    have R1 := Lib.hide (B1.out.next hX)
    have R2 := Lib.hide (B2.out.next hX)
    have hXB : B ≤ X.heap.size := Nat.le_trans hWB hX.size
    obtain ⟨c0, c1, c2, c3, c4⟩ := bX
    obtain ⟨d0, d1, d2, d3, d4⟩ := R2.out
    obtain ⟨a0, a1, a2, a3, a4⟩ := R1.out
    clear hX k0 k1 k2 y0 y1 y2 b0 b1 b4 HB5 hb5
    go_wp2
    refine bodyPost_ret (v := .tuple #[.agg #[.int .i64 0, .int .i64 0], .int .i64 4]) (by simp only [results, Try.results112]; go_simp) rfl ?_
    exact ⟨4, .zero, c, m, ρ, HC.out, rfl, (HMX.out.far (NR.out _ (Nat.le_succ _)) _ _).far (NR.out _ (Nat.le_succ _)) _ _, (MX.out.far (Nat.le_succ _) _ _).far (Nat.le_succ _) _ _⟩
  · have hX : Below W.heap.size W ((w2.setCell ⟨W.heap.size, 0, none⟩ (.int .i64 0)).setCell ⟨W.heap.size, 1, none⟩ (.int .i64 0)) := ((HB5.out.setCell (Nat.le_refl _) _).setCell (Nat.le_refl _) _)
    have bX : Box2 ((w2.setCell ⟨W.heap.size, 0, none⟩ (.int .i64 0)).setCell ⟨W.heap.size, 1, none⟩ (.int .i64 0)) W.heap.size (.int .i64 0) (.int .i64 0) := (show Box2 w2 W.heap.size (.int .i64 0) (.int .i64 0) from ⟨q0, q1, q2, q3, q4⟩).put _ _
    have eb : w.heap.size + 1 ≠ W.heap.size := by have := HB5.out.size; have := B2.out.lt; omega
    generalize hXe : (w2.setCell ⟨W.heap.size, 0, none⟩ (.int .i64 0)).setCell ⟨W.heap.size, 1, none⟩ (.int .i64 0) = X at hX bX ⊢
    generalize hbe : W.heap.size = bx at bX eb ⊢
    clear hXe hbe
    have HMX := Lib.hide (HW.out.next hX)
    have MX := Lib.hide (MV.out.next hX)
    have BX := Lib.hide bX
    have R1 := Lib.hide (B1.out.next hX)
    have R2 := Lib.hide (B2.out.next hX)
    have hXB : B ≤ X.heap.size := Nat.le_trans hWB hX.size
    obtain ⟨c0, c1, c2, c3, c4⟩ := bX
    obtain ⟨d0, d1, d2, d3, d4⟩ := R2.out
    obtain ⟨a0, a1, a2, a3, a4⟩ := R1.out
    clear hX k0 k1 k2 y0 y1 y2 b0 b1 b4 HB5 hb5
    go_wp2
    refine bodyPost_ret (v := .tuple #[.agg #[.int .i64 0, .int .i64 0], .int .i64 4]) (by simp only [results, Try.results112]; go_simp) rfl ?_
    exact ⟨4, .zero, c, m, ρ, HC.out, rfl, (HMX.out.far (NR.out _ (Nat.le_succ _)) _ _).far (NR.out _ (Nat.le_succ _)) _ _, (MX.out.far (Nat.le_succ _) _ _).far (Nat.le_succ _) _ _⟩

set_option maxHeartbeats 3200000 in
theorem access_yes (B mb k : Nat) (ρ : Roles) (c : Mc) (m : Mem) (l : List Nat) (k' : Nat) (t : Nat) (v : Val) (n : Int) (w : World) (h : Mach w B mb k ρ c m) (hi : Inv c l k') (ht : t < 4) (ho : (c.tx t).isOpen = true) (hv : v.k = 1 ∧ v.n ≠ 0) (hf : HasField c.xs l v.n n) (hk : k' ≤ 400) (how : ¬ Owned c.xs t v.n) :
    Calls Try.prog 112 #[.pointer (some ⟨mb, 0, none⟩), .int .i64 t, .agg #[.int .i64 v.k, .int .i64 v.n], .int .i64 n] w (AccEnd w B mb k ρ c l t v n) := by
  have x0 := h.blk.isOpen t ht
  rw [ho] at x0
  have hlt := h.blk.lt
  have H := Lib.hide h
  have hy2 : Stm.valOf (c.xs.getD (v.n.toNat + 2 + n.toNat) 0) = ⟨c.xs.getD (v.n.toNat + 2 + n.toNat) 0 % 2, c.xs.getD (v.n.toNat + 2 + n.toNat) 0 / 2⟩ := by
    unfold Stm.valOf
    rcases Int.emod_two_eq (c.xs.getD (v.n.toNat + 2 + n.toNat) 0) with e | e
    · rw [if_neg (by omega), e]
    · rw [if_pos e, e]
  obtain ⟨y, hy⟩ : ∃ y, c.xs.getD (v.n.toNat + 2 + n.toNat) 0 = y := ⟨_, rfl⟩
  have HY := Lib.hide hy
  rw [hy] at hy2
  have HC := Lib.hide (show CAcc c l t v n (.err 0) c (AccGood c c v n 0 ⟨y % 2, y / 2⟩) from Ite.pos ho (Ite.pos hv (Ite.pos hf (Ite.neg how ⟨rfl, rfl, by rw [hy]; exact hy2.symm⟩))))
  have HOW := Lib.hide how
  obtain ⟨q, eq, hq⟩ := nums_mem hf.1
  have hp1 := hi.place hq
  have hp2 := hi.small hk hq
  have hn4 := hi.valid.len2
  have hpl : q < c.xs.length := by omega
  clear hy hy2 how hp1
  have HF := Lib.hide hf
  have HI := Lib.hide hi
  have HO := Lib.hide ho
  have HH := Lib.hide (h.isHeap hi)
  have NR := Lib.hide (fun b (hb : w.heap.size ≤ b) => h.noRole hb)
  clear h ho hf hi
  obtain ⟨vk, vn⟩ := v
  dsimp only at hv HF eq HOW
  subst eq
  have HYY := Lib.hide (show c.xs.getD ((q : Int).toNat + 2 + n.toNat) 0 = y from HY.out)
  obtain ⟨rfl, hv2⟩ := hv
  have e2 : ((q : Int) == 0) = false := by simpa using hv2
  clear hv2
  go_enter Try.func112, Try.ntmps112
  go_wp2
  have hW : Mach ((w.alloc (.cells #[.int .i64 1, .int .i64 (q : Int)] 34)).alloc (.cells #[.int .i64 0, .int .i64 0] 34)) B mb k ρ c m := (H.out.alloc _).alloc _
  have hM : Moved ρ w ρ ((w.alloc (.cells #[.int .i64 1, .int .i64 (q : Int)] 34)).alloc (.cells #[.int .i64 0, .int .i64 0] 34)) := Moved.of_below (by repeat (first | exact Below.refl _ _ | assumption | refine Below.drew ?_ | refine below_drewN ?_ _ | refine Below.allocs ?_ | refine Below.next ?_ (by assumption) | refine Below.setCell ?_ (by dsimp only; omega) _))
  have hb1 : Box2 ((w.alloc (.cells #[.int .i64 1, .int .i64 (q : Int)] 34)).alloc (.cells #[.int .i64 0, .int .i64 0] 34)) w.heap.size (.int .i64 1) (.int .i64 (q : Int)) := (Box2.new w _ _ _).alloc _
  have hb2 : Box2 ((w.alloc (.cells #[.int .i64 1, .int .i64 (q : Int)] 34)).alloc (.cells #[.int .i64 0, .int .i64 0] 34)) (w.heap.size + 1) (.int .i64 0) (.int .i64 0) := by
    have := Box2.new (w.alloc (.cells #[.int .i64 1, .int .i64 (q : Int)] 34)) (.int .i64 0) (.int .i64 0) 34
    rwa [show (w.alloc (.cells #[.int .i64 1, .int .i64 (q : Int)] 34)).heap.size = w.heap.size + 1 by simp] at this
  have hH := HH.out.below (w' := (w.alloc (.cells #[.int .i64 1, .int .i64 (q : Int)] 34)).alloc (.cells #[.int .i64 0, .int .i64 0] 34)) (by repeat (first | exact Below.refl _ _ | assumption | refine Below.drew ?_ | refine below_drewN ?_ _ | refine Below.allocs ?_ | refine Below.next ?_ (by assumption) | refine Below.setCell ?_ (by dsimp only; omega) _))
  have hWB : B ≤ ((w.alloc (.cells #[.int .i64 1, .int .i64 (q : Int)] 34)).alloc (.cells #[.int .i64 0, .int .i64 0] 34)).heap.size := by have := (H.out.low mb (by rw [H.out.rmb]; simp)); simp; omega
  generalize (w.alloc (.cells #[.int .i64 1, .int .i64 (q : Int)] 34)).alloc (.cells #[.int .i64 0, .int .i64 0] 34) = W at hW hM hb1 hb2 hH hWB ⊢
  have y0 := hW.blk.words
  have y1 := hW.blk.top
  have y2 := hW.blk.lt
  have HW := Lib.hide hW
  have MV := Lib.hide hM
  have B2 := Lib.hide hb2
  have B1 := Lib.hide hb1
  have HHW := Lib.hide hH
  obtain ⟨b0, b1, _, _, b4⟩ := hb1
  have n1 : mb ≠ W.heap.size := by omega
  have n2 : w.heap.size ≠ W.heap.size := by omega
  have n3 : w.heap.size + 1 ≠ W.heap.size := by have := hb2.lt; omega
  clear hW hM hb2 hH x0 HH H
  go_region_held3 (fun w' => w'.cell? ⟨mb, 0, none⟩ = some (.slice m.wa c.xs.length m.wcap) ∧ w'.cell? ⟨mb, 1, none⟩ = some (.int .i64 c.top) ∧ w'.cell? ⟨w.heap.size, 1, none⟩ = some (.int .i64 (q : Int)))
    (first | exact ⟨y0, y1, b1⟩ | exact ⟨k0, k1, k2⟩ | exact ⟨alloc_cell y0, alloc_cell y1, alloc_cell b1⟩ | exact ⟨alloc_cell k0, alloc_cell k1, alloc_cell k2⟩ | exact ⟨far_cell (far_cell k0 n1) n1, far_cell (far_cell k1 n1) n1, far_cell (far_cell k2 n2) n2⟩ | go_keep)
    (first
      | (go_at_call 19; (with_reducible refine (load_yes m.wa c.xs.length m.wcap c.xs c.top (q : Int) n l W.drew (HHW.out.below (by repeat (first | exact Below.refl _ _ | assumption | refine Below.drew ?_ | refine below_drewN ?_ _ | refine Below.allocs ?_ | refine Below.next ?_ (by assumption) | refine Below.setCell ?_ (by dsimp only; omega) _))) HI.out.valid HF.out y HYY.out).mono ?_); rintro e w2 ⟨rfl, hb5⟩; have HB5 := Lib.hide (show Below W.heap.size W w2 from (by repeat (first | exact Below.refl _ _ | assumption | refine Below.drew ?_ | refine below_drewN ?_ _ | refine Below.allocs ?_ | refine Below.next ?_ (by assumption) | refine Below.setCell ?_ (by dsimp only; omega) _))); have k0 := (HB5.out.cell (p := ⟨mb, 0, none⟩) y2).trans y0; have k1 := (HB5.out.cell (p := ⟨mb, 1, none⟩) y2).trans y1; have k2 := (HB5.out.cell (p := ⟨w.heap.size, 1, none⟩) b4).trans b1)
      | (go_at_call 19; (with_reducible refine (load_yes m.wa c.xs.length m.wcap c.xs c.top (q : Int) n l (W.alloc (.cells #[.int .i64 0, .int .i64 0] 34)).drew (HHW.out.below (by repeat (first | exact Below.refl _ _ | assumption | refine Below.drew ?_ | refine below_drewN ?_ _ | refine Below.allocs ?_ | refine Below.next ?_ (by assumption) | refine Below.setCell ?_ (by dsimp only; omega) _))) HI.out.valid HF.out y HYY.out).mono ?_); rintro e w2 ⟨rfl, hb5⟩; have HB5 := Lib.hide (show Below W.heap.size W w2 from (by repeat (first | exact Below.refl _ _ | assumption | refine Below.drew ?_ | refine below_drewN ?_ _ | refine Below.allocs ?_ | refine Below.next ?_ (by assumption) | refine Below.setCell ?_ (by dsimp only; omega) _))); have k0 := (HB5.out.cell (p := ⟨mb, 0, none⟩) y2).trans y0; have k1 := (HB5.out.cell (p := ⟨mb, 1, none⟩) y2).trans y1; have k2 := (HB5.out.cell (p := ⟨w.heap.size, 1, none⟩) b4).trans b1; obtain ⟨q0, q1, q2, q3, q4⟩ := ((Box2.new W (.int .i64 0) (.int .i64 0) 34).next (w' := (W.alloc (.cells #[.int .i64 0, .int .i64 0] 34)).drew) (by repeat (first | exact Below.refl _ _ | assumption | refine Below.drew ?_ | refine below_drewN ?_ _ | refine Below.allocs ?_ | refine Below.next ?_ (by assumption) | refine Below.setCell ?_ (by dsimp only; omega) _))).next hb5))
  · have hX : Below W.heap.size W (w2.alloc (.cells #[.int .i64 (y % 2), .int .i64 (y / 2)] 34)) := (HB5.out.alloc HB5.out.size _)
    have bX : Box2 (w2.alloc (.cells #[.int .i64 (y % 2), .int .i64 (y / 2)] 34)) w2.heap.size (.int .i64 (y % 2)) (.int .i64 (y / 2)) := Box2.new _ _ _ _
    have eb : w.heap.size + 1 ≠ w2.heap.size := by have := HB5.out.size; have := B2.out.lt; omega
    generalize hXe : w2.alloc (.cells #[.int .i64 (y % 2), .int .i64 (y / 2)] 34) = X at hX bX ⊢
    generalize hbe : w2.heap.size = bx at bX eb ⊢
    clear hXe hbe
    have HMX := Lib.hide (HW.out.next hX)
    have MX := Lib.hide (MV.out.next hX)
    have BX := Lib.hide bX
    have R1 := Lib.hide (B1.out.next hX)
    have R2 := Lib.hide (B2.out.next hX)
    have hXB : B ≤ X.heap.size := Nat.le_trans hWB hX.size
    obtain ⟨c0, c1, c2, c3, c4⟩ := bX
    obtain ⟨d0, d1, d2, d3, d4⟩ := R2.out
    obtain ⟨a0, a1, a2, a3, a4⟩ := R1.out
    clear hX k0 k1 k2 y0 y1 y2 b0 b1 b4 HB5 hb5
    go_wp2_with (first
      | (go_at_call 120; refine (otherOwns_any B mb k ρ c m t q _ HMX.out ht hpl hn4 hp2.1 hp2.2 false (fiff HOW.out)).mono ?_; rintro e w' ⟨rfl, rfl⟩)
      | go_in)
    refine bodyPost_ret (v := .tuple #[.agg #[.int .i64 (y % 2), .int .i64 (y / 2)], .int .i64 0]) (by simp only [results, Try.results112]; go_simp) rfl ?_
    exact ⟨0, ⟨y % 2, y / 2⟩, c, m, ρ, HC.out, rfl, (HMX.out.far (NR.out _ (Nat.le_succ _)) _ _).far (NR.out _ (Nat.le_succ _)) _ _, (MX.out.far (Nat.le_succ _) _ _).far (Nat.le_succ _) _ _⟩
  · have hX : Below W.heap.size W ((w2.setCell ⟨W.heap.size, 0, none⟩ (.int .i64 (y % 2))).setCell ⟨W.heap.size, 1, none⟩ (.int .i64 (y / 2))) := ((HB5.out.setCell (Nat.le_refl _) _).setCell (Nat.le_refl _) _)
    have bX : Box2 ((w2.setCell ⟨W.heap.size, 0, none⟩ (.int .i64 (y % 2))).setCell ⟨W.heap.size, 1, none⟩ (.int .i64 (y / 2))) W.heap.size (.int .i64 (y % 2)) (.int .i64 (y / 2)) := (show Box2 w2 W.heap.size (.int .i64 0) (.int .i64 0) from ⟨q0, q1, q2, q3, q4⟩).put _ _
    have eb : w.heap.size + 1 ≠ W.heap.size := by have := HB5.out.size; have := B2.out.lt; omega
    generalize hXe : (w2.setCell ⟨W.heap.size, 0, none⟩ (.int .i64 (y % 2))).setCell ⟨W.heap.size, 1, none⟩ (.int .i64 (y / 2)) = X at hX bX ⊢
    generalize hbe : W.heap.size = bx at bX eb ⊢
    clear hXe hbe
    have HMX := Lib.hide (HW.out.next hX)
    have MX := Lib.hide (MV.out.next hX)
    have BX := Lib.hide bX
    have R1 := Lib.hide (B1.out.next hX)
    have R2 := Lib.hide (B2.out.next hX)
    have hXB : B ≤ X.heap.size := Nat.le_trans hWB hX.size
    obtain ⟨c0, c1, c2, c3, c4⟩ := bX
    obtain ⟨d0, d1, d2, d3, d4⟩ := R2.out
    obtain ⟨a0, a1, a2, a3, a4⟩ := R1.out
    clear hX k0 k1 k2 y0 y1 y2 b0 b1 b4 HB5 hb5
    go_wp2_with (first
      | (go_at_call 120; refine (otherOwns_any B mb k ρ c m t q _ HMX.out ht hpl hn4 hp2.1 hp2.2 false (fiff HOW.out)).mono ?_; rintro e w' ⟨rfl, rfl⟩)
      | go_in)
    refine bodyPost_ret (v := .tuple #[.agg #[.int .i64 (y % 2), .int .i64 (y / 2)], .int .i64 0]) (by simp only [results, Try.results112]; go_simp) rfl ?_
    exact ⟨0, ⟨y % 2, y / 2⟩, c, m, ρ, HC.out, rfl, (HMX.out.far (NR.out _ (Nat.le_succ _)) _ _).far (NR.out _ (Nat.le_succ _)) _ _, (MX.out.far (Nat.le_succ _) _ _).far (Nat.le_succ _) _ _⟩

set_option maxHeartbeats 3200000 in
theorem access_busy (B mb k : Nat) (ρ : Roles) (c : Mc) (m : Mem) (l : List Nat) (k' : Nat) (t : Nat) (v : Val) (n : Int) (w : World) (h : Mach w B mb k ρ c m) (hi : Inv c l k') (ht : t < 4) (ho : (c.tx t).isOpen = true) (hv : v.k = 1 ∧ v.n ≠ 0) (hf : HasField c.xs l v.n n) (hk : k' ≤ 400) (how : Owned c.xs t v.n) (h0 : 0 < c.xs.length) :
    Calls Try.prog 112 #[.pointer (some ⟨mb, 0, none⟩), .int .i64 t, .agg #[.int .i64 v.k, .int .i64 v.n], .int .i64 n] w (AccEnd w B mb k ρ c l t v n) := by
  have x0 := h.blk.isOpen t ht
  rw [ho] at x0
  have hlt := h.blk.lt
  have H := Lib.hide h
  have hy2 : Stm.valOf (c.xs.getD (v.n.toNat + 2 + n.toNat) 0) = ⟨c.xs.getD (v.n.toNat + 2 + n.toNat) 0 % 2, c.xs.getD (v.n.toNat + 2 + n.toNat) 0 / 2⟩ := by
    unfold Stm.valOf
    rcases Int.emod_two_eq (c.xs.getD (v.n.toNat + 2 + n.toNat) 0) with e | e
    · rw [if_neg (by omega), e]
    · rw [if_pos e, e]
  obtain ⟨y, hy⟩ : ∃ y, c.xs.getD (v.n.toNat + 2 + n.toNat) 0 = y := ⟨_, rfl⟩
  have HY := Lib.hide hy
  rw [hy] at hy2
  have HC := Lib.hide (show ∀ c', CUndo c t c' → CAcc c l t v n (.err 6) c' (AccGood c c' v n 6 .zero) from fun c' hu => Ite.pos ho (Ite.pos hv (Ite.pos hf (Ite.pos how ⟨rfl, hu⟩))))
  have HOK := Lib.hide (hi.ownOk hk t)
  have HOW := Lib.hide how
  obtain ⟨q, eq, hq⟩ := nums_mem hf.1
  have hp1 := hi.place hq
  have hp2 := hi.small hk hq
  have hn4 := hi.valid.len2
  have hpl : q < c.xs.length := by omega
  clear hy hy2 how hp1
  have HF := Lib.hide hf
  have HI := Lib.hide hi
  have HO := Lib.hide ho
  have HH := Lib.hide (h.isHeap hi)
  have NR := Lib.hide (fun b (hb : w.heap.size ≤ b) => h.noRole hb)
  clear h ho hf hi
  obtain ⟨vk, vn⟩ := v
  dsimp only at hv HF eq HOW
  subst eq
  have HYY := Lib.hide (show c.xs.getD ((q : Int).toNat + 2 + n.toNat) 0 = y from HY.out)
  obtain ⟨rfl, hv2⟩ := hv
  have e2 : ((q : Int) == 0) = false := by simpa using hv2
  clear hv2
  go_enter Try.func112, Try.ntmps112
  go_wp2
  have hW : Mach ((w.alloc (.cells #[.int .i64 1, .int .i64 (q : Int)] 34)).alloc (.cells #[.int .i64 0, .int .i64 0] 34)) B mb k ρ c m := (H.out.alloc _).alloc _
  have hM : Moved ρ w ρ ((w.alloc (.cells #[.int .i64 1, .int .i64 (q : Int)] 34)).alloc (.cells #[.int .i64 0, .int .i64 0] 34)) := Moved.of_below (by repeat (first | exact Below.refl _ _ | assumption | refine Below.drew ?_ | refine below_drewN ?_ _ | refine Below.allocs ?_ | refine Below.next ?_ (by assumption) | refine Below.setCell ?_ (by dsimp only; omega) _))
  have hb1 : Box2 ((w.alloc (.cells #[.int .i64 1, .int .i64 (q : Int)] 34)).alloc (.cells #[.int .i64 0, .int .i64 0] 34)) w.heap.size (.int .i64 1) (.int .i64 (q : Int)) := (Box2.new w _ _ _).alloc _
  have hb2 : Box2 ((w.alloc (.cells #[.int .i64 1, .int .i64 (q : Int)] 34)).alloc (.cells #[.int .i64 0, .int .i64 0] 34)) (w.heap.size + 1) (.int .i64 0) (.int .i64 0) := by
    have := Box2.new (w.alloc (.cells #[.int .i64 1, .int .i64 (q : Int)] 34)) (.int .i64 0) (.int .i64 0) 34
    rwa [show (w.alloc (.cells #[.int .i64 1, .int .i64 (q : Int)] 34)).heap.size = w.heap.size + 1 by simp] at this
  have hH := HH.out.below (w' := (w.alloc (.cells #[.int .i64 1, .int .i64 (q : Int)] 34)).alloc (.cells #[.int .i64 0, .int .i64 0] 34)) (by repeat (first | exact Below.refl _ _ | assumption | refine Below.drew ?_ | refine below_drewN ?_ _ | refine Below.allocs ?_ | refine Below.next ?_ (by assumption) | refine Below.setCell ?_ (by dsimp only; omega) _))
  have hWB : B ≤ ((w.alloc (.cells #[.int .i64 1, .int .i64 (q : Int)] 34)).alloc (.cells #[.int .i64 0, .int .i64 0] 34)).heap.size := by have := (H.out.low mb (by rw [H.out.rmb]; simp)); simp; omega
  generalize (w.alloc (.cells #[.int .i64 1, .int .i64 (q : Int)] 34)).alloc (.cells #[.int .i64 0, .int .i64 0] 34) = W at hW hM hb1 hb2 hH hWB ⊢
  have y0 := hW.blk.words
  have y1 := hW.blk.top
  have y2 := hW.blk.lt
  have HW := Lib.hide hW
  have MV := Lib.hide hM
  have B2 := Lib.hide hb2
  have B1 := Lib.hide hb1
  have HHW := Lib.hide hH
  obtain ⟨b0, b1, _, _, b4⟩ := hb1
  have n1 : mb ≠ W.heap.size := by omega
  have n2 : w.heap.size ≠ W.heap.size := by omega
  have n3 : w.heap.size + 1 ≠ W.heap.size := by have := hb2.lt; omega
  clear hW hM hb2 hH x0 HH H
  go_region_held3 (fun w' => w'.cell? ⟨mb, 0, none⟩ = some (.slice m.wa c.xs.length m.wcap) ∧ w'.cell? ⟨mb, 1, none⟩ = some (.int .i64 c.top) ∧ w'.cell? ⟨w.heap.size, 1, none⟩ = some (.int .i64 (q : Int)))
    (first | exact ⟨y0, y1, b1⟩ | exact ⟨k0, k1, k2⟩ | exact ⟨alloc_cell y0, alloc_cell y1, alloc_cell b1⟩ | exact ⟨alloc_cell k0, alloc_cell k1, alloc_cell k2⟩ | exact ⟨far_cell (far_cell k0 n1) n1, far_cell (far_cell k1 n1) n1, far_cell (far_cell k2 n2) n2⟩ | go_keep)
    (first
      | (go_at_call 19; (with_reducible refine (load_yes m.wa c.xs.length m.wcap c.xs c.top (q : Int) n l W.drew (HHW.out.below (by repeat (first | exact Below.refl _ _ | assumption | refine Below.drew ?_ | refine below_drewN ?_ _ | refine Below.allocs ?_ | refine Below.next ?_ (by assumption) | refine Below.setCell ?_ (by dsimp only; omega) _))) HI.out.valid HF.out y HYY.out).mono ?_); rintro e w2 ⟨rfl, hb5⟩; have HB5 := Lib.hide (show Below W.heap.size W w2 from (by repeat (first | exact Below.refl _ _ | assumption | refine Below.drew ?_ | refine below_drewN ?_ _ | refine Below.allocs ?_ | refine Below.next ?_ (by assumption) | refine Below.setCell ?_ (by dsimp only; omega) _))); have k0 := (HB5.out.cell (p := ⟨mb, 0, none⟩) y2).trans y0; have k1 := (HB5.out.cell (p := ⟨mb, 1, none⟩) y2).trans y1; have k2 := (HB5.out.cell (p := ⟨w.heap.size, 1, none⟩) b4).trans b1)
      | (go_at_call 19; (with_reducible refine (load_yes m.wa c.xs.length m.wcap c.xs c.top (q : Int) n l (W.alloc (.cells #[.int .i64 0, .int .i64 0] 34)).drew (HHW.out.below (by repeat (first | exact Below.refl _ _ | assumption | refine Below.drew ?_ | refine below_drewN ?_ _ | refine Below.allocs ?_ | refine Below.next ?_ (by assumption) | refine Below.setCell ?_ (by dsimp only; omega) _))) HI.out.valid HF.out y HYY.out).mono ?_); rintro e w2 ⟨rfl, hb5⟩; have HB5 := Lib.hide (show Below W.heap.size W w2 from (by repeat (first | exact Below.refl _ _ | assumption | refine Below.drew ?_ | refine below_drewN ?_ _ | refine Below.allocs ?_ | refine Below.next ?_ (by assumption) | refine Below.setCell ?_ (by dsimp only; omega) _))); have k0 := (HB5.out.cell (p := ⟨mb, 0, none⟩) y2).trans y0; have k1 := (HB5.out.cell (p := ⟨mb, 1, none⟩) y2).trans y1; have k2 := (HB5.out.cell (p := ⟨w.heap.size, 1, none⟩) b4).trans b1; obtain ⟨q0, q1, q2, q3, q4⟩ := ((Box2.new W (.int .i64 0) (.int .i64 0) 34).next (w' := (W.alloc (.cells #[.int .i64 0, .int .i64 0] 34)).drew) (by repeat (first | exact Below.refl _ _ | assumption | refine Below.drew ?_ | refine below_drewN ?_ _ | refine Below.allocs ?_ | refine Below.next ?_ (by assumption) | refine Below.setCell ?_ (by dsimp only; omega) _))).next hb5))
  · have hX : Below W.heap.size W (w2.alloc (.cells #[.int .i64 (y % 2), .int .i64 (y / 2)] 34)) := (HB5.out.alloc HB5.out.size _)
    have bX : Box2 (w2.alloc (.cells #[.int .i64 (y % 2), .int .i64 (y / 2)] 34)) w2.heap.size (.int .i64 (y % 2)) (.int .i64 (y / 2)) := Box2.new _ _ _ _
    have eb : w.heap.size + 1 ≠ w2.heap.size := by have := HB5.out.size; have := B2.out.lt; omega
    generalize hXe : w2.alloc (.cells #[.int .i64 (y % 2), .int .i64 (y / 2)] 34) = X at hX bX ⊢
    generalize hbe : w2.heap.size = bx at bX eb ⊢
    clear hXe hbe
    have HMX := Lib.hide (HW.out.next hX)
    have MX := Lib.hide (MV.out.next hX)
    have BX := Lib.hide bX
    have R1 := Lib.hide (B1.out.next hX)
    have R2 := Lib.hide (B2.out.next hX)
    have hXB : B ≤ X.heap.size := Nat.le_trans hWB hX.size
    obtain ⟨c0, c1, c2, c3, c4⟩ := bX
    obtain ⟨d0, d1, d2, d3, d4⟩ := R2.out
    obtain ⟨a0, a1, a2, a3, a4⟩ := R1.out
    clear hX k0 k1 k2 y0 y1 y2 b0 b1 b4 HB5 hb5
    go_wp2_with (first
      | (go_at_call 120; refine (otherOwns_any B mb k ρ c m t q _ HMX.out ht hpl hn4 hp2.1 hp2.2 true (tiff HOW.out)).mono ?_; rintro e w' ⟨rfl, rfl⟩)
      | (go_at_call 110; refine (undo_any B mb k ρ c m t _ HMX.out ht HO.out hXB hn4 h0 HOK.out).mono ?_; rintro e w5 ⟨c', m', ρ', hc, rfl, hm', hv'⟩; have HUC := Lib.hide hc; have HM' := Lib.hide hm'; have HV' := Lib.hide hv'; have f8 := (World.cell?_of_block (a := ⟨w.heap.size + 1, 0, none⟩) (hv'.block (w.heap.size + 1) d4 (NR.out _ (Nat.le_succ _)))).trans d0; have f9 := (World.cell?_of_block (a := ⟨w.heap.size + 1, 1, none⟩) (hv'.block (w.heap.size + 1) d4 (NR.out _ (Nat.le_succ _)))).trans d1; have g8 := (World.frozen?_of_block (a := ⟨w.heap.size + 1, 0, none⟩) (hv'.block (w.heap.size + 1) d4 (NR.out _ (Nat.le_succ _)))).trans d2; have g9 := (World.frozen?_of_block (a := ⟨w.heap.size + 1, 1, none⟩) (hv'.block (w.heap.size + 1) d4 (NR.out _ (Nat.le_succ _)))).trans d3; have l9 := Nat.lt_of_lt_of_le d4 hv'.size; have n9 := Lib.hide (hv'.noRole d4 (NR.out _ (Nat.le_succ _))); clear hc hm' hv' d0 d1 d2 d3 c0 c1 c2 c3 c4 a0 a1 a2 a3 a4)
      | go_in)
    refine bodyPost_ret (v := .tuple #[.agg #[.int .i64 0, .int .i64 0], .int .i64 6]) (by simp only [results, Try.results112]; go_simp) rfl ?_
    exact ⟨6, .zero, c', m', ρ', HC.out c' HUC.out, rfl, (HM'.out.far n9.out _ _).far n9.out _ _, ((MX.out.trans HV'.out).far (Nat.le_succ _) _ _).far (Nat.le_succ _) _ _⟩
  · have hX : Below W.heap.size W ((w2.setCell ⟨W.heap.size, 0, none⟩ (.int .i64 (y % 2))).setCell ⟨W.heap.size, 1, none⟩ (.int .i64 (y / 2))) := ((HB5.out.setCell (Nat.le_refl _) _).setCell (Nat.le_refl _) _)
    have bX : Box2 ((w2.setCell ⟨W.heap.size, 0, none⟩ (.int .i64 (y % 2))).setCell ⟨W.heap.size, 1, none⟩ (.int .i64 (y / 2))) W.heap.size (.int .i64 (y % 2)) (.int .i64 (y / 2)) := (show Box2 w2 W.heap.size (.int .i64 0) (.int .i64 0) from ⟨q0, q1, q2, q3, q4⟩).put _ _
    have eb : w.heap.size + 1 ≠ W.heap.size := by have := HB5.out.size; have := B2.out.lt; omega
    generalize hXe : (w2.setCell ⟨W.heap.size, 0, none⟩ (.int .i64 (y % 2))).setCell ⟨W.heap.size, 1, none⟩ (.int .i64 (y / 2)) = X at hX bX ⊢
    generalize hbe : W.heap.size = bx at bX eb ⊢
    clear hXe hbe
    have HMX := Lib.hide (HW.out.next hX)
    have MX := Lib.hide (MV.out.next hX)
    have BX := Lib.hide bX
    have R1 := Lib.hide (B1.out.next hX)
    have R2 := Lib.hide (B2.out.next hX)
    have hXB : B ≤ X.heap.size := Nat.le_trans hWB hX.size
    obtain ⟨c0, c1, c2, c3, c4⟩ := bX
    obtain ⟨d0, d1, d2, d3, d4⟩ := R2.out
    obtain ⟨a0, a1, a2, a3, a4⟩ := R1.out
    clear hX k0 k1 k2 y0 y1 y2 b0 b1 b4 HB5 hb5
    go_wp2_with (first
      | (go_at_call 120; refine (otherOwns_any B mb k ρ c m t q _ HMX.out ht hpl hn4 hp2.1 hp2.2 true (tiff HOW.out)).mono ?_; rintro e w' ⟨rfl, rfl⟩)
      | (go_at_call 110; refine (undo_any B mb k ρ c m t _ HMX.out ht HO.out hXB hn4 h0 HOK.out).mono ?_; rintro e w5 ⟨c', m', ρ', hc, rfl, hm', hv'⟩; have HUC := Lib.hide hc; have HM' := Lib.hide hm'; have HV' := Lib.hide hv'; have f8 := (World.cell?_of_block (a := ⟨w.heap.size + 1, 0, none⟩) (hv'.block (w.heap.size + 1) d4 (NR.out _ (Nat.le_succ _)))).trans d0; have f9 := (World.cell?_of_block (a := ⟨w.heap.size + 1, 1, none⟩) (hv'.block (w.heap.size + 1) d4 (NR.out _ (Nat.le_succ _)))).trans d1; have g8 := (World.frozen?_of_block (a := ⟨w.heap.size + 1, 0, none⟩) (hv'.block (w.heap.size + 1) d4 (NR.out _ (Nat.le_succ _)))).trans d2; have g9 := (World.frozen?_of_block (a := ⟨w.heap.size + 1, 1, none⟩) (hv'.block (w.heap.size + 1) d4 (NR.out _ (Nat.le_succ _)))).trans d3; have l9 := Nat.lt_of_lt_of_le d4 hv'.size; have n9 := Lib.hide (hv'.noRole d4 (NR.out _ (Nat.le_succ _))); clear hc hm' hv' d0 d1 d2 d3 c0 c1 c2 c3 c4 a0 a1 a2 a3 a4)
      | go_in)
    refine bodyPost_ret (v := .tuple #[.agg #[.int .i64 0, .int .i64 0], .int .i64 6]) (by simp only [results, Try.results112]; go_simp) rfl ?_
    exact ⟨6, .zero, c', m', ρ', HC.out c' HUC.out, rfl, (HM'.out.far n9.out _ _).far n9.out _ _, ((MX.out.trans HV'.out).far (Nat.le_succ _) _ _).far (Nat.le_succ _) _ _⟩


theorem access_any (B mb k : Nat) (ρ : Roles) (c : Mc) (m : Mem) (l : List Nat) (k' : Nat) (t : Nat) (v : Val) (n : Int) (w : World) (h : Mach w B mb k ρ c m) (hi : Inv c l k') (hk : k' ≤ 400) (ht : t < 4) :
    Calls Try.prog 112 #[.pointer (some ⟨mb, 0, none⟩), .int .i64 t, .agg #[.int .i64 v.k, .int .i64 v.n], .int .i64 n] w (AccEnd w B mb k ρ c l t v n) := by
  have h1 := hi.valid.len1
  cases ho : (c.tx t).isOpen
  · exact access_state B mb k ρ c m l t v n w h ht ho
  · by_cases hv : v.k = 1 ∧ v.n ≠ 0
    · by_cases hf : HasField c.xs l v.n n
      · by_cases how : Owned c.xs t v.n
        · exact access_busy B mb k ρ c m l k' t v n w h hi ht ho hv hf hk how (by omega)
        · exact access_yes B mb k ρ c m l k' t v n w h hi ht ho hv hf hk how
      · exact access_none B mb k ρ c m l k' t v n w h hi ht ho hv hf
    · exact access_type B mb k ρ c m l t v n w h ht ho hv
end Go.Proofs.Ytpdcaoagpjcgbab

