/-
  The walk of create of package stm, and how the machine takes over new words. It proves no statement by itself.
-/
import Derived.Test.YtpdcaoagpjcgbabStmGet
set_option linter.unusedVariables false
set_option linter.unusedSimpArgs false
namespace Go.Proofs.Ytpdcaoagpjcgbab
open Go.RowKit Stm

/-- The machine takes over new words. -/
theorem Mach.newWords {w w' : World} {B mb k : Nat} {ρ : Roles} {c : Mc} {m : Mem} (h : Mach w B mb k ρ c m) (hB : B ≤ w.heap.size) (hb : Below w.heap.size w w') {a : Option Addr} {n cp : Nat} {ys : List Int} (hn : ys.length = n) (ho : Own w' w.heap.size (.slice a n cp) ys) (top : Int) :
    ∃ ρ', Mach (puts w' mb 0 [.slice a n cp, .int .i64 top]) B mb k ρ' ⟨ys, top, c.regs, c.tx, c.coll⟩ ⟨a, cp, m.rm, m.om, m.fa, m.fc, m.ra, m.rcap⟩ ∧ Moved ρ w ρ' (puts w' mb 0 [.slice a n cp, .int .i64 top]) := by
  have h1 := h.next hb
  have hlow : ∀ g, (Value.slice a n cp).ownBlock = some g → w.heap.size ≤ g ∧ g < w'.heap.size := fun g hg => by
    have := World.ownsRow.lt ho _ hg
    exact this
  let ρ' : Roles := fun i => if (Value.slice a n cp).ownBlock = some i then some (1, 0, 0) else ρ i
  have e1 : ∀ i, i < w.heap.size → ρ' i = ρ i := fun i hi => by
    show (if (Value.slice a n cp).ownBlock = some i then some (1, 0, 0) else ρ i) = ρ i
    rw [if_neg (fun hh => by have := (hlow i hh).1; omega)]
  have h2 := h1.roles (ρ' := ρ') (fun i hi => e1 i (h.low i hi).2) (fun i hi => by
    by_cases hh : (Value.slice a n cp).ownBlock = some i
    · have := hlow i hh; omega
    · have : ρ i ≠ none := fun hn => hi (by
        show (if (Value.slice a n cp).ownBlock = some i then some (1, 0, 0) else ρ i) = none
        rw [if_neg hh]; exact hn)
      exact h1.low i this)
  have hrole : ∀ g, (Value.slice a n cp).ownBlock = some g → ρ' g = some (1, 0, 0) := fun g hg => by
    show (if (Value.slice a n cp).ownBlock = some g then some (1, 0, 0) else ρ g) = _
    rw [if_pos hg]
  refine ⟨ρ', h2.setMem a n cp ys top hn (ownsRow_base ho hB) hrole, ?_⟩
  have m1 : Moved ρ w ρ' w' := { Moved.of_below (ρ := ρ) hb with roles := e1 }
  exact m1.trans (Moved.put h2 0 _)

theorem puts_mem (w : World) (b : Nat) (x y : Value) : puts w b 0 [x, y] = (w.setCell ⟨b, 0, none⟩ x).setCell ⟨b, 1, none⟩ y := rfl

set_option maxHeartbeats 1600000 in
theorem create_shut (B mb k : Nat) (ρ : Roles) (c : Mc) (m : Mem) (kd : Int) (t A : Nat) (b n : Int) (w : World) (h : Mach w B mb k ρ c m) (ht : t < 4) (ho : (c.tx t).isOpen = false) :
    Calls Try.prog 88 #[.pointer (some ⟨mb, 0, none⟩), .agg #[.int .i64 kd, .int .i64 t, .int .i64 A, .int .i64 b, .int .i64 n]] w (MCode w B mb k ρ (CNew c t A n)) := by
  have x0 := h.blk.isOpen t ht
  rw [ho] at x0
  have hlt := h.blk.lt
  have H := Lib.hide h
  have HO := Lib.hide ho
  clear h ho
  go_enter Try.func88, Try.ntmps88
  go_wp2
  go_region
  go_wp2
  go_ret
  exact ⟨5, c, m, ρ, Ite.neg (by rw [HO.out]; simp) ⟨rfl, rfl⟩, rfl, H.out.next (by repeat (first | exact Below.refl _ _ | assumption | refine Below.drew ?_ | refine below_drewN ?_ _ | refine Below.allocs ?_ | refine Below.next ?_ (by assumption) | refine Below.setCell ?_ (by dsimp only; omega) _)), Moved.of_below (by repeat (first | exact Below.refl _ _ | assumption | refine Below.drew ?_ | refine below_drewN ?_ _ | refine Below.allocs ?_ | refine Below.next ?_ (by assumption) | refine Below.setCell ?_ (by dsimp only; omega) _))⟩

set_option maxHeartbeats 1600000 in
theorem create_range (B mb k : Nat) (ρ : Roles) (c : Mc) (m : Mem) (l : List Nat) (k' : Nat) (kd : Int) (t A : Nat) (b n : Int) (w : World) (h : Mach w B mb k ρ c m) (hi : Inv c l k') (hB : B ≤ w.heap.size) (ht : t < 4) (hA : A < 4) (ho : (c.tx t).isOpen = true) (hn : ¬ (0 ≤ n ∧ n ≤ 6)) :
    Calls Try.prog 88 #[.pointer (some ⟨mb, 0, none⟩), .agg #[.int .i64 kd, .int .i64 t, .int .i64 A, .int .i64 b, .int .i64 n]] w (MCode w B mb k ρ (CNew c t A n)) := by
  have x0 := h.blk.isOpen t ht
  rw [ho] at x0
  have hlt := h.blk.lt
  have HC := Lib.hide (show CNew c t A n (.err 2) c from Ite.pos ho (Ite.neg hn ⟨rfl, rfl⟩))
  have hr : n < 0 ∨ 6 < n := by omega
  clear hn
  have H := Lib.hide h
  have HI := Lib.hide hi
  have HO := Lib.hide ho
  have NR := Lib.hide (fun b (hb : w.heap.size ≤ b) => h.noRole hb)
  have HH := Lib.hide (h.isHeap hi)
  clear h ho hi
  go_enter Try.func88, Try.ntmps88
  go_wp2
  go_region
  go_wp2
  have hA1 : BoxL (w.alloc (.cells #[.int .i64 kd, .int .i64 t, .int .i64 A, .int .i64 b, .int .i64 n] 71)).drew w.heap.size (actList kd t A b n) := (BoxL.new w (actList kd t A b n) 71).kept rfl (Nat.le_refl _)
  have hW := (H.out.alloc (.cells #[.int .i64 kd, .int .i64 t, .int .i64 A, .int .i64 b, .int .i64 n] 71)).drew
  have hM : Moved ρ w ρ (w.alloc (.cells #[.int .i64 kd, .int .i64 t, .int .i64 A, .int .i64 b, .int .i64 n] 71)).drew := Moved.of_below (by repeat (first | exact Below.refl _ _ | assumption | refine Below.drew ?_ | refine below_drewN ?_ _ | refine Below.allocs ?_ | refine Below.next ?_ (by assumption) | refine Below.setCell ?_ (by dsimp only; omega) _))
  have hH := HH.out.below (w' := (w.alloc (.cells #[.int .i64 kd, .int .i64 t, .int .i64 A, .int .i64 b, .int .i64 n] 71)).drew) (by repeat (first | exact Below.refl _ _ | assumption | refine Below.drew ?_ | refine below_drewN ?_ _ | refine Below.allocs ?_ | refine Below.next ?_ (by assumption) | refine Below.setCell ?_ (by dsimp only; omega) _))
  generalize (w.alloc (.cells #[.int .i64 kd, .int .i64 t, .int .i64 A, .int .i64 b, .int .i64 n] 71)).drew = W at hA1 hW hM hH ⊢
  have y0 := hW.blk.words
  have y1 := hW.blk.top
  have y2 := hW.blk.lt
  have a4 := hA1.cell 4 _ rfl
  have al := hA1.lt
  have HW := Lib.hide hW
  have MV := Lib.hide hM
  have BA := Lib.hide hA1
  have HHW := Lib.hide hH
  have n1 : mb ≠ W.heap.size := by omega
  have n2 : w.heap.size ≠ W.heap.size := by omega
  clear hW hM hA1 hH x0 HH
  go_region_held3 (fun w' => w'.cell? ⟨mb, 0, none⟩ = some (.slice m.wa c.xs.length m.wcap) ∧ w'.cell? ⟨mb, 1, none⟩ = some (.int .i64 c.top) ∧ w'.cell? ⟨w.heap.size, 4, none⟩ = some (.int .i64 n))
    (first | exact ⟨y0, y1, a4⟩ | exact ⟨k0, k1, k2⟩ | exact ⟨alloc_cell y0, alloc_cell y1, alloc_cell a4⟩ | exact ⟨alloc_cell k0, alloc_cell k1, alloc_cell k2⟩ | exact ⟨far_cell (far_cell k0 n1) n1, far_cell (far_cell k1 n1) n1, far_cell (far_cell k2 n2) n2⟩ | go_keep)
    (first
      | (go_at_call 23; (with_reducible refine (alloc_range m.wa c.xs.length m.wcap c.xs c.top n l W.drew (HHW.out.below (by repeat (first | exact Below.refl _ _ | assumption | refine Below.drew ?_ | refine below_drewN ?_ _ | refine Below.allocs ?_ | refine Below.next ?_ (by assumption) | refine Below.setCell ?_ (by dsimp only; omega) _))) HI.out.valid hr).mono ?_); rintro e w2 ⟨rfl, hb5⟩; have HB5 := Lib.hide (show Below W.heap.size W w2 from (by repeat (first | exact Below.refl _ _ | assumption | refine Below.drew ?_ | refine below_drewN ?_ _ | refine Below.allocs ?_ | refine Below.next ?_ (by assumption) | refine Below.setCell ?_ (by dsimp only; omega) _))); have k0 := (HB5.out.cell (p := ⟨mb, 0, none⟩) y2).trans y0; have k1 := (HB5.out.cell (p := ⟨mb, 1, none⟩) y2).trans y1; have k2 := (HB5.out.cell (p := ⟨w.heap.size, 4, none⟩) al).trans a4)
      | (go_at_call 23; (with_reducible refine (alloc_range m.wa c.xs.length m.wcap c.xs c.top n l (W.alloc (.cells #[.slice none 0 0, .int .i64 0] 27)).drew (HHW.out.below (by repeat (first | exact Below.refl _ _ | assumption | refine Below.drew ?_ | refine below_drewN ?_ _ | refine Below.allocs ?_ | refine Below.next ?_ (by assumption) | refine Below.setCell ?_ (by dsimp only; omega) _))) HI.out.valid hr).mono ?_); rintro e w2 ⟨rfl, hb5⟩; have HB5 := Lib.hide (show Below W.heap.size W w2 from (by repeat (first | exact Below.refl _ _ | assumption | refine Below.drew ?_ | refine below_drewN ?_ _ | refine Below.allocs ?_ | refine Below.next ?_ (by assumption) | refine Below.setCell ?_ (by dsimp only; omega) _))); have k0 := (HB5.out.cell (p := ⟨mb, 0, none⟩) y2).trans y0; have k1 := (HB5.out.cell (p := ⟨mb, 1, none⟩) y2).trans y1; have k2 := (HB5.out.cell (p := ⟨w.heap.size, 4, none⟩) al).trans a4; obtain ⟨q0, q1, q2, q3, q4⟩ := ((Box2.new W (.slice none 0 0) (.int .i64 0) 27).next (w' := (W.alloc (.cells #[.slice none 0 0, .int .i64 0] 27)).drew) (by repeat (first | exact Below.refl _ _ | assumption | refine Below.drew ?_ | refine below_drewN ?_ _ | refine Below.allocs ?_ | refine Below.next ?_ (by assumption) | refine Below.setCell ?_ (by dsimp only; omega) _))).next hb5))
  · have hX : Below W.heap.size W (w2.alloc (.cells #[.slice none 0 0, .int .i64 0] 27)) := (HB5.out.alloc HB5.out.size _)
    have bX : Box2 (w2.alloc (.cells #[.slice none 0 0, .int .i64 0] 27)) w2.heap.size (.slice none 0 0) (.int .i64 0) := Box2.new _ _ _ _
    have nr : ∀ i, ρ i ≠ none → i ≠ w2.heap.size := fun i hi e => by have := (HW.out.low i hi).2; have := HB5.out.size; omega
    generalize hXe : w2.alloc (.cells #[.slice none 0 0, .int .i64 0] 27) = X at hX bX ⊢
    generalize hbe : w2.heap.size = bx at bX nr ⊢
    clear hXe hbe
    have HMX := Lib.hide (HW.out.next hX)
    have MX := Lib.hide (MV.out.next hX)
    have BAX := Lib.hide (BA.out.next hX)
    have HX := Lib.hide hX
    obtain ⟨c0, c1, c2, c3, c4⟩ := bX
    have b1 := BAX.out.cell 1 _ rfl
    have b2 := BAX.out.cell 2 _ rfl
    have bl := BAX.out.lt
    clear hX k0 k1 k2 y0 y1 y2 a4 HB5 hb5
    go_wp2
    go_ret
    exact ⟨2, c, m, ρ, HC.out, rfl, HMX.out.next (by repeat (first | exact Below.refl _ _ | assumption | refine Below.drew ?_ | refine below_drewN ?_ _ | refine Below.allocs ?_ | refine Below.next ?_ (by assumption) | refine Below.setCell ?_ (by dsimp only; omega) _)), MX.out.next (by repeat (first | exact Below.refl _ _ | assumption | refine Below.drew ?_ | refine below_drewN ?_ _ | refine Below.allocs ?_ | refine Below.next ?_ (by assumption) | refine Below.setCell ?_ (by dsimp only; omega) _))⟩
  · have hX : Below W.heap.size W ((w2.setCell ⟨W.heap.size, 0, none⟩ (.slice none 0 0)).setCell ⟨W.heap.size, 1, none⟩ (.int .i64 0)) := ((HB5.out.setCell (Nat.le_refl _) _).setCell (Nat.le_refl _) _)
    have bX : Box2 ((w2.setCell ⟨W.heap.size, 0, none⟩ (.slice none 0 0)).setCell ⟨W.heap.size, 1, none⟩ (.int .i64 0)) W.heap.size (.slice none 0 0) (.int .i64 0) := (show Box2 w2 W.heap.size (.slice none 0 0) (.int .i64 0) from ⟨q0, q1, q2, q3, q4⟩).put _ _
    have nr : ∀ i, ρ i ≠ none → i ≠ W.heap.size := fun i hi e => by have := (HW.out.low i hi).2; have := HB5.out.size; omega
    generalize hXe : (w2.setCell ⟨W.heap.size, 0, none⟩ (.slice none 0 0)).setCell ⟨W.heap.size, 1, none⟩ (.int .i64 0) = X at hX bX ⊢
    generalize hbe : W.heap.size = bx at bX nr ⊢
    clear hXe hbe
    have HMX := Lib.hide (HW.out.next hX)
    have MX := Lib.hide (MV.out.next hX)
    have BAX := Lib.hide (BA.out.next hX)
    have HX := Lib.hide hX
    obtain ⟨c0, c1, c2, c3, c4⟩ := bX
    have b1 := BAX.out.cell 1 _ rfl
    have b2 := BAX.out.cell 2 _ rfl
    have bl := BAX.out.lt
    clear hX k0 k1 k2 y0 y1 y2 a4 HB5 hb5
    go_wp2
    go_ret
    exact ⟨2, c, m, ρ, HC.out, rfl, HMX.out.next (by repeat (first | exact Below.refl _ _ | assumption | refine Below.drew ?_ | refine below_drewN ?_ _ | refine Below.allocs ?_ | refine Below.next ?_ (by assumption) | refine Below.setCell ?_ (by dsimp only; omega) _)), MX.out.next (by repeat (first | exact Below.refl _ _ | assumption | refine Below.drew ?_ | refine below_drewN ?_ _ | refine Below.allocs ?_ | refine Below.next ?_ (by assumption) | refine Below.setCell ?_ (by dsimp only; omega) _))⟩

set_option maxHeartbeats 1600000 in
theorem create_full (B mb k : Nat) (ρ : Roles) (c : Mc) (m : Mem) (l : List Nat) (k' : Nat) (kd : Int) (t A : Nat) (b n : Int) (w : World) (h : Mach w B mb k ρ c m) (hi : Inv c l k') (hB : B ≤ w.heap.size) (ht : t < 4) (hA : A < 4) (ho : (c.tx t).isOpen = true) (hn : 0 ≤ n ∧ n ≤ 6) (hfit : ¬ (2 + n ≤ c.xs.length - c.top)) :
    Calls Try.prog 88 #[.pointer (some ⟨mb, 0, none⟩), .agg #[.int .i64 kd, .int .i64 t, .int .i64 A, .int .i64 b, .int .i64 n]] w (MCode w B mb k ρ (CNew c t A n)) := by
  have x0 := h.blk.isOpen t ht
  rw [ho] at x0
  have hlt := h.blk.lt
  obtain ⟨f, rfl⟩ := Int.eq_ofNat_of_zero_le hn.1
  obtain ⟨T, hT⟩ := Int.eq_ofNat_of_zero_le (a := c.top) (by have := hi.valid.top1; omega)
  have hf6 : f ≤ 6 := by omega
  have hv0 := hi.valid
  rw [hT] at hv0 hfit
  have v1 := hv0.top1
  have v2 := hv0.top2
  have v3 := hv0.len2
  have HVV := Lib.hide hv0
  have HT := Lib.hide hT
  have HC := Lib.hide (show CNew c t A (f : Int) (.err 1) c from Ite.pos ho (Ite.pos hn (Ite.neg (by rw [hT]; exact hfit) ⟨rfl, rfl⟩)))
  have hfull : c.xs.length < T + 2 + f := by omega
  clear hn hfit hT hv0
  have H := Lib.hide h
  have HI := Lib.hide hi
  have HO := Lib.hide ho
  have NR := Lib.hide (fun b (hb : w.heap.size ≤ b) => h.noRole hb)
  have HH := Lib.hide (h.isHeap hi)
  clear h ho hi
  go_enter Try.func88, Try.ntmps88
  go_wp2
  go_region
  go_wp2
  have hA1 : BoxL (w.alloc (.cells #[.int .i64 kd, .int .i64 t, .int .i64 A, .int .i64 b, .int .i64 (f : Int)] 71)).drew w.heap.size (actList kd t A b (f : Int)) := (BoxL.new w (actList kd t A b (f : Int)) 71).kept rfl (Nat.le_refl _)
  have hW := (H.out.alloc (.cells #[.int .i64 kd, .int .i64 t, .int .i64 A, .int .i64 b, .int .i64 (f : Int)] 71)).drew
  have hM : Moved ρ w ρ (w.alloc (.cells #[.int .i64 kd, .int .i64 t, .int .i64 A, .int .i64 b, .int .i64 (f : Int)] 71)).drew := Moved.of_below (by repeat (first | exact Below.refl _ _ | assumption | refine Below.drew ?_ | refine below_drewN ?_ _ | refine Below.allocs ?_ | refine Below.next ?_ (by assumption) | refine Below.setCell ?_ (by dsimp only; omega) _))
  have hH := HH.out.below (w' := (w.alloc (.cells #[.int .i64 kd, .int .i64 t, .int .i64 A, .int .i64 b, .int .i64 (f : Int)] 71)).drew) (by repeat (first | exact Below.refl _ _ | assumption | refine Below.drew ?_ | refine below_drewN ?_ _ | refine Below.allocs ?_ | refine Below.next ?_ (by assumption) | refine Below.setCell ?_ (by dsimp only; omega) _))
  generalize (w.alloc (.cells #[.int .i64 kd, .int .i64 t, .int .i64 A, .int .i64 b, .int .i64 (f : Int)] 71)).drew = W at hA1 hW hM hH ⊢
  have y0 := hW.blk.words
  have y1 := hW.blk.top
  rw [HT.out] at y1 hH
  have y2 := hW.blk.lt
  have a4 := hA1.cell 4 _ rfl
  have al := hA1.lt
  have HW := Lib.hide hW
  have MV := Lib.hide hM
  have BA := Lib.hide hA1
  have HHW := Lib.hide hH
  have n1 : mb ≠ W.heap.size := by omega
  have n2 : w.heap.size ≠ W.heap.size := by omega
  clear hW hM hA1 hH x0 HH
  go_region_held3 (fun w' => w'.cell? ⟨mb, 0, none⟩ = some (.slice m.wa c.xs.length m.wcap) ∧ w'.cell? ⟨mb, 1, none⟩ = some (.int .i64 (T : Int)) ∧ w'.cell? ⟨w.heap.size, 4, none⟩ = some (.int .i64 (f : Int)))
    (first | exact ⟨y0, y1, a4⟩ | exact ⟨k0, k1, k2⟩ | exact ⟨alloc_cell y0, alloc_cell y1, alloc_cell a4⟩ | exact ⟨alloc_cell k0, alloc_cell k1, alloc_cell k2⟩ | exact ⟨far_cell (far_cell k0 n1) n1, far_cell (far_cell k1 n1) n1, far_cell (far_cell k2 n2) n2⟩ | go_keep)
    (first
      | (go_at_call 23; (with_reducible refine (alloc_full m.wa c.xs.length m.wcap c.xs T f l W.drew (HHW.out.below (by repeat (first | exact Below.refl _ _ | assumption | refine Below.drew ?_ | refine below_drewN ?_ _ | refine Below.allocs ?_ | refine Below.next ?_ (by assumption) | refine Below.setCell ?_ (by dsimp only; omega) _))) HVV.out hf6 hfull).mono ?_); rintro e w2 ⟨rfl, hb5⟩; have HB5 := Lib.hide (show Below W.heap.size W w2 from (by repeat (first | exact Below.refl _ _ | assumption | refine Below.drew ?_ | refine below_drewN ?_ _ | refine Below.allocs ?_ | refine Below.next ?_ (by assumption) | refine Below.setCell ?_ (by dsimp only; omega) _))); have k0 := (HB5.out.cell (p := ⟨mb, 0, none⟩) y2).trans y0; have k1 := (HB5.out.cell (p := ⟨mb, 1, none⟩) y2).trans y1; have k2 := (HB5.out.cell (p := ⟨w.heap.size, 4, none⟩) al).trans a4)
      | (go_at_call 23; (with_reducible refine (alloc_full m.wa c.xs.length m.wcap c.xs T f l (W.alloc (.cells #[.slice none 0 0, .int .i64 0] 27)).drew (HHW.out.below (by repeat (first | exact Below.refl _ _ | assumption | refine Below.drew ?_ | refine below_drewN ?_ _ | refine Below.allocs ?_ | refine Below.next ?_ (by assumption) | refine Below.setCell ?_ (by dsimp only; omega) _))) HVV.out hf6 hfull).mono ?_); rintro e w2 ⟨rfl, hb5⟩; have HB5 := Lib.hide (show Below W.heap.size W w2 from (by repeat (first | exact Below.refl _ _ | assumption | refine Below.drew ?_ | refine below_drewN ?_ _ | refine Below.allocs ?_ | refine Below.next ?_ (by assumption) | refine Below.setCell ?_ (by dsimp only; omega) _))); have k0 := (HB5.out.cell (p := ⟨mb, 0, none⟩) y2).trans y0; have k1 := (HB5.out.cell (p := ⟨mb, 1, none⟩) y2).trans y1; have k2 := (HB5.out.cell (p := ⟨w.heap.size, 4, none⟩) al).trans a4; obtain ⟨q0, q1, q2, q3, q4⟩ := ((Box2.new W (.slice none 0 0) (.int .i64 0) 27).next (w' := (W.alloc (.cells #[.slice none 0 0, .int .i64 0] 27)).drew) (by repeat (first | exact Below.refl _ _ | assumption | refine Below.drew ?_ | refine below_drewN ?_ _ | refine Below.allocs ?_ | refine Below.next ?_ (by assumption) | refine Below.setCell ?_ (by dsimp only; omega) _))).next hb5))
  · have hX : Below W.heap.size W (w2.alloc (.cells #[.slice none 0 0, .int .i64 0] 27)) := (HB5.out.alloc HB5.out.size _)
    have bX : Box2 (w2.alloc (.cells #[.slice none 0 0, .int .i64 0] 27)) w2.heap.size (.slice none 0 0) (.int .i64 0) := Box2.new _ _ _ _
    have nr : ∀ i, ρ i ≠ none → i ≠ w2.heap.size := fun i hi e => by have := (HW.out.low i hi).2; have := HB5.out.size; omega
    generalize hXe : w2.alloc (.cells #[.slice none 0 0, .int .i64 0] 27) = X at hX bX ⊢
    generalize hbe : w2.heap.size = bx at bX nr ⊢
    clear hXe hbe
    have HMX := Lib.hide (HW.out.next hX)
    have MX := Lib.hide (MV.out.next hX)
    have BAX := Lib.hide (BA.out.next hX)
    have HX := Lib.hide hX
    obtain ⟨c0, c1, c2, c3, c4⟩ := bX
    have b1 := BAX.out.cell 1 _ rfl
    have b2 := BAX.out.cell 2 _ rfl
    have bl := BAX.out.lt
    clear hX k0 k1 k2 y0 y1 y2 a4 HB5 hb5
    go_wp2
    go_ret
    exact ⟨1, c, m, ρ, HC.out, rfl, HMX.out.next (by repeat (first | exact Below.refl _ _ | assumption | refine Below.drew ?_ | refine below_drewN ?_ _ | refine Below.allocs ?_ | refine Below.next ?_ (by assumption) | refine Below.setCell ?_ (by dsimp only; omega) _)), MX.out.next (by repeat (first | exact Below.refl _ _ | assumption | refine Below.drew ?_ | refine below_drewN ?_ _ | refine Below.allocs ?_ | refine Below.next ?_ (by assumption) | refine Below.setCell ?_ (by dsimp only; omega) _))⟩
  · have hX : Below W.heap.size W ((w2.setCell ⟨W.heap.size, 0, none⟩ (.slice none 0 0)).setCell ⟨W.heap.size, 1, none⟩ (.int .i64 0)) := ((HB5.out.setCell (Nat.le_refl _) _).setCell (Nat.le_refl _) _)
    have bX : Box2 ((w2.setCell ⟨W.heap.size, 0, none⟩ (.slice none 0 0)).setCell ⟨W.heap.size, 1, none⟩ (.int .i64 0)) W.heap.size (.slice none 0 0) (.int .i64 0) := (show Box2 w2 W.heap.size (.slice none 0 0) (.int .i64 0) from ⟨q0, q1, q2, q3, q4⟩).put _ _
    have nr : ∀ i, ρ i ≠ none → i ≠ W.heap.size := fun i hi e => by have := (HW.out.low i hi).2; have := HB5.out.size; omega
    generalize hXe : (w2.setCell ⟨W.heap.size, 0, none⟩ (.slice none 0 0)).setCell ⟨W.heap.size, 1, none⟩ (.int .i64 0) = X at hX bX ⊢
    generalize hbe : W.heap.size = bx at bX nr ⊢
    clear hXe hbe
    have HMX := Lib.hide (HW.out.next hX)
    have MX := Lib.hide (MV.out.next hX)
    have BAX := Lib.hide (BA.out.next hX)
    have HX := Lib.hide hX
    obtain ⟨c0, c1, c2, c3, c4⟩ := bX
    have b1 := BAX.out.cell 1 _ rfl
    have b2 := BAX.out.cell 2 _ rfl
    have bl := BAX.out.lt
    clear hX k0 k1 k2 y0 y1 y2 a4 HB5 hb5
    go_wp2
    go_ret
    exact ⟨1, c, m, ρ, HC.out, rfl, HMX.out.next (by repeat (first | exact Below.refl _ _ | assumption | refine Below.drew ?_ | refine below_drewN ?_ _ | refine Below.allocs ?_ | refine Below.next ?_ (by assumption) | refine Below.setCell ?_ (by dsimp only; omega) _)), MX.out.next (by repeat (first | exact Below.refl _ _ | assumption | refine Below.drew ?_ | refine below_drewN ?_ _ | refine Below.allocs ?_ | refine Below.next ?_ (by assumption) | refine Below.setCell ?_ (by dsimp only; omega) _))⟩

set_option maxHeartbeats 1600000 in
theorem create_yes (B mb k : Nat) (ρ : Roles) (c : Mc) (m : Mem) (l : List Nat) (k' : Nat) (kd : Int) (t A : Nat) (b n : Int) (w : World) (h : Mach w B mb k ρ c m) (hi : Inv c l k') (hB : B ≤ w.heap.size) (ht : t < 4) (hA : A < 4) (ho : (c.tx t).isOpen = true) (hn : 0 ≤ n ∧ n ≤ 6) (hfit : 2 + n ≤ c.xs.length - c.top) :
    Calls Try.prog 88 #[.pointer (some ⟨mb, 0, none⟩), .agg #[.int .i64 kd, .int .i64 t, .int .i64 A, .int .i64 b, .int .i64 n]] w (MCode w B mb k ρ (CNew c t A n)) := by
  have x0 := h.blk.isOpen t ht
  rw [ho] at x0
  have hlt := h.blk.lt
  obtain ⟨f, rfl⟩ := Int.eq_ofNat_of_zero_le hn.1
  obtain ⟨T, hT⟩ := Int.eq_ofNat_of_zero_le (a := c.top) (by have := hi.valid.top1; omega)
  have hf6 : f ≤ 6 := by omega
  have hv0 := hi.valid
  rw [hT] at hv0 hfit
  have v1 := hv0.top1
  have v2 := hv0.top2
  have v3 := hv0.len2
  have HVV := Lib.hide hv0
  have HT := Lib.hide hT
  have HC := Lib.hide (show CNew c t A (f : Int) (.err 0) ⟨c.xs.set (T + 1) f, (T : Int) + (2 + f), upd c.regs t (upd (c.regs t) A ⟨1, T⟩), c.tx, c.coll⟩ from Ite.pos ho (Ite.pos hn (Ite.pos (by rw [hT]; exact hfit) ⟨rfl, by rw [hT]; rfl⟩)))
  have hfull : T + 2 + f ≤ c.xs.length := by omega
  clear hn hfit hT hv0
  have H := Lib.hide h
  have HI := Lib.hide hi
  have HO := Lib.hide ho
  have NR := Lib.hide (fun b (hb : w.heap.size ≤ b) => h.noRole hb)
  have HH := Lib.hide (h.isHeap hi)
  clear h ho hi
  go_enter Try.func88, Try.ntmps88
  go_wp2
  go_region
  go_wp2
  have hA1 : BoxL (w.alloc (.cells #[.int .i64 kd, .int .i64 t, .int .i64 A, .int .i64 b, .int .i64 (f : Int)] 71)).drew w.heap.size (actList kd t A b (f : Int)) := (BoxL.new w (actList kd t A b (f : Int)) 71).kept rfl (Nat.le_refl _)
  have hW := (H.out.alloc (.cells #[.int .i64 kd, .int .i64 t, .int .i64 A, .int .i64 b, .int .i64 (f : Int)] 71)).drew
  have hM : Moved ρ w ρ (w.alloc (.cells #[.int .i64 kd, .int .i64 t, .int .i64 A, .int .i64 b, .int .i64 (f : Int)] 71)).drew := Moved.of_below (by repeat (first | exact Below.refl _ _ | assumption | refine Below.drew ?_ | refine below_drewN ?_ _ | refine Below.allocs ?_ | refine Below.next ?_ (by assumption) | refine Below.setCell ?_ (by dsimp only; omega) _))
  have hH := HH.out.below (w' := (w.alloc (.cells #[.int .i64 kd, .int .i64 t, .int .i64 A, .int .i64 b, .int .i64 (f : Int)] 71)).drew) (by repeat (first | exact Below.refl _ _ | assumption | refine Below.drew ?_ | refine below_drewN ?_ _ | refine Below.allocs ?_ | refine Below.next ?_ (by assumption) | refine Below.setCell ?_ (by dsimp only; omega) _))
  generalize (w.alloc (.cells #[.int .i64 kd, .int .i64 t, .int .i64 A, .int .i64 b, .int .i64 (f : Int)] 71)).drew = W at hA1 hW hM hH ⊢
  have y0 := hW.blk.words
  have y1 := hW.blk.top
  rw [HT.out] at y1 hH
  have y2 := hW.blk.lt
  have a4 := hA1.cell 4 _ rfl
  have al := hA1.lt
  have HW := Lib.hide hW
  have MV := Lib.hide hM
  have BA := Lib.hide hA1
  have HHW := Lib.hide hH
  have n1 : mb ≠ W.heap.size := by omega
  have hWB : B ≤ W.heap.size := Nat.le_trans hB MV.out.size
  have n2 : w.heap.size ≠ W.heap.size := by omega
  clear hW hM hA1 hH x0 HH
  go_region_held3 (fun w' => w'.cell? ⟨mb, 0, none⟩ = some (.slice m.wa c.xs.length m.wcap) ∧ w'.cell? ⟨mb, 1, none⟩ = some (.int .i64 (T : Int)) ∧ w'.cell? ⟨w.heap.size, 4, none⟩ = some (.int .i64 (f : Int)))
    (first | exact ⟨y0, y1, a4⟩ | exact ⟨k0, k1, k2⟩ | exact ⟨alloc_cell y0, alloc_cell y1, alloc_cell a4⟩ | exact ⟨alloc_cell k0, alloc_cell k1, alloc_cell k2⟩ | exact ⟨far_cell (far_cell k0 n1) n1, far_cell (far_cell k1 n1) n1, far_cell (far_cell k2 n2) n2⟩ | go_keep)
    (first
      | (go_at_call 23; (with_reducible refine (alloc_yes m.wa c.xs.length m.wcap c.xs T f l W.drew (HHW.out.below (by repeat (first | exact Below.refl _ _ | assumption | refine Below.drew ?_ | refine below_drewN ?_ _ | refine Below.allocs ?_ | refine Below.next ?_ (by assumption) | refine Below.setCell ?_ (by dsimp only; omega) _))) HVV.out hf6 hfull).mono ?_); rintro e w2 ⟨a5, c5, rfl, ho5, hb5⟩; have HB5 := Lib.hide (show Below W.heap.size W w2 from (by repeat (first | exact Below.refl _ _ | assumption | refine Below.drew ?_ | refine below_drewN ?_ _ | refine Below.allocs ?_ | refine Below.next ?_ (by assumption) | refine Below.setCell ?_ (by dsimp only; omega) _))); have k0 := (HB5.out.cell (p := ⟨mb, 0, none⟩) y2).trans y0; have k1 := (HB5.out.cell (p := ⟨mb, 1, none⟩) y2).trans y1; have k2 := (HB5.out.cell (p := ⟨w.heap.size, 4, none⟩) al).trans a4; have HO5 := Lib.hide (show Own w2 W.heap.size (.slice a5 c.xs.length c5) (c.xs.set (T + 1) f) from ho5); clear ho5)
      | (go_at_call 23; (with_reducible refine (alloc_yes m.wa c.xs.length m.wcap c.xs T f l (W.alloc (.cells #[.slice none 0 0, .int .i64 0] 27)).drew (HHW.out.below (by repeat (first | exact Below.refl _ _ | assumption | refine Below.drew ?_ | refine below_drewN ?_ _ | refine Below.allocs ?_ | refine Below.next ?_ (by assumption) | refine Below.setCell ?_ (by dsimp only; omega) _))) HVV.out hf6 hfull).mono ?_); rintro e w2 ⟨a5, c5, rfl, ho5, hb5⟩; have HB5 := Lib.hide (show Below W.heap.size W w2 from (by repeat (first | exact Below.refl _ _ | assumption | refine Below.drew ?_ | refine below_drewN ?_ _ | refine Below.allocs ?_ | refine Below.next ?_ (by assumption) | refine Below.setCell ?_ (by dsimp only; omega) _))); have k0 := (HB5.out.cell (p := ⟨mb, 0, none⟩) y2).trans y0; have k1 := (HB5.out.cell (p := ⟨mb, 1, none⟩) y2).trans y1; have k2 := (HB5.out.cell (p := ⟨w.heap.size, 4, none⟩) al).trans a4; obtain ⟨q0, q1, q2, q3, q4⟩ := ((Box2.new W (.slice none 0 0) (.int .i64 0) 27).next (w' := (W.alloc (.cells #[.slice none 0 0, .int .i64 0] 27)).drew) (by repeat (first | exact Below.refl _ _ | assumption | refine Below.drew ?_ | refine below_drewN ?_ _ | refine Below.allocs ?_ | refine Below.next ?_ (by assumption) | refine Below.setCell ?_ (by dsimp only; omega) _))).next hb5; have HO5 := Lib.hide (show Own w2 (W.heap.size + 1) (.slice a5 c.xs.length c5) (c.xs.set (T + 1) f) from (by have h9 := ho5; simpa using h9)); clear ho5))
  · have hX : Below W.heap.size W (w2.alloc (.cells #[.slice a5 c.xs.length c5, .int .i64 ((T : Int) + (2 + f))] 27)) := (HB5.out.alloc HB5.out.size _)
    have bX : Box2 (w2.alloc (.cells #[.slice a5 c.xs.length c5, .int .i64 ((T : Int) + (2 + f))] 27)) w2.heap.size (.slice a5 c.xs.length c5) (.int .i64 ((T : Int) + (2 + f))) := Box2.new _ _ _ _
    have nr : ∀ i, ρ i ≠ none → i ≠ w2.heap.size := fun i hi e => by have := (HW.out.low i hi).2; have := HB5.out.size; omega
    have hO : Own (w2.alloc (.cells #[.slice a5 c.xs.length c5, .int .i64 ((T : Int) + (2 + f))] 27)) W.heap.size (.slice a5 c.xs.length c5) (c.xs.set (T + 1) f) := HO5.out.allocs _
    generalize hXe : w2.alloc (.cells #[.slice a5 c.xs.length c5, .int .i64 ((T : Int) + (2 + f))] 27) = X at hX bX hO ⊢
    generalize hbe : w2.heap.size = bx at bX nr ⊢
    clear hXe hbe
    have HMX := Lib.hide (HW.out.next hX)
    have MX := Lib.hide (MV.out.next hX)
    have BAX := Lib.hide (BA.out.next hX)
    have HX := Lib.hide hX
    obtain ⟨c0, c1, c2, c3, c4⟩ := bX
    have b1 := BAX.out.cell 1 _ rfl
    have b2 := BAX.out.cell 2 _ rfl
    have bl := BAX.out.lt
    clear hX k0 k1 k2 y0 y1 y2 a4 HB5 hb5
    obtain ⟨ρ', hM6, hV6⟩ := HW.out.newWords hWB HX.out (by simp) hO ((T : Int) + (2 + f))
    have m0 := HMX.out.blk.words
    have m1 := HMX.out.blk.top
    have m2 := HMX.out.blk.warm 0
    have m3 := HMX.out.blk.warm 1
    have m4 := HMX.out.blk.lt
    have nbx : bx ≠ mb := fun e => nr mb (by rw [HMX.out.rmb]; simp) e.symm
    have nwb : w.heap.size ≠ mb := by omega
    have HM6 := Lib.hide hM6
    have MV6 := Lib.hide ((MV.out.trans hV6))
    have g0 := hM6.blk.regk t A ht hA
    have g1 := hM6.blk.regn t A ht hA
    have g2 := hM6.blk.warm (2 + t * 8 + A * 2)
    have g3 := hM6.blk.warm (2 + t * 8 + A * 2 + 1)
    have hA6 : BoxL (puts X mb 0 [.slice a5 c.xs.length c5, .int .i64 ((T : Int) + (2 + f))]) w.heap.size (actList kd t A b (f : Int)) := BAX.out.kept (puts_other _ _ _ _ _ nwb) (Nat.le_of_eq (puts_size _ _ _ _).symm)
    have b1' := hA6.cell 1 _ rfl
    have b2' := hA6.cell 2 _ rfl
    have bl' := hA6.lt
    have m4' := hM6.blk.lt
    have hpm := puts_mem X mb (.slice a5 c.xs.length c5) (.int .i64 ((T : Int) + (2 + f)))
    rw [hpm] at g0 g1 g2 g3 b1' b2' bl' m4' HM6 MV6
    clear hM6 hV6 hpm hA6
    go_wp2
    generalize hYe : (X.setCell ⟨mb, 0, none⟩ (.slice a5 c.xs.length c5)).setCell ⟨mb, 1, none⟩ (.int .i64 ((T : Int) + (2 + f))) = Y at g0 g1 g2 g3 b1' b2' bl' m4' HM6 MV6 ⊢
    clear m0 m1 m2 m3 m4 c0 c1 c2 c3 c4 b1 b2 bl hYe
    go_region
    go_wp2
    go_ret
    have hM9 := (HM6.out.setReg ht hA ⟨1, T⟩).drew
    have hV9 := (MV6.out.trans (Moved.put HM6.out (2 + t * 8 + A * 2) [.int .i64 1, .int .i64 (T : Int)])).trans (Moved.drew _ _)
    rw [puts_two] at hM9 hV9
    exact ⟨0, _, _, ρ', HC.out, rfl, hM9, hV9⟩
  · have hX : Below W.heap.size W ((w2.setCell ⟨W.heap.size, 0, none⟩ (.slice a5 c.xs.length c5)).setCell ⟨W.heap.size, 1, none⟩ (.int .i64 ((T : Int) + (2 + f)))) := ((HB5.out.setCell (Nat.le_refl _) _).setCell (Nat.le_refl _) _)
    have bX : Box2 ((w2.setCell ⟨W.heap.size, 0, none⟩ (.slice a5 c.xs.length c5)).setCell ⟨W.heap.size, 1, none⟩ (.int .i64 ((T : Int) + (2 + f)))) W.heap.size (.slice a5 c.xs.length c5) (.int .i64 ((T : Int) + (2 + f))) := (show Box2 w2 W.heap.size (.slice none 0 0) (.int .i64 0) from ⟨q0, q1, q2, q3, q4⟩).put _ _
    have nr : ∀ i, ρ i ≠ none → i ≠ W.heap.size := fun i hi e => by have := (HW.out.low i hi).2; have := HB5.out.size; omega
    have hO : Own ((w2.setCell ⟨W.heap.size, 0, none⟩ (.slice a5 c.xs.length c5)).setCell ⟨W.heap.size, 1, none⟩ (.int .i64 ((T : Int) + (2 + f)))) W.heap.size (.slice a5 c.xs.length c5) (c.xs.set (T + 1) f) := ownsRow_kept (ownsRow_base HO5.out (Nat.le_succ _)) (fun g hg => by have := (World.ownsRow.lt HO5.out _ hg).1; exact (set_other _ _ _ _ _ (by omega)).trans (set_other _ _ _ _ _ (by omega)))
    generalize hXe : (w2.setCell ⟨W.heap.size, 0, none⟩ (.slice a5 c.xs.length c5)).setCell ⟨W.heap.size, 1, none⟩ (.int .i64 ((T : Int) + (2 + f))) = X at hX bX hO ⊢
    generalize hbe : W.heap.size = bx at bX nr ⊢
    clear hXe hbe
    have HMX := Lib.hide (HW.out.next hX)
    have MX := Lib.hide (MV.out.next hX)
    have BAX := Lib.hide (BA.out.next hX)
    have HX := Lib.hide hX
    obtain ⟨c0, c1, c2, c3, c4⟩ := bX
    have b1 := BAX.out.cell 1 _ rfl
    have b2 := BAX.out.cell 2 _ rfl
    have bl := BAX.out.lt
    clear hX k0 k1 k2 y0 y1 y2 a4 HB5 hb5
    obtain ⟨ρ', hM6, hV6⟩ := HW.out.newWords hWB HX.out (by simp) hO ((T : Int) + (2 + f))
    have m0 := HMX.out.blk.words
    have m1 := HMX.out.blk.top
    have m2 := HMX.out.blk.warm 0
    have m3 := HMX.out.blk.warm 1
    have m4 := HMX.out.blk.lt
    have nbx : bx ≠ mb := fun e => nr mb (by rw [HMX.out.rmb]; simp) e.symm
    have nwb : w.heap.size ≠ mb := by omega
    have HM6 := Lib.hide hM6
    have MV6 := Lib.hide ((MV.out.trans hV6))
    have g0 := hM6.blk.regk t A ht hA
    have g1 := hM6.blk.regn t A ht hA
    have g2 := hM6.blk.warm (2 + t * 8 + A * 2)
    have g3 := hM6.blk.warm (2 + t * 8 + A * 2 + 1)
    have hA6 : BoxL (puts X mb 0 [.slice a5 c.xs.length c5, .int .i64 ((T : Int) + (2 + f))]) w.heap.size (actList kd t A b (f : Int)) := BAX.out.kept (puts_other _ _ _ _ _ nwb) (Nat.le_of_eq (puts_size _ _ _ _).symm)
    have b1' := hA6.cell 1 _ rfl
    have b2' := hA6.cell 2 _ rfl
    have bl' := hA6.lt
    have m4' := hM6.blk.lt
    have hpm := puts_mem X mb (.slice a5 c.xs.length c5) (.int .i64 ((T : Int) + (2 + f)))
    rw [hpm] at g0 g1 g2 g3 b1' b2' bl' m4' HM6 MV6
    clear hM6 hV6 hpm hA6
    go_wp2
    generalize hYe : (X.setCell ⟨mb, 0, none⟩ (.slice a5 c.xs.length c5)).setCell ⟨mb, 1, none⟩ (.int .i64 ((T : Int) + (2 + f))) = Y at g0 g1 g2 g3 b1' b2' bl' m4' HM6 MV6 ⊢
    clear m0 m1 m2 m3 m4 c0 c1 c2 c3 c4 b1 b2 bl hYe
    go_region
    go_wp2
    go_ret
    have hM9 := (HM6.out.setReg ht hA ⟨1, T⟩).drew
    have hV9 := (MV6.out.trans (Moved.put HM6.out (2 + t * 8 + A * 2) [.int .i64 1, .int .i64 (T : Int)])).trans (Moved.drew _ _)
    rw [puts_two] at hM9 hV9
    exact ⟨0, _, _, ρ', HC.out, rfl, hM9, hV9⟩

theorem create_any (B mb k : Nat) (ρ : Roles) (c : Mc) (m : Mem) (l : List Nat) (k' : Nat) (kd : Int) (t A : Nat) (b n : Int) (w : World) (h : Mach w B mb k ρ c m) (hi : Inv c l k') (hB : B ≤ w.heap.size) (ht : t < 4) (hA : A < 4) :
    Calls Try.prog 88 #[.pointer (some ⟨mb, 0, none⟩), .agg #[.int .i64 kd, .int .i64 t, .int .i64 A, .int .i64 b, .int .i64 n]] w (MCode w B mb k ρ (CNew c t A n)) := by
  cases ho : (c.tx t).isOpen
  · exact create_shut B mb k ρ c m kd t A b n w h ht ho
  · by_cases hn : 0 ≤ n ∧ n ≤ 6
    · by_cases hfit : 2 + n ≤ c.xs.length - c.top
      · exact create_yes B mb k ρ c m l k' kd t A b n w h hi hB ht hA ho hn hfit
      · exact create_full B mb k ρ c m l k' kd t A b n w h hi hB ht hA ho hn hfit
    · exact create_range B mb k ρ c m l k' kd t A b n w h hi hB ht hA ho hn
end Go.Proofs.Ytpdcaoagpjcgbab

