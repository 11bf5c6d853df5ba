/-
  The walks of heap.Store. It proves no statement by itself.
-/
import Derived.Test.YtpdcaoagpjcgbabAllocWalks
import Derived.Deep.RegionHeld3
set_option linter.unusedVariables false
set_option linter.unusedSimpArgs false
namespace Go.Proofs.Ytpdcaoagpjcgbab
open Go.RowKit

/-- A box of two cells at block b. -/
structure Box2 (w : World) (b : Nat) (x y : Value) : Prop where
  c0 : w.cell? ⟨b, 0, none⟩ = some x
  c1 : w.cell? ⟨b, 1, none⟩ = some y
  f0 : w.frozen? ⟨b, 0, none⟩ = false
  f1 : w.frozen? ⟨b, 1, none⟩ = false
  lt : b < w.heap.size

theorem Box2.next {w w' : World} {b : Nat} {x y : Value} (h : Box2 w b x y) (hb : Below w.heap.size w w') : Box2 w' b x y :=
  ⟨(hb.cell (p := ⟨b, 0, none⟩) h.lt).trans h.c0, (hb.cell (p := ⟨b, 1, none⟩) h.lt).trans h.c1, (hb.frozen (p := ⟨b, 0, none⟩) h.lt).trans h.f0, (hb.frozen (p := ⟨b, 1, none⟩) h.lt).trans h.f1, Nat.lt_of_lt_of_le h.lt hb.size⟩
theorem Box2.new (w : World) (x y : Value) (t : TypeId) : Box2 (w.alloc (.cells #[x, y] t)) w.heap.size x y := by
  constructor <;> go_simp
theorem Box2.alloc {w : World} {b : Nat} {x y : Value} (h : Box2 w b x y) (o : Obj) : Box2 (w.alloc o) b x y := h.next (Below.allocs (Below.refl _ _))

theorem Box2.far {w : World} {b : Nat} {x y : Value} (h : Box2 w b x y) {p : Addr} (hp : b ≠ p.block) (u : Value) : Box2 (w.setCell p u) b x y := by
  have e := Below.heap_setCell w p u b hp
  exact ⟨(World.cell?_of_block e).trans h.c0, (World.cell?_of_block e).trans h.c1, (World.frozen?_of_block e).trans h.f0, (World.frozen?_of_block e).trans h.f1, by simpa [World.setCell] using h.lt⟩
theorem Box2.put {w : World} {b : Nat} {x y : Value} (h : Box2 w b x y) (x' y' : Value) : Box2 ((w.setCell ⟨b, 0, none⟩ x').setCell ⟨b, 1, none⟩ y') b x' y' := by
  obtain ⟨h0, h1, h2, h3, h4⟩ := h
  constructor <;> go_simp

/-- The three boxes that Store lays at its start. -/
theorem three_boxes (w : World) (x y : Value) (k m : Value) (r s : Value) (t u v : TypeId) :
    Box2 (((w.alloc (.cells #[x, y] t)).alloc (.cells #[k, m] u)).alloc (.cells #[r, s] v)) w.heap.size x y ∧
    Box2 (((w.alloc (.cells #[x, y] t)).alloc (.cells #[k, m] u)).alloc (.cells #[r, s] v)) (w.heap.size + 1) k m ∧
    Box2 (((w.alloc (.cells #[x, y] t)).alloc (.cells #[k, m] u)).alloc (.cells #[r, s] v)) (w.heap.size + 2) r s := by
  refine ⟨((Box2.new w x y t).alloc _).alloc _, ?_, ?_⟩
  · have := ((Box2.new (w.alloc (.cells #[x, y] t)) k m u).alloc (.cells #[r, s] v))
    simpa using this
  · have := Box2.new ((w.alloc (.cells #[x, y] t)).alloc (.cells #[k, m] u)) r s v
    simpa using this

/-- A heap in new memory and no error. -/
def StorePost (w : World) (xs : List Int) (n : Nat) (top : Int) (e : Ending) (w' : World) : Prop :=
  ∃ a cap, e = .returned (.tuple #[.agg #[.slice a n cap, .int .i64 top], .int .i64 0]) ∧ Own w' w.heap.size (.slice a n cap) xs ∧ Below w.heap.size w w'
/-- No heap and an error. -/
def StoreNo (w : World) (c : Int) (e : Ending) (w' : World) : Prop := e = .returned (.tuple #[.agg #[.slice none 0 0, .int .i64 0], .int .i64 c]) ∧ Below w.heap.size w w'

set_option maxHeartbeats 1600000 in
open Lw in
theorem store_bad (a : Option Addr) (n cap : Nat) (xs : List Int) (top p f k m : Int) (w : World) (hh : IsHeap w a n cap xs top) (hv : ∀ l, ¬ Valid xs top l) :
    Calls Try.prog 18 #[.agg #[.slice a n cap, .int .i64 top], .int .i64 p, .int .i64 f, .agg #[.int .i64 k, .int .i64 m]] w (StoreNo w 5) := by
  have H := Lib.hide hh
  have HV := Lib.hide hv
  clear hh hv
  have HB := Lib.hide (three_boxes w (.slice a n cap) (.int .i64 top) (.int .i64 k) (.int .i64 m) (.slice none 0 0) (.int .i64 0) 27 34 27)
  go_enter Try.func18, Try.ntmps18
  go_wp2_with (go_at_call 16; refine (places_no a n cap xs top _ (H.out.below (by repeat (first | exact Below.refl _ _ | assumption | refine Below.drew ?_ | refine below_drewN ?_ _ | refine Below.allocs ?_ | refine Below.next ?_ (by assumption) | refine Below.setCell ?_ (by dsimp only; omega) _))) HV.out).mono ?_; rintro e w1 ⟨rfl, hb1⟩; obtain ⟨q0, q1, q2, q3, q4⟩ := HB.out.2.2.next hb1)
  exact bodyPost_ret (v := .tuple #[.agg #[.slice none 0 0, .int .i64 0], .int .i64 5]) (by simp [results, Try.results18, go_sem, q0, q1]) rfl ⟨rfl, (by repeat (first | exact Below.refl _ _ | assumption | refine Below.drew ?_ | refine below_drewN ?_ _ | refine Below.allocs ?_ | refine Below.next ?_ (by assumption) | refine Below.setCell ?_ (by dsimp only; omega) _))⟩

set_option maxHeartbeats 1600000 in
open Lw in
theorem store_none (a : Option Addr) (n cap : Nat) (xs : List Int) (top p f k m : Int) (l : List Nat) (w : World) (hh : IsHeap w a n cap xs top) (hv : Valid xs top l) (hf : ¬ HasField xs l p f) :
    Calls Try.prog 18 #[.agg #[.slice a n cap, .int .i64 top], .int .i64 p, .int .i64 f, .agg #[.int .i64 k, .int .i64 m]] w (StoreNo w 4) := by
  have hx := hh.len
  have v2 := hv.len2
  have v3 := hv.top1
  have v4 := hv.top2
  rw [hx] at v2 v4
  have hl := Objects.laid hv.objects
  have ht : top.toNat ≤ n := by omega
  have H := Lib.hide hh
  have HX := Lib.hide hx
  have HV := Lib.hide hv
  have HL := Lib.hide hl
  have HF := Lib.hide hf
  clear hh hx hv hl hf
  have HB := Lib.hide (three_boxes w (.slice a n cap) (.int .i64 top) (.int .i64 k) (.int .i64 m) (.slice none 0 0) (.int .i64 0) 27 34 27)
  go_enter Try.func18, Try.ntmps18
  go_wp2_with (first
    | (go_at_call 16; refine (places_yes a n cap xs top l _ (H.out.below (by repeat (first | exact Below.refl _ _ | assumption | refine Below.drew ?_ | refine below_drewN ?_ _ | refine Below.allocs ?_ | refine Below.next ?_ (by assumption) | refine Below.setCell ?_ (by dsimp only; omega) _))) HV.out).mono ?_; rintro e w1 ⟨a1, c1, rfl, ho1, hb1⟩; have HO1 := Lib.hide ho1; clear ho1; obtain ⟨q0, q1, q2, q3, q4⟩ := HB.out.1.next hb1; have HR := Lib.hide (HB.out.2.2.next hb1))
    | (go_at_call 52; refine (hasField_any a n cap xs top.toNat top l a1 c1 p f _ (H.out.ints.below (by repeat (first | exact Below.refl _ _ | assumption | refine Below.drew ?_ | refine below_drewN ?_ _ | refine Below.allocs ?_ | refine Below.next ?_ (by assumption) | refine Below.setCell ?_ (by dsimp only; omega) _))) HX.out v2 ht HL.out (HO1.out.reads.2.below (by repeat (first | exact Below.refl _ _ | assumption | refine Below.drew ?_ | refine below_drewN ?_ _ | refine Below.allocs ?_ | refine Below.next ?_ (by assumption) | refine Below.setCell ?_ (by dsimp only; omega) _))) false (by simp [HF.out])).mono ?_; rintro e w2 ⟨rfl, hb2⟩; obtain ⟨r0, r1, r2, r3, r4⟩ := HR.out.next hb2))
  exact bodyPost_ret (v := .tuple #[.agg #[.slice none 0 0, .int .i64 0], .int .i64 4]) (by simp [results, Try.results18, go_sem, r0, r1]) rfl ⟨rfl, (by repeat (first | exact Below.refl _ _ | assumption | refine Below.drew ?_ | refine below_drewN ?_ _ | refine Below.allocs ?_ | refine Below.next ?_ (by assumption) | refine Below.setCell ?_ (by dsimp only; omega) _))⟩

set_option maxHeartbeats 1600000 in
open Lw in
theorem store_code (a : Option Addr) (n cap : Nat) (xs : List Int) (top p f k m c : Int) (l : List Nat) (w : World) (hh : IsHeap w a n cap xs top) (hv : Valid xs top l) (hf : HasField xs l p f) (hc : codeOf (nums l) k m = c) (hc0 : c ≠ 0) :
    Calls Try.prog 18 #[.agg #[.slice a n cap, .int .i64 top], .int .i64 p, .int .i64 f, .agg #[.int .i64 k, .int .i64 m]] w (StoreNo w c) := by
  have hx := hh.len
  have v2 := hv.len2
  have v3 := hv.top1
  have v4 := hv.top2
  rw [hx] at v2 v4
  have hl := Objects.laid hv.objects
  have ht : top.toNat ≤ n := by omega
  have hl4 : l.length ≤ 400 := by have := hl.short; omega
  have hd : (c != 0) = true := by simpa using hc0
  have H := Lib.hide hh
  have HX := Lib.hide hx
  have HV := Lib.hide hv
  have HL := Lib.hide hl
  have HF := Lib.hide hf
  have HC := Lib.hide hc
  clear hh hx hv hl hf hc hc0
  have HB := Lib.hide (three_boxes w (.slice a n cap) (.int .i64 top) (.int .i64 k) (.int .i64 m) (.slice none 0 0) (.int .i64 0) 27 34 27)
  go_enter Try.func18, Try.ntmps18
  go_wp2_with (first
    | (go_at_call 16; refine (places_yes a n cap xs top l _ (H.out.below (by repeat (first | exact Below.refl _ _ | assumption | refine Below.drew ?_ | refine below_drewN ?_ _ | refine Below.allocs ?_ | refine Below.next ?_ (by assumption) | refine Below.setCell ?_ (by dsimp only; omega) _))) HV.out).mono ?_; rintro e w1 ⟨a1, c1, rfl, ho1, hb1⟩; have HO1 := Lib.hide ho1; clear ho1; obtain ⟨q0, q1, q2, q3, q4⟩ := HB.out.1.next hb1; have HR := Lib.hide (HB.out.2.2.next hb1); have HVB := Lib.hide (HB.out.2.1.next hb1))
    | (go_at_call 52; refine (hasField_any a n cap xs top.toNat top l a1 c1 p f _ (H.out.ints.below (by repeat (first | exact Below.refl _ _ | assumption | refine Below.drew ?_ | refine below_drewN ?_ _ | refine Below.allocs ?_ | refine Below.next ?_ (by assumption) | refine Below.setCell ?_ (by dsimp only; omega) _))) HX.out v2 ht HL.out (HO1.out.reads.2.below (by repeat (first | exact Below.refl _ _ | assumption | refine Below.drew ?_ | refine below_drewN ?_ _ | refine Below.allocs ?_ | refine Below.next ?_ (by assumption) | refine Below.setCell ?_ (by dsimp only; omega) _))) true (by simp [HF.out])).mono ?_; rintro e w2 ⟨rfl, hb2⟩; obtain ⟨r0, r1, r2, r3, r4⟩ := HVB.out.next hb2; have HR2 := Lib.hide (HR.out.next hb2))
    | (go_at_call 53; refine (checkValue_any a1 l.length c1 (nums l) k m _ (HO1.out.reads.2.below (by repeat (first | exact Below.refl _ _ | assumption | refine Below.drew ?_ | refine below_drewN ?_ _ | refine Below.allocs ?_ | refine Below.next ?_ (by assumption) | refine Below.setCell ?_ (by dsimp only; omega) _))) (nums_length l) hl4 (nums_sorted HL.out.sorted) c HC.out).mono ?_; rintro e w3 ⟨rfl, hb3⟩; obtain ⟨s0, s1, s2, s3, s4⟩ := HR2.out.next hb3))
  exact bodyPost_ret (v := .tuple #[.agg #[.slice none 0 0, .int .i64 0], .int .i64 c]) (by simp [results, Try.results18, go_sem, s0, s1]) rfl ⟨rfl, (by repeat (first | exact Below.refl _ _ | assumption | refine Below.drew ?_ | refine below_drewN ?_ _ | refine Below.allocs ?_ | refine Below.next ?_ (by assumption) | refine Below.setCell ?_ (by dsimp only; omega) _))⟩

theorem code_bounds {xs : List Int} {t : Nat} {l : List Nat} {k m : Int} (hl : Laid xs t l) (ht : t ≤ 400) (hc : codeOf (nums l) k m = 0) : -1099511627776 ≤ m ∧ m ≤ 1099511627776 ∧ (k = 0 ∨ k = 1) := by
  unfold codeOf at hc
  split at hc
  · rename_i hk
    split at hc
    · rename_i h
      exact ⟨h.1, h.2, .inl hk⟩
    · cases hc
  · split at hc
    · rename_i hk
      split at hc
      · rename_i h
        rcases h with h | h
        · exact ⟨by omega, by omega, .inr hk⟩
        · obtain ⟨q, rfl, hq⟩ := place_bounds h hl
          exact ⟨by omega, by omega, .inr hk⟩
      · cases hc
    · cases hc

/-- The boxes that the last statement of Store reads, and the cell that it writes, behind new memory. -/
theorem store_keep {w3 w4 : World} {B X g i : Nat} {s0 s1 k m z : Value} (h1 : Box2 w3 X s0 s1) (h2 : Box2 w3 B k m) (hc : w3.cell? ⟨g, i, none⟩ = some z) (hf : w3.frozen? ⟨g, i, none⟩ = false) (hg : g < w3.heap.size) (hb : Below w3.heap.size w3 w4) :
    Box2 w4 X s0 s1 ∧ Box2 w4 B k m ∧ w4.cell? ⟨g, i, none⟩ = some z ∧ w4.frozen? ⟨g, i, none⟩ = false ∧ g < w4.heap.size :=
  ⟨h1.next hb, h2.next hb, (hb.cell (p := ⟨g, i, none⟩) hg).trans hc, (hb.frozen (p := ⟨g, i, none⟩) hg).trans hf, Nat.lt_of_lt_of_le hg hb.size⟩

theorem far_cell {w : World} {g i b j : Nat} {u v : Value} (h : w.cell? ⟨b, j, none⟩ = some v) (hne : b ≠ g) : (w.setCell ⟨g, i, none⟩ u).cell? ⟨b, j, none⟩ = some v := by
  rw [World.cell?_setCell_other w ⟨g, i, none⟩ ⟨b, j, none⟩ u (fun e => hne (by injection e with e; exact e.symm))]
  exact h

set_option maxHeartbeats 1600000 in
open Lw in
theorem store_yes (a : Option Addr) (n cap : Nat) (xs : List Int) (top k m : Int) (p f : Nat) (l : List Nat) (w : World) (hh : IsHeap w a n cap xs top) (hv : Valid xs top l) (hf : HasField xs l p f) (hc : codeOf (nums l) k m = 0) :
    Calls Try.prog 18 #[.agg #[.slice a n cap, .int .i64 top], .int .i64 p, .int .i64 f, .agg #[.int .i64 k, .int .i64 m]] w (StorePost w (xs.set (p + 2 + f) (wordOf k m)) n top) := by
  have hx := hh.len
  have v2 := hv.len2
  have v3 := hv.top1
  have v4 := hv.top2
  rw [hx] at v2 v4
  have hl := Objects.laid hv.objects
  have ht : top.toNat ≤ n := by omega
  have hl4 : l.length ≤ 400 := by have := hl.short; omega
  obtain ⟨m1, m2, m3⟩ := code_bounds hl (by omega) hc
  obtain ⟨p', f', hp', hf', _, _, hpf, _, _⟩ := hf.where hl
  obtain rfl : p = p' := by omega
  obtain rfl : f = f' := by omega
  have H := Lib.hide hh
  have HX := Lib.hide hx
  have HV := Lib.hide hv
  have HL := Lib.hide hl
  have HF := Lib.hide hf
  have HC := Lib.hide hc
  clear hh hx hv hl hf hc hp' hf' m3
  have HB := Lib.hide (three_boxes w (.slice a n cap) (.int .i64 top) (.int .i64 k) (.int .i64 m) (.slice none 0 0) (.int .i64 0) 27 34 27)
  go_enter Try.func18, Try.ntmps18
  go_wp2_with (first
    | (go_at_call 16; refine (places_yes a n cap xs top l _ (H.out.below (by repeat (first | exact Below.refl _ _ | assumption | refine Below.drew ?_ | refine below_drewN ?_ _ | refine Below.allocs ?_ | refine Below.next ?_ (by assumption) | refine Below.setCell ?_ (by dsimp only; omega) _))) HV.out).mono ?_; rintro e w1 ⟨a1, c1, rfl, ho1, hb1⟩; have HO1 := Lib.hide ho1; clear ho1; have HH1 := Lib.hide (HB.out.1.next hb1); obtain ⟨q0, q1, q2, q3, q4⟩ := HH1.out; have HR := Lib.hide (HB.out.2.2.next hb1); have HVB := Lib.hide (HB.out.2.1.next hb1))
    | (go_at_call 52; refine (hasField_any a n cap xs top.toNat top l a1 c1 p f _ (H.out.ints.below (by repeat (first | exact Below.refl _ _ | assumption | refine Below.drew ?_ | refine below_drewN ?_ _ | refine Below.allocs ?_ | refine Below.next ?_ (by assumption) | refine Below.setCell ?_ (by dsimp only; omega) _))) HX.out v2 ht HL.out (HO1.out.reads.2.below (by repeat (first | exact Below.refl _ _ | assumption | refine Below.drew ?_ | refine below_drewN ?_ _ | refine Below.allocs ?_ | refine Below.next ?_ (by assumption) | refine Below.setCell ?_ (by dsimp only; omega) _))) true (by simp [HF.out])).mono ?_; rintro e w2 ⟨rfl, hb2⟩; have HVB2 := Lib.hide (HVB.out.next hb2); obtain ⟨r0, r1, r2, r3, r4⟩ := HVB2.out; have HR2 := Lib.hide (HR.out.next hb2); have HH2 := Lib.hide (HH1.out.next hb2))
    | (go_at_call 53; refine (checkValue_any a1 l.length c1 (nums l) k m _ (HO1.out.reads.2.below (by repeat (first | exact Below.refl _ _ | assumption | refine Below.drew ?_ | refine below_drewN ?_ _ | refine Below.allocs ?_ | refine Below.next ?_ (by assumption) | refine Below.setCell ?_ (by dsimp only; omega) _))) (nums_length l) hl4 (nums_sorted HL.out.sorted) 0 HC.out).mono ?_; rintro e w3 ⟨rfl, hb3⟩; have HVB3 := Lib.hide (HVB2.out.next hb3); have HR3 := Lib.hide (HR2.out.next hb3); obtain ⟨s0, s1, s2, s3, s4⟩ := HH2.out.next hb3)
    | (go_at_call 54; refine (copy_any a n cap xs top _ (H.out.ints.below (by repeat (first | exact Below.refl _ _ | assumption | refine Below.drew ?_ | refine below_drewN ?_ _ | refine Below.allocs ?_ | refine Below.next ?_ (by assumption) | refine Below.setCell ?_ (by dsimp only; omega) _))) HX.out (by omega)).mono ?_; rintro e w4 ⟨a4, c4, rfl, ho4, hb4⟩; have HVB4 := Lib.hide (HVB3.out.next hb4); have HR4 := Lib.hide (HR3.out.next hb4); obtain ⟨g, he, hg1, hg2, hgc, hgf⟩ := ho4.row (by omega); subst he; have HO4 := Lib.hide ho4; clear ho4; have e1 := hgc (p + 2 + f) (by omega); have e2 := hgf (p + 2 + f); clear hgc hgf))
  have hX : Box2 (w4.alloc (.cells #[.slice (some ⟨g, 0, none⟩) n c4, .int .i64 top] 27)).drew w4.heap.size (.slice (some ⟨g, 0, none⟩) n c4) (.int .i64 top) := (Box2.new w4 _ _ _).next (by repeat (first | exact Below.refl _ _ | assumption | refine Below.drew ?_ | refine below_drewN ?_ _ | refine Below.allocs ?_ | refine Below.next ?_ (by assumption) | refine Below.setCell ?_ (by dsimp only; omega) _))
  have hV : Box2 (w4.alloc (.cells #[.slice (some ⟨g, 0, none⟩) n c4, .int .i64 top] 27)).drew (w.heap.size + 1) (.int .i64 k) (.int .i64 m) := HVB4.out.next (by repeat (first | exact Below.refl _ _ | assumption | refine Below.drew ?_ | refine below_drewN ?_ _ | refine Below.allocs ?_ | refine Below.next ?_ (by assumption) | refine Below.setCell ?_ (by dsimp only; omega) _))
  have hb5 : Below w4.heap.size w4 (w4.alloc (.cells #[.slice (some ⟨g, 0, none⟩) n c4, .int .i64 top] 27)).drew := (by repeat (first | exact Below.refl _ _ | assumption | refine Below.drew ?_ | refine below_drewN ?_ _ | refine Below.allocs ?_ | refine Below.next ?_ (by assumption) | refine Below.setCell ?_ (by dsimp only; omega) _))
  have e3 := (hb5.cell (p := ⟨g, p + 2 + f, none⟩) hg2).trans e1
  have e4 := (hb5.frozen (p := ⟨g, p + 2 + f, none⟩) hg2).trans e2
  have hg5 := Nat.lt_of_lt_of_le hg2 hb5.size
  have hn1 : w4.heap.size ≠ g := by omega
  have hn2 : w.heap.size + 1 ≠ g := by have := HVB3.out.lt; omega
  have HX5 := Lib.hide hX
  have HV5 := Lib.hide hV
  obtain ⟨x0, x1, x2, x3, x4⟩ := hX
  obtain ⟨y0, y1, y2, y3, y4⟩ := hV
  have i1 : IntKind.i64.wrap ((p : Int) + 2) = (p : Int) + 2 := IntWalk.i64_in _ (by omega)
  have i2 : IntKind.i64.wrap ((p : Int) + 2 + (f : Int)) = (p : Int) + 2 + (f : Int) := IntWalk.i64_in _ (by omega)
  have i3 : (0 : Int) ≤ (p : Int) + 2 + (f : Int) := by omega
  have i4 : (p : Int) + 2 + (f : Int) < (n : Int) := by omega
  have i5 : ((p : Int) + 2 + (f : Int)).toNat = p + 2 + f := by omega
  go_region_held3 (fun w' => w'.cell? ⟨w4.heap.size, 0, none⟩ = some (.slice (some ⟨g, 0, none⟩) n c4) ∧ w'.cell? ⟨w.heap.size + 1, 0, none⟩ = some (.int .i64 k) ∧ w'.cell? ⟨w.heap.size + 1, 1, none⟩ = some (.int .i64 m))
    (first | exact ⟨x0, y0, y1⟩ | exact ⟨x0', y0', y1'⟩ | exact ⟨far_cell x0' hn1, far_cell y0' hn2, far_cell y1' hn2⟩)
    (first | (go_at_call 55; refine (word_any k m _ (by omega) (by omega)).mono ?_; rintro e w6 ⟨rfl, hb6⟩; obtain ⟨⟨x0', x1', x2', x3', x4'⟩, ⟨y0', y1', y2', y3', y4'⟩, e5, e6, hg6⟩ := store_keep HX5.out HV5.out e3 e4 hg5 hb6))
  have hR6 : Box2 w6 (w.heap.size + 1 + 1) (.slice none 0 0) (.int .i64 0) := (HR4.out.next hb5).next hb6
  have hn3 : w.heap.size + 1 + 1 ≠ g := by have := HR3.out.lt; omega
  have HR6 := Lib.hide hR6
  obtain ⟨z0, z1, z2, z3, z4⟩ := hR6
  clear i1 i2 i3 i4 i5 x0 x1 x2 x3 x4 y0 y1 y2 y3 y4
  go_wp2
  exact bodyPost_ret (v := .tuple #[.agg #[.slice (some ⟨g, 0, none⟩) n c4, .int .i64 top], .int .i64 0]) (by simp only [results, Try.results18]; go_simp) rfl
    ⟨_, _, rfl, ownsRow_base ((((((HO4.out.below hb5).below hb6).stored (p + 2 + f) (wordOf k m)).far (by simp [Value.ownBlock]; omega) _).far (by simp [Value.ownBlock]; omega) _)) (Nat.le_of_lt s4), (by repeat (first | exact Below.refl _ _ | assumption | refine Below.drew ?_ | refine below_drewN ?_ _ | refine Below.allocs ?_ | refine Below.next ?_ (by assumption) | refine Below.setCell ?_ (by dsimp only; omega) _))⟩
end Go.Proofs.Ytpdcaoagpjcgbab
