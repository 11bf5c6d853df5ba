/-
  The walks of heap.sizesValid, heap.objectFits and heap.walk: which words are whole objects. It proves no statement by itself.
-/
import Derived.Test.YtpdcaoagpjcgbabHeapA
import Derived.Deep.QuietTactic
import Derived.BigQuiet
set_option linter.unusedVariables false
set_option linter.unusedSimpArgs false
namespace Go.Proofs.Ytpdcaoagpjcgbab
open Go.RowKit

set_option maxHeartbeats 400000 in
theorem sizesValid_yes (a : Option Addr) (n cap : Nat) (top : Int) (w : World) (h1 : 1 ≤ n) (h2 : n ≤ 400) (h3 : 1 ≤ top) (h4 : top ≤ n) :
    Calls Try.prog 48 #[.agg #[.slice a n cap, .int .i64 top]] w fun e w' => e = .returned (.bool true) ∧ Below w.heap.size w w' := by
  go_enter Try.func48, Try.ntmps48
  go_wp2
  go_ret
  exact ⟨rfl, (by repeat (first | exact Below.refl _ _ | assumption | refine Below.drew ?_ | refine below_drewN ?_ _ | refine Below.allocs ?_ | refine Below.next ?_ (by assumption) | refine Below.setCell ?_ (by dsimp only; omega) _))⟩

set_option maxHeartbeats 400000 in
theorem sizesValid_no (a : Option Addr) (n cap : Nat) (top : Int) (w : World) (h : ¬ (1 ≤ n ∧ n ≤ 400 ∧ 1 ≤ top ∧ top ≤ n)) :
    Calls Try.prog 48 #[.agg #[.slice a n cap, .int .i64 top]] w fun e w' => e = .returned (.bool false) ∧ Below w.heap.size w w' := by
  by_cases h1 : 1 ≤ n
  · by_cases h2 : n ≤ 400
    · by_cases h3 : 1 ≤ top
      · have h4 : decide (top ≤ (n : Int)) = false := by simp; omega
        clear h
        go_enter Try.func48, Try.ntmps48
        go_wp2
        go_ret
        exact ⟨rfl, (by repeat (first | exact Below.refl _ _ | assumption | refine Below.drew ?_ | refine below_drewN ?_ _ | refine Below.allocs ?_ | refine Below.next ?_ (by assumption) | refine Below.setCell ?_ (by dsimp only; omega) _))⟩
      · have h4 : decide ((1 : Int) ≤ top) = false := by simp; omega
        clear h
        go_enter Try.func48, Try.ntmps48
        go_wp2
        go_ret
        exact ⟨rfl, (by repeat (first | exact Below.refl _ _ | assumption | refine Below.drew ?_ | refine below_drewN ?_ _ | refine Below.allocs ?_ | refine Below.next ?_ (by assumption) | refine Below.setCell ?_ (by dsimp only; omega) _))⟩
    · have h4 : decide ((n : Int) ≤ 400) = false := by simp; omega
      clear h
      go_enter Try.func48, Try.ntmps48
      go_wp2
      go_ret
      exact ⟨rfl, (by repeat (first | exact Below.refl _ _ | assumption | refine Below.drew ?_ | refine below_drewN ?_ _ | refine Below.allocs ?_ | refine Below.next ?_ (by assumption) | refine Below.setCell ?_ (by dsimp only; omega) _))⟩
  · have h4 : decide ((1 : Int) ≤ (n : Int)) = false := by simp; omega
    clear h
    go_enter Try.func48, Try.ntmps48
    go_wp2
    go_ret
    exact ⟨rfl, (by repeat (first | exact Below.refl _ _ | assumption | refine Below.drew ?_ | refine below_drewN ?_ _ | refine Below.allocs ?_ | refine Below.next ?_ (by assumption) | refine Below.setCell ?_ (by dsimp only; omega) _))⟩

theorem Ints.at {w : World} {a : Option Addr} {xs : List Int} (h : Ints w a xs) (h0 : 0 < xs.length) : ∃ b o, a = some ⟨b, o, none⟩ ∧ b < w.heap.size ∧ ∀ i, i < xs.length → w.cell? ⟨b, o + i, none⟩ = some (.int .i64 (xs.getD i 0)) := by
  rcases h with rfl | h
  · simp at h0
  · exact h

set_option maxHeartbeats 400000 in
/-- objectFits at an address whose two head words lie below top. -/
theorem objectFits_core (b o n cap : Nat) (t p : Nat) (s f : Int) (w : World) (hb : b < w.heap.size) (hn : n ≤ 400) (ht : t ≤ n) (hp : p + 2 ≤ t)
    (c0 : w.cell? ⟨b, o + p, none⟩ = some (.int .i64 s)) (c1 : w.cell? ⟨b, o + (p + 1), none⟩ = some (.int .i64 f)) (hs1 : 0 ≤ s) (hs2 : s ≤ 2147483648) (hf1 : 0 ≤ f) (hf2 : f ≤ 6) (r : Bool) (hr : decide ((p : Int) + 2 + f ≤ (t : Int)) = r) :
    Calls Try.prog 75 #[.agg #[.slice (some ⟨b, o, none⟩) n cap, .int .i64 t], .int .i64 p] w fun e w' => e = .returned (.bool r) ∧ Below w.heap.size w w' := by
  go_enter Try.func75, Try.ntmps75
  go_wp2
  go_quiet (fail)
  go_wp2
  go_ret
  exact ⟨rfl, (by repeat (first | exact Below.refl _ _ | assumption | refine Below.drew ?_ | refine below_drewN ?_ _ | refine Below.allocs ?_ | refine Below.next ?_ (by assumption) | refine Below.setCell ?_ (by dsimp only; omega) _))⟩

set_option maxHeartbeats 800000 in
theorem objectFits_bad (b o n cap : Nat) (t p : Nat) (s f : Int) (w : World) (hb : b < w.heap.size) (hn : n ≤ 400) (ht : t ≤ n) (hp : p + 2 ≤ t)
    (c0 : w.cell? ⟨b, o + p, none⟩ = some (.int .i64 s)) (c1 : w.cell? ⟨b, o + (p + 1), none⟩ = some (.int .i64 f)) (h : ¬ (0 ≤ s ∧ s ≤ 2147483648 ∧ 0 ≤ f ∧ f ≤ 6)) :
    Calls Try.prog 75 #[.agg #[.slice (some ⟨b, o, none⟩) n cap, .int .i64 t], .int .i64 p] w fun e w' => e = .returned (.bool false) ∧ Below w.heap.size w w' := by
  by_cases h1 : 0 ≤ s
  · by_cases h2 : s ≤ 2147483648
    · by_cases h3 : 0 ≤ f
      · have h4 : decide (f ≤ 6) = false := by simp; omega
        clear h
        go_enter Try.func75, Try.ntmps75
        go_wp2
        go_quiet (fail)
        go_wp2
        go_ret
        exact ⟨rfl, (by repeat (first | exact Below.refl _ _ | assumption | refine Below.drew ?_ | refine below_drewN ?_ _ | refine Below.allocs ?_ | refine Below.next ?_ (by assumption) | refine Below.setCell ?_ (by dsimp only; omega) _))⟩
      · have h4 : decide (0 ≤ f) = false := by simp; omega
        clear h
        go_enter Try.func75, Try.ntmps75
        go_wp2
        go_quiet (fail)
        go_wp2
        go_ret
        exact ⟨rfl, (by repeat (first | exact Below.refl _ _ | assumption | refine Below.drew ?_ | refine below_drewN ?_ _ | refine Below.allocs ?_ | refine Below.next ?_ (by assumption) | refine Below.setCell ?_ (by dsimp only; omega) _))⟩
    · have h4 : decide (s ≤ 2147483648) = false := by simp; omega
      clear h
      go_enter Try.func75, Try.ntmps75
      go_wp2
      go_quiet (fail)
      go_wp2
      go_ret
      exact ⟨rfl, (by repeat (first | exact Below.refl _ _ | assumption | refine Below.drew ?_ | refine below_drewN ?_ _ | refine Below.allocs ?_ | refine Below.next ?_ (by assumption) | refine Below.setCell ?_ (by dsimp only; omega) _))⟩
  · have h4 : decide (0 ≤ s) = false := by simp; omega
    clear h
    go_enter Try.func75, Try.ntmps75
    go_wp2
    go_quiet (fail)
    go_wp2
    go_ret
    exact ⟨rfl, (by repeat (first | exact Below.refl _ _ | assumption | refine Below.drew ?_ | refine below_drewN ?_ _ | refine Below.allocs ?_ | refine Below.next ?_ (by assumption) | refine Below.setCell ?_ (by dsimp only; omega) _))⟩

set_option maxHeartbeats 400000 in
theorem objectFits_short (a : Option Addr) (n cap : Nat) (t p : Nat) (w : World) (hn : n ≤ 400) (ht : t ≤ n) (hpt : p < t) (hp : t < p + 2) :
    Calls Try.prog 75 #[.agg #[.slice a n cap, .int .i64 t], .int .i64 p] w fun e w' => e = .returned (.bool false) ∧ Below w.heap.size w w' := by
  go_enter Try.func75, Try.ntmps75
  go_wp2
  go_ret
  exact ⟨rfl, (by repeat (first | exact Below.refl _ _ | assumption | refine Below.drew ?_ | refine below_drewN ?_ _ | refine Below.allocs ?_ | refine Below.next ?_ (by assumption) | refine Below.setCell ?_ (by dsimp only; omega) _))⟩

open Lw in
theorem objectFits_yes (a : Option Addr) (n cap : Nat) (xs : List Int) (t p : Nat) (w : World) (hi : Ints w a xs) (hx : xs.length = n) (hn : n ≤ 400) (ht : t ≤ n) (hf : Fit xs t p) (hs : StOk xs p) :
    Calls Try.prog 75 #[.agg #[.slice a n cap, .int .i64 t], .int .i64 p] w fun e w' => e = .returned (.bool true) ∧ Below w.heap.size w w' := by
  obtain ⟨f1, f2, f3, f4⟩ := hf
  obtain ⟨b, o, rfl, hb, hc⟩ := hi.at (by omega)
  exact objectFits_core b o n cap t p _ _ w hb hn ht f1 (hc p (by omega)) (hc (p + 1) (by omega)) hs.1 hs.2 f2 f3 true (decide_eq_true (by omega))

open Lw in
theorem objectFits_no (a : Option Addr) (n cap : Nat) (xs : List Int) (t p : Nat) (w : World) (hi : Ints w a xs) (hx : xs.length = n) (hn : n ≤ 400) (ht : t ≤ n) (hpt : p < t) (hf : ¬ (Fit xs t p ∧ StOk xs p)) :
    Calls Try.prog 75 #[.agg #[.slice a n cap, .int .i64 t], .int .i64 p] w fun e w' => e = .returned (.bool false) ∧ Below w.heap.size w w' := by
  by_cases hp : p + 2 ≤ t
  · obtain ⟨b, o, rfl, hb, hc⟩ := hi.at (by omega)
    by_cases h : 0 ≤ xs.getD p 0 ∧ xs.getD p 0 ≤ 2147483648 ∧ 0 ≤ xs.getD (p + 1) 0 ∧ xs.getD (p + 1) 0 ≤ 6
    · obtain ⟨h1, h2, h3, h4⟩ := h
      refine objectFits_core b o n cap t p _ _ w hb hn ht hp (hc p (by omega)) (hc (p + 1) (by omega)) h1 h2 h3 h4 false ?_
      simp only [decide_eq_false_iff_not]
      intro h5
      exact hf ⟨⟨hp, h3, h4, by omega⟩, h1, h2⟩
    · exact objectFits_bad b o n cap t p _ _ w hb hn ht hp (hc p (by omega)) (hc (p + 1) (by omega)) h
  · exact objectFits_short a n cap t p w hn ht hpt (by omega)

/-- Addresses as integers. -/
def nums (l : List Nat) : List Int := l.map (fun p : Nat => (p : Int))

def WalkPost (w : World) (l : List Nat) (e : Ending) (w' : World) : Prop :=
  ∃ a cap, e = .returned (.tuple #[.slice a l.length cap, .bool true]) ∧ Own w' w.heap.size (.slice a l.length cap) (nums l) ∧ Below w.heap.size w w'

theorem Own.below {w w' : World} {base : Nat} {v : Value} {xs : List Int} (h : Own w base v xs) (hb : Below w.heap.size w w') : Own w' base v xs := by
  refine ⟨h.1, ?_⟩
  rcases h.2 with h2 | ⟨g, cap, cur, hv, hg, hh, r⟩
  · exact .inl h2
  · have hlt : g < w.heap.size := by
      rcases Nat.lt_or_ge g w.heap.size with h' | h'
      · exact h'
      · rw [Array.getElem?_eq_none h'] at hh; cases hh
    exact .inr ⟨g, cap, cur, hv, hg, (hb.block g hlt).trans hh, r⟩

/-- What holds at the head of walk's loop (w: the world behind the box of its argument). -/
def WalkRel (w : World) (xs : List Int) (t : Nat) (v : Value) (i : Value) (wr : World) : Prop :=
  ∃ (out : List Nat) (p : Nat), 1 ≤ p ∧ p ≤ t ∧ out.length ≤ p ∧ i = .int .i64 p ∧ Own wr w.heap.size v (nums out) ∧ Below w.heap.size w wr ∧
    Lw.objs xs t 1 = (Lw.objs xs t p).map (out ++ ·) ∧ ∀ q ∈ out, Lw.StOk xs q

theorem nums_snoc (l : List Nat) (p : Nat) : (nums (l ++ [p])).map (Value.int .i64) = (nums l).map (Value.int .i64) ++ [.int .i64 p] := by simp [nums]
theorem nums_length (l : List Nat) : (nums l).length = l.length := by simp [nums]

open Lw in
theorem objs_snoc {xs : List Int} {t p : Nat} {out : List Nat} (h : objs xs t 1 = (objs xs t p).map (out ++ ·)) (hp : p < t) (hf : Fit xs t p) : objs xs t 1 = (objs xs t (nextOf xs p)).map ((out ++ [p]) ++ ·) := by
  rw [h, objs_step hp hf, Option.map_map]
  congr 1
  funext l
  simp

open Lw in
theorem objs_fail {xs : List Int} {t p : Nat} {out : List Nat} (h : objs xs t 1 = (objs xs t p).map (out ++ ·)) (hp : p < t) (hf : ¬ (Fit xs t p ∧ StOk xs p)) : ∀ l, ¬ Objects xs t l := by
  rintro l ⟨h1, h2⟩
  rw [h] at h1
  by_cases hfit : Fit xs t p
  · rw [objs_step hp hfit, Option.map_map] at h1
    obtain ⟨l', _, rfl⟩ := Option.map_eq_some_iff.1 h1
    exact hf ⟨hfit, h2 p (by simp)⟩
  · rw [objs_none hp hfit] at h1
    cases h1

theorem append_step {w0 wr w2 w3 : World} {B : Nat} {v v' : Value} {out : List Int} {x : Int} {o : Obj} (hbel : Below B w0 wr) (hB : B ≤ wr.heap.size) (hb2 : Below wr.heap.size wr w2) (hown : Own wr B v out)
    (hown3 : w3.ownsRow B 3 1 v' (out.length + 1) (out.map (Value.int .i64) ++ [.int .i64 x])) (hg : (w2.alloc o).grownBy w3 v.ownBlock) : Below B w0 w3 ∧ Own w3 B v' (out ++ [x]) := by
  refine ⟨?_, ?_⟩
  · have h2 : Below B w0 w2 := hbel.trans (hb2.mono hB)
    have hs := hb2.size
    refine (h2.alloc (by omega) o).grown hg (by simp; omega) (fun k hk => (World.ownsRow.lt hown k hk).1)
  · unfold Own
    rw [List.map_append, List.length_append]
    exact hown3

open Lw in
/-- What walk hands back. -/
def WalkEnd (w : World) (xs : List Int) (t : Nat) (e : Ending) (w' : World) : Prop :=
  (∃ l, Objects xs t l ∧ WalkPost w l e w') ∨ ((∀ l, ¬ Objects xs t l) ∧ e = .returned (.tuple #[.slice none 0 0, .bool false]) ∧ Below w.heap.size w w')

set_option maxHeartbeats 800000 in
open Lw in
theorem walk_any (a : Option Addr) (n cap : Nat) (xs : List Int) (t : Nat) (w : World) (hi : Ints w a xs) (hx : xs.length = n) (hn : n ≤ 400) (h1 : 1 ≤ t) (ht : t ≤ n) :
    Calls Try.prog 49 #[.agg #[.slice a n cap, .int .i64 t]] w (WalkEnd w xs t) := by
  obtain ⟨i0, hi0, hz0, hz1, hz2⟩ := info_parts Try.intInfo
  have HI := Lib.hide hi
  have HX := Lib.hide hx
  clear hi hx
  go_enter Try.func49, Try.ntmps49
  go_wp2
  go_loopw [4, 5] (fun v i wr => WalkRel (w.alloc (.cells #[.slice a n cap, .int .i64 t] 27)) xs t v i wr) (fun _ i _ => t - (intOf i).toNat)
  case atStart => exact ⟨[], 1, Nat.le_refl _, h1, by simp, rfl, World.ownsRow_nil _ _ _ _, Below.refl _ _, by simp, by simp⟩
  case round =>
    obtain ⟨out, p, hp1, hpt, hol, rfl, hown, hbel, hobj, hst⟩ := hrel
    have hbw : Below w.heap.size w wr := Below.next (by repeat (first | exact Below.refl _ _ | assumption | refine Below.drew ?_ | refine below_drewN ?_ _ | refine Below.allocs ?_ | refine Below.next ?_ (by assumption) | refine Below.setCell ?_ (by dsimp only; omega) _)) hbel
    rw [show (w.alloc (.cells #[.slice a n cap, .int .i64 t] 27)).heap.size = w.heap.size + 1 by simp] at hown hbel
    have b0 : wr.cell? ⟨w.heap.size, 0, none⟩ = some (.slice a n cap) := by rw [hbel.cell (p := ⟨w.heap.size, 0, none⟩) (by simp)]; go_simp
    have b1 : wr.cell? ⟨w.heap.size, 1, none⟩ = some (.int .i64 t) := by rw [hbel.cell (p := ⟨w.heap.size, 1, none⟩) (by simp)]; go_simp
    have HOWN := Lib.hide hown
    have HOBJ := Lib.hide hobj
    have HST := Lib.hide hst
    clear hown hobj hst
    by_cases hlt : p < t
    · by_cases hf : Fit xs t p ∧ StOk xs p
      · have C := Lib.hide (objectFits_yes a n cap xs t p wr (HI.out.below hbw) HX.out hn ht hf.1 hf.2)
        go_wp2_with (first
          | (go_at_call 75; refine C.out.mono ?_; rintro e w2 ⟨rfl, hb2⟩)
          | (at_builtin; refine wpList_append_own _ rfl (.tmp 23) (.tmp 25) 25 rfl (w.heap.size + 1) 3 i0 (.int .i64 0) 1 8 Try.underlying25 hi0 hz0 hz1 hz2 rfl (by decide) u4 (nums out).length _ rfl (World.ownsRow.alloc (HOWN.out.below hb2) _) ⟨w2.heap.size, 0, none⟩ 1 1 [.int .i64 p] rfl rfl (cell_one_new _ _ _) ?c2 ?c3 ?c4 ?c5 ?_))
        case c2 => intro u hu; simp at hu; subst hu; rfl
        case c3 => rw [nums_length]; unfold maxLen; omega
        case c4 => rw [nums_length]; omega
        case c5 => have := hb2.size; have := hbel.size; simp at this ⊢; omega
        intro v' w3 hown3 hg3 _
        obtain ⟨hbel3, hown4⟩ := append_step hbel (by have := hbel.size; simp at this; omega) hb2 HOWN.out hown3 hg3
        have d0 : w3.cell? ⟨w.heap.size, 0, none⟩ = some (.slice a n cap) := by rw [hbel3.cell (p := ⟨w.heap.size, 0, none⟩) (by simp)]; go_simp
        have hbw3 : Below w.heap.size w w3 := Below.trans (b := w.alloc (.cells #[.slice a n cap, .int .i64 t] 27)) (by repeat (first | exact Below.refl _ _ | assumption | refine Below.drew ?_ | refine below_drewN ?_ _ | refine Below.allocs ?_ | refine Below.next ?_ (by assumption) | refine Below.setCell ?_ (by dsimp only; omega) _)) (hbel3.mono (by simp))
        obtain ⟨f1, f2, f3, f4⟩ := hf.1
        obtain ⟨b, o, rfl, hb, hc⟩ := (HI.out.below hbw3).at (by rw [HX.out]; omega)
        have e1 := hc (p + 1) (by rw [HX.out]; omega)
        have hnx : Hid (nextOf xs p = p + 2 + (xs.getD (p + 1) 0).toNat) := rfl
        have HOWN4 := Lib.hide hown4
        have HF := Lib.hide hf
        generalize xs.getD (p + 1) 0 = f at *
        clear hown4 hown3 hg3 hc HOWN hf b0 b1
        go_wp2
        have hsz : (w.alloc (.cells #[.slice (some ⟨b, o, none⟩) n cap, .int .i64 t] 27)).heap.size = w.heap.size + 1 := by simp
        go_roundw
        case rel =>
          refine ⟨out ++ [p], p + 2 + f.toNat, by omega, f4, by simp; omega, congrArg (Value.int .i64) (by omega), ?_, by rw [hsz]; exact hbel3, ?_, ?_⟩
          · rw [hsz]; unfold nums; rw [List.map_append]; exact HOWN4.out
          · have := objs_snoc HOBJ.out hlt HF.out.1
            rw [hnx.out] at this
            exact this
          · intro q hq
            rcases List.mem_append.1 hq with hq | hq
            · exact HST.out q hq
            · simp at hq; subst hq; exact HF.out.2
        case measure => simp [intOf]; omega
      · have C := Lib.hide (objectFits_no a n cap xs t p wr (HI.out.below hbw) HX.out hn ht hlt hf)
        go_wp2_with (go_at_call 75; refine C.out.mono ?_; rintro e w2 ⟨rfl, hb2⟩)
        go_ret2
        exact .inr ⟨objs_fail HOBJ.out hlt hf, rfl, (by repeat (first | exact Below.refl _ _ | assumption | refine Below.drew ?_ | refine below_drewN ?_ _ | refine Below.allocs ?_ | refine Below.next ?_ (by assumption) | refine Below.setCell ?_ (by dsimp only; omega) _))⟩
    · obtain rfl : p = t := by omega
      have hall : objs xs p 1 = some out := by rw [HOBJ.out, objs_end (Nat.le_refl _)]; simp
      have HA := Lib.hide hall
      clear hall
      go_wp2
      go_ret2
      obtain ⟨a', c', hv, _⟩ := HOWN.out.ints
      rw [nums_length] at hv
      have HV := Lib.hide hv
      clear hv
      refine .inl ⟨out, ⟨HA.out, HST.out⟩, a', c', ?_, ?_, (by repeat (first | exact Below.refl _ _ | assumption | refine Below.drew ?_ | refine below_drewN ?_ _ | refine Below.allocs ?_ | refine Below.next ?_ (by assumption) | refine Below.setCell ?_ (by dsimp only; omega) _))⟩
      · rw [← HV.out]; rfl
      · rw [← HV.out]; exact ownsRow_base HOWN.out (by simp)
end Go.Proofs.Ytpdcaoagpjcgbab

/-
  The walks of slices.BinarySearch over integers, and of heap.isPlace, isTarget, isNumber, checkValue. It proves no statement by itself.
-/
namespace Go.Proofs.Ytpdcaoagpjcgbab
open Go.RowKit

set_option maxHeartbeats 400000 in
theorem less_any (x y : Int) (w : World) : Calls Try.prog 118 #[.int .i64 x, .int .i64 y] w fun e w' => e = .returned (.bool (decide (x < y))) ∧ w = w' := by
  go_enter Try.func118, Try.ntmps118
  go_wp2
  go_ret
  exact ⟨rfl, rfl⟩

def FoundPost (w : World) (x : Int) (zs : List Int) (e : Ending) (w' : World) : Prop := ∃ i : Int, e = .returned (.tuple #[.int .i64 i, .bool (decide (x ∈ zs))]) ∧ w = w'

theorem sorted_at {zs : List Int} (hs : zs.Pairwise (· < ·)) {i j : Nat} (hij : i < j) (hj : j < zs.length) : zs.getD i 0 < zs.getD j 0 := by
  have := List.pairwise_iff_getElem.1 hs i j (by omega) hj hij
  simpa [List.getD_eq_getElem?_getD, List.getElem?_eq_getElem hj, List.getElem?_eq_getElem (show i < zs.length by omega)] using this

theorem mem_at {zs : List Int} {x : Int} : x ∈ zs ↔ ∃ i, i < zs.length ∧ zs.getD i 0 = x := by
  rw [List.mem_iff_getElem]
  constructor
  · rintro ⟨i, hi, h⟩
    exact ⟨i, hi, by simpa [List.getD_eq_getElem?_getD, List.getElem?_eq_getElem hi] using h⟩
  · rintro ⟨i, hi, h⟩
    exact ⟨i, hi, by simpa [List.getD_eq_getElem?_getD, List.getElem?_eq_getElem hi] using h⟩

set_option maxHeartbeats 800000 in
theorem bs_any (a : Option Addr) (n cap : Nat) (zs : List Int) (x : Int) (w : World) (hi : Ints w a zs) (hz : zs.length = n) (hn : n ≤ 400) (hs : zs.Pairwise (· < ·)) :
    Calls Try.prog 103 #[.slice a n cap, .int .i64 x] w (FoundPost w x zs) := by
  have HI := Lib.hide hi
  have HZ := Lib.hide hz
  have HS := Lib.hide hs
  clear hi hz hs
  go_enter Try.func103, Try.ntmps103
  go_wp2
  go_loop [7, 8] (fun u v => ∃ i j : Nat, i ≤ j ∧ j ≤ n ∧ u = .int .i64 i ∧ v = .int .i64 j ∧ (∀ k, k < i → zs.getD k 0 < x) ∧ ∀ k, j ≤ k → k < n → x ≤ zs.getD k 0) (fun u v => (intOf v).toNat - (intOf u).toNat)
  case atStart => exact ⟨0, n, Nat.zero_le _, Nat.le_refl _, rfl, rfl, fun k hk => absurd hk (Nat.not_lt_zero _), fun k h1 h2 => by omega⟩
  case round =>
    obtain ⟨i, j, hij, hjn, rfl, rfl, hlo, hhi⟩ := hrel
    have HLO := Lib.hide hlo
    have HHI := Lib.hide hhi
    clear hlo hhi
    by_cases hlt : i < j
    · obtain ⟨b, o, rfl, hb, hc⟩ := HI.out.at (by rw [HZ.out]; omega)
      have e1 := hc ((i + j) / 2) (by rw [HZ.out]; omega)
      clear hc
      obtain ⟨y, hy⟩ : ∃ y, zs.getD ((i + j) / 2) 0 = y := ⟨_, rfl⟩
      rw [hy] at e1
      have HY := Lib.hide hy
      clear hy
      by_cases hyx : y < x
      · have hd : decide (y < x) = true := by simpa using hyx
        go_wp2_with (go_at_call 118; refine (less_any y x _).mono ?_; rintro e w' ⟨rfl, rfl⟩)
        go_round
        case rel =>
          refine ⟨(i + j) / 2 + 1, j, by omega, hjn, by go_num, rfl, fun k hk => ?_, HHI.out⟩
          rcases Nat.lt_or_ge k ((i + j) / 2) with h | h
          · have := sorted_at HS.out h (by rw [HZ.out]; omega)
            rw [HY.out] at this
            omega
          · obtain rfl : k = (i + j) / 2 := by omega
            rw [HY.out]; exact hyx
        case measure => simp [intOf]; omega
      · have hd : decide (y < x) = false := by simpa using hyx
        go_wp2_with (go_at_call 118; refine (less_any y x _).mono ?_; rintro e w' ⟨rfl, rfl⟩)
        go_round
        case rel =>
          refine ⟨i, (i + j) / 2, by omega, by omega, rfl, by go_num, HLO.out, fun k h1 h2 => ?_⟩
          rcases Nat.lt_or_ge ((i + j) / 2) k with h | h
          · have := sorted_at HS.out h (by rw [HZ.out]; omega)
            rw [HY.out] at this
            omega
          · obtain rfl : k = (i + j) / 2 := by omega
            rw [HY.out]; omega
        case measure => simp [intOf]; omega
    · obtain rfl : i = j := by omega
      by_cases hin : i < n
      · obtain ⟨b, o, rfl, hb, hc⟩ := HI.out.at (by rw [HZ.out]; omega)
        have e1 := hc i (by rw [HZ.out]; omega)
        clear hc
        obtain ⟨y, hy⟩ : ∃ y, zs.getD i 0 = y := ⟨_, rfl⟩
        rw [hy] at e1
        have HY := Lib.hide hy
        clear hy
        by_cases hyx : y = x
        · have hm : decide (x ∈ zs) = true := decide_eq_true (mem_at.2 ⟨i, by rw [HZ.out]; exact hin, HY.out.trans hyx⟩)
          have HM := Lib.hide hm
          have hd : (y == x) = true := by simpa using hyx
          clear hm hyx
          go_wp2
          go_ret2
          refine ⟨i, ?_, rfl⟩
          rw [HM.out]; rfl
        · have hm : decide (x ∈ zs) = false := by
            rw [decide_eq_false_iff_not, mem_at]
            rintro ⟨k, hk, hkx⟩
            rw [HZ.out] at hk
            rcases Nat.lt_trichotomy k i with h | h | h
            · have := HLO.out k h; omega
            · subst h; exact hyx (HY.out.symm.trans hkx)
            · have h2 := sorted_at HS.out h (by rw [HZ.out]; omega)
              have h3 := HHI.out i (Nat.le_refl _) hin
              omega
          have HM := Lib.hide hm
          have hd : (y == x) = false := by simpa using hyx
          have hq : (y != y) = false := by simp
          clear hm hyx
          go_wp2
          go_ret2
          refine ⟨i, ?_, rfl⟩
          rw [HM.out]; rfl
      · obtain rfl : i = n := by omega
        have hm : decide (x ∈ zs) = false := by
          rw [decide_eq_false_iff_not, mem_at]
          rintro ⟨k, hk, hkx⟩
          rw [HZ.out] at hk
          have := HLO.out k hk
          omega
        have HM := Lib.hide hm
        clear hm
        go_wp2
        go_ret2
        refine ⟨i, ?_, rfl⟩
        rw [HM.out]; rfl

set_option maxHeartbeats 400000 in
theorem isPlace_any (a : Option Addr) (n cap : Nat) (zs : List Int) (x : Int) (w : World) (hi : Ints w a zs) (hz : zs.length = n) (hn : n ≤ 400) (hs : zs.Pairwise (· < ·)) (r : Bool) (hr : decide (x ∈ zs) = r) :
    Calls Try.prog 76 #[.slice a n cap, .int .i64 x] w fun e w' => e = .returned (.bool r) ∧ w = w' := by
  have C := Lib.hide (bs_any a n cap zs x w hi hz hn hs)
  have HR := Lib.hide hr
  clear hi hz hs hr
  go_enter Try.func76, Try.ntmps76
  go_wp2_with (go_at_call 103; refine C.out.mono ?_; rintro e w' ⟨i, rfl, rfl⟩; rw [HR.out])
  go_ret
  exact ⟨rfl, rfl⟩

set_option maxHeartbeats 400000 in
theorem isTarget_any (a : Option Addr) (n cap : Nat) (zs : List Int) (x : Int) (w : World) (hi : Ints w a zs) (hz : zs.length = n) (hn : n ≤ 400) (hs : zs.Pairwise (· < ·)) (r : Bool) (hr : decide (x = 0 ∨ x ∈ zs) = r) :
    Calls Try.prog 78 #[.slice a n cap, .int .i64 x] w fun e w' => e = .returned (.bool r) ∧ w = w' := by
  by_cases hx : x = 0
  · subst hx
    obtain rfl : r = true := by rw [← hr]; simp
    clear hi hz hs hr
    go_enter Try.func78, Try.ntmps78
    go_wp2
    go_ret
    exact ⟨rfl, rfl⟩
  · have hd : (x == 0) = false := by simpa using hx
    have C := Lib.hide (isPlace_any a n cap zs x w hi hz hn hs r (by rw [← hr]; simp [hx]))
    clear hi hz hs hr hx
    go_enter Try.func78, Try.ntmps78
    go_wp2_with (go_at_call 76; refine C.out.mono ?_; rintro e w' ⟨rfl, rfl⟩)
    go_ret
    exact ⟨rfl, rfl⟩

set_option maxHeartbeats 400000 in
theorem isNumber_any (x : Int) (w : World) (r : Bool) (hr : decide (-1099511627776 ≤ x ∧ x ≤ 1099511627776) = r) :
    Calls Try.prog 77 #[.int .i64 x] w fun e w' => e = .returned (.bool r) ∧ w = w' := by
  by_cases h1 : -1099511627776 ≤ x
  · by_cases h2 : x ≤ 1099511627776
    · obtain rfl : r = true := by rw [← hr]; simp; omega
      clear hr
      go_enter Try.func77, Try.ntmps77
      go_wp2
      go_ret
      exact ⟨rfl, rfl⟩
    · obtain rfl : r = false := by rw [← hr]; simp; omega
      have h3 : decide (x ≤ 1099511627776) = false := by simpa using h2
      clear hr
      go_enter Try.func77, Try.ntmps77
      go_wp2
      go_ret
      exact ⟨rfl, rfl⟩
  · obtain rfl : r = false := by rw [← hr]; simp; omega
    have h3 : decide (-1099511627776 ≤ x) = false := by simpa using h1
    clear hr
    go_enter Try.func77, Try.ntmps77
    go_wp2
    go_ret
    exact ⟨rfl, rfl⟩

/-- The error of a value that a field is to hold. -/
def codeOf (zs : List Int) (k n : Int) : Int :=
  if k = 0 then (if -1099511627776 ≤ n ∧ n ≤ 1099511627776 then 0 else 2) else if k = 1 then (if n = 0 ∨ n ∈ zs then 0 else 4) else 3

set_option maxHeartbeats 800000 in
theorem checkValue_any (a : Option Addr) (m cap : Nat) (zs : List Int) (k n : Int) (w : World) (hi : Ints w a zs) (hz : zs.length = m) (hm : m ≤ 400) (hs : zs.Pairwise (· < ·)) (c : Int) (hc : codeOf zs k n = c) :
    Calls Try.prog 53 #[.slice a m cap, .agg #[.int .i64 k, .int .i64 n]] w fun e w' => e = .returned (.int .i64 c) ∧ Below w.heap.size w w' := by
  by_cases hk : k = 0
  · subst hk
    by_cases h : -1099511627776 ≤ n ∧ n ≤ 1099511627776
    · obtain rfl : c = 0 := by rw [← hc]; simp [codeOf, h]
      clear hi hs hc
      go_enter Try.func53, Try.ntmps53
      go_wp2_with (go_at_call 77; refine (isNumber_any n _ true (decide_eq_true h)).mono ?_; rintro e w' ⟨rfl, rfl⟩)
      go_ret
      exact ⟨rfl, (by repeat (first | exact Below.refl _ _ | assumption | refine Below.drew ?_ | refine below_drewN ?_ _ | refine Below.allocs ?_ | refine Below.next ?_ (by assumption) | refine Below.setCell ?_ (by dsimp only; omega) _))⟩
    · obtain rfl : c = 2 := by rw [← hc]; simp [codeOf, h]
      clear hi hs hc
      go_enter Try.func53, Try.ntmps53
      go_wp2_with (go_at_call 77; refine (isNumber_any n _ false (decide_eq_false h)).mono ?_; rintro e w' ⟨rfl, rfl⟩)
      go_ret
      exact ⟨rfl, (by repeat (first | exact Below.refl _ _ | assumption | refine Below.drew ?_ | refine below_drewN ?_ _ | refine Below.allocs ?_ | refine Below.next ?_ (by assumption) | refine Below.setCell ?_ (by dsimp only; omega) _))⟩
  · have hd : (k == 0) = false := by simpa using hk
    by_cases hk1 : k = 1
    · subst hk1
      have HI := Lib.hide hi
      have HS := Lib.hide hs
      have HZ := Lib.hide hz
      by_cases h : n = 0 ∨ n ∈ zs
      · obtain rfl : c = 0 := by rw [← hc]; simp [codeOf, h]
        have H := Lib.hide h
        clear hi hs hc hk h hz
        go_enter Try.func53, Try.ntmps53
        go_wp2_with (go_at_call 78; refine (isTarget_any a m cap zs n _ (HI.out.below (by repeat (first | exact Below.refl _ _ | assumption | refine Below.drew ?_ | refine below_drewN ?_ _ | refine Below.allocs ?_ | refine Below.next ?_ (by assumption) | refine Below.setCell ?_ (by dsimp only; omega) _))) HZ.out hm HS.out true (decide_eq_true H.out)).mono ?_; rintro e w' ⟨rfl, rfl⟩)
        go_ret
        exact ⟨rfl, (by repeat (first | exact Below.refl _ _ | assumption | refine Below.drew ?_ | refine below_drewN ?_ _ | refine Below.allocs ?_ | refine Below.next ?_ (by assumption) | refine Below.setCell ?_ (by dsimp only; omega) _))⟩
      · obtain rfl : c = 4 := by rw [← hc]; simp [codeOf, h]
        have H := Lib.hide h
        clear hi hs hc hk h hz
        go_enter Try.func53, Try.ntmps53
        go_wp2_with (go_at_call 78; refine (isTarget_any a m cap zs n _ (HI.out.below (by repeat (first | exact Below.refl _ _ | assumption | refine Below.drew ?_ | refine below_drewN ?_ _ | refine Below.allocs ?_ | refine Below.next ?_ (by assumption) | refine Below.setCell ?_ (by dsimp only; omega) _))) HZ.out hm HS.out false (decide_eq_false H.out)).mono ?_; rintro e w' ⟨rfl, rfl⟩)
        go_ret
        exact ⟨rfl, (by repeat (first | exact Below.refl _ _ | assumption | refine Below.drew ?_ | refine below_drewN ?_ _ | refine Below.allocs ?_ | refine Below.next ?_ (by assumption) | refine Below.setCell ?_ (by dsimp only; omega) _))⟩
    · obtain rfl : c = 3 := by rw [← hc]; simp [codeOf, hk, hk1]
      have hd1 : (k == 1) = false := by simpa using hk1
      clear hi hs hc hk hk1
      go_enter Try.func53, Try.ntmps53
      go_wp2
      go_ret
      exact ⟨rfl, (by repeat (first | exact Below.refl _ _ | assumption | refine Below.drew ?_ | refine below_drewN ?_ _ | refine Below.allocs ?_ | refine Below.next ?_ (by assumption) | refine Below.setCell ?_ (by dsimp only; omega) _))⟩
end Go.Proofs.Ytpdcaoagpjcgbab

/-
  The walks of heap.restZero and heap.fieldsValid. It proves no statement by itself.
-/
namespace Go.Proofs.Ytpdcaoagpjcgbab
open Go.RowKit

/-- What a function that answers yes or no, and makes at most new memory, hands back. -/
def Says (w : World) (p : Prop) (e : Ending) (w' : World) : Prop := (p ∧ e = .returned (.bool true) ∧ Below w.heap.size w w') ∨ (¬ p ∧ e = .returned (.bool false) ∧ Below w.heap.size w w')

set_option maxHeartbeats 800000 in
open Lw in
theorem restZero_any (a : Option Addr) (n cap : Nat) (xs : List Int) (t : Nat) (w : World) (hi : Ints w a xs) (hx : xs.length = n) (hn : n ≤ 400) (hcap : n ≤ cap) (ht : t ≤ n) (hr : cap ≤ 9223372036854775807) :
    Calls Try.prog 51 #[.agg #[.slice a n cap, .int .i64 t]] w (Says w (RestZero xs t)) := by
  by_cases htn : t = n
  · have hz : RestZero xs t := fun k h1 h2 => by omega
    have HZ := Lib.hide hz
    clear hz hi
    subst htn
    have fin : ∀ w', Below w.heap.size w w' → Says w (RestZero xs t) (.returned (.bool true)) w' := fun w' h => .inl ⟨HZ.out, rfl, h⟩
    have FIN := Lib.hide fin
    clear fin
    by_cases hc : t = cap
    · subst hc
      go_enter Try.func51, Try.ntmps51
      go_wp2
      refine wp_loop_rounds 1 ?_; rw [rounds_succ]
      go_wp2
      go_ret
      exact FIN.out _ (by repeat (first | exact Below.refl _ _ | assumption | refine Below.drew ?_ | refine below_drewN ?_ _ | refine Below.allocs ?_ | refine Below.next ?_ (by assumption) | refine Below.setCell ?_ (by dsimp only; omega) _))
    · have hc' : ¬ cap = t := fun h => hc h.symm
      go_enter Try.func51, Try.ntmps51
      go_wp2
      refine wp_loop_rounds 1 ?_; rw [rounds_succ]
      go_wp2
      go_ret
      exact FIN.out _ (by repeat (first | exact Below.refl _ _ | assumption | refine Below.drew ?_ | refine below_drewN ?_ _ | refine Below.allocs ?_ | refine Below.next ?_ (by assumption) | refine Below.setCell ?_ (by dsimp only; omega) _))
  · obtain ⟨b, o, rfl, hb, hc⟩ := hi.at (by omega)
    have hct : ¬ cap = t := by omega
    have hlt : t < n := by omega
    have HX := Lib.hide hx
    have HC := Lib.hide hc
    clear hi hx hc htn
    go_enter Try.func51, Try.ntmps51
    go_wp2
    go_loop [11] (fun i => ∃ k : Nat, k ≤ n - t ∧ i = .int .i64 k ∧ ∀ j, j < k → xs.getD (t + j) 0 = 0) (fun i => n - t - (intOf i).toNat)
    case atStart => exact ⟨0, Nat.zero_le _, rfl, fun j hj => absurd hj (Nat.not_lt_zero _)⟩
    case round =>
      obtain ⟨k, hk, rfl, hz⟩ := hrel
      have HZ := Lib.hide hz
      clear hz
      by_cases hkn : k < n - t
      · have e1 := HC.out (t + k) (by rw [HX.out]; omega)
        rw [← Nat.add_assoc] at e1
        obtain ⟨y, hy⟩ : ∃ y, xs.getD (t + k) 0 = y := ⟨_, rfl⟩
        rw [hy] at e1
        have HY := Lib.hide hy
        clear hy
        by_cases hy0 : y = 0
        · have hd : (y != 0) = false := by simpa using hy0
          have HY0 := Lib.hide hy0
          clear hy0
          go_wp2
          go_round
          case rel =>
            refine ⟨k + 1, by omega, by go_num, fun j hj => ?_⟩
            rcases Nat.lt_or_ge j k with h | h
            · exact HZ.out j h
            · obtain rfl : j = k := by omega
              rw [HY.out, HY0.out]
          case measure => simp [intOf]; omega
        · have hd : (y != 0) = true := by simpa using hy0
          go_wp2
          go_ret
          refine .inr ⟨fun h => hy0 ?_, rfl, (by repeat (first | exact Below.refl _ _ | assumption | refine Below.drew ?_ | refine below_drewN ?_ _ | refine Below.allocs ?_ | refine Below.next ?_ (by assumption) | refine Below.setCell ?_ (by dsimp only; omega) _))⟩
          rw [← HY.out]
          exact h (t + k) (by omega) (by rw [HX.out]; omega)
      · go_wp2
        go_ret
        refine .inl ⟨fun j h1 h2 => ?_, rfl, (by repeat (first | exact Below.refl _ _ | assumption | refine Below.drew ?_ | refine below_drewN ?_ _ | refine Below.allocs ?_ | refine Below.next ?_ (by assumption) | refine Below.setCell ?_ (by dsimp only; omega) _))⟩
        rw [HX.out] at h2
        have := HZ.out (j - t) (by omega)
        rwa [show t + (j - t) = j by omega] at this

/-- A field's word that heap.fieldsValid takes. -/
def CodeOk (l : List Nat) (y : Int) : Prop := codeOf (nums l) (y % 2) (y / 2) = 0

open Lw in
theorem codeOk_iff (l : List Nat) (y : Int) : CodeOk l y ↔ FieldOk l y := by
  unfold CodeOk FieldOk codeOf
  rcases Int.emod_two_eq y with h | h
  · rw [h]
    simp only [if_true]
    constructor
    · intro h1
      refine ⟨fun h2 => by omega, fun _ => ?_⟩
      split at h1
      · omega
      · cases h1
    · intro h1
      rw [if_pos]
      have := h1.2 trivial
      omega
  · rw [h]
    rw [if_neg (by omega), if_pos rfl]
    have hm : y / 2 ∈ nums l ↔ ∃ p ∈ l, (p : Int) = y / 2 := by simp [nums]
    constructor
    · intro h1
      refine ⟨fun _ => ?_, fun h2 => by omega⟩
      split at h1
      · rename_i h3
        rcases h3 with h3 | h3
        · left; omega
        · right; exact hm.1 h3
      · cases h1
    · intro h1
      rw [if_pos]
      rcases h1.1 rfl with h2 | h2
      · left; omega
      · right; exact hm.2 h2

open Lw in
/-- All objects of a list lie below top, in order. -/
structure Laid (xs : List Int) (t : Nat) (l : List Nat) : Prop where
  fit : ∀ p ∈ l, 1 ≤ p ∧ Fit xs t p
  sorted : l.Pairwise (· < ·)
  short : l.length ≤ t

open Lw in
theorem objs_laid {xs : List Int} {t : Nat} {l : List Nat} (h : objs xs t 1 = some l) : Laid xs t l := by
  obtain ⟨h1, h2⟩ := objs_spec t 1 l (by omega) h
  refine ⟨fun p hp => ⟨(h1 p hp).1, (h1 p hp).2.2⟩, h2, ?_⟩
  have hb : ∀ (k : Nat) (l : List Nat), l.Pairwise (· < ·) → (∀ q ∈ l, k ≤ q ∧ q < t) → l.length ≤ t - k := by
    intro k l
    induction l generalizing k with
    | nil => intros; simp
    | cons q l ih =>
      intro hp hq
      obtain ⟨ha, hb⟩ := List.pairwise_cons.1 hp
      have := ih (q + 1) hb (fun r hr => ⟨ha r hr, (hq r (List.mem_cons_of_mem _ hr)).2⟩)
      have := hq q (by simp)
      simp
      omega
  have := hb 1 l h2 (fun q hq => ⟨(h1 q hq).1, (h1 q hq).2.1⟩)
  omega

open Lw in
theorem Objects.laid {xs : List Int} {t : Nat} {l : List Nat} (h : Objects xs t l) : Laid xs t l := objs_laid h.1

theorem nums_sorted {l : List Nat} (h : l.Pairwise (· < ·)) : (nums l).Pairwise (· < ·) := by
  unfold nums
  rw [List.pairwise_map]
  exact h.imp fun h => by omega
theorem nums_getD (l : List Nat) (i : Nat) : (nums l).getD i 0 = (l.getD i 0 : Nat) := by
  unfold nums
  simp [List.getD_eq_getElem?_getD, List.getElem?_map]
  cases l[i]? <;> rfl

def FieldsCode (xs : List Int) (l : List Nat) (m : Nat) : Prop := ∀ i, i < m → ∀ k : Nat, (k : Int) < xs.getD (l.getD i 0 + 1) 0 → CodeOk l (xs.getD (l.getD i 0 + 2 + k) 0)

set_option maxHeartbeats 1600000 in
open Lw in
theorem fieldsValid_any (a : Option Addr) (n cap : Nat) (xs : List Int) (t : Nat) (l : List Nat) (a2 : Option Addr) (m c2 : Nat) (w : World) (hi : Ints w a xs) (hx : xs.length = n) (hn : n ≤ 400) (hcap : n ≤ cap) (hr : cap ≤ 9223372036854775807) (ht : t ≤ n) (hfit : ∀ x ∈ xs, Fits x)
    (hl : Laid xs t l) (hi2 : Ints w a2 (nums l)) (hm : l.length = m) :
    Calls Try.prog 50 #[.agg #[.slice a n cap, .int .i64 t], .slice a2 m c2] w (Says w (FieldsCode xs l m)) := by
  have hm4 : m ≤ 400 := by have := hl.short; omega
  have HI := Lib.hide hi
  have HI2 := Lib.hide hi2
  have HX := Lib.hide hx
  have HL := Lib.hide hl
  have HM := Lib.hide hm
  have HF := Lib.hide hfit
  clear hi hi2 hx hl hm hfit
  go_enter Try.func50, Try.ntmps50
  go_wp2
  go_loopw [12] (fun i wr => ∃ k : Nat, k ≤ m ∧ i = .int .i64 k ∧ FieldsCode xs l k ∧ Below (w.heap.size + 1) (w.alloc (.cells #[.slice a n cap, .int .i64 t] 27)) wr) (fun i _ => m - (intOf i).toNat)
  case atStart => exact ⟨0, Nat.zero_le _, rfl, fun j hj => absurd hj (Nat.not_lt_zero _), Below.refl _ _⟩
  case round =>
    obtain ⟨k, hk, rfl, hz, hbel⟩ := hrel
    have HZ := Lib.hide hz
    clear hz
    have b0 : wr.cell? ⟨w.heap.size, 0, none⟩ = some (.slice a n cap) := by rw [hbel.cell (p := ⟨w.heap.size, 0, none⟩) (by simp)]; go_simp
    have hbw : Below w.heap.size w wr := Below.trans (b := w.alloc (.cells #[.slice a n cap, .int .i64 t] 27)) (by repeat (first | exact Below.refl _ _ | assumption | refine Below.drew ?_ | refine below_drewN ?_ _ | refine Below.allocs ?_ | refine Below.next ?_ (by assumption) | refine Below.setCell ?_ (by dsimp only; omega) _)) (hbel.mono (by simp))
    by_cases hkm : k < m
    · obtain ⟨b2, o2, rfl, hb2, hc2⟩ := (HI2.out.below hbw).at (by rw [nums_length, HM.out]; omega)
      have e1 := hc2 k (by rw [nums_length, HM.out]; exact hkm)
      clear hc2
      rw [nums_getD] at e1
      obtain ⟨p, hp⟩ : ∃ p, l.getD k 0 = p := ⟨_, rfl⟩
      rw [hp] at e1
      have hpl : p ∈ l := by
        rw [← hp]
        have : k < l.length := by rw [HM.out]; exact hkm
        simp [List.getD_eq_getElem?_getD, List.getElem?_eq_getElem this]
      obtain ⟨hp1, f1, f2, f3, f4⟩ := HL.out.fit p hpl
      obtain ⟨b, o, rfl, hb, hc⟩ := (HI.out.below hbw).at (by rw [HX.out]; omega)
      have e2 := hc (p + 1) (by rw [HX.out]; omega)
      have HC := Lib.hide hc
      have HP := Lib.hide hp
      have HPL := Lib.hide hpl
      clear hc hp hpl
      obtain ⟨f, hf⟩ : ∃ f, xs.getD (p + 1) 0 = f := ⟨_, rfl⟩
      rw [hf] at e2 f2 f3 f4
      have HFF := Lib.hide hf
      clear hf
      obtain ⟨f, rfl⟩ := Int.eq_ofNat_of_zero_le f2
      rw [Int.toNat_natCast] at f4
      by_cases hf0 : f = 0
      · subst hf0
        have hnext : FieldsCode xs l (k + 1) := by
          intro i hik j hj
          rcases Nat.lt_or_ge i k with h | h
          · exact HZ.out i h j hj
          · obtain rfl : i = k := by omega
            rw [HP.out, HFF.out] at hj
            omega
        have HN := Lib.hide hnext
        clear hnext
        by_cases hcp : cap = p + 2
        · subst hcp
          go_wp2
          go_quiet (fail)
          go_wp2
          refine wp_loop_rounds 1 ?_; rw [rounds_succ]
          go_wp2
          go_roundw
          case rel => exact ⟨k + 1, by omega, by go_num, HN.out, below_drewN hbel _⟩
          case measure => simp [intOf]; omega
        · go_wp2
          go_quiet (fail)
          go_wp2
          refine wp_loop_rounds 1 ?_; rw [rounds_succ]
          go_wp2
          go_roundw
          case rel => exact ⟨k + 1, by omega, by go_num, HN.out, below_drewN hbel _⟩
          case measure => simp [intOf]; omega
      · have hcp : ¬ cap = p + 2 := by omega
        go_wp2
        go_quiet (fail)
        go_wp2
        obtain ⟨wo, rfl⟩ : ∃ wo : World, wo = wr := ⟨_, rfl⟩
        rw [show p + 2 + f - (p + 2) = f by omega]
        go_loopw [31] (fun i wq => ∃ j : Nat, j ≤ f ∧ i = .int .i64 j ∧ (∀ i, i < j → CodeOk l (xs.getD (p + 2 + i) 0)) ∧ Below (w.heap.size + 1) (w.alloc (.cells #[.slice (some ⟨b, o, none⟩) n cap, .int .i64 t] 27)) wq ∧ Below wo.heap.size wo wq) (fun i _ => f - (intOf i).toNat)
        case atStart => exact ⟨0, Nat.zero_le _, rfl, fun j hj => absurd hj (Nat.not_lt_zero _), below_drewN hbel _, (by repeat (first | exact Below.refl _ _ | assumption | refine Below.drew ?_ | refine below_drewN ?_ _ | refine Below.allocs ?_ | refine Below.next ?_ (by assumption) | refine Below.setCell ?_ (by dsimp only; omega) _))⟩
        case round =>
          obtain ⟨j, hj, rfl, hq, hbel2, hbo⟩ := hrel
          have HQ := Lib.hide hq
          clear hq
          by_cases hjf : j < f
          · have e3 : wr.cell? ⟨b, o + (p + 2) + j, none⟩ = some (.int .i64 (xs.getD (p + 2 + j) 0)) := by
              rw [hbo.cell (p := ⟨b, o + (p + 2) + j, none⟩) (by simpa using hb)]
              have := HC.out (p + 2 + j) (by rw [HX.out]; omega)
              rwa [← Nat.add_assoc] at this
            obtain ⟨y, hy⟩ : ∃ y, xs.getD (p + 2 + j) 0 = y := ⟨_, rfl⟩
            have hyf : Fits y := by
              rw [← hy]
              have h : p + 2 + j < xs.length := by rw [HX.out]; omega
              have : xs.getD (p + 2 + j) 0 = xs[p + 2 + j] := by simp [List.getD_eq_getElem?_getD, List.getElem?_eq_getElem h]
              rw [this]
              exact HF.out _ (List.getElem_mem h)
            rw [hy] at e3
            have HYF := Lib.hide hyf
            have HY := Lib.hide hy
            clear hy hyf
            obtain ⟨c, hc⟩ : ∃ c, codeOf (nums l) (y % 2) (y / 2) = c := ⟨_, rfl⟩
            have HCC := Lib.hide hc
            clear hc
            have hle : w.heap.size + 1 ≤ wr.heap.size := by have := hbel2.size; simp at this; omega
            by_cases hc0 : c = 0
            · have hd : (c != 0) = false := by simpa using hc0
              have HC0 := Lib.hide hc0
              clear hc0
              go_wp2_with (first
              | (go_at_call 26; refine (of_any y _ HYF.out).mono ?_; rintro e w5 ⟨rfl, hb5⟩)
              | (go_at_call 53; refine (checkValue_any _ m c2 (nums l) (y % 2) (y / 2) w5 (HI2.out.below (Below.next (Below.next hbw hbo) hb5)) (by rw [nums_length]; exact HM.out) hm4 (nums_sorted HL.out.sorted) c HCC.out).mono ?_; rintro e w6 ⟨rfl, hb6⟩))
              go_roundw
              case rel =>
                refine ⟨j + 1, by omega, by go_num, fun i hij => ?_, hbel2.trans ((Below.next hb5 hb6).mono hle), Below.next (Below.next hbo hb5) hb6⟩
                rcases Nat.lt_or_ge i j with h | h
                · exact HQ.out i h
                · obtain rfl : i = j := by omega
                  rw [HY.out]; exact HCC.out.trans HC0.out
              case measure => simp [intOf]; omega
            · have hd : (c != 0) = true := by simpa using hc0
              have HC0 := Lib.hide hc0
              clear hc0
              go_wp2_with (first
              | (go_at_call 26; refine (of_any y _ HYF.out).mono ?_; rintro e w5 ⟨rfl, hb5⟩)
              | (go_at_call 53; refine (checkValue_any _ m c2 (nums l) (y % 2) (y / 2) w5 (HI2.out.below (Below.next (Below.next hbw hbo) hb5)) (by rw [nums_length]; exact HM.out) hm4 (nums_sorted HL.out.sorted) c HCC.out).mono ?_; rintro e w6 ⟨rfl, hb6⟩))
              go_ret
              refine .inr ⟨fun h => HC0.out ?_, rfl, Below.next (Below.next (Below.next hbw hbo) hb5) hb6⟩
              have h7 := h k hkm j (by rw [HP.out, HFF.out]; omega)
              rw [HP.out, HY.out] at h7
              exact HCC.out.symm.trans h7
          · go_wp2
            go_roundw
            case rel =>
              refine ⟨k + 1, by omega, by go_num, ?_, hbel2⟩
              intro i hik q hq
              rcases Nat.lt_or_ge i k with h | h
              · exact HZ.out i h q hq
              · obtain rfl : i = k := by omega
                rw [HP.out, HFF.out] at hq
                rw [HP.out]
                exact HQ.out q (by omega)
            case measure => simp [intOf]; omega
    · obtain rfl : k = m := by omega
      go_wp2
      go_ret
      exact .inl ⟨HZ.out, rfl, (by repeat (first | exact Below.refl _ _ | assumption | refine Below.drew ?_ | refine below_drewN ?_ _ | refine Below.allocs ?_ | refine Below.next ?_ (by assumption) | refine Below.setCell ?_ (by dsimp only; omega) _))⟩
end Go.Proofs.Ytpdcaoagpjcgbab

/-
  The walks of heap.Places and heap.Check. It proves no statement by itself.
-/
namespace Go.Proofs.Ytpdcaoagpjcgbab
open Go.RowKit

theorem says_yes {P : Program} {f : FuncId} {args : Array Value} {w : World} {p : Prop} (h : Calls P f args w (Says w p)) (hp : p) : Calls P f args w fun e w' => e = .returned (.bool true) ∧ Below w.heap.size w w' :=
  h.mono fun _ _ hs => by
    rcases hs with ⟨_, h1, h2⟩ | ⟨hn, _⟩
    · exact ⟨h1, h2⟩
    · exact absurd hp hn
theorem says_no {P : Program} {f : FuncId} {args : Array Value} {w : World} {p : Prop} (h : Calls P f args w (Says w p)) (hp : ¬ p) : Calls P f args w fun e w' => e = .returned (.bool false) ∧ Below w.heap.size w w' :=
  h.mono fun _ _ hs => by
    rcases hs with ⟨hn, _⟩ | ⟨_, h1, h2⟩
    · exact absurd hn hp
    · exact ⟨h1, h2⟩

open Lw in
theorem walk_yes (a : Option Addr) (n cap : Nat) (xs : List Int) (t : Nat) (l : List Nat) (w : World) (hi : Ints w a xs) (hx : xs.length = n) (hn : n ≤ 400) (h1 : 1 ≤ t) (ht : t ≤ n) (hl : Objects xs t l) :
    Calls Try.prog 49 #[.agg #[.slice a n cap, .int .i64 t]] w (WalkPost w l) :=
  (walk_any a n cap xs t w hi hx hn h1 ht).mono fun e w' h => by
    rcases h with ⟨l', hl', h⟩ | ⟨h, _⟩
    · have : l = l' := by have := hl.1.symm.trans hl'.1; injection this
      subst this
      exact h
    · exact absurd hl (h l)
open Lw in
theorem walk_no (a : Option Addr) (n cap : Nat) (xs : List Int) (t : Nat) (w : World) (hi : Ints w a xs) (hx : xs.length = n) (hn : n ≤ 400) (h1 : 1 ≤ t) (ht : t ≤ n) (hl : ∀ l, ¬ Objects xs t l) :
    Calls Try.prog 49 #[.agg #[.slice a n cap, .int .i64 t]] w fun e w' => e = .returned (.tuple #[.slice none 0 0, .bool false]) ∧ Below w.heap.size w w' :=
  (walk_any a n cap xs t w hi hx hn h1 ht).mono fun e w' h => by
    rcases h with ⟨l', hl', _⟩ | ⟨_, h⟩
    · exact absurd hl' (hl l')
    · exact h

open Lw in
theorem fieldsCode_iff {xs : List Int} {l : List Nat} : FieldsCode xs l l.length ↔ FieldsOk xs l := by
  unfold FieldsCode FieldsOk
  constructor
  · intro h p hp k hk
    obtain ⟨i, hi, rfl⟩ := List.mem_iff_getElem.1 hp
    have e : l.getD i 0 = l[i] := by simp [List.getD_eq_getElem?_getD, List.getElem?_eq_getElem hi]
    have := h i hi k (by rw [e]; exact hk)
    rw [e] at this
    exact (codeOk_iff _ _).1 this
  · intro h i hi k hk
    have e : l.getD i 0 = l[i] := by simp [List.getD_eq_getElem?_getD, List.getElem?_eq_getElem hi]
    rw [e] at hk ⊢
    exact (codeOk_iff _ _).2 (h _ (List.getElem_mem hi) k hk)

/-- The places of a valid heap. -/
def PlacesYes (w : World) (l : List Nat) (e : Ending) (w' : World) : Prop :=
  ∃ a cap, e = .returned (.tuple #[.slice a l.length cap, .int .i64 0]) ∧ Own w' w.heap.size (.slice a l.length cap) (nums l) ∧ Below w.heap.size w w'

/-- An argument that is a heap, whatever its words. -/
structure IsHeap (w : World) (a : Option Addr) (n cap : Nat) (xs : List Int) (top : Int) : Prop where
  ints : Ints w a xs
  len : xs.length = n
  cap1 : n ≤ cap
  cap2 : cap ≤ 9223372036854775807
  fits : ∀ x ∈ xs, Fits x
  top : Fits top

theorem IsHeap.below {w w' : World} {a : Option Addr} {n cap : Nat} {xs : List Int} {top : Int} (h : IsHeap w a n cap xs top) (hb : Below w.heap.size w w') : IsHeap w' a n cap xs top := { h with ints := h.ints.below hb }

set_option maxHeartbeats 800000 in
open Lw in
theorem places_yes (a : Option Addr) (n cap : Nat) (xs : List Int) (top : Int) (l : List Nat) (w : World) (hh : IsHeap w a n cap xs top) (hv : Valid xs top l) :
    Calls Try.prog 16 #[.agg #[.slice a n cap, .int .i64 top]] w (PlacesYes w l) := by
  obtain ⟨v1, v2, v3, v4, v5, v6, v7⟩ := hv
  have hx := hh.len
  rw [hx] at v1 v2 v4
  obtain ⟨t, rfl⟩ := Int.eq_ofNat_of_zero_le (a := top) (by omega)
  rw [Int.toNat_natCast] at v5 v7
  have H := Lib.hide hh
  have HX := Lib.hide hx
  have V5 := Lib.hide v5
  have V6 := Lib.hide (fieldsCode_iff.2 v6)
  have V7 := Lib.hide v7
  have h1 : 1 ≤ t := by omega
  have h2 : t ≤ n := by omega
  have kc1 := hh.cap1
  have kc2 := hh.cap2
  clear hh hx v5 v6 v7
  go_enter Try.func16, Try.ntmps16
  go_wp2_with (first
    | (go_at_call 48; refine (sizesValid_yes a n cap t _ v1 v2 v3 v4).mono ?_; rintro e w1 ⟨rfl, hb1⟩; obtain ⟨qc_hb1, qf_hb1, qs_hb1⟩ := bcell hb1; have hz1 := Below.past hb1)
    | (go_at_call 49; refine (walk_yes a n cap xs t l _ (H.out.ints.below (by repeat (first | exact Below.refl _ _ | assumption | refine Below.drew ?_ | refine below_drewN ?_ _ | refine Below.allocs ?_ | refine Below.next ?_ (by assumption) | refine Below.setCell ?_ (by dsimp only; omega) _))) HX.out v2 h1 h2 V5.out).mono ?_; rintro e w2 ⟨a2, c2, rfl, ho2, hb2⟩; have HO2 := Lib.hide ho2; clear ho2; obtain ⟨qc_hb2, qf_hb2, qs_hb2⟩ := bcell hb2; have hz2 := Nat.lt_of_lt_of_le hz1 hb2.size)
    | (go_at_call 50; refine (says_yes (fieldsValid_any a n cap xs t l a2 l.length c2 _ (H.out.ints.below (by repeat (first | exact Below.refl _ _ | assumption | refine Below.drew ?_ | refine below_drewN ?_ _ | refine Below.allocs ?_ | refine Below.next ?_ (by assumption) | refine Below.setCell ?_ (by dsimp only; omega) _))) HX.out v2 kc1 kc2 h2 H.out.fits (Objects.laid V5.out) (HO2.out.reads.2.below (by repeat (first | exact Below.refl _ _ | assumption | refine Below.drew ?_ | refine below_drewN ?_ _ | refine Below.allocs ?_ | refine Below.next ?_ (by assumption) | refine Below.setCell ?_ (by dsimp only; omega) _))) rfl) V6.out).mono ?_; rintro e w3 ⟨rfl, hb3⟩; obtain ⟨qc_hb3, qf_hb3, qs_hb3⟩ := bcell hb3; have hz3 := Nat.lt_of_lt_of_le hz2 hb3.size)
    | (go_at_call 51; refine (says_yes (restZero_any a n cap xs t _ (H.out.ints.below (by repeat (first | exact Below.refl _ _ | assumption | refine Below.drew ?_ | refine below_drewN ?_ _ | refine Below.allocs ?_ | refine Below.next ?_ (by assumption) | refine Below.setCell ?_ (by dsimp only; omega) _))) HX.out v2 kc1 h2 kc2) V7.out).mono ?_; rintro e w4 ⟨rfl, hb4⟩))
  go_ret2
  exact ⟨a2, c2, rfl, Own.below (ownsRow_base HO2.out (Nat.le_of_lt hz1)) (by repeat (first | exact Below.refl _ _ | assumption | refine Below.drew ?_ | refine below_drewN ?_ _ | refine Below.allocs ?_ | refine Below.next ?_ (by assumption) | refine Below.setCell ?_ (by dsimp only; omega) _)), (by repeat (first | exact Below.refl _ _ | assumption | refine Below.drew ?_ | refine below_drewN ?_ _ | refine Below.allocs ?_ | refine Below.next ?_ (by assumption) | refine Below.setCell ?_ (by dsimp only; omega) _))⟩

/-- What a function hands back together with ErrState where its other result is a list. -/
def PlacesNo (w : World) (e : Ending) (w' : World) : Prop := e = .returned (.tuple #[.slice none 0 0, .int .i64 5]) ∧ Below w.heap.size w w'

set_option maxHeartbeats 1600000 in
open Lw in
theorem places_no (a : Option Addr) (n cap : Nat) (xs : List Int) (top : Int) (w : World) (hh : IsHeap w a n cap xs top) (hv : ∀ l, ¬ Valid xs top l) :
    Calls Try.prog 16 #[.agg #[.slice a n cap, .int .i64 top]] w (PlacesNo w) := by
  by_cases hs : 1 ≤ n ∧ n ≤ 400 ∧ 1 ≤ top ∧ top ≤ n
  · obtain ⟨v1, v2, v3, v4⟩ := hs
    have hx := hh.len
    obtain ⟨t, rfl⟩ := Int.eq_ofNat_of_zero_le (a := top) (by omega)
    have h1 : 1 ≤ t := by omega
    have h2 : t ≤ n := by omega
    have kc1 := hh.cap1
    have kc2 := hh.cap2
    have H := Lib.hide hh
    have HX := Lib.hide hx
    by_cases ho : ∃ l, Objects xs t l
    · obtain ⟨l, hl⟩ := ho
      have V5 := Lib.hide hl
      by_cases hf : FieldsCode xs l l.length
      · have V6 := Lib.hide hf
        have hr : ¬ RestZero xs t := fun hr => hv l ⟨by omega, by omega, v3, by rw [hx]; exact v4, hl, fieldsCode_iff.1 hf, hr⟩
        have V7 := Lib.hide hr
        clear hh hx hv hl hf hr
        go_enter Try.func16, Try.ntmps16
        go_wp2_with (first
          | (go_at_call 48; refine (sizesValid_yes a n cap t _ v1 v2 v3 v4).mono ?_; rintro e w1 ⟨rfl, hb1⟩; obtain ⟨qc_hb1, qf_hb1, qs_hb1⟩ := bcell hb1; have hz1 := Below.past hb1)
          | (go_at_call 49; refine (walk_yes a n cap xs t l _ (H.out.ints.below (by repeat (first | exact Below.refl _ _ | assumption | refine Below.drew ?_ | refine below_drewN ?_ _ | refine Below.allocs ?_ | refine Below.next ?_ (by assumption) | refine Below.setCell ?_ (by dsimp only; omega) _))) HX.out v2 h1 h2 V5.out).mono ?_; rintro e w2 ⟨a2, c2, rfl, ho2, hb2⟩; have HO2 := Lib.hide ho2; clear ho2; obtain ⟨qc_hb2, qf_hb2, qs_hb2⟩ := bcell hb2; have hz2 := Nat.lt_of_lt_of_le hz1 hb2.size)
          | (go_at_call 50; refine (says_yes (fieldsValid_any a n cap xs t l a2 l.length c2 _ (H.out.ints.below (by repeat (first | exact Below.refl _ _ | assumption | refine Below.drew ?_ | refine below_drewN ?_ _ | refine Below.allocs ?_ | refine Below.next ?_ (by assumption) | refine Below.setCell ?_ (by dsimp only; omega) _))) HX.out v2 kc1 kc2 h2 H.out.fits (Objects.laid V5.out) (HO2.out.reads.2.below (by repeat (first | exact Below.refl _ _ | assumption | refine Below.drew ?_ | refine below_drewN ?_ _ | refine Below.allocs ?_ | refine Below.next ?_ (by assumption) | refine Below.setCell ?_ (by dsimp only; omega) _))) rfl) V6.out).mono ?_; rintro e w3 ⟨rfl, hb3⟩; obtain ⟨qc_hb3, qf_hb3, qs_hb3⟩ := bcell hb3; have hz3 := Nat.lt_of_lt_of_le hz2 hb3.size)
          | (go_at_call 51; refine (says_no (restZero_any a n cap xs t _ (H.out.ints.below (by repeat (first | exact Below.refl _ _ | assumption | refine Below.drew ?_ | refine below_drewN ?_ _ | refine Below.allocs ?_ | refine Below.next ?_ (by assumption) | refine Below.setCell ?_ (by dsimp only; omega) _))) HX.out v2 kc1 h2 kc2) V7.out).mono ?_; rintro e w4 ⟨rfl, hb4⟩))
        go_ret2
        exact ⟨rfl, (by repeat (first | exact Below.refl _ _ | assumption | refine Below.drew ?_ | refine below_drewN ?_ _ | refine Below.allocs ?_ | refine Below.next ?_ (by assumption) | refine Below.setCell ?_ (by dsimp only; omega) _))⟩
      · have V6 := Lib.hide hf
        clear hh hx hv hl hf
        go_enter Try.func16, Try.ntmps16
        go_wp2_with (first
          | (go_at_call 48; refine (sizesValid_yes a n cap t _ v1 v2 v3 v4).mono ?_; rintro e w1 ⟨rfl, hb1⟩; obtain ⟨qc_hb1, qf_hb1, qs_hb1⟩ := bcell hb1; have hz1 := Below.past hb1)
          | (go_at_call 49; refine (walk_yes a n cap xs t l _ (H.out.ints.below (by repeat (first | exact Below.refl _ _ | assumption | refine Below.drew ?_ | refine below_drewN ?_ _ | refine Below.allocs ?_ | refine Below.next ?_ (by assumption) | refine Below.setCell ?_ (by dsimp only; omega) _))) HX.out v2 h1 h2 V5.out).mono ?_; rintro e w2 ⟨a2, c2, rfl, ho2, hb2⟩; have HO2 := Lib.hide ho2; clear ho2; obtain ⟨qc_hb2, qf_hb2, qs_hb2⟩ := bcell hb2; have hz2 := Nat.lt_of_lt_of_le hz1 hb2.size)
          | (go_at_call 50; refine (says_no (fieldsValid_any a n cap xs t l a2 l.length c2 _ (H.out.ints.below (by repeat (first | exact Below.refl _ _ | assumption | refine Below.drew ?_ | refine below_drewN ?_ _ | refine Below.allocs ?_ | refine Below.next ?_ (by assumption) | refine Below.setCell ?_ (by dsimp only; omega) _))) HX.out v2 kc1 kc2 h2 H.out.fits (Objects.laid V5.out) (HO2.out.reads.2.below (by repeat (first | exact Below.refl _ _ | assumption | refine Below.drew ?_ | refine below_drewN ?_ _ | refine Below.allocs ?_ | refine Below.next ?_ (by assumption) | refine Below.setCell ?_ (by dsimp only; omega) _))) rfl) V6.out).mono ?_; rintro e w3 ⟨rfl, hb3⟩; obtain ⟨qc_hb3, qf_hb3, qs_hb3⟩ := bcell hb3; have hz3 := Nat.lt_of_lt_of_le hz2 hb3.size))
        go_ret2
        exact ⟨rfl, (by repeat (first | exact Below.refl _ _ | assumption | refine Below.drew ?_ | refine below_drewN ?_ _ | refine Below.allocs ?_ | refine Below.next ?_ (by assumption) | refine Below.setCell ?_ (by dsimp only; omega) _))⟩
    · have V5 := Lib.hide (not_exists.1 ho)
      clear hh hx hv ho
      go_enter Try.func16, Try.ntmps16
      go_wp2_with (first
        | (go_at_call 48; refine (sizesValid_yes a n cap t _ v1 v2 v3 v4).mono ?_; rintro e w1 ⟨rfl, hb1⟩; obtain ⟨qc_hb1, qf_hb1, qs_hb1⟩ := bcell hb1; have hz1 := Below.past hb1)
        | (go_at_call 49; refine (walk_no a n cap xs t _ (H.out.ints.below (by repeat (first | exact Below.refl _ _ | assumption | refine Below.drew ?_ | refine below_drewN ?_ _ | refine Below.allocs ?_ | refine Below.next ?_ (by assumption) | refine Below.setCell ?_ (by dsimp only; omega) _))) HX.out v2 h1 h2 V5.out).mono ?_; rintro e w2 ⟨rfl, hb2⟩; obtain ⟨qc_hb2, qf_hb2, qs_hb2⟩ := bcell hb2; have hz2 := Nat.lt_of_lt_of_le hz1 hb2.size))
      go_ret2
      exact ⟨rfl, (by repeat (first | exact Below.refl _ _ | assumption | refine Below.drew ?_ | refine below_drewN ?_ _ | refine Below.allocs ?_ | refine Below.next ?_ (by assumption) | refine Below.setCell ?_ (by dsimp only; omega) _))⟩
  · have HS := Lib.hide hs
    clear hh hv hs
    go_enter Try.func16, Try.ntmps16
    go_wp2_with (go_at_call 48; refine (sizesValid_no a n cap top _ HS.out).mono ?_; rintro e w1 ⟨rfl, hb1⟩)
    go_ret2
    exact ⟨rfl, (by repeat (first | exact Below.refl _ _ | assumption | refine Below.drew ?_ | refine below_drewN ?_ _ | refine Below.allocs ?_ | refine Below.next ?_ (by assumption) | refine Below.setCell ?_ (by dsimp only; omega) _))⟩

set_option maxHeartbeats 400000 in
open Lw in
theorem check_yes (a : Option Addr) (n cap : Nat) (xs : List Int) (top : Int) (l : List Nat) (w : World) (hh : IsHeap w a n cap xs top) (hv : Valid xs top l) :
    Calls Try.prog 21 #[.agg #[.slice a n cap, .int .i64 top]] w fun e w' => e = .returned (.int .i64 0) ∧ Below w.heap.size w w' := by
  have H := Lib.hide hh
  have HV := Lib.hide hv
  clear hh hv
  go_enter Try.func21, Try.ntmps21
  go_wp2_with (go_at_call 16; refine (places_yes a n cap xs top l _ (H.out.below (by repeat (first | exact Below.refl _ _ | assumption | refine Below.drew ?_ | refine below_drewN ?_ _ | refine Below.allocs ?_ | refine Below.next ?_ (by assumption) | refine Below.setCell ?_ (by dsimp only; omega) _))) HV.out).mono ?_; rintro e w1 ⟨a1, c1, rfl, ho1, hb1⟩)
  go_ret
  exact ⟨rfl, (by repeat (first | exact Below.refl _ _ | assumption | refine Below.drew ?_ | refine below_drewN ?_ _ | refine Below.allocs ?_ | refine Below.next ?_ (by assumption) | refine Below.setCell ?_ (by dsimp only; omega) _))⟩

set_option maxHeartbeats 400000 in
open Lw in
theorem check_no (a : Option Addr) (n cap : Nat) (xs : List Int) (top : Int) (w : World) (hh : IsHeap w a n cap xs top) (hv : ∀ l, ¬ Valid xs top l) :
    Calls Try.prog 21 #[.agg #[.slice a n cap, .int .i64 top]] w fun e w' => e = .returned (.int .i64 5) ∧ Below w.heap.size w w' := by
  have H := Lib.hide hh
  have HV := Lib.hide hv
  clear hh hv
  go_enter Try.func21, Try.ntmps21
  go_wp2_with (go_at_call 16; refine (places_no a n cap xs top _ (H.out.below (by repeat (first | exact Below.refl _ _ | assumption | refine Below.drew ?_ | refine below_drewN ?_ _ | refine Below.allocs ?_ | refine Below.next ?_ (by assumption) | refine Below.setCell ?_ (by dsimp only; omega) _))) HV.out).mono ?_; rintro e w1 ⟨rfl, hb1⟩)
  go_ret
  exact ⟨rfl, (by repeat (first | exact Below.refl _ _ | assumption | refine Below.drew ?_ | refine below_drewN ?_ _ | refine Below.allocs ?_ | refine Below.next ?_ (by assumption) | refine Below.setCell ?_ (by dsimp only; omega) _))⟩
end Go.Proofs.Ytpdcaoagpjcgbab

