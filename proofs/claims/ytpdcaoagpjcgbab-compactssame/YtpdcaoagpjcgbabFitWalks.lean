/-
  The walks of heap.sizesValid, heap.objectFits and heap.walk: which words are whole objects. It proves no statement by itself.
-/
import Derived.Test.YtpdcaoagpjcgbabCopyWalks
import Derived.Test.YtpdcaoagpjcgbabModel
import Derived.Deep.QuietTactic
import Derived.BigQuiet
set_option linter.unusedVariables false
set_option linter.unusedSimpArgs false
namespace Go.Proofs.Ytpdcaoagpjcgbab
open Go.RowKit

set_option maxHeartbeats 400000 in
theorem sizesValid_yes (a : Option Addr) (n cap : Nat) (top : Int) (w : World) (h1 : 1 ≤ n) (h2 : n ≤ 400) (h3 : 1 ≤ top) (h4 : top ≤ n) :
    Calls Try.prog 48 #[.agg #[.slice a n cap, .int .i64 top]] w fun e w' => e = .returned (.bool true) ∧ Below w.heap.size w w' := by
  go_enter Try.func48, Try.ntmps48
  go_wp2
  go_ret
  exact ⟨rfl, (by repeat (first | exact Below.refl _ _ | assumption | refine Below.drew ?_ | refine below_drewN ?_ _ | refine Below.allocs ?_ | refine Below.next ?_ (by assumption) | refine Below.setCell ?_ (by dsimp only; omega) _))⟩

set_option maxHeartbeats 400000 in
theorem sizesValid_no (a : Option Addr) (n cap : Nat) (top : Int) (w : World) (h : ¬ (1 ≤ n ∧ n ≤ 400 ∧ 1 ≤ top ∧ top ≤ n)) :
    Calls Try.prog 48 #[.agg #[.slice a n cap, .int .i64 top]] w fun e w' => e = .returned (.bool false) ∧ Below w.heap.size w w' := by
  by_cases h1 : 1 ≤ n
  · by_cases h2 : n ≤ 400
    · by_cases h3 : 1 ≤ top
      · have h4 : decide (top ≤ (n : Int)) = false := by simp; omega
        clear h
        go_enter Try.func48, Try.ntmps48
        go_wp2
        go_ret
        exact ⟨rfl, (by repeat (first | exact Below.refl _ _ | assumption | refine Below.drew ?_ | refine below_drewN ?_ _ | refine Below.allocs ?_ | refine Below.next ?_ (by assumption) | refine Below.setCell ?_ (by dsimp only; omega) _))⟩
      · have h4 : decide ((1 : Int) ≤ top) = false := by simp; omega
        clear h
        go_enter Try.func48, Try.ntmps48
        go_wp2
        go_ret
        exact ⟨rfl, (by repeat (first | exact Below.refl _ _ | assumption | refine Below.drew ?_ | refine below_drewN ?_ _ | refine Below.allocs ?_ | refine Below.next ?_ (by assumption) | refine Below.setCell ?_ (by dsimp only; omega) _))⟩
    · have h4 : decide ((n : Int) ≤ 400) = false := by simp; omega
      clear h
      go_enter Try.func48, Try.ntmps48
      go_wp2
      go_ret
      exact ⟨rfl, (by repeat (first | exact Below.refl _ _ | assumption | refine Below.drew ?_ | refine below_drewN ?_ _ | refine Below.allocs ?_ | refine Below.next ?_ (by assumption) | refine Below.setCell ?_ (by dsimp only; omega) _))⟩
  · have h4 : decide ((1 : Int) ≤ (n : Int)) = false := by simp; omega
    clear h
    go_enter Try.func48, Try.ntmps48
    go_wp2
    go_ret
    exact ⟨rfl, (by repeat (first | exact Below.refl _ _ | assumption | refine Below.drew ?_ | refine below_drewN ?_ _ | refine Below.allocs ?_ | refine Below.next ?_ (by assumption) | refine Below.setCell ?_ (by dsimp only; omega) _))⟩

theorem Ints.at {w : World} {a : Option Addr} {xs : List Int} (h : Ints w a xs) (h0 : 0 < xs.length) : ∃ b o, a = some ⟨b, o, none⟩ ∧ b < w.heap.size ∧ ∀ i, i < xs.length → w.cell? ⟨b, o + i, none⟩ = some (.int .i64 (xs.getD i 0)) := by
  rcases h with rfl | h
  · simp at h0
  · exact h

set_option maxHeartbeats 400000 in
/-- objectFits at an address whose two head words lie below top. -/
theorem objectFits_core (b o n cap : Nat) (t p : Nat) (s f : Int) (w : World) (hb : b < w.heap.size) (hn : n ≤ 400) (ht : t ≤ n) (hp : p + 2 ≤ t)
    (c0 : w.cell? ⟨b, o + p, none⟩ = some (.int .i64 s)) (c1 : w.cell? ⟨b, o + (p + 1), none⟩ = some (.int .i64 f)) (hs1 : 0 ≤ s) (hs2 : s ≤ 2147483648) (hf1 : 0 ≤ f) (hf2 : f ≤ 6) (r : Bool) (hr : decide ((p : Int) + 2 + f ≤ (t : Int)) = r) :
    Calls Try.prog 75 #[.agg #[.slice (some ⟨b, o, none⟩) n cap, .int .i64 t], .int .i64 p] w fun e w' => e = .returned (.bool r) ∧ Below w.heap.size w w' := by
  go_enter Try.func75, Try.ntmps75
  go_wp2
  go_quiet (fail)
  go_wp2
  go_ret
  exact ⟨rfl, (by repeat (first | exact Below.refl _ _ | assumption | refine Below.drew ?_ | refine below_drewN ?_ _ | refine Below.allocs ?_ | refine Below.next ?_ (by assumption) | refine Below.setCell ?_ (by dsimp only; omega) _))⟩

set_option maxHeartbeats 800000 in
theorem objectFits_bad (b o n cap : Nat) (t p : Nat) (s f : Int) (w : World) (hb : b < w.heap.size) (hn : n ≤ 400) (ht : t ≤ n) (hp : p + 2 ≤ t)
    (c0 : w.cell? ⟨b, o + p, none⟩ = some (.int .i64 s)) (c1 : w.cell? ⟨b, o + (p + 1), none⟩ = some (.int .i64 f)) (h : ¬ (0 ≤ s ∧ s ≤ 2147483648 ∧ 0 ≤ f ∧ f ≤ 6)) :
    Calls Try.prog 75 #[.agg #[.slice (some ⟨b, o, none⟩) n cap, .int .i64 t], .int .i64 p] w fun e w' => e = .returned (.bool false) ∧ Below w.heap.size w w' := by
  by_cases h1 : 0 ≤ s
  · by_cases h2 : s ≤ 2147483648
    · by_cases h3 : 0 ≤ f
      · have h4 : decide (f ≤ 6) = false := by simp; omega
        clear h
        go_enter Try.func75, Try.ntmps75
        go_wp2
        go_quiet (fail)
        go_wp2
        go_ret
        exact ⟨rfl, (by repeat (first | exact Below.refl _ _ | assumption | refine Below.drew ?_ | refine below_drewN ?_ _ | refine Below.allocs ?_ | refine Below.next ?_ (by assumption) | refine Below.setCell ?_ (by dsimp only; omega) _))⟩
      · have h4 : decide (0 ≤ f) = false := by simp; omega
        clear h
        go_enter Try.func75, Try.ntmps75
        go_wp2
        go_quiet (fail)
        go_wp2
        go_ret
        exact ⟨rfl, (by repeat (first | exact Below.refl _ _ | assumption | refine Below.drew ?_ | refine below_drewN ?_ _ | refine Below.allocs ?_ | refine Below.next ?_ (by assumption) | refine Below.setCell ?_ (by dsimp only; omega) _))⟩
    · have h4 : decide (s ≤ 2147483648) = false := by simp; omega
      clear h
      go_enter Try.func75, Try.ntmps75
      go_wp2
      go_quiet (fail)
      go_wp2
      go_ret
      exact ⟨rfl, (by repeat (first | exact Below.refl _ _ | assumption | refine Below.drew ?_ | refine below_drewN ?_ _ | refine Below.allocs ?_ | refine Below.next ?_ (by assumption) | refine Below.setCell ?_ (by dsimp only; omega) _))⟩
  · have h4 : decide (0 ≤ s) = false := by simp; omega
    clear h
    go_enter Try.func75, Try.ntmps75
    go_wp2
    go_quiet (fail)
    go_wp2
    go_ret
    exact ⟨rfl, (by repeat (first | exact Below.refl _ _ | assumption | refine Below.drew ?_ | refine below_drewN ?_ _ | refine Below.allocs ?_ | refine Below.next ?_ (by assumption) | refine Below.setCell ?_ (by dsimp only; omega) _))⟩

set_option maxHeartbeats 400000 in
theorem objectFits_short (a : Option Addr) (n cap : Nat) (t p : Nat) (w : World) (hn : n ≤ 400) (ht : t ≤ n) (hpt : p < t) (hp : t < p + 2) :
    Calls Try.prog 75 #[.agg #[.slice a n cap, .int .i64 t], .int .i64 p] w fun e w' => e = .returned (.bool false) ∧ Below w.heap.size w w' := by
  go_enter Try.func75, Try.ntmps75
  go_wp2
  go_ret
  exact ⟨rfl, (by repeat (first | exact Below.refl _ _ | assumption | refine Below.drew ?_ | refine below_drewN ?_ _ | refine Below.allocs ?_ | refine Below.next ?_ (by assumption) | refine Below.setCell ?_ (by dsimp only; omega) _))⟩

open Lw in
theorem objectFits_yes (a : Option Addr) (n cap : Nat) (xs : List Int) (t p : Nat) (w : World) (hi : Ints w a xs) (hx : xs.length = n) (hn : n ≤ 400) (ht : t ≤ n) (hf : Fit xs t p) (hs : StOk xs p) :
    Calls Try.prog 75 #[.agg #[.slice a n cap, .int .i64 t], .int .i64 p] w fun e w' => e = .returned (.bool true) ∧ Below w.heap.size w w' := by
  obtain ⟨f1, f2, f3, f4⟩ := hf
  obtain ⟨b, o, rfl, hb, hc⟩ := hi.at (by omega)
  exact objectFits_core b o n cap t p _ _ w hb hn ht f1 (hc p (by omega)) (hc (p + 1) (by omega)) hs.1 hs.2 f2 f3 true (decide_eq_true (by omega))

open Lw in
theorem objectFits_no (a : Option Addr) (n cap : Nat) (xs : List Int) (t p : Nat) (w : World) (hi : Ints w a xs) (hx : xs.length = n) (hn : n ≤ 400) (ht : t ≤ n) (hpt : p < t) (hf : ¬ (Fit xs t p ∧ StOk xs p)) :
    Calls Try.prog 75 #[.agg #[.slice a n cap, .int .i64 t], .int .i64 p] w fun e w' => e = .returned (.bool false) ∧ Below w.heap.size w w' := by
  by_cases hp : p + 2 ≤ t
  · obtain ⟨b, o, rfl, hb, hc⟩ := hi.at (by omega)
    by_cases h : 0 ≤ xs.getD p 0 ∧ xs.getD p 0 ≤ 2147483648 ∧ 0 ≤ xs.getD (p + 1) 0 ∧ xs.getD (p + 1) 0 ≤ 6
    · obtain ⟨h1, h2, h3, h4⟩ := h
      refine objectFits_core b o n cap t p _ _ w hb hn ht hp (hc p (by omega)) (hc (p + 1) (by omega)) h1 h2 h3 h4 false ?_
      simp only [decide_eq_false_iff_not]
      intro h5
      exact hf ⟨⟨hp, h3, h4, by omega⟩, h1, h2⟩
    · exact objectFits_bad b o n cap t p _ _ w hb hn ht hp (hc p (by omega)) (hc (p + 1) (by omega)) h
  · exact objectFits_short a n cap t p w hn ht hpt (by omega)

/-- Addresses as integers. -/
def nums (l : List Nat) : List Int := l.map (fun p : Nat => (p : Int))

def WalkPost (w : World) (l : List Nat) (e : Ending) (w' : World) : Prop :=
  ∃ a cap, e = .returned (.tuple #[.slice a l.length cap, .bool true]) ∧ Own w' w.heap.size (.slice a l.length cap) (nums l) ∧ Below w.heap.size w w'

theorem Own.below {w w' : World} {base : Nat} {v : Value} {xs : List Int} (h : Own w base v xs) (hb : Below w.heap.size w w') : Own w' base v xs := by
  refine ⟨h.1, ?_⟩
  rcases h.2 with h2 | ⟨g, cap, cur, hv, hg, hh, r⟩
  · exact .inl h2
  · have hlt : g < w.heap.size := by
      rcases Nat.lt_or_ge g w.heap.size with h' | h'
      · exact h'
      · rw [Array.getElem?_eq_none h'] at hh; cases hh
    exact .inr ⟨g, cap, cur, hv, hg, (hb.block g hlt).trans hh, r⟩

/-- What holds at the head of walk's loop (w: the world behind the box of its argument). -/
def WalkRel (w : World) (xs : List Int) (t : Nat) (v : Value) (i : Value) (wr : World) : Prop :=
  ∃ (out : List Nat) (p : Nat), 1 ≤ p ∧ p ≤ t ∧ out.length ≤ p ∧ i = .int .i64 p ∧ Own wr w.heap.size v (nums out) ∧ Below w.heap.size w wr ∧
    Lw.objs xs t 1 = (Lw.objs xs t p).map (out ++ ·) ∧ ∀ q ∈ out, Lw.StOk xs q

theorem nums_snoc (l : List Nat) (p : Nat) : (nums (l ++ [p])).map (Value.int .i64) = (nums l).map (Value.int .i64) ++ [.int .i64 p] := by simp [nums]
theorem nums_length (l : List Nat) : (nums l).length = l.length := by simp [nums]

open Lw in
theorem objs_snoc {xs : List Int} {t p : Nat} {out : List Nat} (h : objs xs t 1 = (objs xs t p).map (out ++ ·)) (hp : p < t) (hf : Fit xs t p) : objs xs t 1 = (objs xs t (nextOf xs p)).map ((out ++ [p]) ++ ·) := by
  rw [h, objs_step hp hf, Option.map_map]
  congr 1
  funext l
  simp

open Lw in
theorem objs_fail {xs : List Int} {t p : Nat} {out : List Nat} (h : objs xs t 1 = (objs xs t p).map (out ++ ·)) (hp : p < t) (hf : ¬ (Fit xs t p ∧ StOk xs p)) : ∀ l, ¬ Objects xs t l := by
  rintro l ⟨h1, h2⟩
  rw [h] at h1
  by_cases hfit : Fit xs t p
  · rw [objs_step hp hfit, Option.map_map] at h1
    obtain ⟨l', _, rfl⟩ := Option.map_eq_some_iff.1 h1
    exact hf ⟨hfit, h2 p (by simp)⟩
  · rw [objs_none hp hfit] at h1
    cases h1

theorem append_step {w0 wr w2 w3 : World} {B : Nat} {v v' : Value} {out : List Int} {x : Int} {o : Obj} (hbel : Below B w0 wr) (hB : B ≤ wr.heap.size) (hb2 : Below wr.heap.size wr w2) (hown : Own wr B v out)
    (hown3 : w3.ownsRow B 3 1 v' (out.length + 1) (out.map (Value.int .i64) ++ [.int .i64 x])) (hg : (w2.alloc o).grownBy w3 v.ownBlock) : Below B w0 w3 ∧ Own w3 B v' (out ++ [x]) := by
  refine ⟨?_, ?_⟩
  · have h2 : Below B w0 w2 := hbel.trans (hb2.mono hB)
    have hs := hb2.size
    refine (h2.alloc (by omega) o).grown hg (by simp; omega) (fun k hk => (World.ownsRow.lt hown k hk).1)
  · unfold Own
    rw [List.map_append, List.length_append]
    exact hown3

open Lw in
/-- What walk hands back. -/
def WalkEnd (w : World) (xs : List Int) (t : Nat) (e : Ending) (w' : World) : Prop :=
  (∃ l, Objects xs t l ∧ WalkPost w l e w') ∨ ((∀ l, ¬ Objects xs t l) ∧ e = .returned (.tuple #[.slice none 0 0, .bool false]) ∧ Below w.heap.size w w')

set_option maxHeartbeats 800000 in
open Lw in
theorem walk_any (a : Option Addr) (n cap : Nat) (xs : List Int) (t : Nat) (w : World) (hi : Ints w a xs) (hx : xs.length = n) (hn : n ≤ 400) (h1 : 1 ≤ t) (ht : t ≤ n) :
    Calls Try.prog 49 #[.agg #[.slice a n cap, .int .i64 t]] w (WalkEnd w xs t) := by
  obtain ⟨i0, hi0, hz0, hz1, hz2⟩ := info_parts Try.intInfo
  have HI := Lib.hide hi
  have HX := Lib.hide hx
  clear hi hx
  go_enter Try.func49, Try.ntmps49
  go_wp2
  go_loopw [4, 5] (fun v i wr => WalkRel (w.alloc (.cells #[.slice a n cap, .int .i64 t] 27)) xs t v i wr) (fun _ i _ => t - (intOf i).toNat)
  case atStart => exact ⟨[], 1, Nat.le_refl _, h1, by simp, rfl, World.ownsRow_nil _ _ _ _, Below.refl _ _, by simp, by simp⟩
  case round =>
    obtain ⟨out, p, hp1, hpt, hol, rfl, hown, hbel, hobj, hst⟩ := hrel
    have hbw : Below w.heap.size w wr := Below.next (by repeat (first | exact Below.refl _ _ | assumption | refine Below.drew ?_ | refine below_drewN ?_ _ | refine Below.allocs ?_ | refine Below.next ?_ (by assumption) | refine Below.setCell ?_ (by dsimp only; omega) _)) hbel
    rw [show (w.alloc (.cells #[.slice a n cap, .int .i64 t] 27)).heap.size = w.heap.size + 1 by simp] at hown hbel
    have b0 : wr.cell? ⟨w.heap.size, 0, none⟩ = some (.slice a n cap) := by rw [hbel.cell (p := ⟨w.heap.size, 0, none⟩) (by simp)]; go_simp
    have b1 : wr.cell? ⟨w.heap.size, 1, none⟩ = some (.int .i64 t) := by rw [hbel.cell (p := ⟨w.heap.size, 1, none⟩) (by simp)]; go_simp
    have HOWN := Lib.hide hown
    have HOBJ := Lib.hide hobj
    have HST := Lib.hide hst
    clear hown hobj hst
    by_cases hlt : p < t
    · by_cases hf : Fit xs t p ∧ StOk xs p
      · have C := Lib.hide (objectFits_yes a n cap xs t p wr (HI.out.below hbw) HX.out hn ht hf.1 hf.2)
        go_wp2_with (first
          | (go_at_call 75; refine C.out.mono ?_; rintro e w2 ⟨rfl, hb2⟩)
          | (at_builtin; refine wpList_append_own _ rfl (.tmp 23) (.tmp 25) 25 rfl (w.heap.size + 1) 3 i0 (.int .i64 0) 1 8 Try.underlying25 hi0 hz0 hz1 hz2 rfl (by decide) u4 (nums out).length _ rfl (World.ownsRow.alloc (HOWN.out.below hb2) _) ⟨w2.heap.size, 0, none⟩ 1 1 [.int .i64 p] rfl rfl (cell_one_new _ _ _) ?c2 ?c3 ?c4 ?c5 ?_))
        case c2 => intro u hu; simp at hu; subst hu; rfl
        case c3 => rw [nums_length]; unfold maxLen; omega
        case c4 => rw [nums_length]; omega
        case c5 => have := hb2.size; have := hbel.size; simp at this ⊢; omega
        intro v' w3 hown3 hg3 _
        obtain ⟨hbel3, hown4⟩ := append_step hbel (by have := hbel.size; simp at this; omega) hb2 HOWN.out hown3 hg3
        have d0 : w3.cell? ⟨w.heap.size, 0, none⟩ = some (.slice a n cap) := by rw [hbel3.cell (p := ⟨w.heap.size, 0, none⟩) (by simp)]; go_simp
        have hbw3 : Below w.heap.size w w3 := Below.trans (b := w.alloc (.cells #[.slice a n cap, .int .i64 t] 27)) (by repeat (first | exact Below.refl _ _ | assumption | refine Below.drew ?_ | refine below_drewN ?_ _ | refine Below.allocs ?_ | refine Below.next ?_ (by assumption) | refine Below.setCell ?_ (by dsimp only; omega) _)) (hbel3.mono (by simp))
        obtain ⟨f1, f2, f3, f4⟩ := hf.1
        obtain ⟨b, o, rfl, hb, hc⟩ := (HI.out.below hbw3).at (by rw [HX.out]; omega)
        have e1 := hc (p + 1) (by rw [HX.out]; omega)
        have hnx : Hid (nextOf xs p = p + 2 + (xs.getD (p + 1) 0).toNat) := rfl
        have HOWN4 := Lib.hide hown4
        have HF := Lib.hide hf
        generalize xs.getD (p + 1) 0 = f at *
        clear hown4 hown3 hg3 hc HOWN hf b0 b1
        go_wp2
        have hsz : (w.alloc (.cells #[.slice (some ⟨b, o, none⟩) n cap, .int .i64 t] 27)).heap.size = w.heap.size + 1 := by simp
        go_roundw
        case rel =>
          refine ⟨out ++ [p], p + 2 + f.toNat, by omega, f4, by simp; omega, congrArg (Value.int .i64) (by omega), ?_, by rw [hsz]; exact hbel3, ?_, ?_⟩
          · rw [hsz]; unfold nums; rw [List.map_append]; exact HOWN4.out
          · have := objs_snoc HOBJ.out hlt HF.out.1
            rw [hnx.out] at this
            exact this
          · intro q hq
            rcases List.mem_append.1 hq with hq | hq
            · exact HST.out q hq
            · simp at hq; subst hq; exact HF.out.2
        case measure => simp [intOf]; omega
      · have C := Lib.hide (objectFits_no a n cap xs t p wr (HI.out.below hbw) HX.out hn ht hlt hf)
        go_wp2_with (go_at_call 75; refine C.out.mono ?_; rintro e w2 ⟨rfl, hb2⟩)
        go_ret2
        exact .inr ⟨objs_fail HOBJ.out hlt hf, rfl, (by repeat (first | exact Below.refl _ _ | assumption | refine Below.drew ?_ | refine below_drewN ?_ _ | refine Below.allocs ?_ | refine Below.next ?_ (by assumption) | refine Below.setCell ?_ (by dsimp only; omega) _))⟩
    · obtain rfl : p = t := by omega
      have hall : objs xs p 1 = some out := by rw [HOBJ.out, objs_end (Nat.le_refl _)]; simp
      have HA := Lib.hide hall
      clear hall
      go_wp2
      go_ret2
      obtain ⟨a', c', hv, _⟩ := HOWN.out.ints
      rw [nums_length] at hv
      have HV := Lib.hide hv
      clear hv
      refine .inl ⟨out, ⟨HA.out, HST.out⟩, a', c', ?_, ?_, (by repeat (first | exact Below.refl _ _ | assumption | refine Below.drew ?_ | refine below_drewN ?_ _ | refine Below.allocs ?_ | refine Below.next ?_ (by assumption) | refine Below.setCell ?_ (by dsimp only; omega) _))⟩
      · rw [← HV.out]; rfl
      · rw [← HV.out]; exact ownsRow_base HOWN.out (by simp)
end Go.Proofs.Ytpdcaoagpjcgbab
