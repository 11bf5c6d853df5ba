/-
  The walk of limewashkeep.Heap: heaps made of raw numbers are valid. It proves no statement by itself.
-/
import Derived.Test.YtpdcaoagpjcgbabStoreWalks
import Derived.Test.YtpdcaoagpjcgbabPickWalks
import Derived.Test.YtpdcaoagpjcgbabModel2
import Derived.Test.YtpdcaoagpjcgbabRawBase
set_option linter.unusedVariables false
set_option linter.unusedSimpArgs false
namespace Go.Proofs.Ytpdcaoagpjcgbab
open Go.RowKit

open Lw in
/-- A valid heap in new memory. -/
def MadePost (w : World) (words : Nat) (e : Ending) (w' : World) : Prop :=
  ∃ (a : Option Addr) (cap : Nat) (t : Nat) (xs : List Int) (l : List Nat), e = .returned (.agg #[.slice a words cap, .int .i64 t]) ∧ Own w' w.heap.size (.slice a words cap) xs ∧ Valid xs (t : Int) l ∧ (∀ x ∈ xs, Fits x) ∧ Below w.heap.size w w' ∧ t ≤ 241

open Lw in
/-- What holds at the head of Heap's loop: the heap so far lies in the box at block B. -/
def MadeRel (w : World) (B words : Nat) (u : Value) (wr : World) : Prop :=
  ∃ (i t : Nat) (a : Option Addr) (cap : Nat) (xs : List Int) (l : List Nat), (i ≤ 40 ∧ t ≤ 1 + 6 * i) ∧ u = .int .i64 i ∧ Box2 wr B (.slice a words cap) (.int .i64 t) ∧ Box2 wr w.heap.size (.slice none 0 0) (.int .i64 0) ∧ Own wr (w.heap.size + 1) (.slice a words cap) xs ∧ (Value.slice a words cap).ownBlock ≠ some B ∧
    Valid xs (t : Int) l ∧ (∀ x ∈ xs, Fits x) ∧ Below w.heap.size w wr

open Lw in
theorem fieldOk_of_code {l : List Nat} {k m : Int} (h : codeOf (nums l) k m = 0) : FieldOk l (wordOf k m) := by
  have hk : k = 0 ∨ k = 1 := by
    unfold codeOf at h
    split at h
    · exact .inl (by assumption)
    · split at h
      · exact .inr (by assumption)
      · cases h
  refine (codeOk_iff l _).1 ?_
  unfold CodeOk
  rw [(wordOf_back k m hk).1, (wordOf_back k m hk).2]
  exact h

/-- A box of four cells at block b. -/
structure Box4 (w : World) (b : Nat) (x y z u : Value) : Prop where
  c0 : w.cell? ⟨b, 0, none⟩ = some x
  c1 : w.cell? ⟨b, 1, none⟩ = some y
  c2 : w.cell? ⟨b, 2, none⟩ = some z
  c3 : w.cell? ⟨b, 3, none⟩ = some u
  lt : b < w.heap.size
theorem Box4.next {w w' : World} {b : Nat} {x y z u : Value} (h : Box4 w b x y z u) (hb : Below w.heap.size w w') : Box4 w' b x y z u :=
  ⟨(hb.cell (p := ⟨b, 0, none⟩) h.lt).trans h.c0, (hb.cell (p := ⟨b, 1, none⟩) h.lt).trans h.c1, (hb.cell (p := ⟨b, 2, none⟩) h.lt).trans h.c2, (hb.cell (p := ⟨b, 3, none⟩) h.lt).trans h.c3, Nat.lt_of_lt_of_le h.lt hb.size⟩
theorem Box4.new (w : World) (x y z u : Value) (t : TypeId) : Box4 (w.alloc (.cells #[x, y, z, u] t)) w.heap.size x y z u := by
  constructor <;> go_simp

set_option maxHeartbeats 4000000 in
set_option maxRecDepth 100000 in
open Lw in
theorem made_any (a0 : Option Addr) (n cap0 words : Nat) (R : Nat → Nat → Int) (w : World) (hR : Recs w a0 n 4 R) (_hn : n ≤ 9223372036854775807) (h1 : 1 ≤ words) (h2 : words ≤ 400) :
    Calls Try.prog 15 #[.slice a0 n cap0, .int .i64 words] w (MadePost w words) := by
  have HR := Lib.hide hR
  clear hR
  go_enter Try.func15, Try.ntmps15
  go_wp2_with (go_at_call 22; refine (new_yes words _ h1 h2).mono ?_; rintro e w1 ⟨a1, c1, rfl, ho1, hb1⟩; have HO1 := Lib.hide ho1; clear ho1; have HRB := Lib.hide ((Box2.new w (.slice none 0 0) (.int .i64 0) 27).next hb1); obtain ⟨q0, q1, q2, q3, q4⟩ := HRB.out)
  go_loopw [7] (fun u wr => MadeRel w w1.heap.size words u wr) (fun u _ => 40 - (intOf u).toNat)
  case atStart =>
    refine ⟨0, 1, a1, c1, List.replicate words 0, [], ⟨by omega, by omega⟩, rfl, Box2.new w1 _ _ _, HRB.out.alloc _, ?_, fun h => ?_, Valid.new words h1 h2, ?_, (by repeat (first | exact Below.refl _ _ | assumption | refine Below.drew ?_ | refine below_drewN ?_ _ | refine Below.allocs ?_ | refine Below.next ?_ (by assumption) | refine Below.setCell ?_ (by dsimp only; omega) _))⟩
    · have := HO1.out.allocs (.cells #[.slice a1 words c1, .int .i64 1] 27)
      rw [show (w.alloc (.cells #[.slice none 0 0, .int .i64 0] 27)).heap.size = w.heap.size + 1 by simp] at this
      exact this
    · have := (World.ownsRow.lt HO1.out _ h).2
      omega
    · intro z hz
      rw [List.eq_of_mem_replicate hz]
      exact fits_small (by omega) (by omega)
  case round =>
    obtain ⟨i, t, a, cap, xs, l, ⟨hi40, htb⟩, rfl, hbox, hres, hown, hne, hv, hfit, hbel⟩ := hrel
    have HBOX := Lib.hide hbox
    have HRES := Lib.hide hres
    have HOWN := Lib.hide hown
    have HNE := Lib.hide hne
    have HV := Lib.hide hv
    have HFI := Lib.hide hfit
    have hxl := hown.reads.1
    have HXL := Lib.hide hxl
    have ht2 := hv.top2
    have ht1 := hv.top1
    have hxl2 := hv.len2
    rw [hxl] at ht2
    have htw : t ≤ words := by omega
    have hlaid := Objects.laid hv.objects
    have HLD := Lib.hide hlaid
    have hl4 : l.length ≤ 400 := by have := hlaid.short; omega
    have HHP := Lib.hide (hown.isHeap (top := t) hfit (fits_small (by omega) (by omega)))
    obtain ⟨r0, r1, r2, r3, r4⟩ := hbox
    have hs1 := hb1.size
    simp at hs1
    clear hres hown hne hv hfit hlaid hxl hxl2
    by_cases hgo : i < n ∧ i < 40
    · obtain ⟨hin, hi4⟩ := hgo
      obtain ⟨b, o, rfl, hb, hc⟩ := (HR.out.below hbel).resolve_left (by omega)
      have d0 := (hc i hin 0 (by omega)).1
      have d1 := (hc i hin 1 (by omega)).1
      have d2 := (hc i hin 2 (by omega)).1
      have d3 := (hc i hin 3 (by omega)).1
      have F0 := Lib.hide (hc i hin 0 (by omega)).2
      have F1 := Lib.hide (hc i hin 1 (by omega)).2
      have F2 := Lib.hide (hc i hin 2 (by omega)).2
      have F3 := Lib.hide (hc i hin 3 (by omega)).2
      generalize R i 0 = x0 at *
      generalize R i 1 = x1 at *
      generalize R i 2 = x2 at *
      generalize R i 3 = x3 at *
      rw [Nat.add_zero] at d0
      rw [← Nat.add_assoc] at d1 d2 d3
      clear hc
      obtain ⟨k3, hk3⟩ : ∃ k3, pick x0 3 = k3 := ⟨_, rfl⟩
      have hk3b := pick_lt x0 3 (by omega)
      rw [hk3] at hk3b
      have C3 := Lib.hide (fun w => picked_any x0 3 w F0.out (by omega) (by omega))
      rw [hk3] at C3
      clear hk3
      go_wp2_with fail
      refine (places_yes a words cap xs t l _ (HHP.out.below (by repeat (first | exact Below.refl _ _ | assumption | refine Below.drew ?_ | refine below_drewN ?_ _ | refine Below.allocs ?_ | refine Below.next ?_ (by assumption) | refine Below.setCell ?_ (by dsimp only; omega) _))) HV.out).mono ?_
      rintro e w2 ⟨a2, c2, rfl, ho2, hb2⟩
      have HO2 := Lib.hide ho2
      clear ho2
      have HRW := Lib.hide ((Box4.new wr (.int .i64 x0) (.int .i64 x1) (.int .i64 x2) (.int .i64 x3) 24).next hb2)
      obtain ⟨y0, y1, y2, y3, y4⟩ := HRW.out
      have HBX2 := Lib.hide ((HBOX.out.alloc _).next hb2)
      obtain ⟨s0, s1, s2, s3, s4⟩ := HBX2.out
      by_cases hA : k3 = 0 ∨ l.length = 0
      · have hf5 := pick_lt x1 5 (by omega)
        obtain ⟨f, hf⟩ := Int.eq_ofNat_of_zero_le hf5.1
        have C5 := Lib.hide (fun w => picked_any x1 5 w F1.out (by omega) (by omega))
        rw [hf] at C5 hf5
        clear hf
        by_cases hk0 : k3 = 0
        · subst hk0
          clear hA
          go_wp2_with (go_at_call 17; refine (C3.out _).mono ?_; rintro e w' ⟨rfl, rfl⟩)
          by_cases hroom : t + 2 + f ≤ words
          · have HCA := Lib.hide (fun w' (h : Below w2.heap.size w2 w') => alloc_yes a words cap xs t f l w' ((HHP.out.below (Below.next (by repeat (first | exact Below.refl _ _ | assumption | refine Below.drew ?_ | refine below_drewN ?_ _ | refine Below.allocs ?_ | refine Below.next ?_ (by assumption) | refine Below.setCell ?_ (by dsimp only; omega) _)) hb2)).below h) HV.out (by omega) hroom)
            go_region_held3 (fun w' => w'.cell? ⟨w1.heap.size, 0, none⟩ = some (.slice a words cap) ∧ w'.cell? ⟨w1.heap.size, 1, none⟩ = some (.int .i64 t) ∧ w'.cell? ⟨wr.heap.size, 1, none⟩ = some (.int .i64 x1))
              (first | exact ⟨s0, s1, y1⟩ | exact ⟨m0, m1, m2⟩ | (refine ⟨?_, ?_, ?_⟩ <;> go_simp))
              (first
                | (go_at_call 17; refine (C5.out _).mono ?_; rintro e w' ⟨rfl, rfl⟩)
                | (go_at_call 23; (with_reducible refine (HCA.out w2.drew (by repeat (first | exact Below.refl _ _ | assumption | refine Below.drew ?_ | refine below_drewN ?_ _ | refine Below.allocs ?_ | refine Below.next ?_ (by assumption) | refine Below.setCell ?_ (by dsimp only; omega) _))).mono ?_); rintro e w5 ⟨a5, c5, rfl, ho5, hb5⟩; have HO5 := Lib.hide ho5; clear ho5; have HB5 := Lib.hide (HBX2.out.next (w' := w5) (by repeat (first | exact Below.refl _ _ | assumption | refine Below.drew ?_ | refine below_drewN ?_ _ | refine Below.allocs ?_ | refine Below.next ?_ (by assumption) | refine Below.setCell ?_ (by dsimp only; omega) _))); obtain ⟨m0, m1, m3, m4, m5⟩ := HB5.out; have HW5 := HRW.out.next (w' := w5) (by repeat (first | exact Below.refl _ _ | assumption | refine Below.drew ?_ | refine below_drewN ?_ _ | refine Below.allocs ?_ | refine Below.next ?_ (by assumption) | refine Below.setCell ?_ (by dsimp only; omega) _)); have m2 := HW5.c1; have m6 := HW5.lt; clear HW5)
                | (go_at_call 23; (with_reducible refine (HCA.out (w2.alloc (.cells #[.slice none 0 0, .int .i64 0] 27)).drew (by repeat (first | exact Below.refl _ _ | assumption | refine Below.drew ?_ | refine below_drewN ?_ _ | refine Below.allocs ?_ | refine Below.next ?_ (by assumption) | refine Below.setCell ?_ (by dsimp only; omega) _))).mono ?_); rintro e w5 ⟨a5, c5, rfl, ho5, hb5⟩; have HO5 := Lib.hide ho5; clear ho5; have HB5 := Lib.hide (HBX2.out.next (w' := w5) (by repeat (first | exact Below.refl _ _ | assumption | refine Below.drew ?_ | refine below_drewN ?_ _ | refine Below.allocs ?_ | refine Below.next ?_ (by assumption) | refine Below.setCell ?_ (by dsimp only; omega) _))); obtain ⟨m0, m1, m3, m4, m5⟩ := HB5.out; have HW5 := HRW.out.next (w' := w5) (by repeat (first | exact Below.refl _ _ | assumption | refine Below.drew ?_ | refine below_drewN ?_ _ | refine Below.allocs ?_ | refine Below.next ?_ (by assumption) | refine Below.setCell ?_ (by dsimp only; omega) _)); have m2 := HW5.c1; have m6 := HW5.lt; clear HW5; obtain ⟨n0, n1, n2, n3, n4⟩ := ((Box2.new w2 (.slice none 0 0) (.int .i64 0) 27).next (w' := (w2.alloc (.cells #[.slice none 0 0, .int .i64 0] 27)).drew) (by repeat (first | exact Below.refl _ _ | assumption | refine Below.drew ?_ | refine below_drewN ?_ _ | refine Below.allocs ?_ | refine Below.next ?_ (by assumption) | refine Below.setCell ?_ (by dsimp only; omega) _))).next hb5))
            all_goals go_wp2
            all_goals
              have hne5 : (Value.slice a5 words c5).ownBlock ≠ some w1.heap.size := fun h => by
                have := (World.ownsRow.lt HO5.out _ h).1
                have : w2.heap.size ≤ w1.heap.size := by simp at this; omega
                omega
              have hres5 := HRES.out.next (w' := w5) (by repeat (first | exact Below.refl _ _ | assumption | refine Below.drew ?_ | refine below_drewN ?_ _ | refine Below.allocs ?_ | refine Below.next ?_ (by assumption) | refine Below.setCell ?_ (by dsimp only; omega) _))
              have e5 : ((t + 2 + f : Nat) : Int) = (t : Int) + (2 + f) := by omega
              have hv5 := HV.out.alloc (f := f) (by omega) (by rw [HXL.out]; exact hroom)
              have hfs5 := fits_set (i := t + 1) (y := (f : Int)) HFI.out (fits_small (by omega) (by omega))
              go_roundw
              case measure => simp [intOf]; omega
            · refine ⟨i + 1, t + 2 + f, a5, c5, _, _, ⟨by omega, by omega⟩, by go_num, by rw [e5]; exact (HB5.out.put _ _).alloc _, ((hres5.far (by dsimp only; omega) _).far (by dsimp only; omega) _).alloc _, ?_, hne5, by rw [e5]; exact hv5, hfs5, (by repeat (first | exact Below.refl _ _ | assumption | refine Below.drew ?_ | refine below_drewN ?_ _ | refine Below.allocs ?_ | refine Below.next ?_ (by assumption) | refine Below.setCell ?_ (by dsimp only; omega) _))⟩
              exact ownsRow_base (((HO5.out.far hne5 _).far hne5 _).allocs _) (by simp; omega)
            all_goals
              have hne6 : (Value.slice a5 words c5).ownBlock ≠ some w2.heap.size := fun h => by
                have := (World.ownsRow.lt HO5.out _ h).1
                simp at this
                omega
              refine ⟨i + 1, t + 2 + f, a5, c5, _, _, ⟨by omega, by omega⟩, by go_num, by rw [e5]; exact (((HB5.out.far (by dsimp only; omega) _).far (by dsimp only; omega) _).put _ _), ((((hres5.far (by dsimp only; omega) _).far (by dsimp only; omega) _).far (by dsimp only; omega) _).far (by dsimp only; omega) _), ?_, hne5, by rw [e5]; exact hv5, hfs5, (by repeat (first | exact Below.refl _ _ | assumption | refine Below.drew ?_ | refine below_drewN ?_ _ | refine Below.allocs ?_ | refine Below.next ?_ (by assumption) | refine Below.setCell ?_ (by dsimp only; omega) _))⟩
              exact ownsRow_base ((((HO5.out.far hne6 _).far hne6 _).far hne5 _).far hne5 _) (by simp; omega)
          · have HCA := Lib.hide (fun w' (h : Below w2.heap.size w2 w') => alloc_full a words cap xs t f l w' ((HHP.out.below (Below.next (by repeat (first | exact Below.refl _ _ | assumption | refine Below.drew ?_ | refine below_drewN ?_ _ | refine Below.allocs ?_ | refine Below.next ?_ (by assumption) | refine Below.setCell ?_ (by dsimp only; omega) _)) hb2)).below h) HV.out (by omega) (by omega))
            go_region_held3 (fun w' => w'.cell? ⟨w1.heap.size, 0, none⟩ = some (.slice a words cap) ∧ w'.cell? ⟨w1.heap.size, 1, none⟩ = some (.int .i64 t) ∧ w'.cell? ⟨wr.heap.size, 1, none⟩ = some (.int .i64 x1))
              (first | exact ⟨s0, s1, y1⟩ | exact ⟨m0, m1, m2⟩ | (refine ⟨?_, ?_, ?_⟩ <;> go_simp))
              (first
                | (go_at_call 17; refine (C5.out _).mono ?_; rintro e w' ⟨rfl, rfl⟩)
                | (go_at_call 23; (with_reducible refine (HCA.out w2.drew (by repeat (first | exact Below.refl _ _ | assumption | refine Below.drew ?_ | refine below_drewN ?_ _ | refine Below.allocs ?_ | refine Below.next ?_ (by assumption) | refine Below.setCell ?_ (by dsimp only; omega) _))).mono ?_); rintro e w5 ⟨rfl, hb5⟩; have HB5 := Lib.hide (HBX2.out.next (w' := w5) (by repeat (first | exact Below.refl _ _ | assumption | refine Below.drew ?_ | refine below_drewN ?_ _ | refine Below.allocs ?_ | refine Below.next ?_ (by assumption) | refine Below.setCell ?_ (by dsimp only; omega) _))); obtain ⟨m0, m1, m3, m4, m5⟩ := HB5.out; have HW5 := HRW.out.next (w' := w5) (by repeat (first | exact Below.refl _ _ | assumption | refine Below.drew ?_ | refine below_drewN ?_ _ | refine Below.allocs ?_ | refine Below.next ?_ (by assumption) | refine Below.setCell ?_ (by dsimp only; omega) _)); have m2 := HW5.c1; have m6 := HW5.lt; clear HW5)
                | (go_at_call 23; (with_reducible refine (HCA.out (w2.alloc (.cells #[.slice none 0 0, .int .i64 0] 27)).drew (by repeat (first | exact Below.refl _ _ | assumption | refine Below.drew ?_ | refine below_drewN ?_ _ | refine Below.allocs ?_ | refine Below.next ?_ (by assumption) | refine Below.setCell ?_ (by dsimp only; omega) _))).mono ?_); rintro e w5 ⟨rfl, hb5⟩; have HB5 := Lib.hide (HBX2.out.next (w' := w5) (by repeat (first | exact Below.refl _ _ | assumption | refine Below.drew ?_ | refine below_drewN ?_ _ | refine Below.allocs ?_ | refine Below.next ?_ (by assumption) | refine Below.setCell ?_ (by dsimp only; omega) _))); obtain ⟨m0, m1, m3, m4, m5⟩ := HB5.out; have HW5 := HRW.out.next (w' := w5) (by repeat (first | exact Below.refl _ _ | assumption | refine Below.drew ?_ | refine below_drewN ?_ _ | refine Below.allocs ?_ | refine Below.next ?_ (by assumption) | refine Below.setCell ?_ (by dsimp only; omega) _)); have m2 := HW5.c1; have m6 := HW5.lt; clear HW5; obtain ⟨n0, n1, n2, n3, n4⟩ := ((Box2.new w2 (.slice none 0 0) (.int .i64 0) 27).next (w' := (w2.alloc (.cells #[.slice none 0 0, .int .i64 0] 27)).drew) (by repeat (first | exact Below.refl _ _ | assumption | refine Below.drew ?_ | refine below_drewN ?_ _ | refine Below.allocs ?_ | refine Below.next ?_ (by assumption) | refine Below.setCell ?_ (by dsimp only; omega) _))).next hb5))
            all_goals go_wp2
            all_goals
              have hres5 := HRES.out.next (w' := w5) (by repeat (first | exact Below.refl _ _ | assumption | refine Below.drew ?_ | refine below_drewN ?_ _ | refine Below.allocs ?_ | refine Below.next ?_ (by assumption) | refine Below.setCell ?_ (by dsimp only; omega) _))
              have hown5 := HOWN.out.below (w' := w5) (by repeat (first | exact Below.refl _ _ | assumption | refine Below.drew ?_ | refine below_drewN ?_ _ | refine Below.allocs ?_ | refine Below.next ?_ (by assumption) | refine Below.setCell ?_ (by dsimp only; omega) _))
              go_roundw
              case measure => simp [intOf]; omega
            · exact ⟨i + 1, t, a, cap, xs, l, ⟨by omega, by omega⟩, by go_num, HB5.out.alloc _, hres5.alloc _, hown5.allocs _, HNE.out, HV.out, HFI.out, (by repeat (first | exact Below.refl _ _ | assumption | refine Below.drew ?_ | refine below_drewN ?_ _ | refine Below.allocs ?_ | refine Below.next ?_ (by assumption) | refine Below.setCell ?_ (by dsimp only; omega) _))⟩
            all_goals
              have hne6 : (Value.slice a words cap).ownBlock ≠ some w2.heap.size := fun h => by
                have := (World.ownsRow.lt HOWN.out _ h).2
                have h7 := hb2.size
                simp at h7
                omega
              exact ⟨i + 1, t, a, cap, xs, l, ⟨by omega, by omega⟩, by go_num, (HB5.out.far (by dsimp only; omega) _).far (by dsimp only; omega) _, (hres5.far (by dsimp only; omega) _).far (by dsimp only; omega) _, (hown5.far hne6 _).far hne6 _, HNE.out, HV.out, HFI.out, (by repeat (first | exact Below.refl _ _ | assumption | refine Below.drew ?_ | refine below_drewN ?_ _ | refine Below.allocs ?_ | refine Below.next ?_ (by assumption) | refine Below.setCell ?_ (by dsimp only; omega) _))⟩
        · have hl0 := hA.resolve_left hk0
          have hd1 : (k3 == 0) = false := by simpa using hk0
          have hd2 : ((l.length : Int) == 0) = true := by simp [hl0]
          have HL0 := Lib.hide hl0
          clear hA hk0 hl0
          go_wp2_with (go_at_call 17; refine (C3.out _).mono ?_; rintro e w' ⟨rfl, rfl⟩)
          by_cases hroom : t + 2 + f ≤ words
          · have HCA := Lib.hide (fun w' (h : Below w2.heap.size w2 w') => alloc_yes a words cap xs t f l w' ((HHP.out.below (Below.next (by repeat (first | exact Below.refl _ _ | assumption | refine Below.drew ?_ | refine below_drewN ?_ _ | refine Below.allocs ?_ | refine Below.next ?_ (by assumption) | refine Below.setCell ?_ (by dsimp only; omega) _)) hb2)).below h) HV.out (by omega) hroom)
            go_region_held3 (fun w' => w'.cell? ⟨w1.heap.size, 0, none⟩ = some (.slice a words cap) ∧ w'.cell? ⟨w1.heap.size, 1, none⟩ = some (.int .i64 t) ∧ w'.cell? ⟨wr.heap.size, 1, none⟩ = some (.int .i64 x1))
              (first | exact ⟨s0, s1, y1⟩ | exact ⟨m0, m1, m2⟩ | (refine ⟨?_, ?_, ?_⟩ <;> go_simp))
              (first
                | (go_at_call 17; refine (C5.out _).mono ?_; rintro e w' ⟨rfl, rfl⟩)
                | (go_at_call 23; (with_reducible refine (HCA.out w2.drew (by repeat (first | exact Below.refl _ _ | assumption | refine Below.drew ?_ | refine below_drewN ?_ _ | refine Below.allocs ?_ | refine Below.next ?_ (by assumption) | refine Below.setCell ?_ (by dsimp only; omega) _))).mono ?_); rintro e w5 ⟨a5, c5, rfl, ho5, hb5⟩; have HO5 := Lib.hide ho5; clear ho5; have HB5 := Lib.hide (HBX2.out.next (w' := w5) (by repeat (first | exact Below.refl _ _ | assumption | refine Below.drew ?_ | refine below_drewN ?_ _ | refine Below.allocs ?_ | refine Below.next ?_ (by assumption) | refine Below.setCell ?_ (by dsimp only; omega) _))); obtain ⟨m0, m1, m3, m4, m5⟩ := HB5.out; have HW5 := HRW.out.next (w' := w5) (by repeat (first | exact Below.refl _ _ | assumption | refine Below.drew ?_ | refine below_drewN ?_ _ | refine Below.allocs ?_ | refine Below.next ?_ (by assumption) | refine Below.setCell ?_ (by dsimp only; omega) _)); have m2 := HW5.c1; have m6 := HW5.lt; clear HW5)
                | (go_at_call 23; (with_reducible refine (HCA.out (w2.alloc (.cells #[.slice none 0 0, .int .i64 0] 27)).drew (by repeat (first | exact Below.refl _ _ | assumption | refine Below.drew ?_ | refine below_drewN ?_ _ | refine Below.allocs ?_ | refine Below.next ?_ (by assumption) | refine Below.setCell ?_ (by dsimp only; omega) _))).mono ?_); rintro e w5 ⟨a5, c5, rfl, ho5, hb5⟩; have HO5 := Lib.hide ho5; clear ho5; have HB5 := Lib.hide (HBX2.out.next (w' := w5) (by repeat (first | exact Below.refl _ _ | assumption | refine Below.drew ?_ | refine below_drewN ?_ _ | refine Below.allocs ?_ | refine Below.next ?_ (by assumption) | refine Below.setCell ?_ (by dsimp only; omega) _))); obtain ⟨m0, m1, m3, m4, m5⟩ := HB5.out; have HW5 := HRW.out.next (w' := w5) (by repeat (first | exact Below.refl _ _ | assumption | refine Below.drew ?_ | refine below_drewN ?_ _ | refine Below.allocs ?_ | refine Below.next ?_ (by assumption) | refine Below.setCell ?_ (by dsimp only; omega) _)); have m2 := HW5.c1; have m6 := HW5.lt; clear HW5; obtain ⟨n0, n1, n2, n3, n4⟩ := ((Box2.new w2 (.slice none 0 0) (.int .i64 0) 27).next (w' := (w2.alloc (.cells #[.slice none 0 0, .int .i64 0] 27)).drew) (by repeat (first | exact Below.refl _ _ | assumption | refine Below.drew ?_ | refine below_drewN ?_ _ | refine Below.allocs ?_ | refine Below.next ?_ (by assumption) | refine Below.setCell ?_ (by dsimp only; omega) _))).next hb5))
            all_goals go_wp2
            all_goals
              have hne5 : (Value.slice a5 words c5).ownBlock ≠ some w1.heap.size := fun h => by
                have := (World.ownsRow.lt HO5.out _ h).1
                have : w2.heap.size ≤ w1.heap.size := by simp at this; omega
                omega
              have hres5 := HRES.out.next (w' := w5) (by repeat (first | exact Below.refl _ _ | assumption | refine Below.drew ?_ | refine below_drewN ?_ _ | refine Below.allocs ?_ | refine Below.next ?_ (by assumption) | refine Below.setCell ?_ (by dsimp only; omega) _))
              have e5 : ((t + 2 + f : Nat) : Int) = (t : Int) + (2 + f) := by omega
              have hv5 := HV.out.alloc (f := f) (by omega) (by rw [HXL.out]; exact hroom)
              have hfs5 := fits_set (i := t + 1) (y := (f : Int)) HFI.out (fits_small (by omega) (by omega))
              go_roundw
              case measure => simp [intOf]; omega
            · refine ⟨i + 1, t + 2 + f, a5, c5, _, _, ⟨by omega, by omega⟩, by go_num, by rw [e5]; exact (HB5.out.put _ _).alloc _, ((hres5.far (by dsimp only; omega) _).far (by dsimp only; omega) _).alloc _, ?_, hne5, by rw [e5]; exact hv5, hfs5, (by repeat (first | exact Below.refl _ _ | assumption | refine Below.drew ?_ | refine below_drewN ?_ _ | refine Below.allocs ?_ | refine Below.next ?_ (by assumption) | refine Below.setCell ?_ (by dsimp only; omega) _))⟩
              exact ownsRow_base (((HO5.out.far hne5 _).far hne5 _).allocs _) (by simp; omega)
            all_goals
              have hne6 : (Value.slice a5 words c5).ownBlock ≠ some w2.heap.size := fun h => by
                have := (World.ownsRow.lt HO5.out _ h).1
                simp at this
                omega
              refine ⟨i + 1, t + 2 + f, a5, c5, _, _, ⟨by omega, by omega⟩, by go_num, by rw [e5]; exact (((HB5.out.far (by dsimp only; omega) _).far (by dsimp only; omega) _).put _ _), ((((hres5.far (by dsimp only; omega) _).far (by dsimp only; omega) _).far (by dsimp only; omega) _).far (by dsimp only; omega) _), ?_, hne5, by rw [e5]; exact hv5, hfs5, (by repeat (first | exact Below.refl _ _ | assumption | refine Below.drew ?_ | refine below_drewN ?_ _ | refine Below.allocs ?_ | refine Below.next ?_ (by assumption) | refine Below.setCell ?_ (by dsimp only; omega) _))⟩
              exact ownsRow_base ((((HO5.out.far hne6 _).far hne6 _).far hne5 _).far hne5 _) (by simp; omega)
          · have HCA := Lib.hide (fun w' (h : Below w2.heap.size w2 w') => alloc_full a words cap xs t f l w' ((HHP.out.below (Below.next (by repeat (first | exact Below.refl _ _ | assumption | refine Below.drew ?_ | refine below_drewN ?_ _ | refine Below.allocs ?_ | refine Below.next ?_ (by assumption) | refine Below.setCell ?_ (by dsimp only; omega) _)) hb2)).below h) HV.out (by omega) (by omega))
            go_region_held3 (fun w' => w'.cell? ⟨w1.heap.size, 0, none⟩ = some (.slice a words cap) ∧ w'.cell? ⟨w1.heap.size, 1, none⟩ = some (.int .i64 t) ∧ w'.cell? ⟨wr.heap.size, 1, none⟩ = some (.int .i64 x1))
              (first | exact ⟨s0, s1, y1⟩ | exact ⟨m0, m1, m2⟩ | (refine ⟨?_, ?_, ?_⟩ <;> go_simp))
              (first
                | (go_at_call 17; refine (C5.out _).mono ?_; rintro e w' ⟨rfl, rfl⟩)
                | (go_at_call 23; (with_reducible refine (HCA.out w2.drew (by repeat (first | exact Below.refl _ _ | assumption | refine Below.drew ?_ | refine below_drewN ?_ _ | refine Below.allocs ?_ | refine Below.next ?_ (by assumption) | refine Below.setCell ?_ (by dsimp only; omega) _))).mono ?_); rintro e w5 ⟨rfl, hb5⟩; have HB5 := Lib.hide (HBX2.out.next (w' := w5) (by repeat (first | exact Below.refl _ _ | assumption | refine Below.drew ?_ | refine below_drewN ?_ _ | refine Below.allocs ?_ | refine Below.next ?_ (by assumption) | refine Below.setCell ?_ (by dsimp only; omega) _))); obtain ⟨m0, m1, m3, m4, m5⟩ := HB5.out; have HW5 := HRW.out.next (w' := w5) (by repeat (first | exact Below.refl _ _ | assumption | refine Below.drew ?_ | refine below_drewN ?_ _ | refine Below.allocs ?_ | refine Below.next ?_ (by assumption) | refine Below.setCell ?_ (by dsimp only; omega) _)); have m2 := HW5.c1; have m6 := HW5.lt; clear HW5)
                | (go_at_call 23; (with_reducible refine (HCA.out (w2.alloc (.cells #[.slice none 0 0, .int .i64 0] 27)).drew (by repeat (first | exact Below.refl _ _ | assumption | refine Below.drew ?_ | refine below_drewN ?_ _ | refine Below.allocs ?_ | refine Below.next ?_ (by assumption) | refine Below.setCell ?_ (by dsimp only; omega) _))).mono ?_); rintro e w5 ⟨rfl, hb5⟩; have HB5 := Lib.hide (HBX2.out.next (w' := w5) (by repeat (first | exact Below.refl _ _ | assumption | refine Below.drew ?_ | refine below_drewN ?_ _ | refine Below.allocs ?_ | refine Below.next ?_ (by assumption) | refine Below.setCell ?_ (by dsimp only; omega) _))); obtain ⟨m0, m1, m3, m4, m5⟩ := HB5.out; have HW5 := HRW.out.next (w' := w5) (by repeat (first | exact Below.refl _ _ | assumption | refine Below.drew ?_ | refine below_drewN ?_ _ | refine Below.allocs ?_ | refine Below.next ?_ (by assumption) | refine Below.setCell ?_ (by dsimp only; omega) _)); have m2 := HW5.c1; have m6 := HW5.lt; clear HW5; obtain ⟨n0, n1, n2, n3, n4⟩ := ((Box2.new w2 (.slice none 0 0) (.int .i64 0) 27).next (w' := (w2.alloc (.cells #[.slice none 0 0, .int .i64 0] 27)).drew) (by repeat (first | exact Below.refl _ _ | assumption | refine Below.drew ?_ | refine below_drewN ?_ _ | refine Below.allocs ?_ | refine Below.next ?_ (by assumption) | refine Below.setCell ?_ (by dsimp only; omega) _))).next hb5))
            all_goals go_wp2
            all_goals
              have hres5 := HRES.out.next (w' := w5) (by repeat (first | exact Below.refl _ _ | assumption | refine Below.drew ?_ | refine below_drewN ?_ _ | refine Below.allocs ?_ | refine Below.next ?_ (by assumption) | refine Below.setCell ?_ (by dsimp only; omega) _))
              have hown5 := HOWN.out.below (w' := w5) (by repeat (first | exact Below.refl _ _ | assumption | refine Below.drew ?_ | refine below_drewN ?_ _ | refine Below.allocs ?_ | refine Below.next ?_ (by assumption) | refine Below.setCell ?_ (by dsimp only; omega) _))
              go_roundw
              case measure => simp [intOf]; omega
            · exact ⟨i + 1, t, a, cap, xs, l, ⟨by omega, by omega⟩, by go_num, HB5.out.alloc _, hres5.alloc _, hown5.allocs _, HNE.out, HV.out, HFI.out, (by repeat (first | exact Below.refl _ _ | assumption | refine Below.drew ?_ | refine below_drewN ?_ _ | refine Below.allocs ?_ | refine Below.next ?_ (by assumption) | refine Below.setCell ?_ (by dsimp only; omega) _))⟩
            all_goals
              have hne6 : (Value.slice a words cap).ownBlock ≠ some w2.heap.size := fun h => by
                have := (World.ownsRow.lt HOWN.out _ h).2
                have h7 := hb2.size
                simp at h7
                omega
              exact ⟨i + 1, t, a, cap, xs, l, ⟨by omega, by omega⟩, by go_num, (HB5.out.far (by dsimp only; omega) _).far (by dsimp only; omega) _, (hres5.far (by dsimp only; omega) _).far (by dsimp only; omega) _, (hown5.far hne6 _).far hne6 _, HNE.out, HV.out, HFI.out, (by repeat (first | exact Below.refl _ _ | assumption | refine Below.drew ?_ | refine below_drewN ?_ _ | refine Below.allocs ?_ | refine Below.next ?_ (by assumption) | refine Below.setCell ?_ (by dsimp only; omega) _))⟩
      · have hk0 : ¬ k3 = 0 := fun h => hA (.inl h)
        have hlp : 0 < l.length := by
          rcases Nat.eq_zero_or_pos l.length with h | h
          · exact absurd (.inr h) hA
          · exact h
        have hd1 : (k3 == 0) = false := by simpa using hk0
        have hd2 : ((l.length : Int) == 0) = false := beq_eq_false_iff_ne.2 (by omega)
        obtain ⟨g2, he2, hg21, hg22, hgc2, _⟩ := HO2.out.row hlp
        subst he2
        have j1 := pick_lt x2 l.length (by omega)
        obtain ⟨j, hj⟩ := Int.eq_ofNat_of_zero_le j1.1
        have CJ := Lib.hide (fun w => picked_any x2 l.length w F2.out (by omega) (by omega))
        rw [hj] at CJ j1
        obtain ⟨f, hf⟩ := Int.eq_ofNat_of_zero_le (pick_lt x3 5 (by omega)).1
        have hf5 := (pick_lt x3 5 (by omega)).2
        have CF := Lib.hide (fun w => picked_any x3 5 w F3.out (by omega) (by omega))
        rw [hf] at CF hf5
        have hjl : j < l.length := by omega
        have ep := hgc2 j hjl
        rw [nums_getD] at ep
        obtain ⟨p, hp⟩ : ∃ p, l.getD j 0 = p := ⟨_, rfl⟩
        rw [hp] at ep
        have hpl : p ∈ l := by rw [← hp]; simp [List.getD_eq_getElem?_getD, List.getElem?_eq_getElem hjl]
        have HPL := Lib.hide hpl
        clear hj hf hp hpl
        by_cases hk1 : k3 = 1
        · subst hk1
          clear hA hk0
          have hd3 : ((1 : Int) == 1) = true := by decide
          obtain ⟨m, hm⟩ : ∃ m, pick x1 100 = m := ⟨_, rfl⟩
          have hmb := pick_lt x1 100 (by omega)
          have CM := Lib.hide (fun w => picked_any x1 100 w F1.out (by omega) (by omega))
          rw [hm] at hmb CM
          have i1b := pick_lt x1 l.length (by omega)
          obtain ⟨j2, hj2⟩ := Int.eq_ofNat_of_zero_le i1b.1
          have CJ2 := Lib.hide (fun w => picked_any x1 l.length w F1.out (by omega) (by omega))
          rw [hj2] at CJ2 i1b
          have hjl2 : j2 < l.length := by omega
          have ep2 := hgc2 j2 hjl2
          rw [nums_getD] at ep2
          obtain ⟨p1, hp1⟩ : ∃ p1, l.getD j2 0 = p1 := ⟨_, rfl⟩
          rw [hp1] at ep2
          have hp1l : p1 ∈ l := by rw [← hp1]; simp [List.getD_eq_getElem?_getD, List.getElem?_eq_getElem hjl2]
          have hp1b : p1 ≤ 400 := by have := (HLD.out.fit p1 hp1l).2.1; omega
          have HP1L := Lib.hide hp1l
          clear hm hj2 hp1 hp1l hgc2
          go_wp2_with (first
            | (go_at_call 17; (with_reducible refine (C3.out _).mono ?_); rintro e w' ⟨rfl, rfl⟩)
            | (go_at_call 17; (with_reducible refine (CM.out _).mono ?_); rintro e w' ⟨rfl, rfl⟩)
            | (go_at_call 17; (with_reducible refine (CJ2.out _).mono ?_); rintro e w' ⟨rfl, rfl⟩))
          clear CM C3 CJ2 ep2
          have hcode : codeOf (nums l) 1 (p1 : Int) = 0 := by unfold codeOf; rw [if_neg (by omega), if_pos rfl, if_pos (.inr (mem_nums.2 HP1L.out))]
          have HCO := Lib.hide hcode
          clear hcode
          have hb3 : Below w2.heap.size w2 (w2.alloc (.cells #[.int .i64 1, .int .i64 (p1 : Int)] 34)) := (by repeat (first | exact Below.refl _ _ | assumption | refine Below.drew ?_ | refine below_drewN ?_ _ | refine Below.allocs ?_ | refine Below.next ?_ (by assumption) | refine Below.setCell ?_ (by dsimp only; omega) _))
          have HVB := Lib.hide (Box2.new w2 (.int .i64 1) (.int .i64 (p1 : Int)) 34)
          have HBX3 := Lib.hide (HBX2.out.next hb3)
          have HRW3 := Lib.hide (HRW.out.next hb3)
          have ep3 := (hb3.cell (p := ⟨g2, j, none⟩) hg22).trans ep
          have HEP3 := Lib.hide ep3
          have hg23 := Nat.lt_of_lt_of_le hg22 hb3.size
          have ji1 : (0 : Int) ≤ (j : Int) := by omega
          have ji2 : (j : Int) < (l.length : Int) := by omega
          by_cases hfield : HasField xs l p f
          · have HCA := Lib.hide (fun w' (h : Below w2.heap.size w2 w') => store_yes a words cap xs t 1 (p1 : Int) p f l w' ((HHP.out.below (Below.next (by repeat (first | exact Below.refl _ _ | assumption | refine Below.drew ?_ | refine below_drewN ?_ _ | refine Below.allocs ?_ | refine Below.next ?_ (by assumption) | refine Below.setCell ?_ (by dsimp only; omega) _)) hb2)).below h) HV.out hfield HCO.out)
            go_region_held3 (fun w' => (w'.cell? ⟨w1.heap.size, 0, none⟩ = some (.slice a words cap) ∧ w'.cell? ⟨w1.heap.size, 1, none⟩ = some (.int .i64 t)) ∧ (w'.cell? ⟨wr.heap.size, 2, none⟩ = some (.int .i64 x2) ∧ w'.cell? ⟨wr.heap.size, 3, none⟩ = some (.int .i64 x3)) ∧ (w'.cell? ⟨w2.heap.size, 0, none⟩ = some (.int .i64 1) ∧ w'.cell? ⟨w2.heap.size, 1, none⟩ = some (.int .i64 (p1 : Int))) ∧ w'.cell? ⟨g2, j, none⟩ = some (.int .i64 p))
              (first | exact ⟨⟨HBX3.out.c0, HBX3.out.c1⟩, ⟨HRW3.out.c2, HRW3.out.c3⟩, ⟨HVB.out.c0, HVB.out.c1⟩, HEP3.out⟩ | exact ⟨⟨m0, m1⟩, ⟨m2, m6⟩, ⟨v0, v1⟩, v5⟩ | (refine ⟨⟨?_, ?_⟩, ⟨?_, ?_⟩, ⟨?_, ?_⟩, ?_⟩ <;> go_simp))
              (first
                | (go_at_call 17; (with_reducible refine (CJ.out _).mono ?_); rintro e w' ⟨rfl, rfl⟩)
                | (go_at_call 17; (with_reducible refine (CF.out _).mono ?_); rintro e w' ⟨rfl, rfl⟩)
                | (go_at_call 18; (with_reducible refine (HCA.out (w2.alloc (.cells #[.int .i64 1, .int .i64 (p1 : Int)] 34)).drew (by repeat (first | exact Below.refl _ _ | assumption | refine Below.drew ?_ | refine below_drewN ?_ _ | refine Below.allocs ?_ | refine Below.next ?_ (by assumption) | refine Below.setCell ?_ (by dsimp only; omega) _))).mono ?_); rintro e w5 ⟨a5, c5, rfl, ho5, hb5⟩; have HO5 := Lib.hide ho5; clear ho5; have HB5 := Lib.hide (HBX2.out.next (w' := w5) (by repeat (first | exact Below.refl _ _ | assumption | refine Below.drew ?_ | refine below_drewN ?_ _ | refine Below.allocs ?_ | refine Below.next ?_ (by assumption) | refine Below.setCell ?_ (by dsimp only; omega) _))); obtain ⟨m0, m1, m3, m4, m5⟩ := HB5.out; have HW5 := HRW.out.next (w' := w5) (by repeat (first | exact Below.refl _ _ | assumption | refine Below.drew ?_ | refine below_drewN ?_ _ | refine Below.allocs ?_ | refine Below.next ?_ (by assumption) | refine Below.setCell ?_ (by dsimp only; omega) _)); have m2 := HW5.c2; have m6 := HW5.c3; have m7 := HW5.lt; clear HW5; obtain ⟨v0, v1, v2, v3, v4⟩ := HVB.out.next (w' := w5) (by repeat (first | exact Below.refl _ _ | assumption | refine Below.drew ?_ | refine below_drewN ?_ _ | refine Below.allocs ?_ | refine Below.next ?_ (by assumption) | refine Below.setCell ?_ (by dsimp only; omega) _)); have v5 := ((show Below w2.heap.size w2 w5 from (by repeat (first | exact Below.refl _ _ | assumption | refine Below.drew ?_ | refine below_drewN ?_ _ | refine Below.allocs ?_ | refine Below.next ?_ (by assumption) | refine Below.setCell ?_ (by dsimp only; omega) _))).cell (p := ⟨g2, j, none⟩) hg22).trans ep; have v6 : g2 < w5.heap.size := Nat.lt_trans hg22 v4)
                | (go_at_call 18; (with_reducible refine (HCA.out ((w2.alloc (.cells #[.int .i64 1, .int .i64 (p1 : Int)] 34)).alloc (.cells #[.slice none 0 0, .int .i64 0] 27)).drew (by repeat (first | exact Below.refl _ _ | assumption | refine Below.drew ?_ | refine below_drewN ?_ _ | refine Below.allocs ?_ | refine Below.next ?_ (by assumption) | refine Below.setCell ?_ (by dsimp only; omega) _))).mono ?_); rintro e w5 ⟨a5, c5, rfl, ho5, hb5⟩; have HO5 := Lib.hide ho5; clear ho5; have HB5 := Lib.hide (HBX2.out.next (w' := w5) (by repeat (first | exact Below.refl _ _ | assumption | refine Below.drew ?_ | refine below_drewN ?_ _ | refine Below.allocs ?_ | refine Below.next ?_ (by assumption) | refine Below.setCell ?_ (by dsimp only; omega) _))); obtain ⟨m0, m1, m3, m4, m5⟩ := HB5.out; have HW5 := HRW.out.next (w' := w5) (by repeat (first | exact Below.refl _ _ | assumption | refine Below.drew ?_ | refine below_drewN ?_ _ | refine Below.allocs ?_ | refine Below.next ?_ (by assumption) | refine Below.setCell ?_ (by dsimp only; omega) _)); have m2 := HW5.c2; have m6 := HW5.c3; have m7 := HW5.lt; clear HW5; obtain ⟨v0, v1, v2, v3, v4⟩ := HVB.out.next (w' := w5) (by repeat (first | exact Below.refl _ _ | assumption | refine Below.drew ?_ | refine below_drewN ?_ _ | refine Below.allocs ?_ | refine Below.next ?_ (by assumption) | refine Below.setCell ?_ (by dsimp only; omega) _)); have v5 := ((show Below w2.heap.size w2 w5 from (by repeat (first | exact Below.refl _ _ | assumption | refine Below.drew ?_ | refine below_drewN ?_ _ | refine Below.allocs ?_ | refine Below.next ?_ (by assumption) | refine Below.setCell ?_ (by dsimp only; omega) _))).cell (p := ⟨g2, j, none⟩) hg22).trans ep; have v6 : g2 < w5.heap.size := Nat.lt_trans hg22 v4; have HN := ((Box2.new (w2.alloc (.cells #[.int .i64 1, .int .i64 (p1 : Int)] 34)) (.slice none 0 0) (.int .i64 0) 27).next (w' := ((w2.alloc (.cells #[.int .i64 1, .int .i64 (p1 : Int)] 34)).alloc (.cells #[.slice none 0 0, .int .i64 0] 27)).drew) (by repeat (first | exact Below.refl _ _ | assumption | refine Below.drew ?_ | refine below_drewN ?_ _ | refine Below.allocs ?_ | refine Below.next ?_ (by assumption) | refine Below.setCell ?_ (by dsimp only; omega) _))).next hb5; rw [show (w2.alloc (.cells #[.int .i64 1, .int .i64 (p1 : Int)] 34)).heap.size = w2.heap.size + 1 by simp] at HN; obtain ⟨n0, n1, n2, n3, n4⟩ := HN))
            all_goals go_wp2
            all_goals
              have hne5 : (Value.slice a5 words c5).ownBlock ≠ some w1.heap.size := fun h => by
                have := (World.ownsRow.lt HO5.out _ h).1
                have : w2.heap.size ≤ w1.heap.size := by simp at this; omega
                omega
              have hres5 := HRES.out.next (w' := w5) (by repeat (first | exact Below.refl _ _ | assumption | refine Below.drew ?_ | refine below_drewN ?_ _ | refine Below.allocs ?_ | refine Below.next ?_ (by assumption) | refine Below.setCell ?_ (by dsimp only; omega) _))
              have hv5 := HV.out.store HPL.out (by have := hfield.2.2; rwa [Int.toNat_natCast] at this) (fieldOk_of_code HCO.out)
              have hfs5 := fits_set (i := p + 2 + f) (y := wordOf 1 (p1 : Int)) HFI.out (wordOf_fits 1 (p1 : Int) (by omega) (by omega))
              go_roundw
              case measure => simp [intOf]; omega
            · refine ⟨i + 1, t, a5, c5, _, _, ⟨by omega, by omega⟩, by go_num, (HB5.out.put _ _).alloc _, ((hres5.far (by dsimp only; omega) _).far (by dsimp only; omega) _).alloc _, ?_, hne5, hv5, hfs5, (by repeat (first | exact Below.refl _ _ | assumption | refine Below.drew ?_ | refine below_drewN ?_ _ | refine Below.allocs ?_ | refine Below.next ?_ (by assumption) | refine Below.setCell ?_ (by dsimp only; omega) _))⟩
              exact ownsRow_base (((HO5.out.far hne5 _).far hne5 _).allocs _) (by simp; omega)
            all_goals
              have hne6 : (Value.slice a5 words c5).ownBlock ≠ some (w2.heap.size + 1) := fun h => by
                have := (World.ownsRow.lt HO5.out _ h).1
                simp at this
                omega
              refine ⟨i + 1, t, a5, c5, _, _, ⟨by omega, by omega⟩, by go_num, (((HB5.out.far (by dsimp only; omega) _).far (by dsimp only; omega) _).put _ _), ((((hres5.far (by dsimp only; omega) _).far (by dsimp only; omega) _).far (by dsimp only; omega) _).far (by dsimp only; omega) _), ?_, hne5, hv5, hfs5, (by repeat (first | exact Below.refl _ _ | assumption | refine Below.drew ?_ | refine below_drewN ?_ _ | refine Below.allocs ?_ | refine Below.next ?_ (by assumption) | refine Below.setCell ?_ (by dsimp only; omega) _))⟩
              exact ownsRow_base ((((HO5.out.far hne6 _).far hne6 _).far hne5 _).far hne5 _) (by simp; omega)
          · have HCA := Lib.hide (fun w' (h : Below w2.heap.size w2 w') => store_none a words cap xs t p f 1 (p1 : Int) l w' ((HHP.out.below (Below.next (by repeat (first | exact Below.refl _ _ | assumption | refine Below.drew ?_ | refine below_drewN ?_ _ | refine Below.allocs ?_ | refine Below.next ?_ (by assumption) | refine Below.setCell ?_ (by dsimp only; omega) _)) hb2)).below h) HV.out hfield)
            go_region_held3 (fun w' => (w'.cell? ⟨w1.heap.size, 0, none⟩ = some (.slice a words cap) ∧ w'.cell? ⟨w1.heap.size, 1, none⟩ = some (.int .i64 t)) ∧ (w'.cell? ⟨wr.heap.size, 2, none⟩ = some (.int .i64 x2) ∧ w'.cell? ⟨wr.heap.size, 3, none⟩ = some (.int .i64 x3)) ∧ (w'.cell? ⟨w2.heap.size, 0, none⟩ = some (.int .i64 1) ∧ w'.cell? ⟨w2.heap.size, 1, none⟩ = some (.int .i64 (p1 : Int))) ∧ w'.cell? ⟨g2, j, none⟩ = some (.int .i64 p))
              (first | exact ⟨⟨HBX3.out.c0, HBX3.out.c1⟩, ⟨HRW3.out.c2, HRW3.out.c3⟩, ⟨HVB.out.c0, HVB.out.c1⟩, HEP3.out⟩ | exact ⟨⟨m0, m1⟩, ⟨m2, m6⟩, ⟨v0, v1⟩, v5⟩ | (refine ⟨⟨?_, ?_⟩, ⟨?_, ?_⟩, ⟨?_, ?_⟩, ?_⟩ <;> go_simp))
              (first
                | (go_at_call 17; (with_reducible refine (CJ.out _).mono ?_); rintro e w' ⟨rfl, rfl⟩)
                | (go_at_call 17; (with_reducible refine (CF.out _).mono ?_); rintro e w' ⟨rfl, rfl⟩)
                | (go_at_call 18; (with_reducible refine (HCA.out (w2.alloc (.cells #[.int .i64 1, .int .i64 (p1 : Int)] 34)).drew (by repeat (first | exact Below.refl _ _ | assumption | refine Below.drew ?_ | refine below_drewN ?_ _ | refine Below.allocs ?_ | refine Below.next ?_ (by assumption) | refine Below.setCell ?_ (by dsimp only; omega) _))).mono ?_); rintro e w5 ⟨rfl, hb5⟩; have HB5 := Lib.hide (HBX2.out.next (w' := w5) (by repeat (first | exact Below.refl _ _ | assumption | refine Below.drew ?_ | refine below_drewN ?_ _ | refine Below.allocs ?_ | refine Below.next ?_ (by assumption) | refine Below.setCell ?_ (by dsimp only; omega) _))); obtain ⟨m0, m1, m3, m4, m5⟩ := HB5.out; have HW5 := HRW.out.next (w' := w5) (by repeat (first | exact Below.refl _ _ | assumption | refine Below.drew ?_ | refine below_drewN ?_ _ | refine Below.allocs ?_ | refine Below.next ?_ (by assumption) | refine Below.setCell ?_ (by dsimp only; omega) _)); have m2 := HW5.c2; have m6 := HW5.c3; have m7 := HW5.lt; clear HW5; obtain ⟨v0, v1, v2, v3, v4⟩ := HVB.out.next (w' := w5) (by repeat (first | exact Below.refl _ _ | assumption | refine Below.drew ?_ | refine below_drewN ?_ _ | refine Below.allocs ?_ | refine Below.next ?_ (by assumption) | refine Below.setCell ?_ (by dsimp only; omega) _)); have v5 := ((show Below w2.heap.size w2 w5 from (by repeat (first | exact Below.refl _ _ | assumption | refine Below.drew ?_ | refine below_drewN ?_ _ | refine Below.allocs ?_ | refine Below.next ?_ (by assumption) | refine Below.setCell ?_ (by dsimp only; omega) _))).cell (p := ⟨g2, j, none⟩) hg22).trans ep; have v6 : g2 < w5.heap.size := Nat.lt_trans hg22 v4)
                | (go_at_call 18; (with_reducible refine (HCA.out ((w2.alloc (.cells #[.int .i64 1, .int .i64 (p1 : Int)] 34)).alloc (.cells #[.slice none 0 0, .int .i64 0] 27)).drew (by repeat (first | exact Below.refl _ _ | assumption | refine Below.drew ?_ | refine below_drewN ?_ _ | refine Below.allocs ?_ | refine Below.next ?_ (by assumption) | refine Below.setCell ?_ (by dsimp only; omega) _))).mono ?_); rintro e w5 ⟨rfl, hb5⟩; have HB5 := Lib.hide (HBX2.out.next (w' := w5) (by repeat (first | exact Below.refl _ _ | assumption | refine Below.drew ?_ | refine below_drewN ?_ _ | refine Below.allocs ?_ | refine Below.next ?_ (by assumption) | refine Below.setCell ?_ (by dsimp only; omega) _))); obtain ⟨m0, m1, m3, m4, m5⟩ := HB5.out; have HW5 := HRW.out.next (w' := w5) (by repeat (first | exact Below.refl _ _ | assumption | refine Below.drew ?_ | refine below_drewN ?_ _ | refine Below.allocs ?_ | refine Below.next ?_ (by assumption) | refine Below.setCell ?_ (by dsimp only; omega) _)); have m2 := HW5.c2; have m6 := HW5.c3; have m7 := HW5.lt; clear HW5; obtain ⟨v0, v1, v2, v3, v4⟩ := HVB.out.next (w' := w5) (by repeat (first | exact Below.refl _ _ | assumption | refine Below.drew ?_ | refine below_drewN ?_ _ | refine Below.allocs ?_ | refine Below.next ?_ (by assumption) | refine Below.setCell ?_ (by dsimp only; omega) _)); have v5 := ((show Below w2.heap.size w2 w5 from (by repeat (first | exact Below.refl _ _ | assumption | refine Below.drew ?_ | refine below_drewN ?_ _ | refine Below.allocs ?_ | refine Below.next ?_ (by assumption) | refine Below.setCell ?_ (by dsimp only; omega) _))).cell (p := ⟨g2, j, none⟩) hg22).trans ep; have v6 : g2 < w5.heap.size := Nat.lt_trans hg22 v4; have HN := ((Box2.new (w2.alloc (.cells #[.int .i64 1, .int .i64 (p1 : Int)] 34)) (.slice none 0 0) (.int .i64 0) 27).next (w' := ((w2.alloc (.cells #[.int .i64 1, .int .i64 (p1 : Int)] 34)).alloc (.cells #[.slice none 0 0, .int .i64 0] 27)).drew) (by repeat (first | exact Below.refl _ _ | assumption | refine Below.drew ?_ | refine below_drewN ?_ _ | refine Below.allocs ?_ | refine Below.next ?_ (by assumption) | refine Below.setCell ?_ (by dsimp only; omega) _))).next hb5; rw [show (w2.alloc (.cells #[.int .i64 1, .int .i64 (p1 : Int)] 34)).heap.size = w2.heap.size + 1 by simp] at HN; obtain ⟨n0, n1, n2, n3, n4⟩ := HN))
            all_goals go_wp2
            all_goals
              have hres5 := HRES.out.next (w' := w5) (by repeat (first | exact Below.refl _ _ | assumption | refine Below.drew ?_ | refine below_drewN ?_ _ | refine Below.allocs ?_ | refine Below.next ?_ (by assumption) | refine Below.setCell ?_ (by dsimp only; omega) _))
              have hown5 := HOWN.out.below (w' := w5) (by repeat (first | exact Below.refl _ _ | assumption | refine Below.drew ?_ | refine below_drewN ?_ _ | refine Below.allocs ?_ | refine Below.next ?_ (by assumption) | refine Below.setCell ?_ (by dsimp only; omega) _))
              go_roundw
              case measure => simp [intOf]; omega
            · exact ⟨i + 1, t, a, cap, xs, l, ⟨by omega, by omega⟩, by go_num, HB5.out.alloc _, hres5.alloc _, hown5.allocs _, HNE.out, HV.out, HFI.out, (by repeat (first | exact Below.refl _ _ | assumption | refine Below.drew ?_ | refine below_drewN ?_ _ | refine Below.allocs ?_ | refine Below.next ?_ (by assumption) | refine Below.setCell ?_ (by dsimp only; omega) _))⟩
            all_goals
              have hne6 : (Value.slice a words cap).ownBlock ≠ some (w2.heap.size + 1) := fun h => by
                have := (World.ownsRow.lt HOWN.out _ h).2
                have h7 := hb2.size
                simp at h7
                omega
              exact ⟨i + 1, t, a, cap, xs, l, ⟨by omega, by omega⟩, by go_num, (HB5.out.far (by dsimp only; omega) _).far (by dsimp only; omega) _, (hres5.far (by dsimp only; omega) _).far (by dsimp only; omega) _, (hown5.far hne6 _).far hne6 _, HNE.out, HV.out, HFI.out, (by repeat (first | exact Below.refl _ _ | assumption | refine Below.drew ?_ | refine below_drewN ?_ _ | refine Below.allocs ?_ | refine Below.next ?_ (by assumption) | refine Below.setCell ?_ (by dsimp only; omega) _))⟩
        · have hd3 : (k3 == 1) = false := by simpa using hk1
          obtain ⟨m, hm⟩ : ∃ m, pick x1 100 = m := ⟨_, rfl⟩
          have hmb := pick_lt x1 100 (by omega)
          have CM := Lib.hide (fun w => picked_any x1 100 w F1.out (by omega) (by omega))
          rw [hm] at hmb CM
          clear hm hA hk0 hk1 hgc2
          go_wp2_with (first
            | (go_at_call 17; (with_reducible refine (C3.out _).mono ?_); rintro e w' ⟨rfl, rfl⟩)
            | (go_at_call 17; (with_reducible refine (CM.out _).mono ?_); rintro e w' ⟨rfl, rfl⟩))
          have hcode : codeOf (nums l) 0 (m - 50) = 0 := by unfold codeOf; rw [if_pos rfl, if_pos (by omega)]
          have HCO := Lib.hide hcode
          clear hcode
          have hb3 : Below w2.heap.size w2 (w2.alloc (.cells #[.int .i64 0, .int .i64 (m - 50)] 34)) := (by repeat (first | exact Below.refl _ _ | assumption | refine Below.drew ?_ | refine below_drewN ?_ _ | refine Below.allocs ?_ | refine Below.next ?_ (by assumption) | refine Below.setCell ?_ (by dsimp only; omega) _))
          have HVB := Lib.hide (Box2.new w2 (.int .i64 0) (.int .i64 (m - 50)) 34)
          have HBX3 := Lib.hide (HBX2.out.next hb3)
          have HRW3 := Lib.hide (HRW.out.next hb3)
          have ep3 := (hb3.cell (p := ⟨g2, j, none⟩) hg22).trans ep
          have HEP3 := Lib.hide ep3
          have hg23 := Nat.lt_of_lt_of_le hg22 hb3.size
          have ji1 : (0 : Int) ≤ (j : Int) := by omega
          have ji2 : (j : Int) < (l.length : Int) := by omega
          by_cases hfield : HasField xs l p f
          · have HCA := Lib.hide (fun w' (h : Below w2.heap.size w2 w') => store_yes a words cap xs t 0 (m - 50) p f l w' ((HHP.out.below (Below.next (by repeat (first | exact Below.refl _ _ | assumption | refine Below.drew ?_ | refine below_drewN ?_ _ | refine Below.allocs ?_ | refine Below.next ?_ (by assumption) | refine Below.setCell ?_ (by dsimp only; omega) _)) hb2)).below h) HV.out hfield HCO.out)
            go_region_held3 (fun w' => (w'.cell? ⟨w1.heap.size, 0, none⟩ = some (.slice a words cap) ∧ w'.cell? ⟨w1.heap.size, 1, none⟩ = some (.int .i64 t)) ∧ (w'.cell? ⟨wr.heap.size, 2, none⟩ = some (.int .i64 x2) ∧ w'.cell? ⟨wr.heap.size, 3, none⟩ = some (.int .i64 x3)) ∧ (w'.cell? ⟨w2.heap.size, 0, none⟩ = some (.int .i64 0) ∧ w'.cell? ⟨w2.heap.size, 1, none⟩ = some (.int .i64 (m - 50))) ∧ w'.cell? ⟨g2, j, none⟩ = some (.int .i64 p))
              (first | exact ⟨⟨HBX3.out.c0, HBX3.out.c1⟩, ⟨HRW3.out.c2, HRW3.out.c3⟩, ⟨HVB.out.c0, HVB.out.c1⟩, HEP3.out⟩ | exact ⟨⟨m0, m1⟩, ⟨m2, m6⟩, ⟨v0, v1⟩, v5⟩ | (refine ⟨⟨?_, ?_⟩, ⟨?_, ?_⟩, ⟨?_, ?_⟩, ?_⟩ <;> go_simp))
              (first
                | (go_at_call 17; (with_reducible refine (CJ.out _).mono ?_); rintro e w' ⟨rfl, rfl⟩)
                | (go_at_call 17; (with_reducible refine (CF.out _).mono ?_); rintro e w' ⟨rfl, rfl⟩)
                | (go_at_call 18; (with_reducible refine (HCA.out (w2.alloc (.cells #[.int .i64 0, .int .i64 (m - 50)] 34)).drew (by repeat (first | exact Below.refl _ _ | assumption | refine Below.drew ?_ | refine below_drewN ?_ _ | refine Below.allocs ?_ | refine Below.next ?_ (by assumption) | refine Below.setCell ?_ (by dsimp only; omega) _))).mono ?_); rintro e w5 ⟨a5, c5, rfl, ho5, hb5⟩; have HO5 := Lib.hide ho5; clear ho5; have HB5 := Lib.hide (HBX2.out.next (w' := w5) (by repeat (first | exact Below.refl _ _ | assumption | refine Below.drew ?_ | refine below_drewN ?_ _ | refine Below.allocs ?_ | refine Below.next ?_ (by assumption) | refine Below.setCell ?_ (by dsimp only; omega) _))); obtain ⟨m0, m1, m3, m4, m5⟩ := HB5.out; have HW5 := HRW.out.next (w' := w5) (by repeat (first | exact Below.refl _ _ | assumption | refine Below.drew ?_ | refine below_drewN ?_ _ | refine Below.allocs ?_ | refine Below.next ?_ (by assumption) | refine Below.setCell ?_ (by dsimp only; omega) _)); have m2 := HW5.c2; have m6 := HW5.c3; have m7 := HW5.lt; clear HW5; obtain ⟨v0, v1, v2, v3, v4⟩ := HVB.out.next (w' := w5) (by repeat (first | exact Below.refl _ _ | assumption | refine Below.drew ?_ | refine below_drewN ?_ _ | refine Below.allocs ?_ | refine Below.next ?_ (by assumption) | refine Below.setCell ?_ (by dsimp only; omega) _)); have v5 := ((show Below w2.heap.size w2 w5 from (by repeat (first | exact Below.refl _ _ | assumption | refine Below.drew ?_ | refine below_drewN ?_ _ | refine Below.allocs ?_ | refine Below.next ?_ (by assumption) | refine Below.setCell ?_ (by dsimp only; omega) _))).cell (p := ⟨g2, j, none⟩) hg22).trans ep; have v6 : g2 < w5.heap.size := Nat.lt_trans hg22 v4)
                | (go_at_call 18; (with_reducible refine (HCA.out ((w2.alloc (.cells #[.int .i64 0, .int .i64 (m - 50)] 34)).alloc (.cells #[.slice none 0 0, .int .i64 0] 27)).drew (by repeat (first | exact Below.refl _ _ | assumption | refine Below.drew ?_ | refine below_drewN ?_ _ | refine Below.allocs ?_ | refine Below.next ?_ (by assumption) | refine Below.setCell ?_ (by dsimp only; omega) _))).mono ?_); rintro e w5 ⟨a5, c5, rfl, ho5, hb5⟩; have HO5 := Lib.hide ho5; clear ho5; have HB5 := Lib.hide (HBX2.out.next (w' := w5) (by repeat (first | exact Below.refl _ _ | assumption | refine Below.drew ?_ | refine below_drewN ?_ _ | refine Below.allocs ?_ | refine Below.next ?_ (by assumption) | refine Below.setCell ?_ (by dsimp only; omega) _))); obtain ⟨m0, m1, m3, m4, m5⟩ := HB5.out; have HW5 := HRW.out.next (w' := w5) (by repeat (first | exact Below.refl _ _ | assumption | refine Below.drew ?_ | refine below_drewN ?_ _ | refine Below.allocs ?_ | refine Below.next ?_ (by assumption) | refine Below.setCell ?_ (by dsimp only; omega) _)); have m2 := HW5.c2; have m6 := HW5.c3; have m7 := HW5.lt; clear HW5; obtain ⟨v0, v1, v2, v3, v4⟩ := HVB.out.next (w' := w5) (by repeat (first | exact Below.refl _ _ | assumption | refine Below.drew ?_ | refine below_drewN ?_ _ | refine Below.allocs ?_ | refine Below.next ?_ (by assumption) | refine Below.setCell ?_ (by dsimp only; omega) _)); have v5 := ((show Below w2.heap.size w2 w5 from (by repeat (first | exact Below.refl _ _ | assumption | refine Below.drew ?_ | refine below_drewN ?_ _ | refine Below.allocs ?_ | refine Below.next ?_ (by assumption) | refine Below.setCell ?_ (by dsimp only; omega) _))).cell (p := ⟨g2, j, none⟩) hg22).trans ep; have v6 : g2 < w5.heap.size := Nat.lt_trans hg22 v4; have HN := ((Box2.new (w2.alloc (.cells #[.int .i64 0, .int .i64 (m - 50)] 34)) (.slice none 0 0) (.int .i64 0) 27).next (w' := ((w2.alloc (.cells #[.int .i64 0, .int .i64 (m - 50)] 34)).alloc (.cells #[.slice none 0 0, .int .i64 0] 27)).drew) (by repeat (first | exact Below.refl _ _ | assumption | refine Below.drew ?_ | refine below_drewN ?_ _ | refine Below.allocs ?_ | refine Below.next ?_ (by assumption) | refine Below.setCell ?_ (by dsimp only; omega) _))).next hb5; rw [show (w2.alloc (.cells #[.int .i64 0, .int .i64 (m - 50)] 34)).heap.size = w2.heap.size + 1 by simp] at HN; obtain ⟨n0, n1, n2, n3, n4⟩ := HN))
            all_goals go_wp2
            all_goals
              have hne5 : (Value.slice a5 words c5).ownBlock ≠ some w1.heap.size := fun h => by
                have := (World.ownsRow.lt HO5.out _ h).1
                have : w2.heap.size ≤ w1.heap.size := by simp at this; omega
                omega
              have hres5 := HRES.out.next (w' := w5) (by repeat (first | exact Below.refl _ _ | assumption | refine Below.drew ?_ | refine below_drewN ?_ _ | refine Below.allocs ?_ | refine Below.next ?_ (by assumption) | refine Below.setCell ?_ (by dsimp only; omega) _))
              have hv5 := HV.out.store HPL.out (by have := hfield.2.2; rwa [Int.toNat_natCast] at this) (fieldOk_of_code HCO.out)
              have hfs5 := fits_set (i := p + 2 + f) (y := wordOf 0 (m - 50)) HFI.out (wordOf_fits 0 (m - 50) (by omega) (by omega))
              go_roundw
              case measure => simp [intOf]; omega
            · refine ⟨i + 1, t, a5, c5, _, _, ⟨by omega, by omega⟩, by go_num, (HB5.out.put _ _).alloc _, ((hres5.far (by dsimp only; omega) _).far (by dsimp only; omega) _).alloc _, ?_, hne5, hv5, hfs5, (by repeat (first | exact Below.refl _ _ | assumption | refine Below.drew ?_ | refine below_drewN ?_ _ | refine Below.allocs ?_ | refine Below.next ?_ (by assumption) | refine Below.setCell ?_ (by dsimp only; omega) _))⟩
              exact ownsRow_base (((HO5.out.far hne5 _).far hne5 _).allocs _) (by simp; omega)
            all_goals
              have hne6 : (Value.slice a5 words c5).ownBlock ≠ some (w2.heap.size + 1) := fun h => by
                have := (World.ownsRow.lt HO5.out _ h).1
                simp at this
                omega
              refine ⟨i + 1, t, a5, c5, _, _, ⟨by omega, by omega⟩, by go_num, (((HB5.out.far (by dsimp only; omega) _).far (by dsimp only; omega) _).put _ _), ((((hres5.far (by dsimp only; omega) _).far (by dsimp only; omega) _).far (by dsimp only; omega) _).far (by dsimp only; omega) _), ?_, hne5, hv5, hfs5, (by repeat (first | exact Below.refl _ _ | assumption | refine Below.drew ?_ | refine below_drewN ?_ _ | refine Below.allocs ?_ | refine Below.next ?_ (by assumption) | refine Below.setCell ?_ (by dsimp only; omega) _))⟩
              exact ownsRow_base ((((HO5.out.far hne6 _).far hne6 _).far hne5 _).far hne5 _) (by simp; omega)
          · have HCA := Lib.hide (fun w' (h : Below w2.heap.size w2 w') => store_none a words cap xs t p f 0 (m - 50) l w' ((HHP.out.below (Below.next (by repeat (first | exact Below.refl _ _ | assumption | refine Below.drew ?_ | refine below_drewN ?_ _ | refine Below.allocs ?_ | refine Below.next ?_ (by assumption) | refine Below.setCell ?_ (by dsimp only; omega) _)) hb2)).below h) HV.out hfield)
            go_region_held3 (fun w' => (w'.cell? ⟨w1.heap.size, 0, none⟩ = some (.slice a words cap) ∧ w'.cell? ⟨w1.heap.size, 1, none⟩ = some (.int .i64 t)) ∧ (w'.cell? ⟨wr.heap.size, 2, none⟩ = some (.int .i64 x2) ∧ w'.cell? ⟨wr.heap.size, 3, none⟩ = some (.int .i64 x3)) ∧ (w'.cell? ⟨w2.heap.size, 0, none⟩ = some (.int .i64 0) ∧ w'.cell? ⟨w2.heap.size, 1, none⟩ = some (.int .i64 (m - 50))) ∧ w'.cell? ⟨g2, j, none⟩ = some (.int .i64 p))
              (first | exact ⟨⟨HBX3.out.c0, HBX3.out.c1⟩, ⟨HRW3.out.c2, HRW3.out.c3⟩, ⟨HVB.out.c0, HVB.out.c1⟩, HEP3.out⟩ | exact ⟨⟨m0, m1⟩, ⟨m2, m6⟩, ⟨v0, v1⟩, v5⟩ | (refine ⟨⟨?_, ?_⟩, ⟨?_, ?_⟩, ⟨?_, ?_⟩, ?_⟩ <;> go_simp))
              (first
                | (go_at_call 17; (with_reducible refine (CJ.out _).mono ?_); rintro e w' ⟨rfl, rfl⟩)
                | (go_at_call 17; (with_reducible refine (CF.out _).mono ?_); rintro e w' ⟨rfl, rfl⟩)
                | (go_at_call 18; (with_reducible refine (HCA.out (w2.alloc (.cells #[.int .i64 0, .int .i64 (m - 50)] 34)).drew (by repeat (first | exact Below.refl _ _ | assumption | refine Below.drew ?_ | refine below_drewN ?_ _ | refine Below.allocs ?_ | refine Below.next ?_ (by assumption) | refine Below.setCell ?_ (by dsimp only; omega) _))).mono ?_); rintro e w5 ⟨rfl, hb5⟩; have HB5 := Lib.hide (HBX2.out.next (w' := w5) (by repeat (first | exact Below.refl _ _ | assumption | refine Below.drew ?_ | refine below_drewN ?_ _ | refine Below.allocs ?_ | refine Below.next ?_ (by assumption) | refine Below.setCell ?_ (by dsimp only; omega) _))); obtain ⟨m0, m1, m3, m4, m5⟩ := HB5.out; have HW5 := HRW.out.next (w' := w5) (by repeat (first | exact Below.refl _ _ | assumption | refine Below.drew ?_ | refine below_drewN ?_ _ | refine Below.allocs ?_ | refine Below.next ?_ (by assumption) | refine Below.setCell ?_ (by dsimp only; omega) _)); have m2 := HW5.c2; have m6 := HW5.c3; have m7 := HW5.lt; clear HW5; obtain ⟨v0, v1, v2, v3, v4⟩ := HVB.out.next (w' := w5) (by repeat (first | exact Below.refl _ _ | assumption | refine Below.drew ?_ | refine below_drewN ?_ _ | refine Below.allocs ?_ | refine Below.next ?_ (by assumption) | refine Below.setCell ?_ (by dsimp only; omega) _)); have v5 := ((show Below w2.heap.size w2 w5 from (by repeat (first | exact Below.refl _ _ | assumption | refine Below.drew ?_ | refine below_drewN ?_ _ | refine Below.allocs ?_ | refine Below.next ?_ (by assumption) | refine Below.setCell ?_ (by dsimp only; omega) _))).cell (p := ⟨g2, j, none⟩) hg22).trans ep; have v6 : g2 < w5.heap.size := Nat.lt_trans hg22 v4)
                | (go_at_call 18; (with_reducible refine (HCA.out ((w2.alloc (.cells #[.int .i64 0, .int .i64 (m - 50)] 34)).alloc (.cells #[.slice none 0 0, .int .i64 0] 27)).drew (by repeat (first | exact Below.refl _ _ | assumption | refine Below.drew ?_ | refine below_drewN ?_ _ | refine Below.allocs ?_ | refine Below.next ?_ (by assumption) | refine Below.setCell ?_ (by dsimp only; omega) _))).mono ?_); rintro e w5 ⟨rfl, hb5⟩; have HB5 := Lib.hide (HBX2.out.next (w' := w5) (by repeat (first | exact Below.refl _ _ | assumption | refine Below.drew ?_ | refine below_drewN ?_ _ | refine Below.allocs ?_ | refine Below.next ?_ (by assumption) | refine Below.setCell ?_ (by dsimp only; omega) _))); obtain ⟨m0, m1, m3, m4, m5⟩ := HB5.out; have HW5 := HRW.out.next (w' := w5) (by repeat (first | exact Below.refl _ _ | assumption | refine Below.drew ?_ | refine below_drewN ?_ _ | refine Below.allocs ?_ | refine Below.next ?_ (by assumption) | refine Below.setCell ?_ (by dsimp only; omega) _)); have m2 := HW5.c2; have m6 := HW5.c3; have m7 := HW5.lt; clear HW5; obtain ⟨v0, v1, v2, v3, v4⟩ := HVB.out.next (w' := w5) (by repeat (first | exact Below.refl _ _ | assumption | refine Below.drew ?_ | refine below_drewN ?_ _ | refine Below.allocs ?_ | refine Below.next ?_ (by assumption) | refine Below.setCell ?_ (by dsimp only; omega) _)); have v5 := ((show Below w2.heap.size w2 w5 from (by repeat (first | exact Below.refl _ _ | assumption | refine Below.drew ?_ | refine below_drewN ?_ _ | refine Below.allocs ?_ | refine Below.next ?_ (by assumption) | refine Below.setCell ?_ (by dsimp only; omega) _))).cell (p := ⟨g2, j, none⟩) hg22).trans ep; have v6 : g2 < w5.heap.size := Nat.lt_trans hg22 v4; have HN := ((Box2.new (w2.alloc (.cells #[.int .i64 0, .int .i64 (m - 50)] 34)) (.slice none 0 0) (.int .i64 0) 27).next (w' := ((w2.alloc (.cells #[.int .i64 0, .int .i64 (m - 50)] 34)).alloc (.cells #[.slice none 0 0, .int .i64 0] 27)).drew) (by repeat (first | exact Below.refl _ _ | assumption | refine Below.drew ?_ | refine below_drewN ?_ _ | refine Below.allocs ?_ | refine Below.next ?_ (by assumption) | refine Below.setCell ?_ (by dsimp only; omega) _))).next hb5; rw [show (w2.alloc (.cells #[.int .i64 0, .int .i64 (m - 50)] 34)).heap.size = w2.heap.size + 1 by simp] at HN; obtain ⟨n0, n1, n2, n3, n4⟩ := HN))
            all_goals go_wp2
            all_goals
              have hres5 := HRES.out.next (w' := w5) (by repeat (first | exact Below.refl _ _ | assumption | refine Below.drew ?_ | refine below_drewN ?_ _ | refine Below.allocs ?_ | refine Below.next ?_ (by assumption) | refine Below.setCell ?_ (by dsimp only; omega) _))
              have hown5 := HOWN.out.below (w' := w5) (by repeat (first | exact Below.refl _ _ | assumption | refine Below.drew ?_ | refine below_drewN ?_ _ | refine Below.allocs ?_ | refine Below.next ?_ (by assumption) | refine Below.setCell ?_ (by dsimp only; omega) _))
              go_roundw
              case measure => simp [intOf]; omega
            · exact ⟨i + 1, t, a, cap, xs, l, ⟨by omega, by omega⟩, by go_num, HB5.out.alloc _, hres5.alloc _, hown5.allocs _, HNE.out, HV.out, HFI.out, (by repeat (first | exact Below.refl _ _ | assumption | refine Below.drew ?_ | refine below_drewN ?_ _ | refine Below.allocs ?_ | refine Below.next ?_ (by assumption) | refine Below.setCell ?_ (by dsimp only; omega) _))⟩
            all_goals
              have hne6 : (Value.slice a words cap).ownBlock ≠ some (w2.heap.size + 1) := fun h => by
                have := (World.ownsRow.lt HOWN.out _ h).2
                have h7 := hb2.size
                simp at h7
                omega
              exact ⟨i + 1, t, a, cap, xs, l, ⟨by omega, by omega⟩, by go_num, (HB5.out.far (by dsimp only; omega) _).far (by dsimp only; omega) _, (hres5.far (by dsimp only; omega) _).far (by dsimp only; omega) _, (hown5.far hne6 _).far hne6 _, HNE.out, HV.out, HFI.out, (by repeat (first | exact Below.refl _ _ | assumption | refine Below.drew ?_ | refine below_drewN ?_ _ | refine Below.allocs ?_ | refine Below.next ?_ (by assumption) | refine Below.setCell ?_ (by dsimp only; omega) _))⟩
    · have hst : i < n → decide ((i : Int) < 40) = false := fun h => by simp; omega
      by_cases hin : i < n
      · have hd := hst hin
        clear hst hgo
        obtain ⟨z0, z1, z2, z3, z4⟩ := HRES.out
        go_wp2
        have hne0 : (Value.slice a words cap).ownBlock ≠ some w.heap.size := fun h => by
          have := (World.ownsRow.lt HOWN.out _ h).1
          omega
        exact bodyPost_ret (v := .agg #[.slice a words cap, .int .i64 t]) (by simp only [results, Try.results15]; go_simp) rfl
          ⟨a, cap, t, xs, l, rfl, ownsRow_base ((HOWN.out.far hne0 _).far hne0 _) (by omega), HV.out, HFI.out, (by repeat (first | exact Below.refl _ _ | assumption | refine Below.drew ?_ | refine below_drewN ?_ _ | refine Below.allocs ?_ | refine Below.next ?_ (by assumption) | refine Below.setCell ?_ (by dsimp only; omega) _)), by omega⟩
      · clear hst hgo
        obtain ⟨z0, z1, z2, z3, z4⟩ := HRES.out
        go_wp2
        have hne0 : (Value.slice a words cap).ownBlock ≠ some w.heap.size := fun h => by
          have := (World.ownsRow.lt HOWN.out _ h).1
          omega
        exact bodyPost_ret (v := .agg #[.slice a words cap, .int .i64 t]) (by simp only [results, Try.results15]; go_simp) rfl
          ⟨a, cap, t, xs, l, rfl, ownsRow_base ((HOWN.out.far hne0 _).far hne0 _) (by omega), HV.out, HFI.out, (by repeat (first | exact Below.refl _ _ | assumption | refine Below.drew ?_ | refine below_drewN ?_ _ | refine Below.allocs ?_ | refine Below.next ?_ (by assumption) | refine Below.setCell ?_ (by dsimp only; omega) _)), by omega⟩
end Go.Proofs.Ytpdcaoagpjcgbab
