/-
  The walk of limewashkeep.Acts. It proves no statement by itself.
-/
import Derived.Test.YtpdcaoagpjcgbabSharedWalks
import Derived.Deep.CutRange
import Derived.Deep.CutBlock
set_option linter.unusedVariables false
set_option linter.unusedSimpArgs false
namespace Go.Proofs.Ytpdcaoagpjcgbab
open Go.RowKit Stm

/-- The act of a kind drawn and three raw numbers. -/
def mkActK (k th x1 x2 x3 : Int) : Stm.Act :=
  if k < 6 then ⟨1, pick x3 th, pick x1 4, pick x2 4, 0⟩ else if k < 10 then ⟨2, pick x3 th, pick x1 4, pick x2 4, 0⟩ else if k = 10 then ⟨3, pick x3 th, pick x1 4, pick x2 4, 0⟩
  else if k < 15 then ⟨4, pick x3 th, pick x1 4, pick x2 4, 1 + pick x2 3⟩ else if k < 22 then ⟨5, pick x3 th, pick x1 4, pick x2 4, pick (x1.tdiv 4) 3⟩
  else if k < 30 then ⟨6, pick x3 th, pick x1 4, pick x2 4, pick (x1.tdiv 4) 3⟩ else if k < 33 then ⟨7, pick x3 th, pick x1 4, pick x2 4, pick x2 100 - 50⟩
  else if k = 33 then ⟨8, pick x3 th, pick x1 4, pick x2 4, pick (x2.tdiv 4) th⟩ else if k = 34 then ⟨9, pick x3 th, pick x1 4, pick x2 4, 0⟩ else if k < 37 then ⟨10, 0, 0, 0, 0⟩
  else if k < 39 then ⟨11, 0, 0, 0, 1 + pick x1 5⟩ else ⟨12, 0, 0, 0, 0⟩
/-- The act of four raw numbers. -/
def mkAct (th x0 x1 x2 x3 : Int) : Stm.Act := mkActK (pick x0 40) th x1 x2 x3
def actsTo (th : Int) (R : Nat → Nat → Int) (i : Nat) : List Stm.Act := (List.range i).map fun j => mkAct th (R j 0) (R j 1) (R j 2) (R j 3)
theorem actsTo_length (th : Int) (R : Nat → Nat → Int) (i : Nat) : (actsTo th R i).length = i := by simp [actsTo]
theorem actsTo_succ (th : Int) (R : Nat → Nat → Int) (i : Nat) : actsTo th R (i + 1) = actsTo th R i ++ [mkAct th (R i 0) (R i 1) (R i 2) (R i 3)] := by simp [actsTo, List.range_succ]

theorem tdiv_fits {x : Int} (h : Fits x) : Fits (x.tdiv 4) := by
  obtain ⟨h1, h2⟩ := h
  rcases Int.le_total 0 x with h0 | h0
  · rw [Int.tdiv_eq_ediv_of_nonneg h0]
    exact ⟨by omega, by omega⟩
  · have : x.tdiv 4 = -((-x).tdiv 4) := by rw [Int.neg_tdiv, Int.neg_neg]
    rw [this, Int.tdiv_eq_ediv_of_nonneg (by omega)]
    exact ⟨by omega, by omega⟩

def ActsPost (w : World) (th : Int) (R : Nat → Nat → Int) (k : Nat) (e : Ending) (w' : World) : Prop :=
  ∃ a cap, e = .returned (.slice a k cap) ∧ OwnC w' w.heap.size (.slice a k cap) (actsTo th R k) ∧ Below w.heap.size w w'

set_option maxHeartbeats 8000000 in
set_option maxRecDepth 100000 in
theorem acts_any (a : Option Addr) (N cp : Nat) (R : Nat → Nat → Int) (most th : Nat) (w : World) (hr : Recs w a N 4 R) (hm : most ≤ 300) (h1 : 1 ≤ th) (h2 : th ≤ 4) :
    Calls Try.prog 38 #[.slice a N cp, .int .i64 most, .int .i64 th] w (ActsPost w th R (min N most)) := by
  obtain ⟨iA, hiA, hA0, hA1, hA2⟩ := info_parts Try.actInfo
  have HR := Lib.hide hr
  clear hr
  go_enter Try.func38, Try.ntmps38
  go_wp2
  go_loopw [8, 7] (fun u v wr => ∃ i : Nat, i ≤ N ∧ i ≤ most ∧ u = .int .i64 i ∧ OwnC wr w.heap.size v (actsTo th R i) ∧ Below w.heap.size w wr) (fun u _ _ => most - (intOf u).toNat)
  case atStart => exact ⟨0, Nat.zero_le _, Nat.zero_le _, rfl, World.ownsRow_nil _ _ _ _, Below.refl _ _⟩
  case round =>
    obtain ⟨i, hiN, him, rfl, hown, hbel⟩ := hrel
    have HOW := Lib.hide hown
    have HBE := Lib.hide hbel
    have HLE := Lib.hide (actsTo_length th R i)
    by_cases hlt : i < N
    · by_cases hlm : i < most
      · obtain ⟨b, o, rfl, hbl, hc⟩ := (HR.out.below hbel).resolve_left (by omega)
        obtain ⟨e0, f0⟩ := hc i hlt 0 (by omega)
        obtain ⟨e1, f1⟩ := hc i hlt 1 (by omega)
        obtain ⟨e2, f2⟩ := hc i hlt 2 (by omega)
        obtain ⟨e3, f3⟩ := hc i hlt 3 (by omega)
        have HSU := Lib.hide (actsTo_succ th R i)
        obtain ⟨x0, hx0⟩ : ∃ x, R i 0 = x := ⟨_, rfl⟩
        obtain ⟨x1, hx1⟩ : ∃ x, R i 1 = x := ⟨_, rfl⟩
        obtain ⟨x2, hx2⟩ : ∃ x, R i 2 = x := ⟨_, rfl⟩
        obtain ⟨x3, hx3⟩ : ∃ x, R i 3 = x := ⟨_, rfl⟩
        rw [hx0] at e0 f0
        rw [hx1] at e1 f1
        rw [hx2] at e2 f2
        rw [hx3] at e3 f3
        rw [hx0, hx1, hx2, hx3] at HSU
        have i1 : (0 : Int) ≤ (i : Int) := by omega
        have i2 : (i : Int) < (N : Int) := by omega
        have i3 : (i : Int) < (most : Int) := by omega
        have F0 := Lib.hide f0
        have F1 := Lib.hide f1
        have F2 := Lib.hide f2
        have F3 := Lib.hide f3
        have hws := hbel.size
        rw [Nat.add_zero] at e0
        rw [show o + (i * 4 + 1) = o + i * 4 + 1 by omega] at e1
        rw [show o + (i * 4 + 2) = o + i * 4 + 2 by omega] at e2
        rw [show o + (i * 4 + 3) = o + i * 4 + 3 by omega] at e3
        clear hc hown hbel hx0 hx1 hx2 hx3 f0 f1 f2 f3
        go_wp2
        have hXB := BoxL.new wr [.int .i64 x0, .int .i64 x1, .int .i64 x2, .int .i64 x3] 24
        have hXb : Below wr.heap.size wr (wr.alloc (.cells #[.int .i64 x0, .int .i64 x1, .int .i64 x2, .int .i64 x3] 24)) := (by repeat (first | exact Below.refl _ _ | assumption | refine Below.drew ?_ | refine below_drewN ?_ _ | refine Below.allocs ?_ | refine Below.next ?_ (by assumption) | refine Below.setCell ?_ (by dsimp only; omega) _))
        generalize hXe : wr.alloc (.cells #[.int .i64 x0, .int .i64 x1, .int .i64 x2, .int .i64 x3] 24) = X at hXb ⊢
        have hXB' : BoxL X wr.heap.size [.int .i64 x0, .int .i64 x1, .int .i64 x2, .int .i64 x3] := by rw [← hXe]; exact hXB
        have r0 := hXB'.cell 0 _ rfl
        have r1 := hXB'.cell 1 _ rfl
        have r2 := hXB'.cell 2 _ rfl
        have r3 := hXB'.cell 3 _ rfl
        have rl := hXB'.lt
        have HXB := Lib.hide hXB'
        have HXb := Lib.hide hXb
        have nX : wr.heap.size ≠ X.heap.size := by omega
        clear hXB hXB' hXb hXe e0 e1 e2 e3 hbl
        go_upto_region 6 with (fail)
        go_cut [10] from 12 to 119 (fun u wx => u = .pointer (some ⟨X.heap.size, 0, none⟩) ∧ wx = (X.alloc (.cells #[.int .i64 0, .int .i64 (pick x3 th), .int .i64 (pick x1 4), .int .i64 (pick x2 4), .int .i64 0] 71)).drew)
        case first =>
          go_region_held3 (fun w' => w'.cell? ⟨wr.heap.size, 3, none⟩ = some (.int .i64 x3) ∧ w'.cell? ⟨wr.heap.size, 1, none⟩ = some (.int .i64 x1) ∧ w'.cell? ⟨wr.heap.size, 2, none⟩ = some (.int .i64 x2))
            (first | exact ⟨r3, r1, r2⟩ | exact ⟨alloc_cell r3, alloc_cell r1, alloc_cell r2⟩ | go_keep)
            (first | (go_at_call 17; (with_reducible refine (picked_any x3 (th : Int) _ F3.out (by omega) (by omega)).mono ?_); rintro e w' ⟨rfl, rfl⟩) | (go_at_call 17; (with_reducible refine (picked_any x1 4 _ F1.out (by omega) (by omega)).mono ?_); rintro e w' ⟨rfl, rfl⟩) | (go_at_call 17; (with_reducible refine (picked_any x2 4 _ F2.out (by omega) (by omega)).mono ?_); rintro e w' ⟨rfl, rfl⟩))
          all_goals (go_wp2_with (fail); go_meet; case rel => exact ⟨rfl, rfl⟩)
        case rest =>
          obtain ⟨rfl, rfl⟩ := hcut
          go_step
          go_step
          obtain ⟨k, hk⟩ : ∃ k, pick x0 40 = k := ⟨_, rfl⟩
          have HK := Lib.hide hk
          clear hk
          go_cut [10, 11] from 12 to 119 (fun u _ wx => u = .pointer (some ⟨X.heap.size, 0, none⟩) ∧ wx = (X.alloc (.cells (actCells (mkActK k th x1 x2 x3)).toArray 71)).drew)
          case first =>
            go_wp2_with (fail)
            with_reducible refine (picked_any x0 40 _ F0.out (by omega) (by omega)).mono ?_
            rintro e w' ⟨rfl, rfl⟩
            rw [HK.out]
            have p3 := pick_lt x2 3 (by omega)
            have p100 := pick_lt x2 100 (by omega)
            have p5 := pick_lt x1 5 (by omega)
            obtain ⟨d1, d2⟩ := tdiv_fits F1.out
            obtain ⟨d3, d4⟩ := tdiv_fits F2.out
            go_upto_if 42 with (fail)
            by_cases c0 : k < 6
            · have HM := Lib.hide (show mkActK k th x1 x2 x3 = ⟨1, pick x3 th, pick x1 4, pick x2 4, 0⟩ from by simp [mkActK, c0])
              go_wp2_with (fail)
              go_meet
              case rel => exact ⟨rfl, by rw [HM.out]; rfl⟩
            · skip
              by_cases c1 : k < 10
              · have HM := Lib.hide (show mkActK k th x1 x2 x3 = ⟨2, pick x3 th, pick x1 4, pick x2 4, 0⟩ from by simp [mkActK, c0, c1])
                go_wp2_with (fail)
                go_meet
                case rel => exact ⟨rfl, by rw [HM.out]; rfl⟩
              · skip
                by_cases c2 : k = 10
                · have HM := Lib.hide (show mkActK k th x1 x2 x3 = ⟨3, pick x3 th, pick x1 4, pick x2 4, 0⟩ from by simp [mkActK, c0, c1, c2])
                  go_wp2_with (fail)
                  go_meet
                  case rel => exact ⟨rfl, by rw [HM.out]; rfl⟩
                · skip
                  by_cases c3 : k < 15
                  · have HM := Lib.hide (show mkActK k th x1 x2 x3 = ⟨4, pick x3 th, pick x1 4, pick x2 4, 1 + pick x2 3⟩ from by simp [mkActK, c0, c1, c2, c3])
                    go_wp2_with (fail)
                    with_reducible refine (picked_any x2 3 _ F2.out (by omega) (by omega)).mono ?_
                    rintro e w' ⟨rfl, rfl⟩
                    go_wp2_with (fail)
                    go_meet
                    case rel => exact ⟨rfl, by rw [HM.out]; rfl⟩
                  · skip
                    by_cases c4 : k < 22
                    · have HM := Lib.hide (show mkActK k th x1 x2 x3 = ⟨5, pick x3 th, pick x1 4, pick x2 4, pick (x1.tdiv 4) 3⟩ from by simp [mkActK, c0, c1, c2, c3, c4])
                      go_wp2_with (fail)
                      with_reducible refine (picked_any (x1.tdiv 4) 3 _ (tdiv_fits F1.out) (by omega) (by omega)).mono ?_
                      rintro e w' ⟨rfl, rfl⟩
                      go_wp2_with (fail)
                      go_meet
                      case rel => exact ⟨rfl, by rw [HM.out]; rfl⟩
                    · skip
                      by_cases c5 : k < 30
                      · have HM := Lib.hide (show mkActK k th x1 x2 x3 = ⟨6, pick x3 th, pick x1 4, pick x2 4, pick (x1.tdiv 4) 3⟩ from by simp [mkActK, c0, c1, c2, c3, c4, c5])
                        go_wp2_with (fail)
                        with_reducible refine (picked_any (x1.tdiv 4) 3 _ (tdiv_fits F1.out) (by omega) (by omega)).mono ?_
                        rintro e w' ⟨rfl, rfl⟩
                        go_wp2_with (fail)
                        go_meet
                        case rel => exact ⟨rfl, by rw [HM.out]; rfl⟩
                      · skip
                        by_cases c6 : k < 33
                        · have HM := Lib.hide (show mkActK k th x1 x2 x3 = ⟨7, pick x3 th, pick x1 4, pick x2 4, pick x2 100 - 50⟩ from by simp [mkActK, c0, c1, c2, c3, c4, c5, c6])
                          go_wp2_with (fail)
                          with_reducible refine (picked_any x2 100 _ F2.out (by omega) (by omega)).mono ?_
                          rintro e w' ⟨rfl, rfl⟩
                          go_wp2_with (fail)
                          go_meet
                          case rel => exact ⟨rfl, by rw [HM.out]; rfl⟩
                        · skip
                          by_cases c7 : k = 33
                          · have HM := Lib.hide (show mkActK k th x1 x2 x3 = ⟨8, pick x3 th, pick x1 4, pick x2 4, pick (x2.tdiv 4) th⟩ from by simp [mkActK, c0, c1, c2, c3, c4, c5, c6, c7])
                            go_wp2_with (fail)
                            with_reducible refine (picked_any (x2.tdiv 4) (th : Int) _ (tdiv_fits F2.out) (by omega) (by omega)).mono ?_
                            rintro e w' ⟨rfl, rfl⟩
                            go_wp2_with (fail)
                            go_meet
                            case rel => exact ⟨rfl, by rw [HM.out]; rfl⟩
                          · skip
                            by_cases c8 : k = 34
                            · have HM := Lib.hide (show mkActK k th x1 x2 x3 = ⟨9, pick x3 th, pick x1 4, pick x2 4, 0⟩ from by simp [mkActK, c0, c1, c2, c3, c4, c5, c6, c7, c8])
                              go_wp2_with (fail)
                              go_meet
                              case rel => exact ⟨rfl, by rw [HM.out]; rfl⟩
                            · skip
                              by_cases c9 : k < 37
                              · have HM := Lib.hide (show mkActK k th x1 x2 x3 = ⟨10, 0, 0, 0, 0⟩ from by simp [mkActK, c0, c1, c2, c3, c4, c5, c6, c7, c8, c9])
                                go_wp2_with (fail)
                                go_meet
                                case rel => exact ⟨rfl, by rw [HM.out]; rfl⟩
                              · skip
                                by_cases c10 : k < 39
                                · have HM := Lib.hide (show mkActK k th x1 x2 x3 = ⟨11, 0, 0, 0, 1 + pick x1 5⟩ from by simp [mkActK, c0, c1, c2, c3, c4, c5, c6, c7, c8, c9, c10])
                                  go_wp2_with (fail)
                                  with_reducible refine (picked_any x1 5 _ F1.out (by omega) (by omega)).mono ?_
                                  rintro e w' ⟨rfl, rfl⟩
                                  go_wp2_with (fail)
                                  go_meet
                                  case rel => exact ⟨rfl, by rw [HM.out]; rfl⟩
                                · skip
                                  have HM := Lib.hide (show mkActK k th x1 x2 x3 = ⟨12, 0, 0, 0, 0⟩ from by simp [mkActK, c0, c1, c2, c3, c4, c5, c6, c7, c8, c9, c10])
                                  go_wp2_with (fail)
                                  go_meet
                                  case rel => exact ⟨rfl, by rw [HM.out]; rfl⟩
          case rest =>
            obtain ⟨rfl, rfl⟩ := hcut
            have HSV : Hid (actsTo th R (i + 1) = actsTo th R i ++ [mkActK k th x1 x2 x3]) := Lib.hide (by rw [HSU.out, mkAct, HK.out])
            clear HSU
            generalize mkActK k th x1 x2 x3 = z at HSV ⊢
            obtain ⟨z0, z1, z2, z3, z4⟩ := z
            have hYB := BoxL.kept (BoxL.new X (actCells ⟨z0, z1, z2, z3, z4⟩) 71) (w' := (X.alloc (.cells (actCells ⟨z0, z1, z2, z3, z4⟩).toArray 71)).drew) rfl (Nat.le_refl _)
            have hYb : Below X.heap.size X (X.alloc (.cells (actCells ⟨z0, z1, z2, z3, z4⟩).toArray 71)).drew := (by repeat (first | exact Below.refl _ _ | assumption | refine Below.drew ?_ | refine below_drewN ?_ _ | refine Below.allocs ?_ | refine Below.next ?_ (by assumption) | refine Below.setCell ?_ (by dsimp only; omega) _))
            generalize (X.alloc (.cells (actCells ⟨z0, z1, z2, z3, z4⟩).toArray 71)).drew = Y at hYB hYb ⊢
            have y0 := hYB.cell 0 _ rfl
            have y1 := hYB.cell 1 _ rfl
            have y2 := hYB.cell 2 _ rfl
            have y3 := hYB.cell 3 _ rfl
            have y4 := hYB.cell 4 _ rfl
            have yl := hYB.lt
            have HBY := Lib.hide (Below.step HXb.out (Below.mono hYb (by omega)))
            have HOY := Lib.hide (HOW.out.below HBY.out)
            clear hYB hYb r0 r1 r2 r3
            go_wp2_with (at_builtin; refine wpList_append_at _ rfl (.tmp 116) (.tmp 118) 61 rfl w.heap.size 71 iA _ 5 40 Try.underlying61 hiA hA0 hA1 hA2 rfl (by decide) u7 _ (ccells (actsTo th R i)) rfl (World.ownsRow.alloc HOY.out _) ⟨Y.heap.size, 0, none⟩ 1 1 (actCells ⟨z0, z1, z2, z3, z4⟩) rfl rfl (act_new Y ⟨z0, z1, z2, z3, z4⟩ _) ?c2 ?c3 ?c4 ?c5 ?_)
            case c2 => intro u hu; simp [actCells] at hu; rcases hu with rfl | rfl | rfl | rfl | rfl <;> rfl
            case c3 => rw [HLE.out]; unfold maxLen; omega
            case c4 => rw [HLE.out]; omega
            case c5 => have := HBY.out.size; simp; omega
            intro v' w2 hown' hg2 _ _
            have hvb : ∀ g, u7.ownBlock = some g → w.heap.size ≤ g := fun g hg => (World.ownsRow.lt HOW.out g hg).1
            have hY2 : Below w.heap.size w Y := Below.step HBE.out (Below.mono HBY.out HBE.out.size)
            have hsz2 : Y.heap.size + 1 ≤ w2.heap.size := by have h9 := hg2.size; simpa using h9
            have hfin : OwnC w2 w.heap.size v' (actsTo th R (i + 1)) ∧ Below w.heap.size w w2 := by
              refine ⟨?_, ⟨hg2.os.trans hY2.os, hg2.tape.trans hY2.tape, hg2.output.trans hY2.output, by have := hY2.size; omega, fun k hk => ?_⟩⟩
              · unfold OwnC
                rw [HSV.out, ccells_append, ccells_one, List.length_append]
                exact hown'
              · rw [hg2.block k (by have := hY2.size; simp; omega) (fun e => by have := hvb k e.symm; omega), Below.heap_alloc _ _ _ (by have := hY2.size; omega)]
                exact hY2.block k hk
            have HF := Lib.hide hfin
            clear hown' hg2 hvb hY2 hsz2 hfin
            go_wp2
            go_roundw
            case rel => exact ⟨i + 1, by omega, by omega, by go_num, HF.out⟩
            case measure => simp [intOf]; omega

      · obtain rfl : i = most := by omega
        have HP := Lib.hide (show ∀ v, OwnC wr w.heap.size v (actsTo th R i) → ActsPost w th R i (.returned v) wr from fun v hv => by
          rcases hv.2 with ⟨e1, e2⟩ | ⟨g, cap, cur, e1, _⟩
          · rw [actsTo_length] at e2; subst e2; exact ⟨none, 0, by rw [e1], by rw [← e1]; exact hv, HBE.out⟩
          · rw [actsTo_length] at e1; exact ⟨_, cap, by rw [e1], by rw [← e1]; exact hv, HBE.out⟩)
        have i2 : (i : Int) < (N : Int) := by omega
        have i3 : ¬ (i : Int) < (i : Int) := by omega
        clear hown hbel
        go_wp2
        go_ret
        first | exact HP.out _ HOW.out | (rw [show min N i = i by omega]; exact HP.out _ HOW.out)
    · obtain rfl : i = N := by omega
      have HP := Lib.hide (show ∀ v, OwnC wr w.heap.size v (actsTo th R i) → ActsPost w th R i (.returned v) wr from fun v hv => by
        rcases hv.2 with ⟨e1, e2⟩ | ⟨g, cap, cur, e1, _⟩
        · rw [actsTo_length] at e2; subst e2; exact ⟨none, 0, by rw [e1], by rw [← e1]; exact hv, HBE.out⟩
        · rw [actsTo_length] at e1; exact ⟨_, cap, by rw [e1], by rw [← e1]; exact hv, HBE.out⟩)
      have i3 : ¬ (i : Int) < (i : Int) := by omega
      clear hown hbel
      go_wp2
      go_ret
      first | exact HP.out _ HOW.out | (rw [show min i most = i by omega]; exact HP.out _ HOW.out)
end Go.Proofs.Ytpdcaoagpjcgbab

