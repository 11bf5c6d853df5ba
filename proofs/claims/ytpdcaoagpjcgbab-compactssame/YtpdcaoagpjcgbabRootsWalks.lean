/-
  The walks of slices.Contains over integers and of limewashkeep.Roots. It proves no statement by itself.
-/
import Derived.Test.YtpdcaoagpjcgbabRawBase
import Derived.Test.YtpdcaoagpjcgbabPickWalks
import Derived.Test.YtpdcaoagpjcgbabReachWalks
set_option linter.unusedVariables false
set_option linter.unusedSimpArgs false
namespace Go.Proofs.Ytpdcaoagpjcgbab
open Go.RowKit

set_option maxHeartbeats 800000 in
theorem index_any (a : Option Addr) (n cap : Nat) (zs : List Int) (x : Int) (w : World) (hi : Ints w a zs) (hz : zs.length = n) (hn : n ≤ 1000) (r : Bool) (hr : decide (x ∈ zs) = r) :
    Calls Try.prog 61 #[.slice a n cap, .int .i64 x] w fun e w' => (∃ i : Int, e = .returned (.int .i64 i) ∧ decide (0 ≤ i) = r) ∧ w = w' := by
  have HI := Lib.hide hi
  have HZ := Lib.hide hz
  have HR := Lib.hide hr
  clear hi hz hr
  go_enter Try.func61, Try.ntmps61
  go_wp2
  go_loop [8] (fun u => ∃ i : Nat, i ≤ n ∧ u = .int .i64 i ∧ ∀ k, k < i → zs.getD k 0 ≠ x) (fun u => n - (intOf u).toNat)
  case atStart => exact ⟨0, Nat.zero_le _, rfl, fun k hk => absurd hk (Nat.not_lt_zero _)⟩
  case round =>
    obtain ⟨i, hin, rfl, hlo⟩ := hrel
    have HLO := Lib.hide hlo
    clear hlo
    by_cases hlt : i < n
    · obtain ⟨b, o, rfl, hb, hc⟩ := HI.out.at (by rw [HZ.out]; omega)
      have e1 := hc i (by rw [HZ.out]; omega)
      clear hc
      obtain ⟨y, hy⟩ : ∃ y, zs.getD i 0 = y := ⟨_, rfl⟩
      rw [hy] at e1
      have HY := Lib.hide hy
      clear hy
      by_cases hyx : y = x
      · have hd : (x == y) = true := by simpa using hyx.symm
        have hm : r = true := by rw [← HR.out]; exact decide_eq_true (mem_at.2 ⟨i, by rw [HZ.out]; exact hlt, HY.out.trans hyx⟩)
        subst hm
        clear hyx
        go_wp2
        go_ret
        exact ⟨⟨i, rfl, by simp⟩, rfl⟩
      · have hd : (x == y) = false := by simpa using fun h : x = y => hyx h.symm
        have HYX := Lib.hide hyx
        clear hyx
        go_wp2
        go_round
        case rel =>
          refine ⟨i + 1, by omega, by go_num, fun k hk => ?_⟩
          rcases Nat.lt_or_ge k i with h | h
          · exact HLO.out k h
          · obtain rfl : k = i := by omega
            rw [HY.out]; exact HYX.out
        case measure => simp [intOf]; omega
    · have hm : r = false := by
        rw [← HR.out, decide_eq_false_iff_not, mem_at]
        rintro ⟨k, hk, hkx⟩
        rw [HZ.out] at hk
        exact HLO.out k (by omega) hkx
      subst hm
      go_wp2
      go_ret
      exact ⟨⟨-1, rfl, by simp⟩, rfl⟩

set_option maxHeartbeats 400000 in
theorem contains_any (a : Option Addr) (n cap : Nat) (zs : List Int) (x : Int) (w : World) (hi : Ints w a zs) (hz : zs.length = n) (hn : n ≤ 1000) (r : Bool) (hr : decide (x ∈ zs) = r) :
    Calls Try.prog 27 #[.slice a n cap, .int .i64 x] w fun e w' => e = .returned (.bool r) ∧ w = w' := by
  have C := Lib.hide (index_any a n cap zs x w hi hz hn r hr)
  clear hi hz hr
  go_enter Try.func27, Try.ntmps27
  go_wp2_with (go_at_call 61; refine C.out.mono ?_; rintro e w' ⟨⟨i, rfl, hd⟩, rfl⟩)
  go_ret
  first | exact ⟨rfl, rfl⟩ | exact ⟨by rw [hd], rfl⟩

/-- Some places of a heap, in new memory. -/
def RootsPost (w : World) (l : List Nat) (e : Ending) (w' : World) : Prop :=
  ∃ (rs : List Int) (a : Option Addr) (c : Nat), e = .returned (.slice a rs.length c) ∧ Own w' w.heap.size (.slice a rs.length c) rs ∧ (∀ r ∈ rs, r ∈ nums l) ∧ rs.length ≤ 3 ∧ Below w.heap.size w w'

set_option maxRecDepth 100000 in
set_option maxHeartbeats 1600000 in
open Lw in
theorem roots_any (a : Option Addr) (n cap : Nat) (xs : List Int) (top : Int) (l : List Nat) (a2 : Option Addr) (k cap2 : Nat) (R : Nat → Nat → Int) (w : World) (hh : IsHeap w a n cap xs top) (hv : Valid xs top l) (hR : Recs w a2 k 4 R) :
    Calls Try.prog 25 #[.agg #[.slice a n cap, .int .i64 top], .slice a2 k cap2] w (RootsPost w l) := by
  obtain ⟨i0, hi0, hz0, hz1, hz2⟩ := info_parts Try.intInfo
  have hl := Objects.laid hv.objects
  have hl4 : l.length ≤ 400 := by
    have := hl.short
    have := hv.top1
    have := hv.top2
    have := hv.len2
    omega
  have HH := Lib.hide hh
  have HV := Lib.hide hv
  have HR := Lib.hide hR
  clear hh hv hl hR
  go_enter Try.func25, Try.ntmps25
  go_wp2_with (go_at_call 16; refine (places_yes a n cap xs top l _ (HH.out.below (by repeat (first | exact Below.refl _ _ | assumption | refine Below.drew ?_ | refine below_drewN ?_ _ | refine Below.allocs ?_ | refine Below.next ?_ (by assumption) | refine Below.setCell ?_ (by dsimp only; omega) _))) HV.out).mono ?_; rintro e w1 ⟨a1, c1, rfl, ho1, hb1⟩; have HO1 := Lib.hide ho1; clear ho1)
  have HBW1 := Lib.hide (show Below w.heap.size w w1 from (by repeat (first | exact Below.refl _ _ | assumption | refine Below.drew ?_ | refine below_drewN ?_ _ | refine Below.allocs ?_ | refine Below.next ?_ (by assumption) | refine Below.setCell ?_ (by dsimp only; omega) _)))
  go_loopg [7, 8] 3 (fun q v u wr => ∃ (i : Nat) (rs : List Int), i ≤ 3 ∧ q = 3 - i ∧ u = .int .i64 i ∧ rs.length ≤ i ∧ (∀ r ∈ rs, r ∈ nums l) ∧ Own wr w1.heap.size v rs ∧ Below w1.heap.size w1 wr)
  case atStart => exact ⟨0, [], Nat.zero_le _, rfl, rfl, Nat.le_refl _, fun r hr => (by cases hr), World.ownsRow_nil _ _ _ _, Below.refl _ _⟩
  case round =>
    obtain ⟨i, rs, hi, rfl, rfl, hrl, hrm, hown, hbel⟩ := hrel
    have HRM := Lib.hide hrm
    have HOW := Lib.hide hown
    have HBE := Lib.hide hbel
    have hle := hbel.size
    clear hrm hown hbel
    by_cases hgo : i < k ∧ i < 3 ∧ 0 < l.length
    · obtain ⟨hik, hi3, hl0⟩ := hgo
      obtain ⟨b, o, rfl, hb, hc⟩ := (HR.out.below (Below.next HBW1.out HBE.out)).resolve_left (by omega)
      have d1 := (hc i hik 1 (by omega)).1
      have F1 := Lib.hide (hc i hik 1 (by omega)).2
      rw [← Nat.add_assoc] at d1
      generalize R i 1 = x1 at *
      obtain ⟨j, hj⟩ := Int.eq_ofNat_of_zero_le (pick_lt x1 l.length (by omega)).1
      have j1 := (pick_lt x1 l.length (by omega)).2
      have CJ := Lib.hide (fun w => picked_any x1 l.length w F1.out (by omega) (by omega))
      rw [hj] at CJ j1
      have hjl : j < l.length := by omega
      obtain ⟨b1, o1, he1, hbb1, hcc1⟩ := (HO1.out.reads.2.below HBE.out).at (by rw [nums_length]; omega)
      subst he1
      have e1 := hcc1 j (by rw [nums_length]; exact hjl)
      rw [nums_getD] at e1
      have hpm : ((l.getD j 0 : Nat) : Int) ∈ nums l := mem_nums.2 (by simp [List.getD_eq_getElem?_getD, List.getElem?_eq_getElem hjl])
      generalize l.getD j 0 = p at e1 hpm
      have HPM := Lib.hide hpm
      clear hc hcc1 hj hpm
      go_wp2_with (first
        | (go_at_call 17; refine (CJ.out _).mono ?_; rintro e w' ⟨rfl, rfl⟩)
        | (at_builtin; refine wpList_append_own _ rfl (.tmp 29) (.tmp 41) 25 rfl w1.heap.size 3 i0 (.int .i64 0) 1 8 Try.underlying25 hi0 hz0 hz1 hz2 rfl (by decide) u7 rs.length _ rfl (World.ownsRow.alloc (w := wr) HOW.out _) ⟨wr.heap.size, 0, none⟩ 1 1 [.int .i64 p] rfl rfl (cell_one_new _ _ _) (fun u hu => by simp at hu; subst hu; rfl) (by unfold maxLen; omega) (by omega) (by simp; omega) ?_; intro v' w7 hown7 hg7 _; obtain ⟨hbel7, hown8⟩ := append_step HBE.out hle (Below.refl _ _) HOW.out hown7 hg7; have HB7 := Lib.hide hbel7; have HO8 := Lib.hide hown8; clear hown7 hg7 hbel7 hown8))
      go_roundg (3 - (i + 1))
      case measure => omega
      case rel =>
        refine ⟨i + 1, rs ++ [(p : Int)], by omega, rfl, by go_num, by simp; omega, fun r hr => ?_, HO8.out, HB7.out⟩
        rcases List.mem_append.1 hr with hr | hr
        · exact HRM.out r hr
        · simp at hr; subst hr; exact HPM.out
    · obtain ⟨a', c', hv, _⟩ := HOW.out.ints
      have HV' := Lib.hide hv
      have hsz := HBW1.out.size
      clear hv
      have fin : RootsPost w l (.returned u7) wr := ⟨rs, a', c', by rw [← HV'.out], by rw [← HV'.out]; exact ownsRow_base HOW.out hsz, HRM.out, by omega, Below.next HBW1.out HBE.out⟩
      have FIN := Lib.hide fin
      clear fin
      by_cases h1 : i < k
      · by_cases h2 : i < 3
        · have h3 : ¬ 0 < l.length := fun h => hgo ⟨h1, h2, h⟩
          have hd : decide (0 < l.length) = false := decide_eq_false h3
          have hd2 : decide ((0 : Int) < (l.length : Int)) = false := decide_eq_false (by omega)
          clear hgo h3
          go_wp2
          go_ret
          exact FIN.out
        · have hd : decide ((i : Int) < 3) = false := decide_eq_false (by omega)
          clear hgo
          go_wp2
          go_ret
          exact FIN.out
      · clear hgo
        go_wp2
        go_ret
        exact FIN.out
end Go.Proofs.Ytpdcaoagpjcgbab
