/-
  The walks of the reference's odd, half, has, placesOf. It proves no statement by itself.
-/
import Derived.Test.YtpdcaoagpjcgbaaPlacesWalks
import Derived.Test.YtpdcaoagpjcgbaaNewRef
namespace Go.Proofs.Ytpdcaoagpjcgbaa
open Go.RowKit

theorem tdiv_neg_two (y : Int) (h : y ≤ 0) : y.tdiv 2 = -((-y) / 2) := by
  have h1 : y.tdiv 2 = -((-y).tdiv 2) := by rw [Int.neg_tdiv, Int.neg_neg]
  rw [h1, Int.tdiv_eq_ediv_of_nonneg (by omega)]

theorem tmod_two (y : Int) : (y.tmod 2 != 0) = (y % 2 == 1) := by
  have h1 : y.tmod 2 = y - 2 * y.tdiv 2 := by have := Int.mul_tdiv_add_tmod y 2; omega
  rw [h1, Bool.eq_iff_iff]
  rcases Int.le_total 0 y with h | h
  · rw [Int.tdiv_eq_ediv_of_nonneg h]; simp; omega
  · rw [tdiv_neg_two y h]; simp; omega

set_option maxHeartbeats 400000 in
theorem odd_any (y : Int) (w : World) (r : Bool) (hr : (y % 2 == 1) = r) : Calls Try.prog 41 #[.int .i64 y] w fun e w' => e = .returned (.bool r) ∧ w = w' := by
  have h1 : (y.tmod 2 != 0) = r := (tmod_two y).trans hr
  clear hr
  go_enter Try.func41, Try.ntmps41
  go_wp2
  go_ret
  exact ⟨rfl, rfl⟩

set_option maxHeartbeats 400000 in
theorem half_any (y : Int) (w : World) (hy : Fits y) : Calls Try.prog 43 #[.int .i64 y] w fun e w' => e = .returned (.int .i64 (y / 2)) ∧ w = w' := by
  obtain ⟨h1, h2⟩ := hy
  by_cases h0 : y < 0
  · rcases Int.emod_two_eq y with h | h
    · have e1 : y / 2 = y.tdiv 2 := by rw [tdiv_neg_two y (by omega)]; omega
      rw [e1]
      have C := Lib.hide (odd_any y w false (by simp [h]))
      clear h e1
      go_enter Try.func43, Try.ntmps43
      go_wp2_with (go_at_call 41; refine C.out.mono ?_; rintro e w' ⟨rfl, rfl⟩)
      go_ret
      exact ⟨rfl, rfl⟩
    · have e1 : y / 2 = (y - 1).tdiv 2 := by rw [tdiv_neg_two (y - 1) (by omega)]; omega
      rw [e1]
      have C := Lib.hide (odd_any y w true (by simp [h]))
      have hlow : -9223372036854775807 ≤ y := by omega
      clear h e1
      go_enter Try.func43, Try.ntmps43
      go_wp2_with (go_at_call 41; refine C.out.mono ?_; rintro e w' ⟨rfl, rfl⟩)
      go_ret
      exact ⟨rfl, rfl⟩
  · go_enter Try.func43, Try.ntmps43
    go_wp2
    go_ret
    exact ⟨rfl, rfl⟩

set_option maxHeartbeats 400000 in
theorem has_any (a : Option Addr) (n cap : Nat) (zs : List Int) (x : Int) (w : World) (hi : Ints w a zs) (hz : zs.length = n) (hn : n ≤ 281474976710656) (r : Bool) (hr : decide (x ∈ zs) = r) :
    Calls Try.prog 42 #[.slice a n cap, .int .i64 x] w fun e w' => e = .returned (.bool r) ∧ w = w' := by
  have HI := Lib.hide hi
  have HZ := Lib.hide hz
  have HR := Lib.hide hr
  clear hi hz hr
  go_enter Try.func42, Try.ntmps42
  go_wp2
  go_loop [5] (fun u => ∃ i : Nat, i ≤ n ∧ u = .int .i64 i ∧ ∀ k, k < i → zs.getD k 0 ≠ x) (fun u => n - (intOf u).toNat)
  case atStart => exact ⟨0, Nat.zero_le _, rfl, fun k hk => absurd hk (Nat.not_lt_zero _)⟩
  case round =>
    obtain ⟨i, hin, rfl, hlo⟩ := hrel
    have HLO := Lib.hide hlo
    clear hlo
    by_cases hlt : i < n
    · obtain ⟨b, o, rfl, hb, hc⟩ := HI.out.at (by rw [HZ.out]; omega)
      have e1 := hc i (by rw [HZ.out]; omega)
      clear hc
      obtain ⟨y, hy⟩ : ∃ y, zs.getD i 0 = y := ⟨_, rfl⟩
      rw [hy] at e1
      have HY := Lib.hide hy
      clear hy
      by_cases hyx : y = x
      · have hd : (y == x) = true := by simpa using hyx
        have hm : r = true := by rw [← HR.out]; exact decide_eq_true (mem_at.2 ⟨i, by rw [HZ.out]; exact hlt, HY.out.trans hyx⟩)
        subst hm
        clear hyx
        go_wp2
        go_ret
        exact ⟨rfl, rfl⟩
      · have hd : (y == x) = false := by simpa using hyx
        have HYX := Lib.hide hyx
        clear hyx
        go_wp2
        go_round
        case rel =>
          refine ⟨i + 1, by omega, by go_num, fun k hk => ?_⟩
          rcases Nat.lt_or_ge k i with h | h
          · exact HLO.out k h
          · obtain rfl : k = i := by omega
            rw [HY.out]; exact HYX.out
        case measure => simp [intOf]; omega
    · have hm : r = false := by
        rw [← HR.out, decide_eq_false_iff_not, mem_at]
        rintro ⟨k, hk, hkx⟩
        rw [HZ.out] at hk
        exact HLO.out k (by omega) hkx
      subst hm
      go_wp2
      go_ret
      exact ⟨rfl, rfl⟩

theorem quiet_left {P : Program} {f : FuncId} {args : Array Value} {w : World} {n : Nat} {v : Value}
    (h : Calls P f args (w.drewN n) fun e w' => e = .returned v ∧ w.drewN n = w') : Calls P f args (w.drewN n) fun e w'' => e = .returned v ∧ ∃ m, w'' = w.drewN m :=
  h.mono fun _ _ ⟨he, hm⟩ => ⟨he, n, hm.symm⟩

/-- What holds at the head of placesOf's loop (w: the world behind the box of its argument). -/
def PlacesRel (w : World) (B : Nat) (xs : List Int) (t : Nat) (v : Value) (i : Value) (wr : World) : Prop :=
  ∃ (out : List Nat) (p : Nat), 1 ≤ p ∧ p ≤ t ∧ out.length ≤ p ∧ i = .int .i64 p ∧ Own wr B v (nums out) ∧ Below B w wr ∧ Lw.objs xs t 1 = (Lw.objs xs t p).map (out ++ ·)

/-- What placesOf hands back. -/
def PlacesOfEnd (w : World) (xs : List Int) (t : Nat) (e : Ending) (w' : World) : Prop :=
  (∃ l, Lw.objs xs t 1 = some l ∧ WalkPost w l e w') ∨ (Lw.objs xs t 1 = none ∧ e = .returned (.tuple #[.slice none 0 0, .bool false]) ∧ Below w.heap.size w w')

set_option maxHeartbeats 1600000 in
open Lw in
theorem placesOf_any (a : Option Addr) (n cap : Nat) (xs : List Int) (t : Nat) (w : World) (hi : Ints w a xs) (hx : xs.length = n) (hn : n ≤ 400) (h1 : 1 ≤ t) (ht : t ≤ n) :
    Calls Try.prog 40 #[.agg #[.slice a n cap, .int .i64 t]] w (PlacesOfEnd w xs t) := by
  obtain ⟨i0, hi0, hz0, hz1, hz2⟩ := info_parts Try.intInfo
  have HI := Lib.hide hi
  have HX := Lib.hide hx
  clear hi hx
  go_enter Try.func40, Try.ntmps40
  go_wp2
  go_loopw [4, 5] (fun v i wr => PlacesRel (w.alloc (.cells #[.slice a n cap, .int .i64 t] 24)) (w.heap.size + 1) xs t v i wr) (fun _ i _ => t - (intOf i).toNat)
  case atStart => exact ⟨[], 1, Nat.le_refl _, h1, by simp, rfl, World.ownsRow_nil _ _ _ _, Below.refl _ _, by simp⟩
  case round =>
    obtain ⟨out, p, hp1, hpt, hol, rfl, hown, hbel, hobj⟩ := hrel
    have hbw : Below w.heap.size w wr := Below.trans (b := w.alloc (.cells #[.slice a n cap, .int .i64 t] 24)) (by repeat (first | exact Below.refl _ _ | assumption | refine Below.drew ?_ | refine below_drewN ?_ _ | refine Below.allocs ?_ | refine Below.next ?_ (by assumption) | refine Below.setCell ?_ (by dsimp only; omega) _)) (hbel.mono (by simp))
    have b0 : wr.cell? ⟨w.heap.size, 0, none⟩ = some (.slice a n cap) := by rw [hbel.cell (p := ⟨w.heap.size, 0, none⟩) (by simp)]; go_simp
    have b1 : wr.cell? ⟨w.heap.size, 1, none⟩ = some (.int .i64 t) := by rw [hbel.cell (p := ⟨w.heap.size, 1, none⟩) (by simp)]; go_simp
    have HOWN := Lib.hide hown
    have HOBJ := Lib.hide hobj
    clear hown hobj
    by_cases hlt : p < t
    · by_cases hp2 : p + 2 ≤ t
      · obtain ⟨b, o, rfl, hb, hc⟩ := (HI.out.below hbw).at (by rw [HX.out]; omega)
        have e1 := hc (p + 1) (by rw [HX.out]; omega)
        clear hc
        obtain ⟨f, hf⟩ : ∃ f, xs.getD (p + 1) 0 = f := ⟨_, rfl⟩
        rw [hf] at e1
        have HFF := Lib.hide hf
        clear hf
        have hd1 : decide ((t : Int) < (p : Int) + 2) = false := by simp; omega
        by_cases hf6 : 0 ≤ f ∧ f ≤ 6
        · obtain ⟨f1, f2⟩ := hf6
          by_cases hfit : (p : Int) + 2 + f ≤ t
          · have hfp : Fit xs t p := ⟨hp2, by rw [HFF.out]; exact f1, by rw [HFF.out]; exact f2, by rw [HFF.out]; omega⟩
            have HFP := Lib.hide hfp
            clear hfp
            have hd2 : decide ((t : Int) < (p : Int) + 2 + f) = false := by simp; omega
            have hle : w.heap.size + 1 ≤ wr.heap.size := by have := hbel.size; simp at this; omega
            go_wp2
            go_quiet ((go_at_call 39; exact quiet_left (in_yes _ _ _ _ f1 f2)))
            go_wp2_with (at_builtin; refine wpList_append_own _ rfl (.tmp 39) (.tmp 41) 22 rfl (w.heap.size + 1) 3 i0 (.int .i64 0) 1 8 Try.underlying22 hi0 hz0 hz1 hz2 rfl (by decide) u4 (nums out).length _ rfl (World.ownsRow.alloc (w := wr.drewN nq) (HOWN.out.below (by repeat (first | exact Below.refl _ _ | assumption | refine Below.drew ?_ | refine below_drewN ?_ _ | refine Below.allocs ?_ | refine Below.next ?_ (by assumption) | refine Below.setCell ?_ (by dsimp only; omega) _))) _) ⟨wr.heap.size, 0, none⟩ 1 1 [.int .i64 p] rfl rfl (cell_one_new _ _ _) ?c2 ?c3 ?c4 ?c5 ?_)
            case c2 => intro u hu; simp at hu; subst hu; rfl
            case c3 => rw [nums_length]; unfold maxLen; omega
            case c4 => rw [nums_length]; omega
            case c5 => simp; omega
            intro v' w3 hown3 hg3 _
            obtain ⟨hbel3, hown4⟩ := append_step hbel hle (w2 := wr.drewN nq) (by repeat (first | exact Below.refl _ _ | assumption | refine Below.drew ?_ | refine below_drewN ?_ _ | refine Below.allocs ?_ | refine Below.next ?_ (by assumption) | refine Below.setCell ?_ (by dsimp only; omega) _)) HOWN.out hown3 hg3
            have d0 : w3.cell? ⟨w.heap.size, 0, none⟩ = some (.slice (some ⟨b, o, none⟩) n cap) := by rw [hbel3.cell (p := ⟨w.heap.size, 0, none⟩) (by simp)]; go_simp
            have hbw3 : Below w.heap.size w w3 := Below.trans (b := w.alloc (.cells #[.slice (some ⟨b, o, none⟩) n cap, .int .i64 t] 24)) (by repeat (first | exact Below.refl _ _ | assumption | refine Below.drew ?_ | refine below_drewN ?_ _ | refine Below.allocs ?_ | refine Below.next ?_ (by assumption) | refine Below.setCell ?_ (by dsimp only; omega) _)) (hbel3.mono (by simp))
            obtain ⟨b', o', he, hb3, hc3⟩ := (HI.out.below hbw3).at (by rw [HX.out]; omega)
            have e3 : w3.cell? ⟨b, o + (p + 1), none⟩ = some (.int .i64 f) := by
              injection he with he
              injection he with he1 he2
              subst he1
              subst he2
              rw [hc3 (p + 1) (by rw [HX.out]; omega), HFF.out]
            have hnx : Hid (nextOf xs p = p + 2 + f.toNat) := by unfold nextOf; rw [HFF.out]; exact rfl
            have HOWN4 := Lib.hide hown4
            clear hown4 hown3 hg3 hc3 HOWN b0 b1 e1 he hb3
            go_wp2
            go_roundw
            case rel =>
              refine ⟨out ++ [p], p + 2 + f.toNat, by omega, by omega, by simp; omega, congrArg (Value.int .i64) (by omega), ?_, hbel3, ?_⟩
              · unfold nums; rw [List.map_append]; exact HOWN4.out
              · have := objs_snoc HOBJ.out hlt HFP.out
                rw [hnx.out] at this
                exact this
            case measure => simp [intOf]; omega
          · have hno : objs xs t 1 = none := by
              rw [HOBJ.out, objs_none hlt (fun h => hfit (by have h4 := h.2.2.2; rw [HFF.out] at h4; omega))]
              rfl
            have HNO := Lib.hide hno
            clear hno
            have hd2 : decide ((t : Int) < (p : Int) + 2 + f) = true := by simp; omega
            go_wp2
            go_quiet ((go_at_call 39; exact quiet_left (in_yes _ _ _ _ f1 f2)))
            go_wp2
            go_ret2
            exact .inr ⟨HNO.out, rfl, (by repeat (first | exact Below.refl _ _ | assumption | refine Below.drew ?_ | refine below_drewN ?_ _ | refine Below.allocs ?_ | refine Below.next ?_ (by assumption) | refine Below.setCell ?_ (by dsimp only; omega) _))⟩
        · have hno : objs xs t 1 = none := by
            rw [HOBJ.out, objs_none hlt (fun h => hf6 ⟨by rw [← HFF.out]; exact h.2.1, by rw [← HFF.out]; exact h.2.2.1⟩)]
            rfl
          have HNO := Lib.hide hno
          have HF6 := Lib.hide hf6
          clear hno hf6
          go_wp2
          go_quiet ((go_at_call 39; exact quiet_left (in_no _ _ _ _ HF6.out)))
          go_wp2
          go_ret2
          exact .inr ⟨HNO.out, rfl, (by repeat (first | exact Below.refl _ _ | assumption | refine Below.drew ?_ | refine below_drewN ?_ _ | refine Below.allocs ?_ | refine Below.next ?_ (by assumption) | refine Below.setCell ?_ (by dsimp only; omega) _))⟩
      · have hno : objs xs t 1 = none := by
          rw [HOBJ.out, objs_none hlt (fun h => hp2 h.1)]
          rfl
        have HNO := Lib.hide hno
        clear hno
        have hd1 : decide ((t : Int) < (p : Int) + 2) = true := by simp; omega
        go_wp2
        go_quiet (fail)
        go_wp2
        go_ret2
        exact .inr ⟨HNO.out, rfl, (by repeat (first | exact Below.refl _ _ | assumption | refine Below.drew ?_ | refine below_drewN ?_ _ | refine Below.allocs ?_ | refine Below.next ?_ (by assumption) | refine Below.setCell ?_ (by dsimp only; omega) _))⟩
    · obtain rfl : p = t := by omega
      have hall : objs xs p 1 = some out := by rw [HOBJ.out, objs_end (Nat.le_refl _)]; simp
      have HA := Lib.hide hall
      clear hall
      go_wp2
      go_ret2
      obtain ⟨a', c', hv, _⟩ := HOWN.out.ints
      rw [nums_length] at hv
      have HV := Lib.hide hv
      clear hv
      refine .inl ⟨out, HA.out, a', c', ?_, ?_, (by repeat (first | exact Below.refl _ _ | assumption | refine Below.drew ?_ | refine below_drewN ?_ _ | refine Below.allocs ?_ | refine Below.next ?_ (by assumption) | refine Below.setCell ?_ (by dsimp only; omega) _))⟩
      · rw [← HV.out]; rfl
      · rw [← HV.out]; exact ownsRow_base HOWN.out (by simp)
end Go.Proofs.Ytpdcaoagpjcgbaa
