/-
  The walks of the small functions of package stm: states of objects, and what is checked of an act first. They prove no statement by themselves.
-/
import Derived.Test.YtpdcaoagpjcgbabStmA
set_option linter.unusedVariables false
set_option linter.unusedSimpArgs false
namespace Go.Proofs.Ytpdcaoagpjcgbab
open Go.RowKit Stm

theorem freeState_any (v : Int) (w : World) (h0 : 0 ≤ v) (h1 : v ≤ 2000000) : Calls Try.prog 111 #[.int .i64 v] w fun e w' => e = .returned (.int .i64 (2 * v)) ∧ w = w' := by
  go_enter Try.func111, Try.ntmps111
  go_wp2
  go_ret
  exact ⟨rfl, rfl⟩
theorem ownedState_any (t : Nat) (w : World) (h1 : t < 4) : Calls Try.prog 122 #[.int .i64 t] w fun e w' => e = .returned (.int .i64 (2 * (t : Int) + 1)) ∧ w = w' := by
  go_enter Try.func122, Try.ntmps122
  go_wp2
  go_ret
  exact ⟨rfl, rfl⟩
theorem isOwned_any (v : Int) (w : World) (h0 : 0 ≤ v) (h1 : v ≤ 1000000) (b : Bool) (hb : b = true ↔ v % 2 = 1) : Calls Try.prog 127 #[.int .i64 v] w fun e w' => e = .returned (.bool b) ∧ w = w' := by
  have e1 : v.tmod 2 = v % 2 := by rw [Int.tmod_eq_emod_of_nonneg h0]
  have HB := Lib.hide hb
  clear hb
  go_enter Try.func127, Try.ntmps127
  go_wp2
  go_ret
  have hq : (v % 2 == 1) = b := by
    rw [Bool.eq_iff_iff, HB.out]
    simp
  exact ⟨congrArg (fun x => Ending.returned (.bool x)) hq, rfl⟩
theorem isThread_any (x : Int) (w : World) (b : Bool) (hb : b = true ↔ In4 x) : Calls Try.prog 105 #[.int .i64 x] w fun e w' => e = .returned (.bool b) ∧ w = w' := by
  unfold In4 at hb
  by_cases h1 : 0 ≤ x
  · by_cases h2 : x < 4
    · obtain rfl : b = true := hb.2 ⟨h1, h2⟩
      clear hb
      go_enter Try.func105, Try.ntmps105
      go_wp2
      go_ret
      exact ⟨rfl, rfl⟩
    · obtain rfl : b = false := by cases b; rfl; exact absurd (hb.1 rfl).2 h2
      clear hb
      go_enter Try.func105, Try.ntmps105
      go_wp2
      go_ret
      exact ⟨rfl, rfl⟩
  · obtain rfl : b = false := by cases b; rfl; exact absurd (hb.1 rfl).1 h1
    clear hb
    go_enter Try.func105, Try.ntmps105
    go_wp2
    go_ret
    exact ⟨rfl, rfl⟩
theorem isRegister_any (x : Int) (w : World) (b : Bool) (hb : b = true ↔ In4 x) : Calls Try.prog 107 #[.int .i64 x] w fun e w' => e = .returned (.bool b) ∧ w = w' := by
  unfold In4 at hb
  by_cases h1 : 0 ≤ x
  · by_cases h2 : x < 4
    · obtain rfl : b = true := hb.2 ⟨h1, h2⟩
      clear hb
      go_enter Try.func107, Try.ntmps107
      go_wp2
      go_ret
      exact ⟨rfl, rfl⟩
    · obtain rfl : b = false := by cases b; rfl; exact absurd (hb.1 rfl).2 h2
      clear hb
      go_enter Try.func107, Try.ntmps107
      go_wp2
      go_ret
      exact ⟨rfl, rfl⟩
  · obtain rfl : b = false := by cases b; rfl; exact absurd (hb.1 rfl).1 h1
    clear hb
    go_enter Try.func107, Try.ntmps107
    go_wp2
    go_ret
    exact ⟨rfl, rfl⟩

theorem usesThread_any (x : Int) (w : World) (b : Bool) (h1 : 1 ≤ x) (h2 : x ≤ 12) (hb : b = true ↔ x ≤ 9) : Calls Try.prog 104 #[.int .i64 x] w fun e w' => e = .returned (.bool b) ∧ w = w' := by
  by_cases h : x ≤ 9
  · obtain rfl : b = true := hb.2 h
    clear hb
    have hq : (x != 10 && x != 11 && x != 12) = true := by simp; omega
    have HQ := Lib.hide hq
    clear hq
    go_enter Try.func104, Try.ntmps104
    go_wp2
    go_ret
    exact ⟨congrArg (fun x => Ending.returned (.bool x)) HQ.out, rfl⟩
  · obtain rfl : b = false := by cases b; rfl; exact absurd (hb.1 rfl) h
    clear hb
    rcases (show x = 10 ∨ x = 11 ∨ x = 12 by omega) with rfl | rfl | rfl
    all_goals
      go_enter Try.func104, Try.ntmps104
      go_wp2
      go_ret
      exact ⟨rfl, rfl⟩

theorem usesB_any (x : Int) (w : World) (b : Bool) (hb : b = true ↔ usesB x) : Calls Try.prog 108 #[.int .i64 x] w fun e w' => e = .returned (.bool b) ∧ w = w' := by
  by_cases h : usesB x
  · obtain rfl : b = true := hb.2 h
    clear hb
    rcases h with rfl | rfl | rfl | rfl
    all_goals
      go_enter Try.func108, Try.ntmps108
      go_wp2
      go_ret
      exact ⟨rfl, rfl⟩
  · obtain rfl : b = false := by cases b; rfl; exact absurd (hb.1 rfl) h
    clear hb
    unfold usesB at h
    have h5 : (x == 5) = false := by simp; omega
    have h6 : (x == 6) = false := by simp; omega
    have h8 : (x == 8) = false := by simp; omega
    have h9 : (x == 9) = false := by simp; omega
    clear h
    go_enter Try.func108, Try.ntmps108
    go_wp2
    go_ret
    exact ⟨rfl, rfl⟩

theorem usesA_any (x : Int) (w : World) (b : Bool) (hb : b = true ↔ usesA x) : Calls Try.prog 106 #[.int .i64 x] w fun e w' => e = .returned (.bool b) ∧ w = w' := by
  unfold usesA at hb
  by_cases h4 : x = 4
  · subst h4
    obtain rfl : b = true := hb.2 (.inl rfl)
    clear hb
    go_enter Try.func106, Try.ntmps106
    go_wp2
    go_ret
    exact ⟨rfl, rfl⟩
  by_cases h7 : x = 7
  · subst h7
    obtain rfl : b = true := hb.2 (.inr (.inl rfl))
    clear hb
    go_enter Try.func106, Try.ntmps106
    go_wp2
    go_ret
    exact ⟨rfl, rfl⟩
  have hb2 : b = true ↔ usesB x := hb.trans ⟨fun h => (h.resolve_left h4).resolve_left h7, fun h => .inr (.inr h)⟩
  have HB := Lib.hide hb2
  clear hb hb2
  have e4 : (x == 4) = false := by simp; omega
  have e7 : (x == 7) = false := by simp; omega
  clear h4 h7
  go_enter Try.func106, Try.ntmps106
  go_wp2_with (go_at_call 108; refine (usesB_any x _ b HB.out).mono ?_; rintro e w' ⟨rfl, rfl⟩)
  go_ret
  exact ⟨rfl, rfl⟩

theorem tiff {p : Prop} (h : p) : true = true ↔ p := ⟨fun _ => h, fun _ => rfl⟩
theorem fiff {p : Prop} (h : ¬ p) : false = true ↔ p := ⟨fun e => (by cases e), fun hp => absurd hp h⟩
theorem bfalse {b : Bool} {p : Prop} (h : b = true ↔ p) (hp : ¬ p) : b = false := by
  cases b
  · rfl
  · exact absurd (h.1 rfl) hp

set_option maxHeartbeats 1600000 in
set_option maxRecDepth 100000 in
theorem firstError_any (a : Stm.Act) (w : World) : Calls Try.prog 84 #[.agg #[.int .i64 a.kind, .int .i64 a.t, .int .i64 a.a, .int .i64 a.b, .int .i64 a.n]] w fun e w' => e = .returned (.int .i64 (firstErr a)) ∧ Below w.heap.size w w' := by
  obtain ⟨k, t, A, B, n⟩ := a
  unfold firstErr
  dsimp only
  by_cases h1 : k < 1
  · rw [if_pos (.inl h1)]
    go_enter Try.func84, Try.ntmps84
    go_wp2
    go_ret
    exact ⟨rfl, (by repeat (first | exact Below.refl _ _ | assumption | refine Below.drew ?_ | refine below_drewN ?_ _ | refine Below.allocs ?_ | refine Below.next ?_ (by assumption) | refine Below.setCell ?_ (by dsimp only; omega) _))⟩
  by_cases h2 : 12 < k
  · rw [if_pos (.inr h2)]
    go_enter Try.func84, Try.ntmps84
    go_wp2
    go_ret
    exact ⟨rfl, (by repeat (first | exact Below.refl _ _ | assumption | refine Below.drew ?_ | refine below_drewN ?_ _ | refine Below.allocs ?_ | refine Below.next ?_ (by assumption) | refine Below.setCell ?_ (by dsimp only; omega) _))⟩
  rw [if_neg (by omega)]
  by_cases p1 : k ≤ 9
  · have P1 := Lib.hide p1
    by_cases p2 : In4 t
    · have P2 := Lib.hide p2
      by_cases p3 : usesA k
      · have P3 := Lib.hide p3
        by_cases p4 : In4 A
        · have P4 := Lib.hide p4
          by_cases p5 : usesB k
          · have P5 := Lib.hide p5
            by_cases p6 : In4 B
            · have P6 := Lib.hide p6
              by_cases p7 : k = 8
              · by_cases p8 : In4 n
                · have P8 := Lib.hide p8
                  rw [if_neg (by simp [p2, p4, p6, p8])]
                  clear p1 p2 p3 p4 p5 p6 p8
                  subst p7
                  go_enter Try.func84, Try.ntmps84
                  go_wp2_with (first
                      | (go_at_call 104; refine (usesThread_any 8 _ true (by omega) (by omega) (tiff P1.out)).mono ?_; rintro e w' ⟨rfl, rfl⟩)
                      | (go_at_call 105; with_reducible refine (isThread_any t _ true (tiff P2.out)).mono ?_; rintro e w' ⟨rfl, rfl⟩)
                      | (go_at_call 106; refine (usesA_any 8 _ true (tiff P3.out)).mono ?_; rintro e w' ⟨rfl, rfl⟩)
                      | (go_at_call 107; with_reducible refine (isRegister_any A _ true (tiff P4.out)).mono ?_; rintro e w' ⟨rfl, rfl⟩)
                      | (go_at_call 108; refine (usesB_any 8 _ true (tiff P5.out)).mono ?_; rintro e w' ⟨rfl, rfl⟩)
                      | (go_at_call 107; with_reducible refine (isRegister_any B _ true (tiff P6.out)).mono ?_; rintro e w' ⟨rfl, rfl⟩)
                      | (go_at_call 105; with_reducible refine (isThread_any n _ true (tiff P8.out)).mono ?_; rintro e w' ⟨rfl, rfl⟩)
                      | go_in)
                  go_ret
                  exact ⟨rfl, (by repeat (first | exact Below.refl _ _ | assumption | refine Below.drew ?_ | refine below_drewN ?_ _ | refine Below.allocs ?_ | refine Below.next ?_ (by assumption) | refine Below.setCell ?_ (by dsimp only; omega) _))⟩
                · have P8 := Lib.hide p8
                  rw [if_pos (by simp [p7, p8])]
                  clear p1 p2 p3 p4 p5 p6 p8
                  subst p7
                  go_enter Try.func84, Try.ntmps84
                  go_wp2_with (first
                      | (go_at_call 104; refine (usesThread_any 8 _ true (by omega) (by omega) (tiff P1.out)).mono ?_; rintro e w' ⟨rfl, rfl⟩)
                      | (go_at_call 105; with_reducible refine (isThread_any t _ true (tiff P2.out)).mono ?_; rintro e w' ⟨rfl, rfl⟩)
                      | (go_at_call 106; refine (usesA_any 8 _ true (tiff P3.out)).mono ?_; rintro e w' ⟨rfl, rfl⟩)
                      | (go_at_call 107; with_reducible refine (isRegister_any A _ true (tiff P4.out)).mono ?_; rintro e w' ⟨rfl, rfl⟩)
                      | (go_at_call 108; refine (usesB_any 8 _ true (tiff P5.out)).mono ?_; rintro e w' ⟨rfl, rfl⟩)
                      | (go_at_call 107; with_reducible refine (isRegister_any B _ true (tiff P6.out)).mono ?_; rintro e w' ⟨rfl, rfl⟩)
                      | (go_at_call 105; with_reducible refine (isThread_any n _ false (fiff P8.out)).mono ?_; rintro e w' ⟨rfl, rfl⟩)
                      | go_in)
                  go_ret
                  exact ⟨rfl, (by repeat (first | exact Below.refl _ _ | assumption | refine Below.drew ?_ | refine below_drewN ?_ _ | refine Below.allocs ?_ | refine Below.next ?_ (by assumption) | refine Below.setCell ?_ (by dsimp only; omega) _))⟩
              · rw [if_neg (by simp [p2, p4, p6, p7])]
                clear p1 p2 p3 p4 p5 p6
                go_enter Try.func84, Try.ntmps84
                go_wp2_with (first
                    | (go_at_call 104; refine (usesThread_any k _ true (by omega) (by omega) (tiff P1.out)).mono ?_; rintro e w' ⟨rfl, rfl⟩)
                    | (go_at_call 105; with_reducible refine (isThread_any t _ true (tiff P2.out)).mono ?_; rintro e w' ⟨rfl, rfl⟩)
                    | (go_at_call 106; refine (usesA_any k _ true (tiff P3.out)).mono ?_; rintro e w' ⟨rfl, rfl⟩)
                    | (go_at_call 107; with_reducible refine (isRegister_any A _ true (tiff P4.out)).mono ?_; rintro e w' ⟨rfl, rfl⟩)
                    | (go_at_call 108; refine (usesB_any k _ true (tiff P5.out)).mono ?_; rintro e w' ⟨rfl, rfl⟩)
                    | (go_at_call 107; with_reducible refine (isRegister_any B _ true (tiff P6.out)).mono ?_; rintro e w' ⟨rfl, rfl⟩)
                    | go_in)
                go_ret
                exact ⟨rfl, (by repeat (first | exact Below.refl _ _ | assumption | refine Below.drew ?_ | refine below_drewN ?_ _ | refine Below.allocs ?_ | refine Below.next ?_ (by assumption) | refine Below.setCell ?_ (by dsimp only; omega) _))⟩
            · have P6 := Lib.hide p6
              rw [if_pos (by simp [p5, p6])]
              clear p1 p2 p3 p4 p5 p6
              go_enter Try.func84, Try.ntmps84
              go_wp2_with (first
                  | (go_at_call 104; refine (usesThread_any k _ true (by omega) (by omega) (tiff P1.out)).mono ?_; rintro e w' ⟨rfl, rfl⟩)
                  | (go_at_call 105; with_reducible refine (isThread_any t _ true (tiff P2.out)).mono ?_; rintro e w' ⟨rfl, rfl⟩)
                  | (go_at_call 106; refine (usesA_any k _ true (tiff P3.out)).mono ?_; rintro e w' ⟨rfl, rfl⟩)
                  | (go_at_call 107; with_reducible refine (isRegister_any A _ true (tiff P4.out)).mono ?_; rintro e w' ⟨rfl, rfl⟩)
                  | (go_at_call 108; refine (usesB_any k _ true (tiff P5.out)).mono ?_; rintro e w' ⟨rfl, rfl⟩)
                  | (go_at_call 107; with_reducible refine (isRegister_any B _ false (fiff P6.out)).mono ?_; rintro e w' ⟨rfl, rfl⟩)
                  | go_in)
              go_ret
              exact ⟨rfl, (by repeat (first | exact Below.refl _ _ | assumption | refine Below.drew ?_ | refine below_drewN ?_ _ | refine Below.allocs ?_ | refine Below.next ?_ (by assumption) | refine Below.setCell ?_ (by dsimp only; omega) _))⟩
          · have P5 := Lib.hide p5
            have p7 : k ≠ 8 := fun e => p5 (by unfold usesB; omega)
            rw [if_neg (by simp [p2, p4, p5, p7])]
            clear p1 p2 p3 p4 p5
            go_enter Try.func84, Try.ntmps84
            go_wp2_with (first
                | (go_at_call 104; refine (usesThread_any k _ true (by omega) (by omega) (tiff P1.out)).mono ?_; rintro e w' ⟨rfl, rfl⟩)
                | (go_at_call 105; with_reducible refine (isThread_any t _ true (tiff P2.out)).mono ?_; rintro e w' ⟨rfl, rfl⟩)
                | (go_at_call 106; refine (usesA_any k _ true (tiff P3.out)).mono ?_; rintro e w' ⟨rfl, rfl⟩)
                | (go_at_call 107; with_reducible refine (isRegister_any A _ true (tiff P4.out)).mono ?_; rintro e w' ⟨rfl, rfl⟩)
                | (go_at_call 108; refine (usesB_any k _ false (fiff P5.out)).mono ?_; rintro e w' ⟨rfl, rfl⟩)
                | go_in)
            go_ret
            exact ⟨rfl, (by repeat (first | exact Below.refl _ _ | assumption | refine Below.drew ?_ | refine below_drewN ?_ _ | refine Below.allocs ?_ | refine Below.next ?_ (by assumption) | refine Below.setCell ?_ (by dsimp only; omega) _))⟩
        · have P4 := Lib.hide p4
          rw [if_pos (by simp [p3, p4])]
          clear p1 p2 p3 p4
          go_enter Try.func84, Try.ntmps84
          go_wp2_with (first
              | (go_at_call 104; refine (usesThread_any k _ true (by omega) (by omega) (tiff P1.out)).mono ?_; rintro e w' ⟨rfl, rfl⟩)
              | (go_at_call 105; with_reducible refine (isThread_any t _ true (tiff P2.out)).mono ?_; rintro e w' ⟨rfl, rfl⟩)
              | (go_at_call 106; refine (usesA_any k _ true (tiff P3.out)).mono ?_; rintro e w' ⟨rfl, rfl⟩)
              | (go_at_call 107; with_reducible refine (isRegister_any A _ false (fiff P4.out)).mono ?_; rintro e w' ⟨rfl, rfl⟩)
              | go_in)
          go_ret
          exact ⟨rfl, (by repeat (first | exact Below.refl _ _ | assumption | refine Below.drew ?_ | refine below_drewN ?_ _ | refine Below.allocs ?_ | refine Below.next ?_ (by assumption) | refine Below.setCell ?_ (by dsimp only; omega) _))⟩
      · have P3 := Lib.hide p3
        have p5 : ¬ usesB k := fun e => p3 (.inr (.inr e))
        have P5 := Lib.hide p5
        have p7 : k ≠ 8 := fun e => p5 (by unfold usesB; omega)
        rw [if_neg (by simp [p2, p3, p5, p7])]
        clear p1 p2 p3 p5
        go_enter Try.func84, Try.ntmps84
        go_wp2_with (first
            | (go_at_call 104; refine (usesThread_any k _ true (by omega) (by omega) (tiff P1.out)).mono ?_; rintro e w' ⟨rfl, rfl⟩)
            | (go_at_call 105; with_reducible refine (isThread_any t _ true (tiff P2.out)).mono ?_; rintro e w' ⟨rfl, rfl⟩)
            | (go_at_call 106; refine (usesA_any k _ false (fiff P3.out)).mono ?_; rintro e w' ⟨rfl, rfl⟩)
            | (go_at_call 108; refine (usesB_any k _ false (fiff P5.out)).mono ?_; rintro e w' ⟨rfl, rfl⟩)
            | go_in)
        go_ret
        exact ⟨rfl, (by repeat (first | exact Below.refl _ _ | assumption | refine Below.drew ?_ | refine below_drewN ?_ _ | refine Below.allocs ?_ | refine Below.next ?_ (by assumption) | refine Below.setCell ?_ (by dsimp only; omega) _))⟩
    · have P2 := Lib.hide p2
      rw [if_pos (.inl ⟨p1, p2⟩)]
      clear p1 p2
      go_enter Try.func84, Try.ntmps84
      go_wp2_with (first
          | (go_at_call 104; refine (usesThread_any k _ true (by omega) (by omega) (tiff P1.out)).mono ?_; rintro e w' ⟨rfl, rfl⟩)
          | (go_at_call 105; with_reducible refine (isThread_any t _ false (fiff P2.out)).mono ?_; rintro e w' ⟨rfl, rfl⟩)
          | go_in)
      go_ret
      exact ⟨rfl, (by repeat (first | exact Below.refl _ _ | assumption | refine Below.drew ?_ | refine below_drewN ?_ _ | refine Below.allocs ?_ | refine Below.next ?_ (by assumption) | refine Below.setCell ?_ (by dsimp only; omega) _))⟩
  · have P1 := Lib.hide p1
    have p5 : ¬ usesB k := fun e => p1 (by unfold usesB at e; omega)
    have P5 := Lib.hide p5
    have p3 : ¬ usesA k := fun e => p1 (by unfold usesA usesB at e; omega)
    have P3 := Lib.hide p3
    have p7 : k ≠ 8 := by omega
    rw [if_neg (by simp [p1, p3, p5, p7])]
    clear p3 p5
    go_enter Try.func84, Try.ntmps84
    go_wp2_with (first
        | (go_at_call 104; refine (usesThread_any k _ false (by omega) (by omega) (fiff P1.out)).mono ?_; rintro e w' ⟨rfl, rfl⟩)
        | (go_at_call 106; refine (usesA_any k _ false (fiff P3.out)).mono ?_; rintro e w' ⟨rfl, rfl⟩)
        | (go_at_call 108; refine (usesB_any k _ false (fiff P5.out)).mono ?_; rintro e w' ⟨rfl, rfl⟩)
        | go_in)
    go_ret
    exact ⟨rfl, (by repeat (first | exact Below.refl _ _ | assumption | refine Below.drew ?_ | refine below_drewN ?_ _ | refine Below.allocs ?_ | refine Below.next ?_ (by assumption) | refine Below.setCell ?_ (by dsimp only; omega) _))⟩
end Go.Proofs.Ytpdcaoagpjcgbab

/-
  The walks of otherOwns and version of package stm. They prove no statement by themselves.
-/
namespace Go.Proofs.Ytpdcaoagpjcgbab
open Go.RowKit Stm

set_option maxRecDepth 100000 in
theorem Try.zeroOrig (w : World) : (zeroValue 156).run Try.prog w = .ok (.agg #[.int .i64 0, .slice none 0 0]) w := by rfl

/-- The words' own row. -/
theorem Mach.row {w : World} {B mb k : Nat} {ρ : Roles} {c : Mc} {m : Mem} (h : Mach w B mb k ρ c m) (h0 : 0 < c.xs.length) : ∃ g, m.wa = some ⟨g, 0, none⟩ ∧ B ≤ g ∧ g < w.heap.size ∧ ρ g = some (1, 0, 0) ∧ c.xs.length ≤ m.wcap ∧ m.wcap ≤ 9223372036854775807 ∧ (∀ i, i < c.xs.length → w.cell? ⟨g, i, none⟩ = some (.int .i64 (c.xs.getD i 0))) ∧ ∀ i, w.frozen? ⟨g, i, none⟩ = false := by
  obtain ⟨g, e, h1, h2, h3, h4⟩ := h.words.row h0
  refine ⟨g, e, h1, h2, h.rwords g (by rw [e]; rfl), ?_, ?_, h3, h4⟩
  all_goals
    rcases h.words.2 with ⟨e1, h5⟩ | ⟨g', cap, cur, e1, _, _, h5, h6, _⟩
    · omega
    · injection e1 with _ _ e3
      unfold maxLen at h6
      omega

set_option maxHeartbeats 800000 in
theorem otherOwns_any (B mb k : Nat) (ρ : Roles) (c : Mc) (m : Mem) (t p : Nat) (w : World) (h : Mach w B mb k ρ c m) (ht : t < 4) (hp : p < c.xs.length) (hn : c.xs.length ≤ 400) (s0 : 0 ≤ c.xs.getD p 0) (s1 : c.xs.getD p 0 ≤ 1000000) (b : Bool) (hb : b = true ↔ Owned c.xs t p) :
    Calls Try.prog 120 #[.pointer (some ⟨mb, 0, none⟩), .int .i64 t, .int .i64 p] w fun e w' => e = .returned (.bool b) ∧ w = w' := by
  have q0 := h.blk.words
  obtain ⟨g, e, _, g2, _, g3, g4, hc, _⟩ := h.row (by omega)
  have e1 := hc p hp
  rw [e] at q0
  have hlt := h.blk.lt
  unfold Owned at hb
  rw [Int.toNat_natCast] at hb
  obtain ⟨n, hn'⟩ : ∃ n, c.xs.length = n := ⟨_, rfl⟩
  obtain ⟨s, hs⟩ : ∃ s, c.xs.getD p 0 = s := ⟨_, rfl⟩
  rw [hn'] at q0 hp hn g3
  rw [hs] at e1 s0 s1 hb
  clear hc h e hn' hs
  have HB := Lib.hide hb
  by_cases h1 : s % 2 = 1
  · by_cases h2 : s = 2 * (t : Int) + 1
    · obtain rfl : b = false := by cases b; rfl; exact absurd h2 (hb.1 rfl).2
      have P1 := Lib.hide h1
      have hne : (s != 2 * (t : Int) + 1) = false := by simp [h2]
      have HNE := Lib.hide hne
      clear hb h1 h2 hne
      go_enter Try.func120, Try.ntmps120
      go_wp2_with (first
        | (go_at_call 127; refine (isOwned_any s _ s0 s1 true (tiff P1.out)).mono ?_; rintro e w' ⟨rfl, rfl⟩)
        | (go_at_call 122; refine (ownedState_any t _ ht).mono ?_; rintro e w' ⟨rfl, rfl⟩)
        | go_in)
      go_ret
      exact ⟨congrArg (fun x => Ending.returned (.bool x)) HNE.out, rfl⟩
    · obtain rfl : b = true := hb.2 ⟨h1, h2⟩
      have P1 := Lib.hide h1
      have hne : (s != 2 * (t : Int) + 1) = true := by simp [h2]
      have HNE := Lib.hide hne
      clear hb h1 h2 hne
      go_enter Try.func120, Try.ntmps120
      go_wp2_with (first
        | (go_at_call 127; refine (isOwned_any s _ s0 s1 true (tiff P1.out)).mono ?_; rintro e w' ⟨rfl, rfl⟩)
        | (go_at_call 122; refine (ownedState_any t _ ht).mono ?_; rintro e w' ⟨rfl, rfl⟩)
        | go_in)
      go_ret
      exact ⟨congrArg (fun x => Ending.returned (.bool x)) HNE.out, rfl⟩
  · obtain rfl : b = false := by cases b; rfl; exact absurd (hb.1 rfl).1 h1
    have P1 := Lib.hide h1
    clear hb h1
    go_enter Try.func120, Try.ntmps120
    go_wp2_with (first
      | (go_at_call 127; refine (isOwned_any s _ s0 s1 false (fiff P1.out)).mono ?_; rintro e w' ⟨rfl, rfl⟩)
      | go_in)
    go_ret
    exact ⟨rfl, rfl⟩

/-- The map of what a thread owns, while its transaction is open. -/
theorem Mach.ownMap {w : World} {B mb k : Nat} {ρ : Roles} {c : Mc} {m : Mem} (h : Mach w B mb k ρ c m) {t : Nat} (ht : t < 4) (ho : (c.tx t).isOpen = true) : ∃ b n, m.om t = some b ∧ n ≤ k ∧ ρ b = some (4, t, 0) ∧ MapR w b n (ownV (c.tx t).own (m.fa t) (m.fc t)) := by
  rcases (h.txs t ht).own with ⟨e, _⟩ | h1
  · exact absurd e ((h.txs t ht).opened ho).2
  · exact h1
theorem Mach.recMap {w : World} {B mb k : Nat} {ρ : Roles} {c : Mc} {m : Mem} (h : Mach w B mb k ρ c m) {t : Nat} (ht : t < 4) (ho : (c.tx t).isOpen = true) : ∃ b n, m.rm t = some b ∧ n ≤ k ∧ ρ b = some (3, t, 0) ∧ MapR w b n (recV (c.tx t).recd) := by
  rcases (h.txs t ht).recd with ⟨e, _⟩ | h1
  · exact absurd e ((h.txs t ht).opened ho).1
  · exact h1

set_option maxHeartbeats 800000 in
theorem version_any (B mb k : Nat) (ρ : Roles) (c : Mc) (m : Mem) (t p : Nat) (w : World) (h : Mach w B mb k ρ c m) (ht : t < 4) (ho : (c.tx t).isOpen = true) (hp : p < c.xs.length) (hn : c.xs.length ≤ 400) (s0 : 0 ≤ c.xs.getD p 0) (s1 : c.xs.getD p 0 ≤ 1000000) :
    Calls Try.prog 121 #[.pointer (some ⟨mb, 0, none⟩), .int .i64 t, .int .i64 p] w fun e w' => e = .returned (.int .i64 (verOf c t p)) ∧ Below w.heap.size w w' := by
  have q0 := h.blk.words
  have q1 := h.blk.own t ht
  obtain ⟨b, n', e', _, _, hm⟩ := h.ownMap ht ho
  obtain ⟨g, e, _, g2, _, g3, g4, hc, _⟩ := h.row (by omega)
  have e1 := hc p hp
  rw [e] at q0
  rw [e'] at q1
  have hlt := h.blk.lt
  have hbl := hm.lt
  unfold verOf
  rw [Int.toNat_natCast]
  have hlook := hm.look_ok Try.underlying107 (Try.zeroOrig w) (x := (p : Int)) (fits_small (by omega) (by omega)) _ _ rfl rfl
  unfold ownV at hlook
  obtain ⟨n, hn'⟩ : ∃ n, c.xs.length = n := ⟨_, rfl⟩
  obtain ⟨s, hs⟩ : ∃ s, c.xs.getD p 0 = s := ⟨_, rfl⟩
  rw [hn'] at q0 hp hn g3
  rw [hs] at e1 s0 s1
  have e2 : s.tdiv 2 = s / 2 := Int.tdiv_eq_ediv_of_nonneg s0
  cases hown : (c.tx t).own p with
  | none =>
    rw [hown] at hlook
    simp only [Option.map_none, Option.getD_none, Option.isSome_none] at hlook
    simp only [hs]
    clear hc h e hn' hs hm hown e' ho
    go_enter Try.func121, Try.ntmps121
    go_wp2
    go_ret
    exact ⟨rfl, (by repeat (first | exact Below.refl _ _ | assumption | refine Below.drew ?_ | refine below_drewN ?_ _ | refine Below.allocs ?_ | refine Below.next ?_ (by assumption) | refine Below.setCell ?_ (by dsimp only; omega) _))⟩
  | some o =>
    rw [hown] at hlook
    simp only [Option.map_some, Option.getD_some, Option.isSome_some] at hlook
    unfold ownVal at hlook
    simp only []
    clear hc h e hn' hs hm hown e' ho
    go_enter Try.func121, Try.ntmps121
    go_wp2
    go_ret
    exact ⟨rfl, (by repeat (first | exact Below.refl _ _ | assumption | refine Below.drew ?_ | refine below_drewN ?_ _ | refine Below.allocs ?_ | refine Below.next ?_ (by assumption) | refine Below.setCell ?_ (by dsimp only; omega) _))⟩
end Go.Proofs.Ytpdcaoagpjcgbab

/-
  Plain mathematics of undoing: one object after the other is restored; and how words, one at a time, turn in memory. It proves no statement by itself.
-/
namespace Go.Proofs.Ytpdcaoagpjcgbab
open Go.RowKit Stm

/-- An object restored: its state, and the first i of its fields. -/
def restF (ys : List Int) (p : Nat) (o : Orig) : Nat → List Int
  | 0 => ys.set p (2 * o.ver)
  | i + 1 => (restF ys p o i).set (p + 2 + i) (Stm.wordOf (o.fields.getD i .zero))
theorem restF_length (ys : List Int) (p : Nat) (o : Orig) : ∀ i, (restF ys p o i).length = ys.length
  | 0 => by simp [restF]
  | i + 1 => by simp [restF, restF_length ys p o i]
theorem restF_head {ys : List Int} {p : Nat} {o : Orig} (hp : p < ys.length) : ∀ i, (restF ys p o i).getD p 0 = 2 * o.ver
  | 0 => by rw [restF, Lw.getD_set_eq hp]
  | i + 1 => by rw [restF, Lw.getD_set_ne (by omega)]; exact restF_head hp i
theorem restF_field {ys : List Int} {p : Nat} {o : Orig} : ∀ i, p + 2 + i ≤ ys.length → ∀ j, j < i → (restF ys p o i).getD (p + 2 + j) 0 = Stm.wordOf (o.fields.getD j .zero)
  | 0, _, j, hj => absurd hj (Nat.not_lt_zero _)
  | i + 1, hl, j, hj => by
    rw [restF]
    rcases Nat.lt_or_ge j i with h | h
    · rw [Lw.getD_set_ne (by omega)]; exact restF_field i (by omega) j h
    · obtain rfl : j = i := by omega
      rw [Lw.getD_set_eq (by rw [restF_length]; omega)]
theorem restF_rest {ys : List Int} {p : Nat} {o : Orig} : ∀ i j, j ≠ p → ¬ (p + 2 ≤ j ∧ j < p + 2 + i) → (restF ys p o i).getD j 0 = ys.getD j 0
  | 0, j, h1, _ => by rw [restF, Lw.getD_set_ne (by omega)]
  | i + 1, j, h1, h2 => by rw [restF, Lw.getD_set_ne (by omega)]; exact restF_rest i j h1 (by omega)

/-- What has been done so far. -/
def doneOf {α : Type} (own : Int → Option α) (left : Int → Bool) : Int → Option α := fun p => if left p = true then none else own p
theorem doneOf_step {α : Type} {own : Int → Option α} {left : Int → Bool} {x : Int} {o : α} (h : own x = some o) : doneOf own (fun z => left z && !decide (z = x)) = setAt (doneOf own left) x (some o) := by
  funext z
  by_cases hz : z = x
  · subst hz; rw [setAt_same]; simp [doneOf, h]
  · rw [setAt_other _ _ hz]; simp [doneOf, hz]
theorem doneOf_start {α : Type} (own : Int → Option α) (left : Int → Bool) (h : ∀ p, left p = (own p).isSome) : doneOf own left = fun _ => none := by
  funext p
  unfold doneOf
  rw [h]
  cases own p <;> simp
theorem doneOf_end {α : Type} (own : Int → Option α) (left : Int → Bool) (h : ∀ p, left p = false) : doneOf own left = own := by
  funext p
  simp [doneOf, h]

theorem Undone.start (xs : List Int) : Undone xs (fun _ => none) xs := ⟨rfl, fun p o h => (by cases h), fun p o h => (by cases h), fun _ _ => rfl⟩
theorem Undone.step {xs ys : List Int} {own : Int → Option Orig} (h : Undone xs own ys) {p : Nat} {o : Orig} (hno : own p = none) (hr : p + 2 + o.fields.length ≤ xs.length)
    (hap : ∀ (q : Nat) (o' : Orig), own q = some o' → q ≠ p → q + 2 + o'.fields.length ≤ p ∨ p + 2 + o.fields.length ≤ q) : Undone xs (setAt own p (some o)) (restF ys p o o.fields.length) := by
  have hl := h.len
  refine ⟨by rw [restF_length, hl], fun q o' hq => ?_, fun q o' hq j hj => ?_, fun j hj => ?_⟩
  · by_cases e : q = p
    · subst e
      rw [setAt_same] at hq
      injection hq with hq
      subst hq
      exact restF_head (by omega) _
    · rw [setAt_other _ _ (by omega)] at hq
      have := hap q o' hq e
      rw [restF_rest _ _ e (by omega)]
      exact h.head q o' hq
  · by_cases e : q = p
    · subst e
      rw [setAt_same] at hq
      injection hq with hq
      subst hq
      exact restF_field _ (by omega) j hj
    · rw [setAt_other _ _ (by omega)] at hq
      have := hap q o' hq e
      rw [restF_rest _ _ (by omega) (by omega)]
      exact h.field q o' hq j hj
  · have h1 := hj p o (setAt_same _ _ _)
    rw [restF_rest _ _ h1.1 h1.2]
    refine h.rest j fun q o' hq => ?_
    by_cases e : q = p
    · subst e
      rw [hno] at hq
      cases hq
    · exact hj q o' (by rw [setAt_other _ _ (by omega)]; exact hq)

/-- A word of the machine's words. -/
theorem Mach.setWord {w : World} {B mb k : Nat} {ρ : Roles} {c : Mc} {m : Mem} (h : Mach w B mb k ρ c m) {g : Nat} (hg : m.wa = some ⟨g, 0, none⟩) (i : Nat) (y : Int) :
    Mach (w.setCell ⟨g, i, none⟩ (.int .i64 y)) B mb k ρ ⟨c.xs.set i y, c.top, c.regs, c.tx, c.coll⟩ m := by
  have hrg : ρ g = some (1, 0, 0) := h.rwords g (by rw [hg]; rfl)
  have hne : ∀ i' x, ρ i' = some x → x ≠ (1, 0, 0) → (w.setCell ⟨g, i, none⟩ (.int .i64 y)).heap[i']? = w.heap[i']? := fun i' x hx hn => set_other w g i i' _ (fun e => by
    subst e
    rw [hrg] at hx
    exact hn (Option.some.inj hx).symm)
  have hs : w.heap.size ≤ (w.setCell ⟨g, i, none⟩ (.int .i64 y)).heap.size := by simp [World.setCell]
  have hb := h.blk.kept (hne mb _ h.rmb (by simp)) hs
  have hw := h.words
  rw [hg] at hw
  have hw2 := hw.stored i y
  refine ⟨{ hb with words := ?_ }, ?_, ownsRow_kept h.ret (fun g' hg' => hne g' _ (h.rret g' hg') (by simp)), fun t ht => (h.txs t ht).kept (fun i' hi => ?_), h.rmb, ?_, h.rret, fun i' hi => ⟨(h.low i' hi).1, Nat.lt_of_lt_of_le (h.low i' hi).2 hs⟩⟩
  · rw [List.length_set]; exact hb.words
  · rw [List.length_set, hg]; exact hw2
  · rcases hi with h | h | ⟨p, h⟩ <;> exact hne i' _ h (by simp)
  · intro g' hg'; rw [List.length_set] at hg'; exact h.rwords g' hg'
theorem Moved.setWord {w : World} {B mb k : Nat} {ρ : Roles} {c : Mc} {m : Mem} (h : Mach w B mb k ρ c m) {g : Nat} (hg : m.wa = some ⟨g, 0, none⟩) (i : Nat) (v : Value) : Moved ρ w ρ (w.setCell ⟨g, i, none⟩ v) :=
  Moved.of_puts (w := w) (b := g) (by rw [h.rwords g (by rw [hg]; rfl)]; simp) i [v]

theorem Moved.grown {ρ ρ' : Roles} {w wr w1 : World} {r : Nat} (h : Moved ρ w ρ' wr) (hg : wr.grownBy w1 (some r)) (hr : w.heap.size ≤ r) : Moved ρ w ρ' w1 :=
  ⟨hg.os.trans h.os, hg.tape.trans h.tape, hg.output.trans h.output, Nat.le_trans h.size hg.size, fun i hi hn => (hg.block i (Nat.lt_of_lt_of_le hi h.size) (fun e => by have := Option.some.inj e; omega)).trans (h.block i hi hn), h.roles⟩
theorem Moved.far {ρ ρ' : Roles} {w wr : World} {b : Nat} (h : Moved ρ w ρ' wr) (hr : w.heap.size ≤ b) (o : Nat) (v : Value) : Moved ρ w ρ' (wr.setCell ⟨b, o, none⟩ v) :=
  ⟨h.os, h.tape, h.output, by simpa [World.setCell] using h.size, fun i hi hn => (set_other wr b o i v (by omega)).trans (h.block i hi hn), h.roles⟩
theorem Mach.far {w : World} {B mb k : Nat} {ρ : Roles} {c : Mc} {m : Mem} (h : Mach w B mb k ρ c m) {b : Nat} (hb : ρ b = none) (o : Nat) (v : Value) : Mach (w.setCell ⟨b, o, none⟩ v) B mb k ρ c m :=
  h.kept (fun i hi => set_other w b o i v (fun e => hi (e ▸ hb))) (by simp [World.setCell])
theorem Mach.farPuts {w : World} {B mb k : Nat} {ρ : Roles} {c : Mc} {m : Mem} (h : Mach w B mb k ρ c m) {b : Nat} (hb : ρ b = none) (o : Nat) (vs : List Value) : Mach (puts w b o vs) B mb k ρ c m :=
  h.kept (fun i hi => puts_other vs w b o i (fun e => hi (e ▸ hb))) (Nat.le_of_eq (puts_size vs w b o).symm)
theorem Moved.farPuts {ρ ρ' : Roles} {w wr : World} {b : Nat} (h : Moved ρ w ρ' wr) (hr : w.heap.size ≤ b) (o : Nat) (vs : List Value) : Moved ρ w ρ' (puts wr b o vs) :=
  ⟨(puts_os vs wr b o).1.trans h.os, (puts_os vs wr b o).2.1.trans h.tape, (puts_os vs wr b o).2.2.trans h.output, by rw [puts_size]; exact h.size, fun i hi hn => (puts_other vs wr b o i (by omega)).trans (h.block i hi hn), h.roles⟩
theorem Mach.noRole {w : World} {B mb k : Nat} {ρ : Roles} {c : Mc} {m : Mem} (h : Mach w B mb k ρ c m) {b : Nat} (hb : w.heap.size ≤ b) : ρ b = none := Classical.byContradiction fun hn => by have := (h.low b hn).2; omega
theorem Moved.noRole {ρ ρ' : Roles} {w wr : World} (h : Moved ρ w ρ' wr) {b : Nat} (hb : b < w.heap.size) (hr : ρ b = none) : ρ' b = none := (h.roles b hb).trans hr
theorem Moved.next {ρ ρ' : Roles} {w wr w1 : World} (h : Moved ρ w ρ' wr) (hb : Below wr.heap.size wr w1) : Moved ρ w ρ' w1 := h.trans (Moved.of_below hb)

theorem vcells_length (vs : List Val) : (vcells vs).length = vs.length * 2 := by
  induction vs with
  | nil => rfl
  | cons p ps ih =>
    have : vcells (p :: ps) = [.int .i64 p.k, .int .i64 p.n] ++ vcells ps := rfl
    rw [this, List.length_append, ih]
    simp
    omega
theorem vcells_snoc (ps : List Val) (q : Val) : vcells (ps ++ [q]) = vcells ps ++ [.int .i64 q.k, .int .i64 q.n] := by simp [vcells]
theorem vcells_at : ∀ (ps : List Val) (i : Nat), i < ps.length → (vcells ps)[i * 2]? = some (.int .i64 (ps.getD i .zero).k) ∧ (vcells ps)[i * 2 + 1]? = some (.int .i64 (ps.getD i .zero).n)
  | [], i, h => absurd h (Nat.not_lt_zero _)
  | p :: ps, 0, _ => ⟨rfl, rfl⟩
  | p :: ps, i + 1, h => by
    have e : vcells (p :: ps) = .int .i64 p.k :: .int .i64 p.n :: vcells ps := rfl
    have := vcells_at ps i (by simpa using h)
    rw [e, show (i + 1) * 2 = i * 2 + 1 + 1 by omega, show i * 2 + 1 + 1 + 1 = (i * 2 + 1) + 1 + 1 by omega]
    simpa using this
theorem OwnV.row {w : World} {base n c : Nat} {a : Option Addr} {vs : List Val} (h : OwnV w base (.slice a n c) vs) (h0 : 0 < n) : vs.length = n ∧ ∃ g, a = some ⟨g, 0, none⟩ ∧ base ≤ g ∧ g < w.heap.size ∧ n ≤ c ∧ c ≤ 9223372036854775807 ∧ (∀ i, i < n → w.cell? ⟨g, i * 2, none⟩ = some (.int .i64 (vs.getD i .zero).k) ∧ w.cell? ⟨g, i * 2 + 1, none⟩ = some (.int .i64 (vs.getD i .zero).n)) ∧ ∀ i, w.frozen? ⟨g, i, none⟩ = false := by
  rcases h.2 with ⟨e, h1⟩ | ⟨g, cap, cur, e, hb, hg, hn, hm, hs, hx⟩
  · injection e with e1 e2 e3
    omega
  · injection e with e1 e2 e3
    subst e1 e2 e3
    refine ⟨rfl, g, rfl, hb, ?_, hn, by unfold maxLen at hm; omega, fun i hi => ?_, fun i => World.ownsRow.frozenAt h i⟩
    · rcases Nat.lt_or_ge g w.heap.size with h' | h'
      · exact h'
      · rw [Array.getElem?_eq_none h'] at hg; cases hg
    · have h1 := World.ownsRow.cellAt h (i * 2) (by omega)
      have h2 := World.ownsRow.cellAt h (i * 2 + 1) (by omega)
      exact ⟨h1.trans (vcells_at vs i hi).1, h2.trans (vcells_at vs i hi).2⟩
end Go.Proofs.Ytpdcaoagpjcgbab

/-
  The walks of begin, set and copyRegister of package stm. They prove no statement by themselves.
-/
namespace Go.Proofs.Ytpdcaoagpjcgbab
open Go.RowKit Stm

/-- What a method that returns a code leaves. -/
def MCode (w : World) (B mb k : Nat) (ρ : Roles) (R : Ans → Mc → Prop) (e : Ending) (w' : World) : Prop :=
  ∃ (x : Int) (c' : Mc) (m' : Mem) (ρ' : Roles), R (.err x) c' ∧ e = .returned (.int .i64 x) ∧ Mach w' B mb k ρ' c' m' ∧ Moved ρ w ρ' w'

theorem Mach.newMaps {w : World} {B mb k : Nat} {ρ : Roles} {c : Mc} {m : Mem} (h : Mach w B mb k ρ c m) {t : Nat} (ht : t < 4) (f : Nat → Val) (hB : B ≤ w.heap.size) (rb ob : Nat) (hr : (rb = w.heap.size ∧ ob = w.heap.size + 1) ∨ (rb = w.heap.size + 1 ∧ ob = w.heap.size)) :
    ∃ ρ' m', Mach (puts (((w.alloc (.map #[] 0)).alloc (.map #[] 0)).drew) mb (34 + t * 11) (txCells true f (some rb) (some ob))) B mb k ρ' ⟨c.xs, c.top, c.regs, upd c.tx t ⟨true, f, fun _ => none, fun _ => none⟩, c.coll⟩ m' ∧
      Moved ρ w ρ' (puts (((w.alloc (.map #[] 0)).alloc (.map #[] 0)).drew) mb (34 + t * 11) (txCells true f (some rb) (some ob))) := by
  have h2 := ((h.alloc (.map #[] 0)).alloc (.map #[] 0)).drew
  have hs : (((w.alloc (.map #[] 0)).alloc (.map #[] 0)).drew).heap.size = w.heap.size + 2 := by simp
  have hm1 : MapR (((w.alloc (.map #[] 0)).alloc (.map #[] 0)).drew) w.heap.size 0 (fun _ => none) := (MapR.made w).kept (by
    have := Below.heap_alloc (w.alloc (.map #[] 0)) (.map #[] 0) w.heap.size (by simp)
    exact this)
  have hm2 : MapR (((w.alloc (.map #[] 0)).alloc (.map #[] 0)).drew) (w.heap.size + 1) 0 (fun _ => none) := by
    have := MapR.made (w.alloc (.map #[] 0))
    rw [show (w.alloc (.map #[] 0)).heap.size = w.heap.size + 1 by simp] at this
    exact this
  have hlow : ∀ i, ρ i ≠ none → i < w.heap.size := fun i hi => (h.low i hi).2
  let ρ' : Roles := fun i => if i = rb then some (3, t, 0) else if i = ob then some (4, t, 0) else ρ i
  have e1 : ∀ i, i < w.heap.size → ρ' i = ρ i := fun i hi => by
    show (if i = rb then some (3, t, 0) else if i = ob then some (4, t, 0) else ρ i) = ρ i
    rw [if_neg (by omega), if_neg (by omega)]
  have h3 := h2.roles (ρ' := ρ') (fun i hi => e1 i (hlow i hi)) (fun i hi => by
    by_cases e : i < w.heap.size
    · rw [e1 i e] at hi
      exact ⟨(h.low i hi).1, by rw [hs]; omega⟩
    · have : i = rb ∨ i = ob := by
        refine Classical.byContradiction fun hn => hi ?_
        show (if i = rb then some (3, t, 0) else if i = ob then some (4, t, 0) else ρ i) = none
        rw [if_neg (by omega), if_neg (by omega)]
        exact Classical.byContradiction fun hn => absurd (hlow i hn) e
      rw [hs]
      omega)
  have hmr : MapR (((w.alloc (.map #[] 0)).alloc (.map #[] 0)).drew) rb 0 (fun _ => none) := by
    rcases hr with ⟨e, _⟩ | ⟨e, _⟩ <;> rw [e] <;> assumption
  have hmo : MapR (((w.alloc (.map #[] 0)).alloc (.map #[] 0)).drew) ob 0 (fun _ => none) := by
    rcases hr with ⟨_, e⟩ | ⟨_, e⟩ <;> rw [e] <;> assumption
  have hx : TxMem (((w.alloc (.map #[] 0)).alloc (.map #[] 0)).drew) B ρ' t k ⟨true, f, fun _ => none, fun _ => none⟩ (some rb) (some ob) (fun _ => none) (fun _ => 0) := by
    refine ⟨.inr ⟨rb, 0, rfl, Nat.zero_le _, ?_, hmr⟩, .inr ⟨ob, 0, rfl, Nat.zero_le _, ?_, hmo⟩, fun p o ho => (by cases ho), fun _ => ⟨by simp, by simp⟩⟩
    · show (if rb = rb then some (3, t, 0) else if rb = ob then some (4, t, 0) else ρ rb) = _
      rw [if_pos rfl]
    · show (if ob = rb then some (3, t, 0) else if ob = ob then some (4, t, 0) else ρ ob) = _
      rw [if_neg (by omega), if_pos rfl]
  refine ⟨ρ', _, h3.setTx ht ⟨true, f, fun _ => none, fun _ => none⟩ (some rb) (some ob) _ _ hx, ?_⟩
  have hb : Below w.heap.size w (((w.alloc (.map #[] 0)).alloc (.map #[] 0)).drew) := ((Below.refl _ _).alloc (Nat.le_refl _) _).alloc (by simp) _ |>.drew
  have hmv : Moved ρ w ρ' (((w.alloc (.map #[] 0)).alloc (.map #[] 0)).drew) := { Moved.of_below (ρ := ρ) hb with roles := e1 }
  exact hmv.trans (Moved.put h3 _ _)

set_option maxHeartbeats 400000 in
theorem begin_any (B mb k : Nat) (ρ : Roles) (c : Mc) (m : Mem) (t : Nat) (w : World) (h : Mach w B mb k ρ c m) (ht : t < 4) (hB : B ≤ w.heap.size) :
    Calls Try.prog 85 #[.pointer (some ⟨mb, 0, none⟩), .int .i64 t] w (MCode w B mb k ρ (CBegin c t)) := by
  have hmm := @run_makeMap Try.prog
  obtain ⟨x0, x1, x2, x3, x4, x5, x6, x7, x8, x9, x10⟩ := h.blk.tx11 ht
  obtain ⟨r0, r1, r2, r3, r4, r5, r6, r7⟩ := h.blk.regs8 ht
  obtain ⟨f0, f1, f2, f3, f4, f5, f6, f7, f8, f9, f10⟩ := h.blk.warm11 (34 + t * 11)
  have hlt := h.blk.lt
  have H := Lib.hide h
  have HB := Lib.hide hB
  clear h hB
  cases ho : (c.tx t).isOpen
  · rw [ho] at x0
    have HO := Lib.hide ho
    clear ho
    go_enter Try.func85, Try.ntmps85
    go_wp2
    go_region
    all_goals (go_wp2; go_ret)
    all_goals (have hc : CBegin c t (.err 0) ⟨c.xs, c.top, c.regs, upd c.tx t ⟨true, c.regs t, fun _ => none, fun _ => none⟩, c.coll⟩ := Ite.neg (by rw [HO.out]; simp) ⟨rfl, rfl⟩)
    · obtain ⟨ρ', m', h1, h2⟩ := H.out.newMaps ht (c.regs t) HB.out w.heap.size (w.heap.size + 1) (.inl ⟨rfl, rfl⟩)
      rw [puts_drew, puts_alloc _ _ _ _ _ (by simp; omega), puts_alloc _ _ _ _ _ hlt, puts_tx] at h1 h2
      exact ⟨0, _, m', ρ', hc, rfl, h1, h2⟩
    · obtain ⟨ρ', m', h1, h2⟩ := H.out.newMaps ht (c.regs t) HB.out (w.heap.size + 1) w.heap.size (.inr ⟨rfl, rfl⟩)
      rw [puts_drew, puts_alloc _ _ _ _ _ (by simp; omega), puts_alloc _ _ _ _ _ hlt, puts_tx] at h1 h2
      exact ⟨0, _, m', ρ', hc, rfl, h1, h2⟩
  · rw [ho] at x0
    have HO := Lib.hide ho
    clear ho
    go_enter Try.func85, Try.ntmps85
    go_wp2
    go_ret
    exact ⟨5, c, m, ρ, Ite.pos HO.out ⟨rfl, rfl⟩, rfl, H.out, Moved.refl _ _⟩
end Go.Proofs.Ytpdcaoagpjcgbab

