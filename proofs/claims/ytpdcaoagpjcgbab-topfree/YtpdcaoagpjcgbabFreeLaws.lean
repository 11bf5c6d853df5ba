/-
  The walk of limewashtop.TopFree. It proves no statement by itself.
-/
import Derived.Test.YtpdcaoagpjcgbabEndWalks
import Derived.Test.YtpdcaoagpjcgbabFreeA
set_option linter.unusedVariables false
set_option linter.unusedSimpArgs false
namespace Go.Proofs.Ytpdcaoagpjcgbab
open Go.RowKit Stm

set_option maxHeartbeats 3200000 in
set_option maxRecDepth 100000 in
theorem topFree.walk (a0 : Option Addr) (n0 cap0 : Nat) (R : Nat → Nat → Int) (_ : n0 ≤ cap0) (_ : cap0 ≤ maxLen) (w : World) (hR : Recs w a0 n0 4 R) :
    Calls Try.prog 14 #[.slice a0 n0 cap0] w fun e w' => e = .returned (.bool true) ∧ Below w.heap.size w w' := by
  have CA := Lib.hide (show ∀ w', Below w.heap.size w w' → Calls Try.prog 38 #[.slice a0 n0 cap0, .int .i64 60, .int .i64 4] w' (ActsPost w' (4 : Nat) R (min n0 60)) from fun w' h => acts_any a0 n0 cap0 R 60 4 w' (hR.below h) (by omega) (by omega) (by omega))
  have hkk : min n0 60 ≤ 60 := Nat.min_le_right _ _
  obtain ⟨AC, hAC⟩ : ∃ AC, AC = actsTo (4 : Nat) R (min n0 60) := ⟨_, rfl⟩
  have hACl : AC.length = min n0 60 := by rw [hAC, actsTo_length]
  have HAC := Lib.hide hAC
  generalize min n0 60 = kk at CA hkk hACl HAC
  obtain ⟨L, hL⟩ : ∃ L, L = 12 + kk := ⟨_, rfl⟩
  have hL2 : L ≤ 72 := by omega
  have HLL := Lib.hide (show (sharedActs ++ AC).length = L by rw [List.length_append, hACl, hL]; rfl)
  have HKL := Lib.hide (show sharedActs.length + AC.length ≤ 1000 by rw [hACl]; have : sharedActs.length = 12 := rfl; omega)
  generalize hALe : sharedActs ++ AC = AL at HLL
  have HALE := Lib.hide hALe
  clear hR hL hAC hACl hkk hALe
  go_enter Try.func14, Try.ntmps14
  go_wp2_with fail
  refine (shared_any w).mono ?_
  rintro e w1 ⟨a1, cp1, rfl, ho1, hb1⟩
  have HO1 := Lib.hide ho1
  have HB1 := Lib.hide hb1
  clear ho1 hb1
  go_wp2_with fail
  refine (CA.out w1 HB1.out).mono ?_
  rintro e w2 ⟨a2, cp2, rfl, ho2, hb2⟩
  rw [← HAC.out] at ho2
  have HO2 := Lib.hide (show OwnC w2 w.heap.size (.slice a2 kk cp2) AC from ⟨ho2.1, ho2.2.imp id (fun ⟨g, cap, cur, e, hb, hr⟩ => ⟨g, cap, cur, e, Nat.le_trans HB1.out.size hb, hr⟩)⟩)
  have HO1' := Lib.hide (HO1.out.below hb2)
  have HB2 := Lib.hide (Below.step HB1.out (Below.mono hb2 HB1.out.size))
  clear ho2 hb2 HO1
  go_wp2_with (at_builtin; refine wpList_append_acts _ rfl (.tmp 8) (.tmp 10) rfl w.heap.size _ _ sharedActs AC rfl rfl HO1'.out HO2.out HKL.out HB2.out.size ?_)
  intro v3 w3 ho3 hb3
  rw [HALE.out] at ho3
  have HB3 := Lib.hide (Below.step HB2.out hb3)
  have HO3 := Lib.hide ho3
  clear ho3 hb3 HO1' HO2 HB2 HB1
  go_wp2
  go_loopw [12, 3] (fun u v wr => ∃ t : Nat, t ≤ 4 ∧ u = .int .i64 t ∧ OwnC wr w.heap.size v (AL ++ clears t) ∧ Below w.heap.size w wr) (fun u _ _ => 4 - (intOf u).toNat)
  case atStart => exact ⟨0, by omega, rfl, by simpa [clears] using HO3.out, HB3.out⟩
  case round =>
    obtain ⟨t, ht, rfl, hown, hbel⟩ := hrel
    have HOW := Lib.hide hown
    have HBE := Lib.hide hbel
    have hlen : (AL ++ clears t).length = L + 5 * t := by rw [List.length_append, HLL.out, clears_length]
    have HLE := Lib.hide hlen
    clear hown hbel hlen
    by_cases h4 : t < 4
    · have i1 : (t : Int) < 4 := by omega
      go_wp2_with (at_builtin; refine wpList_append_lit w wr _ _ rfl (.tmp 15) (.tmp 18) rfl u3 1 (AL ++ clears t) (clear1 t 0) rfl rfl rfl rfl HOW.out (by rw [HLE.out]; omega) HBE.out ?_)
      intro v4 w4 hown4 hb4
      have HO4 := Lib.hide (show OwnC w4 w.heap.size v4 (AL ++ clears t ++ clear1 t 0) by simpa only [List.append_assoc] using hown4)
      have HB4 := Lib.hide hb4
      clear hown4 hb4 HOW HBE
      go_wp2
      go_loopw [20, 3] (fun u v wr => ∃ r : Nat, r ≤ 4 ∧ u = .int .i64 r ∧ OwnC wr w.heap.size v (AL ++ clears t ++ clear1 t r) ∧ Below w.heap.size w wr) (fun u _ _ => 4 - (intOf u).toNat)
      case atStart => exact ⟨0, by omega, rfl, HO4.out, HB4.out⟩
      case round =>
        obtain ⟨r, hr, rfl, hown, hbel⟩ := hrel
        have HOW := Lib.hide hown
        have HBE := Lib.hide hbel
        have hlen : (AL ++ clears t ++ clear1 t r).length = L + 5 * t + (r + 1) := by rw [List.length_append, HLE.out, clear1_length]
        have HLF := Lib.hide hlen
        clear hown hbel hlen
        by_cases h5 : r < 4
        · have i2 : (r : Int) < 4 := by omega
          go_wp2_with (at_builtin; refine wpList_append_lit w wr _ _ rfl (.tmp 23) (.tmp 27) rfl u3 1 (AL ++ clears t ++ clear1 t r) [⟨7, (t : Int), (r : Int), 0, 0⟩] rfl rfl rfl rfl HOW.out (by rw [HLF.out]; omega) HBE.out ?_)
          intro v6 w6 hown6 hb6
          have HF := Lib.hide (show OwnC w6 w.heap.size v6 (AL ++ clears t ++ clear1 t (r + 1)) ∧ Below w.heap.size w w6 from ⟨by rw [clear1_succ]; simpa only [List.append_assoc] using hown6, hb6⟩)
          clear hown6 hb6
          go_wp2
          go_roundw
          case rel => exact ⟨r + 1, by omega, by go_num, HF.out⟩
          case measure => simp [intOf]; omega
        · obtain rfl : r = 4 := by omega
          have HF := Lib.hide (show OwnC wr w.heap.size u3 (AL ++ clears (t + 1)) ∧ Below w.heap.size w wr from ⟨by rw [clears_succ, ← List.append_assoc]; exact HOW.out, HBE.out⟩)
          clear HOW HBE
          go_wp2
          go_roundw
          case rel => exact ⟨t + 1, by omega, by go_num, HF.out⟩
          case measure => simp [intOf]; omega
    · obtain rfl : t = 4 := by omega
      go_wp2_with (at_builtin; refine wpList_append_lit w wr _ _ rfl (.tmp 31) (.tmp 36) rfl u3 4 (AL ++ clears 4) free4 rfl rfl rfl rfl HOW.out (by rw [HLE.out]; omega) HBE.out ?_)
      intro v5 w5 hown7 hb5
      have hown6 : OwnC w5 w.heap.size v5 (AL ++ clears 4 ++ free4) := by simpa only [List.append_assoc] using hown7
      clear hown7
      have hfl : (AL ++ clears 4 ++ free4).length = L + 24 := by rw [List.length_append, HLE.out]; rfl
      obtain ⟨g, cp, cur, rfl, _, _, hcp, _⟩ := hown6.2.resolve_left (fun h => by omega)
      rw [hfl] at hown6
      have HAT := Lib.hide (show ActsAt w5 (some ⟨g, 0, none⟩) (AL ++ clears 4 ++ free4) from (OwnC.reads (hfl ▸ hown6)).2)
      have HB5 := Lib.hide hb5
      have HFL := Lib.hide hfl
      rw [hfl]
      clear hfl hown6 hb5 hcp HOW HBE HO3 HB3
      have HL4 := Lib.hide (show L + 24 ≤ 400 by omega)
      go_wp2_with fail
      refine (topRun_any _ _ (L + 24) cp w5 HFL.out HL4.out HAT.out).mono ?_
      rintro e w6 ⟨rs, c, lf, a6, c6, rfl, hrl, hrc, hra, hrk, hb6⟩
      obtain ⟨pre, hrs, hpre⟩ := free_end hrc
      have hpl : pre.length = L + 23 := by rw [hpre, HLL.out]
      obtain ⟨bx, ox, rfl, hlx, hcx⟩ := hra.resolve_left (fun h => by rw [h] at hrl; simp at hrl)
      have HF6 := Lib.hide (Below.step HB5.out (Below.mono hb6 HB5.out.size))
      have hx1 : rs[L + 23]? = some ⟨0, false, 0, false, 0, false, 0⟩ := by rw [hrs, List.getElem?_append_right (by omega), hpl]; simp
      have HX1 := Lib.hide (hcx _ _ hx1)
      clear hrl hrc hra hrk hb6 hrs hpre hpl hcx hx1
      have y10 := HX1.out 0 _ rfl
      have y11 := HX1.out 1 _ rfl
      have y12 := HX1.out 2 _ rfl
      have y13 := HX1.out 3 _ rfl
      have y14 := HX1.out 4 _ rfl
      have y15 := HX1.out 5 _ rfl
      have y16 := HX1.out 6 _ rfl
      rw [Nat.add_zero] at y10
      have heq := Try.eqlAns
      go_wp2
      go_ret
      first | exact ⟨rfl, below_drewN HF6.out _⟩ | exact ⟨rfl, HF6.out⟩
end Go.Proofs.Ytpdcaoagpjcgbab

