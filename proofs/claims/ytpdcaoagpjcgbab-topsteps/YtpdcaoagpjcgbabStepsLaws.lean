/-
  The walks of the closure of limewashtop.TopSteps, and of limewashtop.TopSteps. It proves no statement by itself.
-/
import Derived.Test.YtpdcaoagpjcgbabEndWalks
import Derived.Test.YtpdcaoagpjcgbabCloneWalks
import Derived.Test.YtpdcaoagpjcgbabSimC
set_option linter.unusedVariables false
set_option linter.unusedSimpArgs false
namespace Go.Proofs.Ytpdcaoagpjcgbab
open Go.RowKit Stm

theorem wpList_append_litQ {ops : Array Oper} {rest : List Oper} {o : Oper} {a : Go.Act} {Q : Exit → Go.Act → World → Prop} (W wr : World) (B : Array Value) (t : TypeId) (hgd : o.guard = none) (s x : Operand)
    (ho : o.op = .call { callee := .builtin .append, args := #[s, x], argTypes := #[61, 61] }) (v : Value) (k p : Nat) (l m : List Stm.Act)
    (hs : a.eval s = v) (hB : B = (ccells m).toArray) (hk : m.length = k) (hx : a.eval x = .slice (some ⟨p, 0, none⟩) k k) (hp : wr.heap.size = p) (hl : OwnC wr W.heap.size v l) (hn : l.length + k ≤ 1000) (hb : Below W.heap.size W wr)
    (h : ∀ v' w', OwnC w' W.heap.size v' (l ++ m) → Below W.heap.size W w' → wpList Try.prog ops Q rest (a.put o.dst v') w') : wpList Try.prog ops Q (o :: rest) a (wr.alloc (.cells B t)) := by
  subst hp
  exact wpList_append_lit W wr B t hgd s x ho v k l m hs hB hk hx hl hn hb h

theorem stepsOf_take_succ {l : List Stm.Act} {j : Nat} {x : Stm.Act} (hj : l[j]? = some x) (k : Int) : stepsOf (l.take (j + 1)) k = stepsOf (l.take j) k ++ [x, ⟨11, 0, 0, 0, k⟩] := by
  have hlt : j < l.length := by
    rcases Nat.lt_or_ge j l.length with h | h
    · exact h
    · rw [List.getElem?_eq_none h] at hj; cases hj
  unfold stepsOf
  rw [List.take_succ_eq_append_getElem hlt, List.flatMap_append]
  rw [List.getElem?_eq_getElem hlt] at hj
  injection hj with hj
  rw [hj]
  simp

/-- What the closure with leaves. -/
def WithPost (w : World) (F rest : List Stm.Act) (k : Int) (N : Nat) (e : Ending) (w' : World) : Prop :=
  ∃ g c, e = .returned (.slice (some ⟨g, 0, none⟩) N c) ∧ ActsAt w' (some ⟨g, 0, none⟩) (F ++ [⟨10, 0, 0, 0, 0⟩] ++ (stepsOf rest k ++ stepsEnd)) ∧ Below w.heap.size w w'

set_option maxHeartbeats 3200000 in
set_option maxRecDepth 100000 in
theorem with_any (k : Int) (F rest : List Stm.Act) (bF bR gF LF cF : Nat) (aR : Option Addr) (LR cR N : Nat) (w : World) (hF : w.cell? ⟨bF, 0, none⟩ = some (.slice (some ⟨gF, 0, none⟩) LF cF)) (hR : w.cell? ⟨bR, 0, none⟩ = some (.slice aR LR cR)) (hbF : bF < w.heap.size) (hbR : bR < w.heap.size)
    (hFl : F.length = LF) (hRl : rest.length = LR) (hFa : ActsAt w (some ⟨gF, 0, none⟩) F) (hRa : ActsAt w aR rest) (hLF : LF ≤ 100) (hLR : LR ≤ 100) (hN : N = LF + 2 * LR + 3) :
    Calls Try.prog 46 #[.int .i64 k, .pointer (some ⟨bF, 0, none⟩), .pointer (some ⟨bR, 0, none⟩)] w (WithPost w F rest k N) := by
  have HFL := Lib.hide hFl
  have HRL := Lib.hide hRl
  have HFA := Lib.hide hFa
  have HRA := Lib.hide hRa
  have HR := Lib.hide hR
  have HN := Lib.hide hN
  clear hFl hRl hFa hRa hR hN
  go_enter Try.func46, Try.ntmps46
  go_wp2_with fail
  refine (cloneC_any gF 0 LF cF F w HFL.out (by omega) HFA.out).mono ?_
  rintro e w1 ⟨a1, c1, rfl, ho1, hb1⟩
  have HO1 := Lib.hide ho1
  have HB1 := Lib.hide hb1
  have hR1 := (hb1.cell (p := ⟨bR, 0, none⟩) hbR).trans HR.out
  clear ho1 hb1 hF
  go_wp2_with (at_builtin; refine wpList_append_lit w w1 _ _ rfl (.tmp 9) (.tmp 11) rfl (.slice a1 LF c1) 1 F [⟨10, 0, 0, 0, 0⟩] rfl rfl rfl rfl HO1.out (by rw [HFL.out]; omega) HB1.out ?_)
  intro v2 w2 ho2 hb2
  obtain ⟨G, hG⟩ : ∃ G, G = F ++ [⟨10, 0, 0, 0, 0⟩] := ⟨_, rfl⟩
  rw [← hG] at ho2
  have HG := Lib.hide hG
  have HGL := Lib.hide (show G.length = LF + 1 by rw [hG, List.length_append, HFL.out]; rfl)
  have HO2 := Lib.hide ho2
  have HB2 := Lib.hide hb2
  have hR2 := (hb2.cell (p := ⟨bR, 0, none⟩) hbR).trans HR.out
  clear ho2 hb2 hR1 HO1 HB1 hG
  go_wp2
  go_loopw [15, 5] (fun u v wr => ∃ j : Nat, j ≤ LR ∧ u = .int .i64 j ∧ OwnC wr w.heap.size v (G ++ stepsOf (rest.take j) k) ∧ Below w.heap.size w wr) (fun u _ _ => LR - (intOf u).toNat)
  case atStart => exact ⟨0, by omega, rfl, by simpa [stepsOf] using HO2.out, HB2.out⟩
  case round =>
    obtain ⟨j, hj, rfl, hown, hbel⟩ := hrel
    have HOW := Lib.hide hown
    have HBE := Lib.hide hbel
    have hlen : (G ++ stepsOf (rest.take j) k).length = LF + 1 + 2 * j := by
      rw [List.length_append, HGL.out, stepsOf_length, List.length_take, HRL.out]
      omega
    have HLE := Lib.hide hlen
    clear hown hbel hlen
    by_cases hlt : j < LR
    · obtain ⟨z, hz⟩ : ∃ z, rest[j]? = some z := ⟨rest[j]'(by rw [HRL.out]; exact hlt), List.getElem?_eq_getElem _⟩
      obtain ⟨b, o, rfl, e0, e1, e2, e3, e4⟩ := (HRA.out.below HBE.out).cells hz
      have HTS := Lib.hide (stepsOf_take_succ hz k)
      clear hz
      obtain ⟨z0, z1, z2, z3, z4⟩ := z
      dsimp only at e0 e1 e2 e3 e4
      have hX : Below wr.heap.size wr (wr.alloc (.cells #[.int .i64 z0, .int .i64 z1, .int .i64 z2, .int .i64 z3, .int .i64 z4] 71)) := (by repeat (first | exact Below.refl _ _ | assumption | refine Below.drew ?_ | refine below_drewN ?_ _ | refine Below.allocs ?_ | refine Below.next ?_ (by assumption) | refine Below.setCell ?_ (by dsimp only; omega) _))
      have HOX := Lib.hide (HOW.out.below hX)
      have HBX := Lib.hide (Below.step HBE.out (Below.mono hX HBE.out.size))
      clear hX
      go_wp2_with (at_builtin; refine wpList_append_litQ w _ _ _ rfl (.tmp 19) (.tmp 23) rfl u5 2 _ (G ++ stepsOf (rest.take j) k) [⟨z0, z1, z2, z3, z4⟩, ⟨11, 0, 0, 0, k⟩] rfl rfl rfl rfl (by simp) HOX.out (by rw [HLE.out]; omega) HBX.out ?_)
      intro v4 w4 hown4 hb4
      have HF := Lib.hide (show OwnC w4 w.heap.size v4 (G ++ stepsOf (rest.take (j + 1)) k) ∧ Below w.heap.size w w4 from ⟨by rw [HTS.out]; simpa only [List.append_assoc] using hown4, hb4⟩)
      clear hown4 hb4 e0 e1 e2 e3 e4
      go_wp2
      go_roundw
      case rel => exact ⟨j + 1, by omega, by go_num, HF.out⟩
      case measure => simp [intOf]; omega
    · obtain rfl : j = LR := by omega
      go_wp2_with (at_builtin; refine wpList_append_lit w wr _ _ rfl (.tmp 26) (.tmp 29) rfl u5 2 (G ++ stepsOf (rest.take j) k) stepsEnd rfl rfl rfl rfl HOW.out (by rw [HLE.out]; omega) HBE.out ?_)
      intro v5 w5 ho5 hb5
      have hfull : OwnC w5 w.heap.size v5 (F ++ [⟨10, 0, 0, 0, 0⟩] ++ (stepsOf rest k ++ stepsEnd)) := by
        rw [List.take_of_length_le (by rw [HRL.out]; exact Nat.le_refl _)] at ho5
        rw [← HG.out]
        simpa only [List.append_assoc] using ho5
      have hl5 : (F ++ [(⟨10, 0, 0, 0, 0⟩ : Stm.Act)] ++ (stepsOf rest k ++ stepsEnd)).length = N := by
        rw [List.length_append, List.length_append, List.length_append, stepsOf_length, HFL.out, HRL.out, HN.out]
        show LF + 1 + (2 * j + 2) = _
        omega
      obtain ⟨g, cp, cur, rfl, _, _, hcp, _⟩ := hfull.2.resolve_left (fun h => by rw [hl5, HN.out] at h; omega)
      rw [hl5] at hcp hfull ⊢
      have HF := Lib.hide (And.intro hfull.reads.2 hb5)
      clear ho5 hb5 hfull hl5 HOW HBE
      go_wp2
      go_ret
      exact ⟨g, cp, rfl, HF.out⟩

set_option maxHeartbeats 3200000 in
set_option maxRecDepth 100000 in
theorem topSteps.walk (a0 : Option Addr) (n0 cap0 : Nat) (R : Nat → Nat → Int) (_ : n0 ≤ cap0) (_ : cap0 ≤ maxLen) (b0 : Option Addr) (m0 capb : Nat) (S : Nat → Nat → Int) (_ : m0 ≤ capb) (_ : capb ≤ maxLen) (x : Int) (Fx : Fits x) (w : World) (hR : Recs w a0 n0 4 R) (hS : Recs w b0 m0 4 S) :
    Calls Try.prog 13 #[.slice a0 n0 cap0, .slice b0 m0 capb, .int .i64 x] w fun e w' => e = .returned (.bool true) ∧ Below w.heap.size w w' := by
  have CA := Lib.hide (show ∀ w', Below w.heap.size w w' → Calls Try.prog 40 #[.slice a0 n0 cap0, .int .i64 30, .int .i64 4] w' (PlainPost w' (actsTo (4 : Nat) R (min n0 30))) from fun w' h => plain_any a0 n0 cap0 R 30 4 w' (hR.below h) (by omega) (by omega) (by omega))
  have CM := Lib.hide (show ∀ w', Below w.heap.size w w' → Calls Try.prog 40 #[.slice b0 m0 capb, .int .i64 25, .int .i64 4] w' (PlainPost w' (actsTo (4 : Nat) S (min m0 25))) from fun w' h => plain_any b0 m0 capb S 25 4 w' (hS.below h) (by omega) (by omega) (by omega))
  obtain ⟨P, hP⟩ : ∃ P, P = plainOf (actsTo (4 : Nat) R (min n0 30)) := ⟨_, rfl⟩
  obtain ⟨PM, hPM⟩ : ∃ PM, PM = plainOf (actsTo (4 : Nat) S (min m0 25)) := ⟨_, rfl⟩
  have hPl : P.length ≤ 30 := by rw [hP]; have := plainOf_length (actsTo (4 : Nat) R (min n0 30)); rw [actsTo_length] at this; omega
  have hPMl : PM.length ≤ 25 := by rw [hPM]; have := plainOf_length (actsTo (4 : Nat) S (min m0 25)); rw [actsTo_length] at this; omega
  have HSM := Lib.hide (show Small P ∧ Small PM by rw [hP, hPM]; exact ⟨(small_acts _ _ _).plain, (small_acts _ _ _).plain⟩)
  have HCP := Lib.hide (show ∀ a ∈ P, ¬ Stm.Clean a by rw [hP]; exact fun a ha => plainOf_plain ha)
  have HCM := Lib.hide (show ∀ a ∈ PM, ¬ Stm.Clean a by rw [hPM]; exact fun a ha => plainOf_plain ha)
  unfold PlainPost at CA CM
  rw [← hP] at CA
  rw [← hPM] at CM
  obtain ⟨pl, hpl⟩ : ∃ pl, P.length = pl := ⟨_, rfl⟩
  obtain ⟨pm, hpm⟩ : ∃ pm, PM.length = pm := ⟨_, rfl⟩
  rw [hpl] at CA hPl
  rw [hpm] at CM hPMl
  have HPM := Lib.hide hpm
  obtain ⟨L, hL⟩ : ∃ L, L = 12 + pl := ⟨_, rfl⟩
  have hL1 : 12 ≤ L := by omega
  have hL2 : L ≤ 42 := by omega
  have HLL := Lib.hide (show (sharedActs ++ P).length = L by rw [List.length_append, hpl, hL]; rfl)
  have HKL := Lib.hide (show sharedActs.length + P.length ≤ 1000 by rw [hpl]; have : sharedActs.length = 12 := rfl; omega)
  have HSA := Lib.hide (show Small (sharedActs ++ P) from small_shared.append HSM.out.1)
  have HCA := Lib.hide (show ∀ a ∈ sharedActs ++ P, ¬ Stm.Clean a from fun a ha => by
    rcases List.mem_append.1 ha with h | h
    · simp [sharedActs, shared6, copies] at h
      unfold Stm.Clean
      rcases h with rfl | rfl | rfl | rfl | rfl | rfl | rfl | rfl | rfl | rfl | rfl | rfl <;> simp
    · exact HCP.out a h)
  generalize hALe : sharedActs ++ P = AL at HLL HSA HCA
  have HALE := Lib.hide hALe
  have CP := Lib.hide (fun w => pickedX_any x 5 w Fx (by omega) (by omega))
  have hkk := pick_lt x 5 (by omega)
  generalize pick x 5 = k0 at CP hkk
  obtain ⟨N, hN⟩ : ∃ N, N = L + 2 * pm + 3 := ⟨_, rfl⟩
  have hN1 : 15 ≤ N := by omega
  have hN2 : N ≤ 95 := by omega
  have HN := Lib.hide hN
  clear hR hS hL hP hPM hpl hpm hALe HCP Fx hN
  go_enter Try.func13, Try.ntmps13
  go_wp2_with fail
  refine (shared_any w).mono ?_
  rintro e w1 ⟨a1, cp1, rfl, ho1, hb1⟩
  have HO1 := Lib.hide ho1
  have HB1 := Lib.hide hb1
  clear ho1 hb1
  go_wp2_with fail
  refine (CA.out w1 HB1.out).mono ?_
  rintro e w2 ⟨a2, cp2, rfl, ho2, hb2⟩
  have HO2 := Lib.hide (show OwnC w2 w.heap.size (.slice a2 pl cp2) P from ⟨ho2.1, ho2.2.imp id (fun ⟨g, cap, cur, e, hb, hr⟩ => ⟨g, cap, cur, e, Nat.le_trans HB1.out.size hb, hr⟩)⟩)
  have HO1' := Lib.hide (HO1.out.below hb2)
  have HB2 := Lib.hide (Below.step HB1.out (Below.mono hb2 HB1.out.size))
  clear ho2 hb2 HO1 CA
  go_wp2_with (at_builtin; refine wpList_append_acts _ rfl (.tmp 14) (.tmp 16) rfl w.heap.size _ _ sharedActs P rfl rfl HO1'.out HO2.out HKL.out HB2.out.size ?_)
  intro v3 w3 ho3 hb3
  rw [HALE.out] at ho3
  have HB3 := Lib.hide (Below.step HB2.out hb3)
  obtain ⟨g, cp, cur, rfl, _, _, hcp, _⟩ := ho3.2.resolve_left (fun h => by have := HLL.out; omega)
  rw [HLL.out] at hcp ho3 ⊢
  have HAT := Lib.hide ho3.reads.2
  clear ho3 hb3 HO1' HO2 HB2 HB1
  go_wp2_with fail
  have hX3 : Below w3.heap.size w3 (w3.alloc (.cells #[.slice (some ⟨g, 0, none⟩) L cp] 61)) := (by repeat (first | exact Below.refl _ _ | assumption | refine Below.drew ?_ | refine below_drewN ?_ _ | refine Below.allocs ?_ | refine Below.next ?_ (by assumption) | refine Below.setCell ?_ (by dsimp only; omega) _))
  have hc3 : (w3.alloc (.cells #[.slice (some ⟨g, 0, none⟩) L cp] 61)).cell? ⟨w3.heap.size, 0, none⟩ = some (.slice (some ⟨g, 0, none⟩) L cp) := (BoxL.new w3 [.slice (some ⟨g, 0, none⟩) L cp] _).cell 0 _ rfl
  have hs3 : w3.heap.size < (w3.alloc (.cells #[.slice (some ⟨g, 0, none⟩) L cp] 61)).heap.size := by simp
  generalize w3.alloc (.cells #[.slice (some ⟨g, 0, none⟩) L cp] 61) = X3 at hX3 hc3 hs3 ⊢
  generalize w3.heap.size = bF at hc3 hs3 ⊢
  have HATx := Lib.hide (HAT.out.below hX3)
  have HBx := Lib.hide (Below.step HB3.out (Below.mono hX3 HB3.out.size))
  have HC3 := Lib.hide hc3
  clear hX3 hc3 HAT HB3
  refine (CM.out X3 HBx.out).mono ?_
  rintro e w4 ⟨a4, cp4, rfl, ho4, hb4⟩
  have hX4 : Below w4.heap.size w4 (w4.alloc (.cells #[.slice a4 pm cp4] 61)) := (by repeat (first | exact Below.refl _ _ | assumption | refine Below.drew ?_ | refine below_drewN ?_ _ | refine Below.allocs ?_ | refine Below.next ?_ (by assumption) | refine Below.setCell ?_ (by dsimp only; omega) _))
  have hc4 : (w4.alloc (.cells #[.slice a4 pm cp4] 61)).cell? ⟨w4.heap.size, 0, none⟩ = some (.slice a4 pm cp4) := (BoxL.new w4 [.slice a4 pm cp4] _).cell 0 _ rfl
  have hs4 : w4.heap.size < (w4.alloc (.cells #[.slice a4 pm cp4] 61)).heap.size := by simp
  have hB4 : Below X3.heap.size X3 (w4.alloc (.cells #[.slice a4 pm cp4] 61)) := Below.step hb4 (Below.mono hX4 hb4.size)
  have HMA := Lib.hide (ho4.reads.2.below hX4)
  go_wp2_with fail
  generalize w4.alloc (.cells #[.slice a4 pm cp4] 61) = X4 at hX4 hc4 hs4 hB4 HMA ⊢
  generalize w4.heap.size = bR at hc4 hs4 ⊢
  have hs3' : bF < X4.heap.size := Nat.lt_of_lt_of_le hs3 hB4.size
  have HC3' := Lib.hide ((hB4.cell (p := ⟨bF, 0, none⟩) hs3).trans HC3.out)
  have HC4 := Lib.hide hc4
  have HATy := Lib.hide (HATx.out.below hB4)
  have HBy := Lib.hide (Below.step HBx.out (Below.mono hB4 HBx.out.size))
  clear hX4 hc4 hB4 hb4 ho4 hs3 HATx HBx HC3 CM
  refine (CP.out X4).mono ?_
  rintro e w5 ⟨rfl, hw5⟩
  subst hw5
  have CW1 := Lib.hide (with_any (1 + k0) AL PM bF bR g L cp a4 pm cp4 N X4 HC3'.out HC4.out hs3' hs4 HLL.out HPM.out HATy.out HMA.out (by omega) (by omega) HN.out)
  go_wp2_with fail
  refine CW1.out.mono ?_
  rintro e w6 ⟨g6, c6, rfl, hA6, hb6⟩
  have HA6 := Lib.hide hA6
  have HB6 := Lib.hide hb6
  clear hA6 hb6 CW1
  have hNl : ∀ k, (AL ++ [(⟨10, 0, 0, 0, 0⟩ : Stm.Act)] ++ (stepsOf PM k ++ stepsEnd)).length = N := fun k => by
    rw [List.length_append, List.length_append, List.length_append, stepsOf_length, HLL.out, HPM.out, HN.out]
    show L + 1 + (2 * pm + 2) = _
    omega
  have HNL := Lib.hide hNl
  clear hNl
  go_wp2_with fail
  refine (topRun_any _ _ N c6 w6 (HNL.out (1 + k0)) (by omega) HA6.out).mono ?_
  rintro e w7 ⟨xs, c7, lf7, a7, k7, rfl, hxl, hxc, hxa, hxk, hb7⟩
  have hB7 : Below X4.heap.size X4 w7 := Below.step HB6.out (Below.mono hb7 HB6.out.size)
  have HXC := Lib.hide hxc
  have HXA := Lib.hide hxa
  have HXL := Lib.hide hxl
  have CW2 := Lib.hide (with_any 400 AL PM bF bR g L cp a4 pm cp4 N w7 ((hB7.cell (p := ⟨bF, 0, none⟩) hs3').trans HC3'.out) ((hB7.cell (p := ⟨bR, 0, none⟩) hs4).trans HC4.out) (Nat.lt_of_lt_of_le hs3' hB7.size) (Nat.lt_of_lt_of_le hs4 hB7.size) HLL.out HPM.out (HATy.out.below hB7) (HMA.out.below hB7) (by omega) (by omega) HN.out)
  have HB7 := Lib.hide (Below.step HBy.out (Below.mono hB7 HBy.out.size))
  clear hxl hxc hxa hb7 hB7 HA6 HB6 HATy HMA HBy HC3' HC4
  go_wp2_with fail
  refine CW2.out.mono ?_
  rintro e w8 ⟨g8, c8, rfl, hA8, hb8⟩
  have HA8 := Lib.hide hA8
  have HB8 := Lib.hide hb8
  clear hA8 hb8 CW2
  go_wp2_with fail
  refine (topRun_any _ _ N c8 w8 (HNL.out 400) (by omega) HA8.out).mono ?_
  rintro e w9 ⟨ys, c9, lf9, a9, k9, rfl, hyl, hyc, hya, hyk, hb9⟩
  obtain ⟨p1, p2, zz, ex, ey, l1, l2⟩ := steps_same HXC.out hyc HCA.out HCM.out HSA.out HSM.out.2 (by rw [HLL.out, HPM.out]; omega) (by rw [HLL.out, HPM.out]; omega)
  rw [HLL.out, HPM.out] at l1 l2
  have hB9 : Below w7.heap.size w7 w9 := Below.step HB8.out (Below.mono hb9 HB8.out.size)
  have hx1 : xs[N - 1]? = some ⟨0, false, 0, false, zz, false, 0⟩ := by rw [ex, List.getElem?_append_right (by have := HN.out; omega), show N - 1 - p1.length = 0 by have := HN.out; omega]; rfl
  have hy1 : ys[N - 1]? = some ⟨0, false, 0, false, zz, false, 0⟩ := by rw [ey, List.getElem?_append_right (by have := HN.out; omega), show N - 1 - p2.length = 0 by have := HN.out; omega]; rfl
  obtain ⟨bx, ox, rfl, _, hcx⟩ := (HXA.out.below hB9).resolve_left (fun h => by have := HXL.out; rw [h, List.length_nil] at this; omega)
  obtain ⟨b2, o2, rfl, _, hcy⟩ := hya.resolve_left (fun h => by rw [h, List.length_nil] at hyl; omega)
  have HX1 := Lib.hide (hcx _ _ hx1)
  have HY1 := Lib.hide (hcy _ _ hy1)
  have HF := Lib.hide (Below.step HB7.out (Below.mono hB9 HB7.out.size))
  obtain ⟨M, hM⟩ : ∃ M, N = M + 1 := ⟨N - 1, by omega⟩
  subst hM
  rw [Nat.add_sub_cancel] at HX1 HY1
  clear hB9 hx1 hy1 hcx hcy ex ey l1 l2 hyl hyc hya hb9 HXA HXC HXL HB8 HA8 HB7 HNL HN HPM HLL HSA HCA HSM HCM HALE HKL hs3' hs4
  have y10 := HX1.out 0 _ rfl
  have y11 := HX1.out 1 _ rfl
  have y12 := HX1.out 2 _ rfl
  have y13 := HX1.out 3 _ rfl
  have y14 := HX1.out 4 _ rfl
  have y15 := HX1.out 5 _ rfl
  have y16 := HX1.out 6 _ rfl
  rw [Nat.add_zero] at y10
  have y20 := HY1.out 0 _ rfl
  have y21 := HY1.out 1 _ rfl
  have y22 := HY1.out 2 _ rfl
  have y23 := HY1.out 3 _ rfl
  have y24 := HY1.out 4 _ rfl
  have y25 := HY1.out 5 _ rfl
  have y26 := HY1.out 6 _ rfl
  rw [Nat.add_zero] at y20
  have heq := Try.eqlAns
  go_wp2_with fail
  go_quiet (fail)
  go_wp2
  go_ret
  first | exact ⟨rfl, below_drewN HF.out _⟩ | exact ⟨rfl, HF.out⟩
end Go.Proofs.Ytpdcaoagpjcgbab

