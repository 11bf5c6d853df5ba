/-
  The walk of limewashtop.TopCollected. It proves no statement by itself.
-/
import Derived.Test.YtpdcaoagpjcgbabEndWalks
import Derived.Test.YtpdcaoagpjcgbabCloneWalks
import Derived.Test.YtpdcaoagpjcgbabSimRun
set_option linter.unusedVariables false
set_option linter.unusedSimpArgs false
namespace Go.Proofs.Ytpdcaoagpjcgbab
open Go.RowKit Stm

theorem wpList_append_ans {ops : Array Oper} {rest : List Oper} {o : Oper} {a : Go.Act} {Q : Exit → Go.Act → World → Prop} (W wr : World) (B : Array Value) (t : TypeId) (hgd : o.guard = none) (s x : Operand)
    (ho : o.op = .call { callee := .builtin .append, args := #[s, x], argTypes := #[62, 62] }) (v : Value) (l : List Ans) (r : Ans)
    (hs : a.eval s = v) (hB : B = (ansCells r).toArray) (hx : a.eval x = .slice (some ⟨wr.heap.size, 0, none⟩) 1 1) (hl : OwnA wr W.heap.size v l) (hn : l.length + 1 ≤ 1000) (hb : Below W.heap.size W wr)
    (h : ∀ v' w', OwnA w' W.heap.size v' (l ++ [r]) → Below W.heap.size W w' → wpList Try.prog ops Q rest (a.put o.dst v') w') : wpList Try.prog ops Q (o :: rest) a (wr.alloc (.cells B t)) := by
  obtain ⟨iA, hiA, hA0, hA1, hA2⟩ := info_parts Try.answerInfo
  subst hB
  refine wpList_append_at _ hgd s x 62 ho W.heap.size 74 iA _ 7 56 Try.underlying62 hiA hA0 hA1 hA2 rfl (by decide) v l.length (acells l) hs (World.ownsRow.alloc hl _) ⟨wr.heap.size, 0, none⟩ 1 1 (ansCells r) hx rfl (ans_new wr r _) ?_ ?_ ?_ ?_ ?_
  · intro u hu; simp [ansCells] at hu; rcases hu with rfl | rfl | rfl | rfl | rfl | rfl | rfl <;> rfl
  · unfold maxLen; omega
  · omega
  · have := hb.size; simp; omega
  · intro v' w' h2 hg2 _ _
    have hvb : ∀ g, v.ownBlock = some g → W.heap.size ≤ g := fun g hg => (World.ownsRow.lt hl g hg).1
    have hsz : wr.heap.size + 1 ≤ w'.heap.size := by have h9 := hg2.size; simpa using h9
    have hbs := hb.size
    refine h v' w' (by unfold OwnA; rw [acells_snoc, List.length_append]; exact h2) ⟨hg2.os.trans hb.os, hg2.tape.trans hb.tape, hg2.output.trans hb.output, by omega, fun k hk => ?_⟩
    rw [hg2.block k (by simp; omega) (fun e => by have := hvb k e.symm; omega), Below.heap_alloc _ _ _ (by omega)]
    exact hb.block k hk

theorem OwnA.below {w w' : World} {base : Nat} {v : Value} {l : List Ans} (h : OwnA w base v l) (hb : Below w.heap.size w w') : OwnA w' base v l := ownsRow_kept h (fun g hg => hb.block g (World.ownsRow.lt h g hg).2)

theorem pickA_succ {l : List Stm.Act} {rs : List Ans} {i : Nat} {x : Stm.Act} {r : Ans} (hx : l[i]? = some x) (hr : rs[i]? = some r) : pickA (l.take (i + 1)) (rs.take (i + 1)) = pickA (l.take i) (rs.take i) ++ (if isCl x then [] else [r]) := by
  have h1 : i < l.length := by
    rcases Nat.lt_or_ge i l.length with h | h
    · exact h
    · rw [List.getElem?_eq_none h] at hx; cases hx
  have h2 : i < rs.length := by
    rcases Nat.lt_or_ge i rs.length with h | h
    · exact h
    · rw [List.getElem?_eq_none h] at hr; cases hr
  rw [List.getElem?_eq_getElem h1] at hx
  rw [List.getElem?_eq_getElem h2] at hr
  injection hx with hx
  injection hr with hr
  unfold pickA
  rw [List.take_succ_eq_append_getElem h1, List.take_succ_eq_append_getElem h2, List.zip_append (by simp; omega), List.filter_append, List.map_append, hx, hr]
  cases hc : isCl x <;> simp [List.filter_cons, hc]
theorem pickA_length (l : List Stm.Act) (rs : List Ans) : (pickA l rs).length ≤ l.length := by
  unfold pickA
  rw [List.length_map]
  refine Nat.le_trans (List.length_filter_le _ _) ?_
  rw [List.length_zip]
  omega

theorem small_shared : Small sharedActs := by
  intro a ha
  simp [sharedActs, shared6, copies] at ha
  rcases ha with rfl | rfl | rfl | rfl | rfl | rfl | rfl | rfl | rfl | rfl | rfl | rfl <;> simp
theorem mkActK_new (k th x1 x2 x3 : Int) : (mkActK k th x1 x2 x3).kind = 4 → (mkActK k th x1 x2 x3).n ≤ 3 := by
  have := (pick_lt x2 3 (by omega)).2
  unfold mkActK
  repeat' split
  all_goals
    dsimp only
    intro h
    omega
theorem small_acts (th : Int) (R : Nat → Nat → Int) (k : Nat) : Small (actsTo th R k) := by
  intro a ha hk
  unfold actsTo at ha
  obtain ⟨j, _, rfl⟩ := List.mem_map.1 ha
  exact mkActK_new _ _ _ _ _ hk

set_option maxHeartbeats 3200000 in
set_option maxRecDepth 100000 in
theorem topCollected.walk (a0 : Option Addr) (n0 cap0 : Nat) (R : Nat → Nat → Int) (_ : n0 ≤ cap0) (_ : cap0 ≤ maxLen) (w : World) (hR : Recs w a0 n0 4 R) :
    Calls Try.prog 12 #[.slice a0 n0 cap0] w fun e w' => e = .returned (.bool true) ∧ Below w.heap.size w w' := by
  have CA := Lib.hide (show ∀ w', Below w.heap.size w w' → Calls Try.prog 38 #[.slice a0 n0 cap0, .int .i64 45, .int .i64 4] w' (ActsPost w' (4 : Nat) R (min n0 45)) from fun w' h => acts_any a0 n0 cap0 R 45 4 w' (hR.below h) (by omega) (by omega) (by omega))
  have hkk : min n0 45 ≤ 45 := Nat.min_le_right _ _
  obtain ⟨AC, hAC⟩ : ∃ AC, AC = actsTo (4 : Nat) R (min n0 45) := ⟨_, rfl⟩
  have hACl : AC.length = min n0 45 := by rw [hAC, actsTo_length]
  have HSM := Lib.hide (show Small (sharedActs ++ AC) by rw [hAC]; exact small_shared.append (small_acts _ _ _))
  have HAC := Lib.hide hAC
  generalize min n0 45 = kk at CA hkk hACl HAC
  obtain ⟨L, hL⟩ : ∃ L, L = 12 + kk := ⟨_, rfl⟩
  have hL2 : L ≤ 57 := by omega
  have hL1 : 12 ≤ L := by omega
  have HLL := Lib.hide (show (sharedActs ++ AC).length = L by rw [List.length_append, hACl, hL]; rfl)
  have HKL := Lib.hide (show sharedActs.length + AC.length ≤ 1000 by rw [hACl]; have : sharedActs.length = 12 := rfl; omega)
  generalize hALe : sharedActs ++ AC = AL at HLL HSM
  have HALE := Lib.hide hALe
  clear hR hL hAC hACl hkk hALe
  go_enter Try.func12, Try.ntmps12
  go_wp2_with fail
  refine (shared_any w).mono ?_
  rintro e w1 ⟨a1, cp1, rfl, ho1, hb1⟩
  have HO1 := Lib.hide ho1
  have HB1 := Lib.hide hb1
  clear ho1 hb1
  go_wp2_with fail
  refine (CA.out w1 HB1.out).mono ?_
  rintro e w2 ⟨a2, cp2, rfl, ho2, hb2⟩
  rw [← HAC.out] at ho2
  have HO2 := Lib.hide (show OwnC w2 w.heap.size (.slice a2 kk cp2) AC from ⟨ho2.1, ho2.2.imp id (fun ⟨g, cap, cur, e, hb, hr⟩ => ⟨g, cap, cur, e, Nat.le_trans HB1.out.size hb, hr⟩)⟩)
  have HO1' := Lib.hide (HO1.out.below hb2)
  have HB2 := Lib.hide (Below.step HB1.out (Below.mono hb2 HB1.out.size))
  clear ho2 hb2 HO1
  go_wp2_with (at_builtin; refine wpList_append_acts _ rfl (.tmp 11) (.tmp 13) rfl w.heap.size _ _ sharedActs AC rfl rfl HO1'.out HO2.out HKL.out HB2.out.size ?_)
  intro v3 w3 ho3 hb3
  rw [HALE.out] at ho3
  have HB3 := Lib.hide (Below.step HB2.out hb3)
  obtain ⟨g, cp, cur, rfl, _, _, hcp, _⟩ := ho3.2.resolve_left (fun h => by have := HLL.out; omega)
  rw [HLL.out] at hcp ho3 ⊢
  have HAT := Lib.hide ho3.reads.2
  clear ho3 hb3 HO1' HO2 HB2 HB1
  go_wp2_with fail
  refine (topRun_any AL _ L cp w3 HLL.out (by omega) HAT.out).mono ?_
  rintro e w4 ⟨xs, c, lf, a4, c4, rfl, hxl, hxc, hxa, hxk, hb4⟩
  have HXL := Lib.hide hxl
  have HXC := Lib.hide hxc
  have HXA := Lib.hide hxa
  have HB4 := Lib.hide (Below.step HB3.out (Below.mono hb4 HB3.out.size))
  have HAT4 := Lib.hide (HAT.out.below hb4)
  clear hxl hxc hxa hb4 HAT HB3
  go_wp2_with fail
  refine (cloneC_any g 0 L cp AL w4 HLL.out (by omega) HAT4.out).mono ?_
  rintro e w5 ⟨a5, c5, rfl, ho5, hb5⟩
  have HO5 := Lib.hide ho5
  have HB5 := Lib.hide hb5
  clear ho5 hb5
  go_wp2_with fail
  refine (deleteC_any a5 L c5 AL w4.heap.size w5 HO5.out (by omega) HB5.out.size).mono ?_
  rintro e w6 ⟨a6, c6, rfl, ho6, hb6⟩
  obtain ⟨P, hP⟩ : ∃ P, P = (plainOf AL).length := ⟨_, rfl⟩
  rw [← hP] at ho6 ⊢
  have HP := Lib.hide hP.symm
  have hPL : P ≤ L := by rw [hP, ← HLL.out]; exact plainOf_length AL
  have HAT6 := Lib.hide ho6.reads.2
  have HB6 := Lib.hide (Below.step HB5.out hb6)
  clear hP ho6 hb6 HO5 HB5
  go_wp2_with fail
  refine (topRun_any (plainOf AL) a6 P c6 w6 HP.out (by omega) HAT6.out).mono ?_
  rintro e w7 ⟨ys, c7, lf7, a7, k7, rfl, hyl, hyc, hya, hyk, hb7⟩
  have hB7 : Below w4.heap.size w4 w7 := Below.step HB6.out (Below.mono hb7 HB6.out.size)
  have HAT7 := Lib.hide (HAT4.out.below hB7)
  have HXA7 := Lib.hide (HXA.out.below hB7)
  have HB7 := Lib.hide (Below.step HB4.out (Below.mono hB7 HB4.out.size))
  have HYE := Lib.hide (collected_same HXC.out hyc (by rw [HLL.out]; omega) HSM.out (by have := news_le AL; rw [HLL.out] at this; omega))
  have HYL := Lib.hide hyl
  have HYA := Lib.hide hya
  clear hyl hyc hya hb7 hB7 HAT6 HB6 HAT4 HXA HB4 HXC
  go_wp2
  go_loopw [35, 8] (fun u v wr => ∃ i : Nat, i ≤ L ∧ u = .int .i64 i ∧ OwnA wr w7.heap.size v (pickA (AL.take i) (xs.take i)) ∧ Below w7.heap.size w7 wr) (fun u _ _ => L - (intOf u).toNat)
  case atStart => exact ⟨0, by omega, rfl, ⟨rfl, .inl ⟨rfl, rfl⟩⟩, Below.refl _ _⟩
  case round =>
    obtain ⟨i, hiL, rfl, hown, hbel⟩ := hrel
    have HOW := Lib.hide hown
    have HBE := Lib.hide hbel
    clear hown hbel
    by_cases hlt : i < L
    · obtain ⟨z, hz⟩ : ∃ z, AL[i]? = some z := ⟨AL[i]'(by rw [HLL.out]; exact hlt), List.getElem?_eq_getElem _⟩
      obtain ⟨r, hr⟩ : ∃ r, xs[i]? = some r := ⟨xs[i]'(by rw [HXL.out]; exact hlt), List.getElem?_eq_getElem _⟩
      obtain ⟨b, o, eb, e0, e1, e2, e3, e4⟩ := (HAT7.out.below HBE.out).cells hz
      injection eb with eb
      injection eb with eb1 eb2
      subst eb1 eb2
      rw [Nat.zero_add] at e0 e1 e2 e3 e4
      have HTS := Lib.hide (pickA_succ hz hr)
      have C := Lib.hide (cleaning_any z)
      have HR := Lib.hide hr
      have hpl := pickA_length (AL.take i) (xs.take i)
      have hpl2 : (pickA (AL.take i) (xs.take i)).length ≤ 57 := by rw [List.length_take] at hpl; omega
      have HPL := Lib.hide hpl2
      clear hz hr hpl hpl2
      unfold actV at C
      obtain ⟨z0, z1, z2, z3, z4⟩ := z
      dsimp only at C e0 e1 e2 e3 e4
      go_wp2_with fail
      refine (C.out _).mono ?_
      rintro e w8 ⟨rfl, hb8⟩
      have hB8 : Below wr.heap.size wr w8 := Below.step (show Below wr.heap.size wr (wr.alloc (.cells #[.int .i64 z0, .int .i64 z1, .int .i64 z2, .int .i64 z3, .int .i64 z4] 71)) from (by repeat (first | exact Below.refl _ _ | assumption | refine Below.drew ?_ | refine below_drewN ?_ _ | refine Below.allocs ?_ | refine Below.next ?_ (by assumption) | refine Below.setCell ?_ (by dsimp only; omega) _))) (Below.mono hb8 (by simp))
      have HO8 := Lib.hide (HOW.out.below hB8)
      have HB8 := Lib.hide (Below.step HBE.out (Below.mono hB8 HBE.out.size))
      obtain ⟨bx, ox, rfl, hlx, hcx⟩ := (HXA7.out.below HB8.out).resolve_left (fun h => by have := HXL.out; rw [h] at this; simp at this; omega)
      have HX := Lib.hide (hcx i r HR.out)
      clear hb8 hB8 HOW HBE e0 e1 e2 e3 e4 C hcx hlx
      obtain ⟨r0, r1, r2, r3, r4, r5, r6⟩ := r
      have y0 := HX.out 0 _ rfl
      have y1 := HX.out 1 _ rfl
      have y2 := HX.out 2 _ rfl
      have y3 := HX.out 3 _ rfl
      have y4 := HX.out 4 _ rfl
      have y5 := HX.out 5 _ rfl
      have y6 := HX.out 6 _ rfl
      rw [Nat.add_zero] at y0
      clear HX
      cases hcl : isCl ⟨z0, z1, z2, z3, z4⟩ with
      | true =>
        rw [hcl, if_pos rfl, List.append_nil] at HTS
        have HF := Lib.hide (show OwnA w8 w7.heap.size u8 (pickA (AL.take (i + 1)) (xs.take (i + 1))) ∧ Below w7.heap.size w7 w8 from ⟨by rw [HTS.out]; exact HO8.out, HB8.out⟩)
        clear hcl
        go_wp2
        go_roundw
        case rel => exact ⟨i + 1, by omega, by go_num, HF.out⟩
        case measure => simp [intOf]; omega
      | false =>
        rw [hcl, if_neg (by decide)] at HTS
        clear hcl
        go_wp2_with (at_builtin; refine wpList_append_ans w7 w8 _ _ rfl (.tmp 43) (.tmp 48) rfl u8 (pickA (AL.take i) (xs.take i)) ⟨r0, r1, r2, r3, r4, r5, r6⟩ rfl rfl rfl HO8.out (by have := HPL.out; omega) HB8.out ?_)
        intro v9 w9 ho9 hb9
        rw [← HTS.out] at ho9
        have HF := Lib.hide (And.intro ho9 hb9)
        clear ho9 hb9 y0 y1 y2 y3 y4 y5 y6
        go_wp2
        go_roundw
        case rel => exact ⟨i + 1, by omega, by go_num, HF.out⟩
        case measure => simp [intOf]; omega
    · obtain rfl : i = L := by omega
      have hfin : pickA (AL.take i) (xs.take i) = ys := by
        rw [List.take_of_length_le (by rw [HLL.out]; exact Nat.le_refl _), List.take_of_length_le (by rw [HXL.out]; exact Nat.le_refl _)]
        exact HYE.out
      have hown := HOW.out
      rw [hfin] at hown
      obtain ⟨a9, c9, rfl⟩ : ∃ a9 c9, u8 = .slice a9 P c9 := by
        rcases hown.2 with ⟨h5, h6⟩ | ⟨g, cap, cur, h5, _⟩
        · exact ⟨none, 0, by rw [h5, ← HYL.out, h6]⟩
        · exact ⟨_, cap, by rw [h5, HYL.out]⟩
      have CE := Lib.hide (equalA_same a9 a7 P c9 k7 ys wr hown.reads.2 (HYA.out.below HBE.out) HYL.out (by omega))
      have HFB := Lib.hide (Below.step HB7.out (Below.mono HBE.out HB7.out.size))
      clear hfin hown HOW HBE
      go_wp2_with fail
      refine CE.out.mono ?_
      rintro e w9 ⟨rfl, hb9⟩
      have HF := Lib.hide (Below.step HFB.out (Below.mono hb9 HFB.out.size))
      clear hb9
      go_wp2
      go_ret
      exact ⟨rfl, HF.out⟩
end Go.Proofs.Ytpdcaoagpjcgbab

