/-
  The walk of limewashtop.TopUndone. It proves no statement by itself.
-/
import Derived.Test.YtpdcaoagpjcgbacConcatWalks
import Derived.Test.YtpdcaoagpjcgbacUndoneModel
set_option linter.unusedVariables false
set_option linter.unusedSimpArgs false
namespace Go.Proofs.Ytpdcaoagpjcgbac
open Go.RowKit Stm

theorem moreOf_take_succ {l : List Stm.Act} {j : Nat} {x : Stm.Act} (hj : l[j]? = some x) : moreOf (l.take (j + 1)) = moreOf (l.take j) ++ (if isMore x then [x] else []) := by
  have hlt : j < l.length := by
    rcases Nat.lt_or_ge j l.length with h | h
    · exact h
    · rw [List.getElem?_eq_none h] at hj; cases hj
  unfold moreOf
  rw [List.take_succ_eq_append_getElem hlt, List.filter_append]
  rw [List.getElem?_eq_getElem hlt] at hj
  injection hj with hj
  rw [hj]
  cases h : isMore x <;> simp [List.filter_cons, h]
theorem moreOf_length (l : List Stm.Act) : (moreOf l).length ≤ l.length := List.length_filter_le _ _

theorem AnsAt.drop {w : World} {b o : Nat} {l : List Ans} (h : AnsAt w (some ⟨b, o, none⟩) l) (k : Nat) : AnsAt w (some ⟨b, o + k * 7, none⟩) (l.drop k) := by
  rcases h with h | ⟨b', o', e, hlt, hc⟩
  · exact .inl (by rw [h]; simp)
  · injection e with e
    injection e with e1 e2
    subst e1 e2
    refine .inr ⟨b, o + k * 7, rfl, hlt, fun i x hi j v hv => ?_⟩
    rw [List.getElem?_drop] at hi
    have := hc (k + i) x hi j v hv
    rw [Nat.add_mul] at this
    rw [show o + k * 7 + i * 7 + j = o + (k * 7 + i * 7) + j by omega]
    exact this

theorem wpList_append_litP {ops : Array Oper} {rest : List Oper} {o : Oper} {a : Go.Act} {Q : Exit → Go.Act → World → Prop} (W wr : World) (B : Array Value) (t : TypeId) (hgd : o.guard = none) (s x : Operand)
    (ho : o.op = .call { callee := .builtin .append, args := #[s, x], argTypes := #[23, 23] }) (v : Value) (k p : Nat) (l m : List Stm.Act)
    (hs : a.eval s = v) (hB : B = (ccells m).toArray) (hk : m.length = k) (hx : a.eval x = .slice (some ⟨p, 0, none⟩) k k) (hp : wr.heap.size = p) (hl : OwnC wr W.heap.size v l) (hn : l.length + k ≤ 1000) (hb : Below W.heap.size W wr)
    (h : ∀ v' w', OwnC w' W.heap.size v' (l ++ m) → Below W.heap.size W w' → wpList Try.prog ops Q rest (a.put o.dst v') w') : wpList Try.prog ops Q (o :: rest) a (wr.alloc (.cells B t)) := by
  subst hp
  exact wpList_append_lit W wr B t hgd s x ho v k l m hs hB hk hx hl hn hb h

/-- A list of one's own, as a value. -/
theorem OwnC.shape {w : World} {base n : Nat} {v : Value} {l : List Stm.Act} (h : OwnC w base v l) (hl : l.length = n) : ∃ a c, v = .slice a n c ∧ ActsAt w a l ∧ (∀ x, a = some x → ∃ g o, x = ⟨g, o, none⟩) ∧ (a = none → l = [] ∧ c = 0) := by
  rcases h.2 with ⟨h5, h6⟩ | ⟨g, cap, cur, h5, _⟩
  · refine ⟨none, 0, by rw [h5, ← hl, h6], .inl (List.length_eq_zero_iff.1 h6), fun x e => (by cases e), fun _ => ⟨List.length_eq_zero_iff.1 h6, rfl⟩⟩
  · subst h5
    exact ⟨_, cap, by rw [hl], h.reads.2, fun x e => ⟨g, 0, (Option.some.inj e).symm⟩, fun e => (by cases e)⟩

/-- A value that holds a list. -/
def Sl (w : World) (v : Value) (l : List Stm.Act) : Prop := ∃ a c, v = .slice a l.length c ∧ ActsAt w a l ∧ (∀ x, a = some x → ∃ g o, x = ⟨g, o, none⟩) ∧ (a = none → l = [] ∧ c = 0)
def Sls (w : World) : List Value → List (List Stm.Act) → Prop
  | [], [] => True
  | v :: vs, l :: ll => Sl w v l ∧ Sls w vs ll
  | _, _ => False
theorem Sls.at {w : World} : ∀ {vs : List Value} {ll : List (List Stm.Act)}, Sls w vs ll → ∀ (i : Nat) (l : List Stm.Act), ll[i]? = some l → ∃ v, vs[i]? = some v ∧ Sl w v l
  | [], [], _, i, l, hl => by simp at hl
  | v :: vs, m :: ll, h, 0, l, hl => by simp at hl; subst hl; exact ⟨v, rfl, h.1⟩
  | v :: vs, m :: ll, h, i + 1, l, hl => by simpa using Sls.at h.2 i l (by simpa using hl)
  | [], _ :: _, h, _, _, _ => h.elim
  | _ :: _, [], h, _, _, _ => h.elim
theorem slc_new (w : World) (vs : List Value) (ll : List (List Stm.Act)) (B : Array Value) (t : TypeId) (hB : B = vs.toArray) (h : Sls w vs ll) (hb : Below w.heap.size w (w.alloc (.cells B t))) : Slc (w.alloc (.cells B t)) w.heap.size ll := by
  subst hB
  refine ⟨by simp, fun i l hl => ?_⟩
  obtain ⟨v, hv, a, c, rfl, h1, h2⟩ := h.at i l hl
  exact ⟨a, c, (BoxL.new w vs t).cell i _ hv, h1.below hb, h2⟩
theorem Sl.some {w : World} {g o n c : Nat} {l : List Stm.Act} (h : ActsAt w (some ⟨g, o, none⟩) l) (hn : l.length = n) : Sl w (.slice (some ⟨g, o, none⟩) n c) l := ⟨_, c, by rw [hn], h, fun x e => ⟨g, o, (Option.some.inj e).symm⟩, fun e => (by cases e)⟩
theorem acts_at_new (w : World) (l : List Stm.Act) (B : Array Value) (t : TypeId) (hB : B = (ccells l).toArray) : ActsAt (w.alloc (.cells B t)) (some ⟨w.heap.size, 0, none⟩) l := by
  subst hB
  refine .inr ⟨w.heap.size, 0, rfl, by simp, fun i x hx => ?_⟩
  have hc : ∀ j v, (actCells x)[j]? = some v → (w.alloc (.cells (ccells l).toArray t)).cell? ⟨w.heap.size, 0 + i * 5 + j, none⟩ = some v := fun j v hv => by
    have := acts_new w l t (i * 5 + j) v (ccells_at l i x hx j v hv)
    rw [addr_add] at this
    rw [Nat.zero_add]
    exact this
  exact ⟨hc 0 _ rfl, hc 1 _ rfl, hc 2 _ rfl, hc 3 _ rfl, hc 4 _ rfl⟩

set_option maxHeartbeats 3200000 in
set_option maxRecDepth 100000 in
theorem topUndone.walk (a0 : Option Addr) (n0 cap0 : Nat) (R : Nat → Nat → Int) (_ : n0 ≤ cap0) (_ : cap0 ≤ maxLen) (b0 : Option Addr) (m0 capb : Nat) (S : Nat → Nat → Int) (_ : m0 ≤ capb) (_ : capb ≤ maxLen) (w : World) (hR : Recs w a0 n0 4 R) (hS : Recs w b0 m0 4 S) :
    Calls Try.prog 4 #[.slice a0 n0 cap0, .slice b0 m0 capb] w fun e w' => e = .returned (.bool true) ∧ Below w.heap.size w w' := by
  have CA := Lib.hide (show ∀ w', Below w.heap.size w w' → Calls Try.prog 9 #[.slice a0 n0 cap0, .int .i64 30, .int .i64 4] w' (PlainPost w' (actsTo (4 : Nat) R (min n0 30))) from fun w' h => plain_any a0 n0 cap0 R 30 4 w' (hR.below h) (by omega) (by omega) (by omega))
  have CM := Lib.hide (show ∀ w', Below w.heap.size w w' → Calls Try.prog 9 #[.slice b0 m0 capb, .int .i64 20, .int .i64 1] w' (PlainPost w' (actsTo (1 : Nat) S (min m0 20))) from fun w' h => plain_any b0 m0 capb S 20 1 w' (hS.below h) (by omega) (by omega) (by omega))
  obtain ⟨P, hP⟩ : ∃ P, P = plainOf (actsTo (4 : Nat) R (min n0 30)) := ⟨_, rfl⟩
  obtain ⟨PM, hPM⟩ : ∃ PM, PM = plainOf (actsTo (1 : Nat) S (min m0 20)) := ⟨_, rfl⟩
  have hPl : P.length ≤ 30 := by rw [hP]; have := plainOf_length (actsTo (4 : Nat) R (min n0 30)); rw [actsTo_length] at this; omega
  have hPMl : PM.length ≤ 20 := by rw [hPM]; have := plainOf_length (actsTo (1 : Nat) S (min m0 20)); rw [actsTo_length] at this; omega
  have HSM := Lib.hide (show Small P ∧ Small PM by rw [hP, hPM]; exact ⟨(small_acts _ _ _).plain, (small_acts _ _ _).plain⟩)
  have HCP := Lib.hide (show ∀ a ∈ P, ¬ Stm.Clean a by rw [hP]; exact fun a ha => plainOf_plain ha)
  have HZM := Lib.hide (show ∀ a ∈ PM, Zero a by rw [hPM]; exact fun a ha => zero_acts S _ a (plainOf_sub ha))
  unfold PlainPost at CA CM
  rw [← hP] at CA
  rw [← hPM] at CM
  obtain ⟨pl, hpl⟩ : ∃ pl, P.length = pl := ⟨_, rfl⟩
  obtain ⟨pm, hpm⟩ : ∃ pm, PM.length = pm := ⟨_, rfl⟩
  rw [hpl] at CA hPl
  rw [hpm] at CM hPMl
  have HPL := Lib.hide hpl
  have HPM := Lib.hide hpm
  obtain ⟨L, hL⟩ : ∃ L, L = 12 + pl := ⟨_, rfl⟩
  have hL2 : L ≤ 42 := by omega
  have HLL := Lib.hide (show (sharedActs ++ P).length = L by rw [List.length_append, hpl, hL]; rfl)
  have HKL := Lib.hide (show sharedActs.length + P.length ≤ 1000 by rw [hpl]; have : sharedActs.length = 12 := rfl; omega)
  have HSA := Lib.hide (show Small (sharedActs ++ P) from small_shared.append HSM.out.1)
  have HCA := Lib.hide (show ∀ a ∈ sharedActs ++ P, ¬ Stm.Clean a from fun a ha => by
    rcases List.mem_append.1 ha with h | h
    · simp [sharedActs, shared6, copies] at h
      unfold Stm.Clean
      rcases h with rfl | rfl | rfl | rfl | rfl | rfl | rfl | rfl | rfl | rfl | rfl | rfl <;> simp
    · exact HCP.out a h)
  generalize hALe : sharedActs ++ P = AL at HLL HSA HCA
  have HALE := Lib.hide hALe
  clear hR hS hL hP hPM hpl hpm hALe HCP
  go_enter Try.func4, Try.ntmps4
  go_wp2_with fail
  refine (shared_any w).mono ?_
  rintro e w1 ⟨a1, cp1, rfl, ho1, hb1⟩
  have HO1 := Lib.hide ho1
  have HB1 := Lib.hide hb1
  clear ho1 hb1
  go_wp2_with fail
  refine (CA.out w1 HB1.out).mono ?_
  rintro e w2 ⟨a2, cp2, rfl, ho2, hb2⟩
  have HO2 := Lib.hide (show OwnC w2 w.heap.size (.slice a2 pl cp2) P from ⟨ho2.1, ho2.2.imp id (fun ⟨g, cap, cur, e, hb, hr⟩ => ⟨g, cap, cur, e, Nat.le_trans HB1.out.size hb, hr⟩)⟩)
  have HO1' := Lib.hide (HO1.out.below hb2)
  have HB2 := Lib.hide (Below.step HB1.out (Below.mono hb2 HB1.out.size))
  clear ho2 hb2 HO1 CA
  go_wp2_with (at_builtin; refine wpList_append_acts _ rfl (.tmp 18) (.tmp 20) rfl w.heap.size _ _ sharedActs P rfl rfl HO1'.out HO2.out HKL.out HB2.out.size ?_)
  intro v3 w3 ho3 hb3
  rw [HALE.out] at ho3
  have HB3 := Lib.hide (Below.step HB2.out hb3)
  have HO3 := Lib.hide ho3
  clear ho3 hb3 HO1' HO2 HB2 HB1
  go_wp2
  go_loopw [22, 5] (fun u v wr => ∃ t : Nat, t ≤ 4 ∧ u = .int .i64 t ∧ OwnC wr w.heap.size v (AL ++ aborts t) ∧ Below w.heap.size w wr) (fun u _ _ => 4 - (intOf u).toNat)
  case atStart => exact ⟨0, by omega, rfl, by simpa [aborts] using HO3.out, HB3.out⟩
  case round =>
    obtain ⟨t, ht, rfl, hown, hbel⟩ := hrel
    have HOW := Lib.hide hown
    have HBE := Lib.hide hbel
    have hlen : (AL ++ aborts t).length = L + t := by rw [List.length_append, HLL.out, aborts_length]
    have HLE := Lib.hide hlen
    clear hown hbel hlen
    by_cases h4 : t < 4
    · have i1 : (t : Int) < 4 := by omega
      go_wp2_with (at_builtin; refine wpList_append_lit w wr _ _ rfl (.tmp 25) (.tmp 28) rfl u5 1 (AL ++ aborts t) [⟨3, (t : Int), 0, 0, 0⟩] rfl rfl rfl rfl HOW.out (by rw [HLE.out]; omega) HBE.out ?_)
      intro v4 w4 hown4 hb4
      have HF := Lib.hide (show OwnC w4 w.heap.size v4 (AL ++ aborts (t + 1)) ∧ Below w.heap.size w w4 from ⟨by rw [aborts_succ]; simpa only [List.append_assoc] using hown4, hb4⟩)
      clear hown4 hb4
      go_wp2
      go_roundw
      case rel => exact ⟨t + 1, by omega, by go_num, HF.out⟩
      case measure => simp [intOf]; omega
    · obtain rfl : t = 4 := by omega
      obtain ⟨g, cp, cur, hu5, _, _, hcp, _⟩ := HOW.out.2.resolve_left (fun h => by have := HLE.out; omega)
      rw [HLE.out] at hcp hu5
      subst hu5
      have HAT := Lib.hide HOW.out.reads.2
      clear HOW HO3 HB3 h4
      generalize hA4 : AL ++ aborts 4 = A4 at HAT HLE
      have HA4 := Lib.hide hA4
      clear hA4
      go_wp2_with fail
      refine (CM.out wr HBE.out).mono ?_
      rintro e wb ⟨a3, cp3, rfl, ho3, hb3⟩
      have HMA := Lib.hide ho3.reads.2
      have HATb := Lib.hide (HAT.out.below hb3)
      have HBb := Lib.hide (Below.step HBE.out (Below.mono hb3 HBE.out.size))
      clear ho3 hb3 HAT HBE CM
      go_wp2
      go_loopw [34, 7] (fun u v wr => ∃ j : Nat, j ≤ pm ∧ u = .int .i64 j ∧ OwnC wr wb.heap.size v (moreOf (PM.take j)) ∧ Below wb.heap.size wb wr) (fun u _ _ => pm - (intOf u).toNat)
      case atStart => exact ⟨0, by omega, rfl, ⟨rfl, .inl ⟨rfl, rfl⟩⟩, Below.refl _ _⟩
      case round =>
        obtain ⟨j, hj, rfl, hown, hbel⟩ := hrel
        have HOW := Lib.hide hown
        have HBE := Lib.hide hbel
        clear hown hbel
        by_cases hlt : j < pm
        · obtain ⟨z, hz⟩ : ∃ z, PM[j]? = some z := ⟨PM[j]'(by rw [HPM.out]; exact hlt), List.getElem?_eq_getElem _⟩
          obtain ⟨b, o, rfl, e0, e1, e2, e3, e4⟩ := (HMA.out.below HBE.out).cells hz
          have HTS := Lib.hide (moreOf_take_succ hz)
          have hml := moreOf_length (PM.take j)
          have HML := Lib.hide (show (moreOf (PM.take j)).length ≤ 20 by rw [List.length_take] at hml; omega)
          clear hz hml
          obtain ⟨z0, z1, z2, z3, z4⟩ := z
          dsimp only at e0 e1 e2 e3 e4
          have hX : Below wr.heap.size wr (wr.alloc (.cells #[.int .i64 z0, .int .i64 z1, .int .i64 z2, .int .i64 z3, .int .i64 z4] 27)) := (by repeat (first | exact Below.refl _ _ | assumption | refine Below.drew ?_ | refine below_drewN ?_ _ | refine Below.allocs ?_ | refine Below.next ?_ (by assumption) | refine Below.setCell ?_ (by dsimp only; omega) _))
          have HX := Lib.hide hX
          have HOX := Lib.hide (HOW.out.below hX)
          have HBX := Lib.hide (Below.step HBE.out (Below.mono hX HBE.out.size))
          clear hX
          by_cases c1 : z0 = 1
          · subst c1
            have HF := Lib.hide (show OwnC (wr.alloc (.cells #[.int .i64 1, .int .i64 z1, .int .i64 z2, .int .i64 z3, .int .i64 z4] 27)) wb.heap.size u7 (moreOf (PM.take (j + 1))) ∧ Below wb.heap.size wb (wr.alloc (.cells #[.int .i64 1, .int .i64 z1, .int .i64 z2, .int .i64 z3, .int .i64 z4] 27)) from ⟨by rw [HTS.out]; simpa [isMore] using HOX.out, HBX.out⟩)
            go_wp2
            go_roundw
            case rel => exact ⟨j + 1, by omega, by go_num, HF.out⟩
            case measure => simp [intOf]; omega
          by_cases c2 : z0 = 2
          · subst c2
            have HF := Lib.hide (show OwnC (wr.alloc (.cells #[.int .i64 2, .int .i64 z1, .int .i64 z2, .int .i64 z3, .int .i64 z4] 27)) wb.heap.size u7 (moreOf (PM.take (j + 1))) ∧ Below wb.heap.size wb (wr.alloc (.cells #[.int .i64 2, .int .i64 z1, .int .i64 z2, .int .i64 z3, .int .i64 z4] 27)) from ⟨by rw [HTS.out]; simpa [isMore] using HOX.out, HBX.out⟩)
            clear c1
            go_wp2
            go_roundw
            case rel => exact ⟨j + 1, by omega, by go_num, HF.out⟩
            case measure => simp [intOf]; omega
          by_cases c3 : z0 = 3
          · subst c3
            have HF := Lib.hide (show OwnC (wr.alloc (.cells #[.int .i64 3, .int .i64 z1, .int .i64 z2, .int .i64 z3, .int .i64 z4] 27)) wb.heap.size u7 (moreOf (PM.take (j + 1))) ∧ Below wb.heap.size wb (wr.alloc (.cells #[.int .i64 3, .int .i64 z1, .int .i64 z2, .int .i64 z3, .int .i64 z4] 27)) from ⟨by rw [HTS.out]; simpa [isMore] using HOX.out, HBX.out⟩)
            clear c1 c2
            go_wp2
            go_roundw
            case rel => exact ⟨j + 1, by omega, by go_num, HF.out⟩
            case measure => simp [intOf]; omega
          have d1 : (z0 != 1) = true := by simpa using c1
          have d2 : (z0 != 2) = true := by simpa using c2
          have d3 : (z0 != 3) = true := by simpa using c3
          have hmm : isMore ⟨z0, z1, z2, z3, z4⟩ = true := by simp [isMore, c1, c2, c3]
          rw [hmm, if_pos rfl] at HTS
          clear c1 c2 c3 hmm
          go_wp2_with (at_builtin; refine wpList_append_litP wb _ _ _ rfl (.tmp 51) (.tmp 53) rfl u7 1 _ (moreOf (PM.take j)) [⟨z0, z1, z2, z3, z4⟩] rfl rfl rfl rfl (by simp) HOX.out (by have := HML.out; omega) HBX.out ?_)
          intro v4 w4 hown4 hb4
          have HF := Lib.hide (show OwnC w4 wb.heap.size v4 (moreOf (PM.take (j + 1))) ∧ Below wb.heap.size wb w4 from ⟨by rw [HTS.out]; exact hown4, hb4⟩)
          clear hown4 hb4 e0 e1 e2 e3 e4
          go_wp2
          go_roundw
          case rel => exact ⟨j + 1, by omega, by go_num, HF.out⟩
          case measure => simp [intOf]; omega
        · obtain rfl : j = pm := by omega
          have hown := HOW.out
          rw [List.take_of_length_le (by rw [HPM.out]; exact Nat.le_refl _)] at hown
          obtain ⟨M, hMe⟩ : ∃ M, M = moreOf PM := ⟨_, rfl⟩
          rw [← hMe] at hown
          obtain ⟨mm, hmm⟩ : ∃ mm, M.length = mm := ⟨_, rfl⟩
          have hmm2 : mm ≤ 20 := by have := moreOf_length PM; rw [← hMe, hmm, HPM.out] at this; omega
          have HMM := Lib.hide hmm
          have HMZ := Lib.hide (show ∀ a ∈ M, isMore a = true ∧ Zero a by rw [hMe]; exact fun a ha => ⟨(List.mem_filter.1 ha).2, HZM.out a (List.mem_filter.1 ha).1⟩)
          have HMS := Lib.hide (show Small M by rw [hMe]; exact fun a ha => HSM.out.2 a (List.mem_filter.1 ha).1)
          obtain ⟨am, cm, hu7, hmat, hm1, hm2⟩ := hown.shape hmm
          subst hu7
          have HMAT := Lib.hide hmat
          have HM1 := Lib.hide hm1
          have HM2 := Lib.hide hm2
          have HATc := Lib.hide (HATb.out.below HBE.out)
          have HBc := Lib.hide (Below.step HBb.out (Below.mono HBE.out HBb.out.size))
          obtain ⟨wc, hwc⟩ : ∃ wc, wc = wr := ⟨_, rfl⟩
          rw [← hwc] at HMAT HATc HBc ⊢
          clear hwc hown hMe hmm hmat hm1 hm2 HOW HBE HATb HBb HMA hlt hj HZM HSM HPM
          go_wp2
          go_loopw [56, 10] (fun u v wr => ∃ t : Nat, t ≤ 4 ∧ u = .int .i64 t ∧ OwnC wr wc.heap.size v (gT t) ∧ Below wc.heap.size wc wr) (fun u _ _ => 4 - (intOf u).toNat)
          case atStart => exact ⟨0, by omega, rfl, ⟨rfl, .inl ⟨rfl, rfl⟩⟩, Below.refl _ _⟩
          case round =>
            obtain ⟨t, ht, rfl, hown, hbel⟩ := hrel
            have HOW := Lib.hide hown
            have HBE := Lib.hide hbel
            have HLG := Lib.hide (gT_length t)
            clear hown hbel
            by_cases h4 : t < 4
            · have i1 : (t : Int) < 4 := by omega
              go_wp2_with (at_builtin; refine wpList_append_lit wc wr _ _ rfl (.tmp 59) (.tmp 62) rfl u10 1 (gT t) [⟨1, (t : Int), 0, 0, 0⟩] rfl rfl rfl rfl HOW.out (by rw [HLG.out]; omega) HBE.out ?_)
              intro v4 w4 hown4 hb4
              obtain ⟨G1, hG1⟩ : ∃ G1, G1 = gT t ++ [⟨1, (t : Int), 0, 0, 0⟩] := ⟨_, rfl⟩
              rw [← hG1] at hown4
              have HG1 := Lib.hide hG1
              have hgl : G1.length = 14 * t + 1 := by rw [hG1, List.length_append, HLG.out]; rfl
              have HGL := Lib.hide hgl
              have HO4 := Lib.hide hown4
              have HB4 := Lib.hide hb4
              clear hown4 hb4 HOW HBE hG1 hgl
              go_wp2
              go_loopw [64, 10] (fun u v wr => ∃ r : Nat, r ≤ 4 ∧ u = .int .i64 r ∧ OwnC wr wc.heap.size v (G1 ++ gR t r) ∧ Below wc.heap.size wc wr) (fun u _ _ => 4 - (intOf u).toNat)
              case atStart => exact ⟨0, by omega, rfl, by simpa [gR] using HO4.out, HB4.out⟩
              case round =>
                obtain ⟨r, hr, rfl, hown, hbel⟩ := hrel
                have HOW := Lib.hide hown
                have HBE := Lib.hide hbel
                clear hown hbel
                by_cases h5 : r < 4
                · have i2 : (r : Int) < 4 := by omega
                  obtain ⟨G2, hG2⟩ : ∃ G2, G2 = G1 ++ gR t r := ⟨_, rfl⟩
                  rw [← hG2] at HOW
                  have HG2 := Lib.hide hG2
                  have HGL2 := Lib.hide (show G2.length = 14 * t + 1 + 3 * r by rw [hG2, List.length_append, HGL.out, gR_length])
                  clear hG2
                  go_wp2
                  go_loopw [67, 10] (fun u v wr => ∃ n : Nat, n ≤ 3 ∧ u = .int .i64 n ∧ OwnC wr wc.heap.size v (G2 ++ gN t r n) ∧ Below wc.heap.size wc wr) (fun u _ _ => 3 - (intOf u).toNat)
                  case atStart => exact ⟨0, by omega, rfl, by simpa [gN] using HOW.out, HBE.out⟩
                  case round =>
                    obtain ⟨n, hn, rfl, hown, hbel⟩ := hrel
                    have HOW := Lib.hide hown
                    have HBE := Lib.hide hbel
                    clear hown hbel
                    by_cases h6 : n < 3
                    · have i3 : (n : Int) < 3 := by omega
                      go_wp2_with (at_builtin; refine wpList_append_lit wc wr _ _ rfl (.tmp 70) (.tmp 75) rfl u10 1 (G2 ++ gN t r n) [⟨5, (t : Int), 3, (r : Int), (n : Int)⟩] rfl rfl rfl rfl HOW.out (by rw [List.length_append, HGL2.out, gN_length]; omega) HBE.out ?_)
                      intro v6 w6 hown6 hb6
                      have HF := Lib.hide (show OwnC w6 wc.heap.size v6 (G2 ++ gN t r (n + 1)) ∧ Below wc.heap.size wc w6 from ⟨by rw [gN_succ]; simpa only [List.append_assoc] using hown6, hb6⟩)
                      clear hown6 hb6
                      go_wp2
                      go_roundw
                      case rel => exact ⟨n + 1, by omega, by go_num, HF.out⟩
                      case measure => simp [intOf]; omega
                    · obtain rfl : n = 3 := by omega
                      have HF := Lib.hide (show OwnC wr wc.heap.size u10 (G1 ++ gR t (r + 1)) ∧ Below wc.heap.size wc wr from ⟨by rw [gR_succ, ← List.append_assoc, ← HG2.out]; exact HOW.out, HBE.out⟩)
                      clear HOW HBE
                      go_wp2
                      go_roundw
                      case rel => exact ⟨r + 1, by omega, by go_num, HF.out⟩
                      case measure => simp [intOf]; omega
                · obtain rfl : r = 4 := by omega
                  go_wp2_with (at_builtin; refine wpList_append_lit wc wr _ _ rfl (.tmp 79) (.tmp 82) rfl u10 1 (G1 ++ gR t 4) [⟨3, (t : Int), 0, 0, 0⟩] rfl rfl rfl rfl HOW.out (by rw [List.length_append, HGL.out, gR_length]; omega) HBE.out ?_)
                  intro v6 w6 hown6 hb6
                  have HF := Lib.hide (show OwnC w6 wc.heap.size v6 (gT (t + 1)) ∧ Below wc.heap.size wc w6 from ⟨by rw [gT_succ]; have e := HG1.out; rw [e] at hown6; simpa only [List.append_assoc, List.singleton_append] using hown6, hb6⟩)
                  clear hown6 hb6
                  go_wp2
                  go_roundw
                  case rel => exact ⟨t + 1, by omega, by go_num, HF.out⟩
                  case measure => simp [intOf]; omega
            · obtain rfl : t = 4 := by omega
              have hG56 : (gT 4).length = 56 := gT_length 4
              obtain ⟨gg, cg, cur, hu10, _, _, hcg, _⟩ := HOW.out.2.resolve_left (fun h => by omega)
              rw [hG56] at hcg hu10
              subst hu10
              have HGAT := Lib.hide HOW.out.reads.2
              have HATd := Lib.hide (HATc.out.below HBE.out)
              have HMATd := Lib.hide (HMAT.out.below HBE.out)
              have HBd := Lib.hide (Below.step HBc.out (Below.mono HBE.out HBc.out.size))
              obtain ⟨wd, hwd⟩ : ∃ wd, wd = wr := ⟨_, rfl⟩
              rw [← hwd] at HGAT HATd HMATd HBd ⊢
              clear hwd HOW HBE HATc HMAT HBc h4 ht
              have HG56 := Lib.hide hG56
              have HGK := Lib.hide (show ∀ a ∈ gT 4, a.kind = 1 ∨ a.kind = 3 ∨ a.kind = 5 from fun a ha => gT_kind ha)
              generalize gT 4 = G at HGAT HG56 HGK
              clear hG56 HLG
              go_wp2_with fail
              have hXd : Below wd.heap.size wd (wd.alloc (.cells #[.slice (some ⟨g, 0, none⟩) (L + 4) cp, .slice (some ⟨gg, 0, none⟩) 56 cg] 23)) := (by repeat (first | exact Below.refl _ _ | assumption | refine Below.drew ?_ | refine below_drewN ?_ _ | refine Below.allocs ?_ | refine Below.next ?_ (by assumption) | refine Below.setCell ?_ (by dsimp only; omega) _))
              have hSl := slc_new wd [.slice (some ⟨g, 0, none⟩) (L + 4) cp, .slice (some ⟨gg, 0, none⟩) 56 cg] [A4, G] _ 23 rfl ⟨Sl.some HATd.out HLE.out, Sl.some HGAT.out HG56.out, trivial⟩ hXd
              refine (concatC_any wd.heap.size 2 2 (L + 60) [A4, G] _ rfl (by omega) hSl (by simp [tot, HLE.out, HG56.out]) (by omega) (by omega)).mono ?_
              rintro e we ⟨g1, c1, rfl, hc1, hca, hbe⟩
              have hfl : [A4, G].flatten = A4 ++ G := by simp
              rw [hfl] at hca
              have HCA := Lib.hide hca
              have hBe : Below wd.heap.size wd we := Below.step hXd (Below.mono hbe (by simp))
              have HBe := Lib.hide hBe
              clear hXd hSl hca hbe hBe hfl
              go_wp2_with fail
              refine (topRun_any (A4 ++ G) _ (L + 60) c1 we (by rw [List.length_append, HLE.out, HG56.out]) (by omega) HCA.out).mono ?_
              rintro e wf ⟨xs, cx, lx, ax, kx, rfl, hxl, hxc, hxa, hxk, hbf⟩
              have hBf : Below wd.heap.size wd wf := Below.step HBe.out (Below.mono hbf HBe.out.size)
              have HXL := Lib.hide hxl
              have HXC := Lib.hide hxc
              have HXA := Lib.hide hxa
              have HATf := Lib.hide (HATd.out.below hBf)
              have HMATf := Lib.hide (HMATd.out.below hBf)
              have HGATf := Lib.hide (HGAT.out.below hBf)
              have HBf := Lib.hide (Below.step HBd.out (Below.mono hBf HBd.out.size))
              clear hxl hxc hxa hbf hBf HATd HMATd HGAT HBd HCA HBe
              go_wp2_with fail
              have hX1 : Below wf.heap.size wf (wf.alloc (.cells #[.int .i64 1, .int .i64 0, .int .i64 0, .int .i64 0, .int .i64 0] 27)) := (by repeat (first | exact Below.refl _ _ | assumption | refine Below.drew ?_ | refine below_drewN ?_ _ | refine Below.allocs ?_ | refine Below.next ?_ (by assumption) | refine Below.setCell ?_ (by dsimp only; omega) _))
              have hs1 : (wf.alloc (.cells #[.int .i64 1, .int .i64 0, .int .i64 0, .int .i64 0, .int .i64 0] 27)).heap.size = wf.heap.size + 1 := by simp
              have hA1 := acts_at_new wf [⟨1, 0, 0, 0, 0⟩] #[.int .i64 1, .int .i64 0, .int .i64 0, .int .i64 0, .int .i64 0] 27 rfl
              generalize wf.alloc (.cells #[.int .i64 1, .int .i64 0, .int .i64 0, .int .i64 0, .int .i64 0] 27) = X1 at hX1 hs1 hA1 ⊢
              have hX2 : Below X1.heap.size X1 (X1.alloc (.cells #[.int .i64 3, .int .i64 0, .int .i64 0, .int .i64 0, .int .i64 0] 27)) := (by repeat (first | exact Below.refl _ _ | assumption | refine Below.drew ?_ | refine below_drewN ?_ _ | refine Below.allocs ?_ | refine Below.next ?_ (by assumption) | refine Below.setCell ?_ (by dsimp only; omega) _))
              have hs2 : (X1.alloc (.cells #[.int .i64 3, .int .i64 0, .int .i64 0, .int .i64 0, .int .i64 0] 27)).heap.size = wf.heap.size + 1 + 1 := by simp [hs1]
              have hA2 := acts_at_new X1 [⟨3, 0, 0, 0, 0⟩] #[.int .i64 3, .int .i64 0, .int .i64 0, .int .i64 0, .int .i64 0] 27 rfl
              rw [hs1] at hA2
              generalize X1.alloc (.cells #[.int .i64 3, .int .i64 0, .int .i64 0, .int .i64 0, .int .i64 0] 27) = X2 at hX2 hs2 hA2 ⊢
              have hX12 : Below wf.heap.size wf X2 := Below.step hX1 (Below.mono hX2 hX1.size)
              have hX3 : Below X2.heap.size X2 (X2.alloc (.cells #[.slice (some ⟨g, 0, none⟩) (L + 4) cp, .slice (some ⟨wf.heap.size, 0, none⟩) 1 1, .slice am mm cm, .slice (some ⟨wf.heap.size + 1, 0, none⟩) 1 1, .slice (some ⟨gg, 0, none⟩) 56 cg] 23)) := (by repeat (first | exact Below.refl _ _ | assumption | refine Below.drew ?_ | refine below_drewN ?_ _ | refine Below.allocs ?_ | refine Below.next ?_ (by assumption) | refine Below.setCell ?_ (by dsimp only; omega) _))
              have hSl := slc_new X2 [.slice (some ⟨g, 0, none⟩) (L + 4) cp, .slice (some ⟨wf.heap.size, 0, none⟩) 1 1, .slice am mm cm, .slice (some ⟨wf.heap.size + 1, 0, none⟩) 1 1, .slice (some ⟨gg, 0, none⟩) 56 cg] [A4, [⟨1, 0, 0, 0, 0⟩], M, [⟨3, 0, 0, 0, 0⟩], G] _ 23 rfl
                ⟨Sl.some (HATf.out.below hX12) HLE.out, Sl.some (hA1.below hX2) rfl, ⟨am, cm, by rw [HMM.out], HMATf.out.below hX12, HM1.out, HM2.out⟩, Sl.some hA2 rfl, Sl.some (HGATf.out.below hX12) HG56.out, trivial⟩ hX3
              rw [← hs2]
              obtain ⟨Y, hY⟩ : ∃ Y, Y = L + 62 + mm := ⟨_, rfl⟩
              have hY1 : 62 ≤ Y := by omega
              have hY2 : Y ≤ 124 := by omega
              refine (concatC_any X2.heap.size 5 5 Y [A4, [⟨1, 0, 0, 0, 0⟩], M, [⟨3, 0, 0, 0, 0⟩], G] _ rfl (by omega) hSl (by simp [tot, HLE.out, HG56.out, HMM.out]; omega) (by omega) (by omega)).mono ?_
              have HY := Lib.hide hY
              clear hY
              rintro e wg ⟨g2, c2, rfl, hc2, hca, hbg⟩
              have hfl : [A4, [(⟨1, 0, 0, 0, 0⟩ : Stm.Act)], M, [⟨3, 0, 0, 0, 0⟩], G].flatten = A4 ++ ([⟨1, 0, 0, 0, 0⟩] ++ M ++ [⟨3, 0, 0, 0, 0⟩]) ++ G := by simp
              rw [hfl] at hca
              have HCB := Lib.hide hca
              have hBg : Below wf.heap.size wf wg := Below.step (Below.step hX12 (Below.mono hX3 hX12.size)) (Below.mono hbg (by have := hX12.size; have := hX3.size; omega))
              have HBg := Lib.hide hBg
              clear hX1 hs1 hA1 hX2 hs2 hA2 hX12 hX3 hSl hca hbg hBg hfl
              go_wp2_with fail
              have hsl : (A4 ++ ([(⟨1, 0, 0, 0, 0⟩ : Stm.Act)] ++ M ++ [(⟨3, 0, 0, 0, 0⟩ : Stm.Act)]) ++ G).length = Y := by rw [HY.out]; simp [HLE.out, HG56.out, HMM.out]; omega
              refine (topRun_any (A4 ++ ([(⟨1, 0, 0, 0, 0⟩ : Stm.Act)] ++ M ++ [(⟨3, 0, 0, 0, 0⟩ : Stm.Act)]) ++ G) _ Y c2 wg hsl (by omega) HCB.out).mono ?_
              rintro e wh ⟨ys, cy, ly, ay, ky, rfl, hyl, hyc, hya, hyk, hbh⟩
              have hBh : Below wf.heap.size wf wh := Below.step HBg.out (Below.mono hbh HBg.out.size)
              have hsmall : Small (AL ++ aborts 4 ++ ([(⟨1, 0, 0, 0, 0⟩ : Stm.Act)] ++ M ++ [(⟨3, 0, 0, 0, 0⟩ : Stm.Act)]) ++ G) := by
                intro a ha hk
                simp only [List.mem_append, List.mem_singleton] at ha
                rcases ha with ((ha | ha) | ((ha | ha) | ha)) | ha
                · exact HSA.out a ha hk
                · unfold aborts at ha
                  obtain ⟨i, _, rfl⟩ := List.mem_map.1 ha
                  simp at hk
                · subst ha; simp at hk
                · exact HMS.out a ha hk
                · subst ha; simp at hk
                · have := HGK.out a ha; omega
              have hnews : news (AL ++ aborts 4 ++ ([(⟨1, 0, 0, 0, 0⟩ : Stm.Act)] ++ M ++ [(⟨3, 0, 0, 0, 0⟩ : Stm.Act)]) ++ G) ≤ 79 := by
                have z1 := news_le AL
                have z2 := news_le M
                have z3 : news G = 0 := List.countP_eq_zero.2 fun a ha => by have := HGK.out a ha; simp; omega
                have z4 : news (aborts 4) = 0 := by decide
                simp only [news_append, z3, z4]
                rw [HLL.out] at z1
                rw [HMM.out] at z2
                have z5 : news [(⟨1, 0, 0, 0, 0⟩ : Stm.Act)] = 0 := by decide
                have z6 : news [(⟨3, 0, 0, 0, 0⟩ : Stm.Act)] = 0 := by decide
                omega
              have hxc' := HXC.out
              rw [← HA4.out] at hxc' hyc hsl
              obtain ⟨q1, q2, q3, ex, ey, l1, l2, l3⟩ := undone_same hxc' hyc (by rw [hsl]; omega) hsmall hnews HMZ.out HCA.out (fun a ha => by have := HGK.out a ha; unfold Stm.Clean; omega)
              rw [HLL.out] at l1
              rw [HMM.out] at l2
              rw [HG56.out] at l3
              obtain ⟨bx, ox, rfl, _⟩ := HXA.out.resolve_left (fun h => by have := HXL.out; rw [h] at this; simp at this)
              obtain ⟨b2, o2, rfl, _⟩ := hya.resolve_left (fun h => by rw [h, List.length_nil] at hyl; omega)
              have hx3 := (HXA.out.below hBh).drop (L + 4)
              have hy3 := hya.drop (L + 6 + mm)
              rw [ex, List.drop_left' l1] at hx3
              rw [ey, List.drop_left' (by rw [List.length_append, l1, l2]; omega)] at hy3
              have HFB := Lib.hide (Below.step HBf.out (Below.mono hBh HBf.out.size))
              have e62 : Y - 56 = L + 6 + mm := by rw [HY.out]; omega
              have CE := Lib.hide (fun (W : World) (hW : Below wh.heap.size wh W) (u1 n1 d1 u2 n2 d2 : Nat) (f1 : u1 = ox + (L + 4) * 7) (f2 : n1 = 56) (f3 : u2 = o2 + (Y - 56) * 7) (f4 : n2 = 56) => show Calls Try.prog 11 #[.slice (some ⟨bx, u1, none⟩) n1 d1, .slice (some ⟨b2, u2, none⟩) n2 d2] W (fun e w' => e = .returned (.bool true) ∧ Below W.heap.size W w') by
                subst f1 f2 f3 f4
                rw [e62]
                exact equalA_same (some ⟨bx, ox + (L + 4) * 7, none⟩) (some ⟨b2, o2 + (L + 6 + mm) * 7, none⟩) 56 d1 d2 q3 W (hx3.below hW) (hy3.below hW) l3 (by omega))
              have HD1 := Lib.hide (show Below wh.heap.size wh wh.drew from (by repeat (first | exact Below.refl _ _ | assumption | refine Below.drew ?_ | refine below_drewN ?_ _ | refine Below.allocs ?_ | refine Below.next ?_ (by assumption) | refine Below.setCell ?_ (by dsimp only; omega) _)))
              clear e62
              have b1 : ¬ kx = L + 4 := by omega
              have b2 : ¬ ky = Y - 56 := by omega
              have b3 : (0 : Int) ≤ (L : Int) + 4 := by omega
              have b10 : ((L : Int) + 4).toNat = L + 4 := by omega
              have b4 : (L : Int) + 4 ≤ (L : Int) + 60 := by omega
              have b5 : (0 : Int) ≤ (Y : Int) - 56 := by omega
              have b6 : (Y : Int) - 56 ≤ (Y : Int) := by omega
              have b7 : (56 : Int) ≤ (Y : Int) := by omega
              have b8 : ((Y : Int) - 56).toNat = Y - 56 := by omega
              have b9 : IntKind.i64.wrap ((Y : Int) - 56) = (Y : Int) - 56 := by rw [IntKind.wrap_i64]; omega
              clear hBh hsmall hnews HY hxc' hyc hyl hya ex ey l1 l2 l3 hx3 hy3 hbh hsl HXA HXC HXL HATf HMATf HGATf HBf HCB HBg HM1 HM2 HMM HMZ HMS HGK HG56 HA4 HLE HSA HCA HLL HALE HKL
              go_wp2_with fail
              go_region_held3 (fun _ => True)
                (exact trivial)
                (first
                  | (go_at_call 11; (with_reducible refine (CE.out wh.drew HD1.out _ _ _ _ _ _ (by omega) (by omega) (by omega) (by omega)).mono ?_); rintro e wi ⟨rfl, hbi⟩; have HBI := Lib.hide (Below.step HD1.out (Below.mono hbi HD1.out.size)); clear hbi))
              go_wp2
              go_ret
              have hfin := Below.step HFB.out (Below.mono HBI.out HFB.out.size)
              first | exact ⟨rfl, hfin⟩ | exact ⟨rfl, below_drewN hfin _⟩ | exact ⟨rfl, below_drewN hfin 1⟩
end Go.Proofs.Ytpdcaoagpjcgbac

