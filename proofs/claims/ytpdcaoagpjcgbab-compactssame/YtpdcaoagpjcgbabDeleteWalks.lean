/-
  The walks of slices.IndexFunc and slices.DeleteFunc with the closure in gc.Reach: what is not marked is removed. It proves no statement by itself.
-/
import Derived.Test.YtpdcaoagpjcgbabMarkMain
import Derived.Test.YtpdcaoagpjcgbabModel2
import Derived.Lib.SliceRun
set_option linter.unusedVariables false
set_option linter.unusedSimpArgs false
namespace Go.Proofs.Ytpdcaoagpjcgbab
open Go.RowKit

/-- The variable at block bv holds a map that holds m. -/
structure DelSt (w : World) (bv mb n : Nat) (m : Int → Bool) : Prop where
  cm : w.heap[bv]? = some (.cells #[.map (some mb)] 95 (0, 0))
  map : MapB w mb n m

theorem DelSt.kept {w w' : World} {bv mb n : Nat} {m : Int → Bool} (h : DelSt w bv mb n m) (h1 : w'.heap[bv]? = w.heap[bv]?) (h2 : w'.heap[mb]? = w.heap[mb]?) : DelSt w' bv mb n m := ⟨h1.trans h.cm, h.map.kept h2⟩

set_option maxHeartbeats 400000 in
theorem reach1_keep (x : Int) (bv mb n : Nat) (m : Int → Bool) (w : World) (h : DelSt w bv mb n m) (hx : Fits x) (hm : m x = true) :
    Calls Try.prog 59 #[.int .i64 x, .pointer (some ⟨bv, 0, none⟩)] w fun e w' => e = .returned (.bool false) ∧ w = w' := by
  have c1 := cell_of_one h.cm
  have hl := h.map.look hx true hm
  clear h hx hm
  go_enter Try.func59, Try.ntmps59
  go_wp2
  go_ret
  exact ⟨rfl, rfl⟩
set_option maxHeartbeats 400000 in
theorem reach1_drop (x : Int) (bv mb n : Nat) (m : Int → Bool) (w : World) (h : DelSt w bv mb n m) (hx : Fits x) (hm : m x = false) :
    Calls Try.prog 59 #[.int .i64 x, .pointer (some ⟨bv, 0, none⟩)] w fun e w' => e = .returned (.bool true) ∧ w = w' := by
  have c1 := cell_of_one h.cm
  have hl := h.map.look hx false hm
  clear h hx hm
  go_enter Try.func59, Try.ntmps59
  go_wp2
  go_ret
  exact ⟨rfl, rfl⟩

theorem fits_at {zs : List Int} (hf : ∀ x ∈ zs, Fits x) {i : Nat} (hi : i < zs.length) : Fits (zs.getD i 0) := hf _ (mem_at.2 ⟨i, hi, rfl⟩)

set_option maxHeartbeats 800000 in
theorem indexFunc_none (a : Option Addr) (n cap : Nat) (zs : List Int) (bv mb k : Nat) (m : Int → Bool) (w : World) (hi : Ints w a zs) (hz : zs.length = n) (hn : n ≤ 400) (hf : ∀ x ∈ zs, Fits x) (hd : DelSt w bv mb k m) (hall : ∀ i, i < n → m (zs.getD i 0) = true) :
    Calls Try.prog 82 #[.slice a n cap, .func (.func 59) #[] #[.pointer (some ⟨bv, 0, none⟩)]] w fun e w' => e = .returned (.int .i64 (-1)) ∧ w = w' := by
  have HI := Lib.hide hi
  have HZ := Lib.hide hz
  have HF := Lib.hide hf
  have HD := Lib.hide hd
  have HA := Lib.hide hall
  clear hi hz hf hd hall
  go_enter Try.func82, Try.ntmps82
  go_wp2
  go_loop [8] (fun u => ∃ i : Nat, i ≤ n ∧ u = .int .i64 i) (fun u => n - (intOf u).toNat)
  case atStart => exact ⟨0, Nat.zero_le _, rfl⟩
  case round =>
    obtain ⟨i, hin, rfl⟩ := hrel
    by_cases hlt : i < n
    · obtain ⟨b, o, rfl, hb, hc⟩ := HI.out.at (by rw [HZ.out]; omega)
      have e1 := hc i (by rw [HZ.out]; omega)
      clear hc
      have C := Lib.hide (reach1_keep (zs.getD i 0) bv mb k m w HD.out (fits_at HF.out (by rw [HZ.out]; exact hlt)) (HA.out i hlt))
      generalize zs.getD i 0 = y at *
      go_wp2_with (go_at_call 59; refine C.out.mono ?_; rintro e w' ⟨rfl, rfl⟩)
      go_round
      case rel => exact ⟨i + 1, by omega, by go_num⟩
      case measure => simp [intOf]; omega
    · go_wp2
      go_ret
      exact ⟨rfl, rfl⟩

set_option maxHeartbeats 800000 in
theorem indexFunc_some (a : Option Addr) (n cap : Nat) (zs : List Int) (bv mb k : Nat) (m : Int → Bool) (w : World) (j : Nat) (hi : Ints w a zs) (hz : zs.length = n) (hn : n ≤ 400) (hf : ∀ x ∈ zs, Fits x) (hd : DelSt w bv mb k m) (hj : j < n) (hall : ∀ i, i < j → m (zs.getD i 0) = true) (hnot : m (zs.getD j 0) = false) :
    Calls Try.prog 82 #[.slice a n cap, .func (.func 59) #[] #[.pointer (some ⟨bv, 0, none⟩)]] w fun e w' => e = .returned (.int .i64 j) ∧ w = w' := by
  have HI := Lib.hide hi
  have HZ := Lib.hide hz
  have HF := Lib.hide hf
  have HD := Lib.hide hd
  have HA := Lib.hide hall
  have HN := Lib.hide hnot
  clear hi hz hf hd hall hnot
  go_enter Try.func82, Try.ntmps82
  go_wp2
  go_loop [8] (fun u => ∃ i : Nat, i ≤ j ∧ u = .int .i64 i) (fun u => n - (intOf u).toNat)
  case atStart => exact ⟨0, Nat.zero_le _, rfl⟩
  case round =>
    obtain ⟨i, hij, rfl⟩ := hrel
    obtain ⟨b, o, rfl, hb, hc⟩ := HI.out.at (by rw [HZ.out]; omega)
    have e1 := hc i (by rw [HZ.out]; omega)
    clear hc
    by_cases hlt : i < j
    · have C := Lib.hide (reach1_keep (zs.getD i 0) bv mb k m w HD.out (fits_at HF.out (by rw [HZ.out]; omega)) (HA.out i hlt))
      generalize zs.getD i 0 = y at *
      go_wp2_with (go_at_call 59; refine C.out.mono ?_; rintro e w' ⟨rfl, rfl⟩)
      go_round
      case rel => exact ⟨i + 1, by omega, by go_num⟩
      case measure => simp [intOf]; omega
    · obtain rfl : i = j := by omega
      have C := Lib.hide (reach1_drop (zs.getD i 0) bv mb k m w HD.out (fits_at HF.out (by rw [HZ.out]; omega)) HN.out)
      clear HN
      generalize zs.getD i 0 = y at *
      go_wp2_with (go_at_call 59; refine C.out.mono ?_; rintro e w' ⟨rfl, rfl⟩)
      go_ret
      exact ⟨rfl, rfl⟩

/-- The first numbers of a list of the call's own. -/
theorem Own.firsts {w : World} {base n c g : Nat} {xs : List Int} (h : Own w base (.slice (some ⟨g, 0, none⟩) n c) xs) (i : Nat) (hi : i ≤ xs.length) : Own w base (.slice (some ⟨g, 0, none⟩) i c) (xs.take i) := by
  have hl : (xs.take i).length = i := by simp; omega
  refine ⟨by simp, ?_⟩
  rcases h.2 with ⟨h2, _⟩ | ⟨g', cap, cur, hv, hg, hh, r1, r2, r3, r4⟩
  · cases h2
  · simp only [Value.slice.injEq] at hv
    obtain ⟨hv1, hv2, hv3⟩ := hv
    subst hv3
    injection hv1 with hv1
    injection hv1 with hv1
    subst hv1
    refine .inr ⟨g, c, cur, by rw [hl], hg, hh, by omega, r2, r3, ?_⟩
    rw [Nat.mul_one] at r4 ⊢
    have := congrArg (List.take i) r4
    rw [List.take_take, Nat.min_eq_left hi] at this
    rw [hl, this, List.map_take]

theorem Own.storedAll {base n c g : Nat} : ∀ (vs : List Int) (o : Nat) (w : World) (xs : List Int), Own w base (.slice (some ⟨g, 0, none⟩) n c) xs →
    ∃ ys, Own (w.setCells g o (vs.map (Value.int .i64))) base (.slice (some ⟨g, 0, none⟩) n c) ys ∧ ys.length = xs.length ∧ ys.take o = xs.take o
  | [], _, _, xs, h => ⟨xs, h, rfl, rfl⟩
  | v :: vs, o, w, xs, h => by
    obtain ⟨ys, h1, h2, h3⟩ := Own.storedAll vs (o + 1) _ _ (h.stored o v)
    refine ⟨ys, h1, by rw [h2, List.length_set], ?_⟩
    have := congrArg (List.take o) h3
    rw [List.take_take, List.take_take, Nat.min_eq_left (by omega)] at this
    rw [this, List.take_set_of_le (Nat.le_refl _)]

theorem Below.setCells {B g : Nat} {a : World} (hB : B ≤ g) : ∀ (vs : List Value) (o : Nat) (w : World), Below B a w → Below B a (w.setCells g o vs)
  | [], _, _, h => h
  | v :: vs, o, w, h => Below.setCells hB vs (o + 1) _ (h.setCell (p := ⟨g, o, none⟩) hB v)

theorem take_succ_filter {zs : List Int} {m : Int → Bool} {j : Nat} (hj : j < zs.length) : (zs.take (j + 1)).filter m = (zs.take j).filter m ++ (if m (zs.getD j 0) then [zs.getD j 0] else []) := by
  rw [List.take_succ_eq_append_getElem hj, List.filter_append]
  have e : zs.getD j 0 = zs[j] := by simp [List.getD_eq_getElem?_getD, List.getElem?_eq_getElem hj]
  rw [e]
  simp [List.filter_cons]

/-- What DeleteFunc hands back. -/
def DelPost (w : World) (base : Nat) (zs : List Int) (m : Int → Bool) (e : Ending) (w' : World) : Prop :=
  ∃ a' c', e = .returned (.slice a' (zs.filter m).length c') ∧ Own w' base (.slice a' (zs.filter m).length c') (zs.filter m) ∧ Below base w w'

theorem exists_first {p : Nat → Bool} : ∀ n, (∀ i, i < n → p i = true) ∨ ∃ j, j < n ∧ (∀ i, i < j → p i = true) ∧ p j = false
  | 0 => .inl fun i hi => absurd hi (Nat.not_lt_zero _)
  | n + 1 => by
    rcases exists_first (p := p) n with h | ⟨j, h1, h2, h3⟩
    · by_cases hn : p n = true
      · refine .inl fun i hi => ?_
        rcases Nat.lt_or_ge i n with h' | h'
        · exact h i h'
        · obtain rfl : i = n := by omega
          exact hn
      · exact .inr ⟨n, by omega, h, by simpa using hn⟩
    · exact .inr ⟨j, by omega, h2, h3⟩

set_option maxHeartbeats 1600000 in
theorem deleteFunc_any (a : Option Addr) (n cap : Nat) (zs : List Int) (bv mb k base : Nat) (m : Int → Bool) (w : World) (ho : Own w base (.slice a n cap) zs) (hn : n ≤ 400) (hf : ∀ x ∈ zs, Fits x) (hd : DelSt w bv mb k m) (hbase : base ≤ w.heap.size) :
    Calls Try.prog 58 #[.slice a n cap, .func (.func 59) #[] #[.pointer (some ⟨bv, 0, none⟩)]] w (DelPost w base zs m) := by
  have hz := ho.reads.1
  rcases exists_first (p := fun i => m (zs.getD i 0)) n with hall | ⟨j, hj, hall, hnot⟩
  · have hfil : zs.filter m = zs := by
      rw [List.filter_eq_self]
      intro x hx
      obtain ⟨i, hi, rfl⟩ := mem_at.1 hx
      exact hall i (by omega)
    have hp : DelPost w base zs m (.returned (.slice a n cap)) w := ⟨a, cap, by rw [hfil, hz], by rw [hfil, hz]; exact ho, Below.refl _ _⟩
    have HP := Lib.hide hp
    have C := Lib.hide (indexFunc_none a n cap zs bv mb k m w ho.reads.2 hz hn hf hd hall)
    clear hfil hp ho hf hd hall hz
    go_enter Try.func58, Try.ntmps58
    go_wp2_with (go_at_call 82; refine C.out.mono ?_; rintro e w' ⟨rfl, rfl⟩)
    go_ret
    exact HP.out
  · have C := Lib.hide (indexFunc_some a n cap zs bv mb k m w j ho.reads.2 hz hn hf hd hj hall hnot)
    obtain ⟨g, rfl, hg1, hg2, hgc, hgf⟩ := ho.row (by omega)
    have hcap : n ≤ cap ∧ cap ≤ 9223372036854775807 := by
      rcases ho.2 with ⟨h5, _⟩ | ⟨g', cap', cur, hv, _, _, r1, r2, _⟩
      · cases h5
      · simp only [Value.slice.injEq] at hv
        unfold maxLen at r2
        omega
    obtain ⟨hc1, hc2⟩ := hcap
    have hgb : g ≠ bv ∧ g ≠ mb := by
      have hh : ∃ cur, w.heap[g]? = some (.cells cur 3 (0, 0)) := by
        rcases ho.2 with ⟨h5, _⟩ | ⟨g', cap', cur, hv, _, hh, _⟩
        · cases h5
        · simp only [Value.slice.injEq] at hv
          obtain ⟨hv1, _⟩ := hv
          injection hv1 with hv1
          injection hv1 with hv1
          subst hv1
          exact ⟨cur, hh⟩
      obtain ⟨cur, hh⟩ := hh
      refine ⟨fun e => ?_, fun e => ?_⟩
      · subst e
        have := hd.cm
        rw [hh] at this
        simp at this
      · subst e
        obtain ⟨D, ⟨es, clock, h1, _⟩, _⟩ := hd.map
        rw [hh] at h1
        simp at h1
    have HGB := Lib.hide hgb
    have hstart : (zs.take (j + 1)).filter m = zs.take j := by
      rw [take_succ_filter (by omega), hnot]
      simp
      intro x hx
      obtain ⟨i, hi, rfl⟩ := mem_at.1 hx
      have hij : i < j := by simp at hi; omega
      have := hall i hij
      have e : (zs.take j).getD i 0 = zs.getD i 0 := by simp [List.getD_eq_getElem?_getD, List.getElem?_take, hij]
      rw [e]
      exact this
    have HST := Lib.hide hstart
    have HO := Lib.hide ho
    have HZ := Lib.hide hz
    have HF := Lib.hide hf
    have HD := Lib.hide hd
    clear ho hf hd hall hnot hz hgb hstart hgc hgf
    have hd1 : ((j : Int) == -1) = false := by simp
    go_enter Try.func58, Try.ntmps58
    go_wp2_with (go_at_call 82; refine C.out.mono ?_; rintro e w' ⟨rfl, rfl⟩)
    clear C
    go_loopg [5, 6] (n - (j + 1)) (fun q u v wr => ∃ (x y : Nat) (ys : List Int), x < y ∧ y ≤ n ∧ q = n - y ∧ u = .int .i64 x ∧ v = .int .i64 y ∧ Own wr base (.slice (some ⟨g, 0, none⟩) n cap) ys ∧ ys.take x = (zs.take y).filter m ∧ (∀ k, y ≤ k → k < n → ys.getD k 0 = zs.getD k 0) ∧ DelSt wr bv mb k m ∧ Below base w wr ∧ base ≤ wr.heap.size)
    case atStart => exact ⟨j, j + 1, zs, by omega, by omega, rfl, rfl, by go_num, HO.out, HST.out.symm, fun _ _ _ => rfl, HD.out, Below.refl _ _, hbase⟩
    case round =>
      obtain ⟨x, y, ys, hxy, hyn, rfl, rfl, rfl, hown, htake, hrest, hds, hbel, hle⟩ := hrel
      obtain ⟨g', he, hg3, hg4, hgc, hgf⟩ := hown.row (by omega)
      injection he with he
      injection he with he
      subst he
      have HOW := Lib.hide hown
      have HTA := Lib.hide htake
      have HRE := Lib.hide hrest
      have HDS := Lib.hide hds
      have HBE := Lib.hide hbel
      have hyl := hown.reads.1
      have HYL := Lib.hide hyl
      by_cases hlt : y < n
      · have e1 := hgc y (by omega)
        rw [hrest y (Nat.le_refl _) hlt] at e1
        have e2 := hgc x (by omega)
        have e3 := hgf x
        have hfz : Fits (zs.getD y 0) := fits_at HF.out (by rw [HZ.out]; exact hlt)
        obtain ⟨z, hzz⟩ : ∃ z, zs.getD y 0 = z := ⟨_, rfl⟩
        have HTS := Lib.hide (take_succ_filter (m := m) (zs := zs) (j := y) (by rw [HZ.out]; exact hlt))
        rw [hzz] at e1 hfz HTS
        clear hown htake hrest hds hbel hgc hgf hyl hzz
        by_cases hm : m z = true
        · have CK := Lib.hide (reach1_keep z bv mb k m wr HDS.out hfz hm)
          have HM := Lib.hide hm
          clear hm hfz
          go_wp2_with (go_at_call 59; refine CK.out.mono ?_; rintro e w' ⟨rfl, rfl⟩)
          go_roundg (n - (y + 1))
          case measure => omega
          case rel =>
            refine ⟨x + 1, y + 1, ys.set x z, by omega, by omega, rfl, by go_num, by go_num, HOW.out.stored x z, ?_, fun q hq1 hq2 => ?_, HDS.out.kept (Below.heap_setCell _ _ _ _ (fun e => HGB.out.1 e.symm)) (Below.heap_setCell _ _ _ _ (fun e => HGB.out.2 e.symm)), HBE.out.setCell hg1 _, by simpa [World.setCell] using hle⟩
            · rw [HTS.out, HM.out, if_pos rfl, ← HTA.out, List.take_succ_eq_append_getElem (by rw [List.length_set, HYL.out]; omega), List.take_set_of_le (Nat.le_refl _)]
              simp
            · rw [Lw.getD_set_ne (by omega)]
              exact HRE.out q (by omega) hq2
        · have hm' : m z = false := by simpa using hm
          have CK := Lib.hide (reach1_drop z bv mb k m wr HDS.out hfz hm')
          have HM := Lib.hide hm'
          clear hm hm' hfz
          go_wp2_with (go_at_call 59; refine CK.out.mono ?_; rintro e w' ⟨rfl, rfl⟩)
          go_roundg (n - (y + 1))
          case measure => omega
          case rel =>
            refine ⟨x, y + 1, ys, by omega, by omega, rfl, rfl, by go_num, HOW.out, ?_, fun q hq1 hq2 => HRE.out q (by omega) hq2, HDS.out, HBE.out, hle⟩
            rw [HTS.out, HM.out, HTA.out]
            simp
      · obtain rfl : y = n := by omega
        have hcl := fun ty => Lib.run_clear_slice (P := Try.prog) wr 25 3 ty (.int .i64 0) Try.underlying25 Try.zeroInt rfl rfl g x (y - x) (cap - x) (by omega) (fun i hi => by rw [hgc (x + i) (by omega)]; rfl) (fun i hi => hgf (x + i))
        have hcx : ¬ cap = x := by omega
        obtain ⟨ys', hown', hlen', htk'⟩ := Own.storedAll (List.replicate (y - x) 0) x wr ys hown
        rw [List.map_replicate] at hown'
        have hfin : zs.filter m = ys'.take x := by
          rw [htk', htake, List.take_of_length_le (by rw [HZ.out]; exact Nat.le_refl _)]
        have hlx : (zs.filter m).length = x := by
          rw [hfin]; simp; omega
        have hown2 := hown'.firsts x (by omega)
        rw [← hfin] at hown2
        have HOW2 := Lib.hide hown2
        have HLX := Lib.hide hlx
        clear hown htake hrest hds hbel hgc hgf hyl hown' htk' hlen' hfin hlx hown2
        go_wp2
        go_ret
        refine ⟨some ⟨g, 0, none⟩, cap, ?_, ?_, Below.setCells hg1 _ _ _ HBE.out⟩
        · rw [HLX.out]; rfl
        · rw [HLX.out]; exact HOW2.out
end Go.Proofs.Ytpdcaoagpjcgbab
