/-
  The walks of slices.Grow and slices.Concat over acts. It proves no statement by itself.
-/
import Derived.Test.YtpdcaoagpjcgbacEndWalks
import Derived.Test.YtpdcaoagpjcgbacPlA
import Derived.Lib.AppendZerosOnto
set_option linter.unusedVariables false
set_option linter.unusedSimpArgs false
namespace Go.Proofs.Ytpdcaoagpjcgbac
open Go.RowKit Stm

/-- Lists of acts, in a list of slices at block b. -/
def Slc (w : World) (b : Nat) (ll : List (List Stm.Act)) : Prop := b < w.heap.size ∧ ∀ (i : Nat) (l : List Stm.Act), ll[i]? = some l → ∃ a c, w.cell? ⟨b, i, none⟩ = some (.slice a l.length c) ∧ ActsAt w a l ∧ (∀ x, a = some x → ∃ g o, x = ⟨g, o, none⟩) ∧ (a = none → l = [] ∧ c = 0)
theorem Slc.below {w w' : World} {b : Nat} {ll : List (List Stm.Act)} (h : Slc w b ll) (hb : Below w.heap.size w w') : Slc w' b ll := ⟨Nat.lt_of_lt_of_le h.1 hb.size, fun i l hl => by
  obtain ⟨a, c, h1, h2, h3⟩ := h.2 i l hl
  exact ⟨a, c, (hb.cell (p := ⟨b, i, none⟩) h.1).trans h1, h2.below hb, h3⟩⟩

theorem wpList_append_zeros {ops : Array Oper} {rest : List Oper} {o : Oper} {a : Go.Act} {Q : Exit → Go.Act → World → Prop} (w : World) (hgd : o.guard = none) (s x : Operand)
    (ho : o.op = .call { callee := .builtin .append, args := #[s, x], argTypes := #[23, 3] }) (n : Nat) (hs : a.eval s = .slice none 0 0) (hx : a.eval x = .int .i64 n) (h0 : 0 < n) (h1 : n ≤ 1000)
    (h : ∀ c cs, n ≤ c → c ≤ maxLen → cs.size = c * 5 → wpList Try.prog ops Q rest (a.put o.dst (.slice (some ⟨w.heap.size, 0, none⟩) n c)) (w.drew.alloc (.cells cs 27))) : wpList Try.prog ops Q (o :: rest) a w := by
  obtain ⟨iA, hiA, hA0, hA1, hA2⟩ := info_parts Try.actInfo
  have hr := Lib.run_append_grow_zeros (P := Try.prog) w 23 3 o.type 27 iA _ .i64 .i64 Try.underlying23 Try.underlying3 hiA hA0 none 0 0 [] (by rw [run_firstCells_none]) n h0 (by omega) (by omega) (by omega) (by rw [hA2]; omega) (by rw [Nat.zero_add, nextslicecap_zero h0, hA2]; omega)
  rw [Nat.zero_add] at hr
  refine wpList_plain hgd fun K hK => ?_
  unfold Oper.wp execOp
  simp only [ho, resolve, invoke, builtin, Sem.run_bind, Sem.run_pure, Result.andThen_ok, List.map_toArray, List.map_cons, List.map_nil, hs, hx, hr]
  refine hK _ _ (h _ _ (grownCap_ge w n 0 _) (grownCap_le_maxLen w n 0 _ (by unfold maxLen; omega)) ?_)
  have := grownCap_ge w n 0 27
  simp [Builtin.zeroCells, Value.cells]
  omega

set_option maxHeartbeats 1600000 in
set_option maxRecDepth 100000 in
theorem growC_any (n : Nat) (w : World) (h0 : 0 < n) (h1 : n ≤ 1000) :
    Calls Try.prog 18 #[.slice none 0 0, .int .i64 n] w fun e w' => ∃ g c, e = .returned (.slice (some ⟨g, 0, none⟩) 0 c) ∧ OwnC w' w.heap.size (.slice (some ⟨g, 0, none⟩) 0 c) [] ∧ Below w.heap.size w w' := by
  go_enter Try.func18, Try.ntmps18
  go_wp2_with (at_builtin; refine wpList_append_zeros _ rfl (.tmp 20) (.tmp 21) rfl n rfl rfl h0 h1 ?_)
  intro c cs hc1 hc2 hcs
  have HF := Lib.hide (show OwnC (w.drew.alloc (.cells cs 27)) w.heap.size (.slice (some ⟨w.heap.size, 0, none⟩) 0 c) [] from ⟨rfl, .inr ⟨w.heap.size, c, cs, rfl, Nat.le_refl _, heap_alloc_new w.drew _, Nat.zero_le _, hc2, hcs, rfl⟩⟩)
  have HB := Lib.hide (show Below w.heap.size w (w.drew.alloc (.cells cs 27)) from (by repeat (first | exact Below.refl _ _ | assumption | refine Below.drew ?_ | refine below_drewN ?_ _ | refine Below.allocs ?_ | refine Below.next ?_ (by assumption) | refine Below.setCell ?_ (by dsimp only; omega) _)))
  have hc3 : c ≤ 9223372036854775807 := by unfold maxLen at hc2; omega
  clear hc2 hcs
  go_wp2
  go_ret
  exact ⟨_, _, rfl, HF.out, HB.out⟩

def tot (ll : List (List Stm.Act)) : Nat := (ll.map List.length).sum
theorem flat_length (ll : List (List Stm.Act)) : ll.flatten.length = tot ll := List.length_flatten
theorem tot_take_succ {ll : List (List Stm.Act)} {i : Nat} {l : List Stm.Act} (h : ll[i]? = some l) : tot (ll.take (i + 1)) = tot (ll.take i) + l.length ∧ (ll.take (i + 1)).flatten = (ll.take i).flatten ++ l := by
  have h1 : i < ll.length := by
    rcases Nat.lt_or_ge i ll.length with h' | h'
    · exact h'
    · rw [List.getElem?_eq_none h'] at h; cases h
  rw [List.getElem?_eq_getElem h1] at h
  injection h with h
  unfold tot
  rw [List.take_succ_eq_append_getElem h1, h]
  simp
theorem tot_take_le (ll : List (List Stm.Act)) (i : Nat) : tot (ll.take i) ≤ tot ll := by
  have : tot ll = tot (ll.take i) + tot (ll.drop i) := by
    unfold tot
    rw [← List.sum_append, ← List.map_append, List.take_append_drop]
  omega

set_option maxHeartbeats 1600000 in
set_option maxRecDepth 100000 in
theorem concatC_any (b m mc N : Nat) (ll : List (List Stm.Act)) (w : World) (hm : ll.length = m) (hm2 : m ≤ 10) (hs : Slc w b ll) (hN : tot ll = N) (hN0 : 0 < N) (hN1 : N ≤ 1000) :
    Calls Try.prog 10 #[.slice (some ⟨b, 0, none⟩) m mc] w fun e w' => ∃ g c, e = .returned (.slice (some ⟨g, 0, none⟩) N c) ∧ N ≤ c ∧ ActsAt w' (some ⟨g, 0, none⟩) ll.flatten ∧ Below w.heap.size w w' := by
  have HM := Lib.hide hm
  have HS := Lib.hide hs
  have HN := Lib.hide hN
  clear hm hs hN
  go_enter Try.func10, Try.ntmps10
  go_wp2
  go_loop [11, 3] (fun u v => ∃ i t : Nat, i ≤ m ∧ u = .int .i64 i ∧ v = .int .i64 t ∧ tot (ll.take i) = t) (fun u _ => m - (intOf u).toNat)
  case atStart => exact ⟨0, 0, by omega, rfl, rfl, rfl⟩
  case round =>
    obtain ⟨i, t, him, rfl, rfl, ht⟩ := hrel
    have htl := tot_take_le ll i
    rw [ht, HN.out] at htl
    by_cases hlt : i < m
    · obtain ⟨l, hl⟩ : ∃ l, ll[i]? = some l := ⟨ll[i]'(by rw [HM.out]; exact hlt), List.getElem?_eq_getElem _⟩
      obtain ⟨a, c, e1, _, _⟩ := HS.out.2 i l hl
      have h2 := (tot_take_succ hl).1
      rw [ht] at h2
      have h3 := tot_take_le ll (i + 1)
      rw [h2, HN.out] at h3
      have HT := Lib.hide h2
      obtain ⟨q, hq⟩ : ∃ q, q = l.length := ⟨_, rfl⟩
      rw [← hq] at HT h3 e1
      clear ht hl h2 hq
      go_wp2
      go_round
      case rel => exact ⟨i + 1, t + q, by omega, by go_num, by go_num, HT.out⟩
      case measure => simp [intOf]; omega
    · obtain rfl : i = m := by omega
      rw [List.take_of_length_le (by rw [HM.out]; exact Nat.le_refl _), HN.out] at ht
      subst ht
      have CG := Lib.hide (growC_any N w hN0 hN1)
      go_wp2_with (go_at_call 18; refine CG.out.mono ?_; rintro e w1 ⟨g, c, rfl, ho, hb⟩; have HO := Lib.hide ho; have HB := Lib.hide hb; clear ho hb)
      clear CG
      rename_i w1
      go_loopw [27, 6] (fun u v wr => ∃ j : Nat, j ≤ i ∧ u = .int .i64 j ∧ OwnC wr w.heap.size v (ll.take j).flatten ∧ Below w.heap.size w wr) (fun u _ _ => i - (intOf u).toNat)
      case atStart => exact ⟨0, by omega, rfl, HO.out, HB.out⟩
      case round =>
        obtain ⟨j, hji, rfl, hown, hbel⟩ := hrel
        have HOW := Lib.hide hown
        have HBE := Lib.hide hbel
        clear hown hbel
        by_cases hlt : j < i
        · obtain ⟨l, hl⟩ : ∃ l, ll[j]? = some l := ⟨ll[j]'(by rw [HM.out]; exact hlt), List.getElem?_eq_getElem _⟩
          obtain ⟨a, c, e1, e2, e3, e4⟩ := (HS.out.below HBE.out).2 j l hl
          have h2 := tot_take_succ hl
          have h3 := tot_take_le ll (j + 1)
          rw [h2.1, HN.out] at h3
          have hfl := flat_length (ll.take j)
          have HT := Lib.hide h2.2
          have HLL := Lib.hide (show (ll.take j).flatten.length + l.length ≤ 1000 by omega)
          have HE2 := Lib.hide e2
          clear hl h2 h3 hfl e2
          cases a with
          | none =>
            obtain ⟨rfl, rfl⟩ := e4 rfl
            rw [List.append_nil] at HT
            obtain ⟨iA, hiA, hA0, hA1, hA2⟩ := info_parts Try.actInfo
            clear e3 e4
            have HF := Lib.hide (show OwnC wr w.heap.size u6 (ll.take (j + 1)).flatten ∧ Below w.heap.size w wr from ⟨by rw [HT.out]; exact HOW.out, HBE.out⟩)
            go_wp2_with (at_builtin; refine wpList_append_none wr rfl (.tmp 31) (.tmp 32) 23 rfl w.heap.size 27 iA 5 Try.underlying23 hiA u6 _ _ rfl HOW.out rfl ?_)
            go_wp2
            go_roundw
            case rel => exact ⟨j + 1, by omega, by go_num, HF.out⟩
            case measure => simp [intOf]; omega
          | some x =>
            obtain ⟨g', o', rfl⟩ := e3 x rfl
            obtain ⟨q, hq⟩ : ∃ q, l.length = q := ⟨_, rfl⟩
            rw [hq] at e1 HLL
            have HQ := Lib.hide hq
            clear e3 e4 hq
            go_wp2_with (at_builtin; refine wpList_append_from _ rfl (.tmp 31) (.tmp 32) rfl w.heap.size u6 g' o' q c (ll.take j).flatten l rfl rfl HQ.out HOW.out HE2.out HLL.out HBE.out.size ?_)
            intro v' w' ho' hb'
            have HF := Lib.hide (show OwnC w' w.heap.size v' (ll.take (j + 1)).flatten ∧ Below w.heap.size w w' from ⟨by rw [HT.out]; exact ho', Below.step HBE.out hb'⟩)
            clear ho' hb' e1
            go_wp2
            go_roundw
            case rel => exact ⟨j + 1, by omega, by go_num, HF.out⟩
            case measure => simp [intOf]; omega
        · obtain rfl : j = i := by omega
          have hown := HOW.out
          rw [List.take_of_length_le (by rw [HM.out]; exact Nat.le_refl _)] at hown
          have hfl := flat_length ll
          rw [HN.out] at hfl
          obtain ⟨g2, c2, cur, rfl, _, _, hcp, _⟩ := hown.2.resolve_left (fun h => by omega)
          rw [hfl] at hcp hown ⊢
          have HF := Lib.hide (And.intro hown.reads.2 HBE.out)
          clear hown hfl HOW HBE
          go_wp2
          go_ret
          exact ⟨_, _, rfl, hcp, HF.out⟩
end Go.Proofs.Ytpdcaoagpjcgbac

