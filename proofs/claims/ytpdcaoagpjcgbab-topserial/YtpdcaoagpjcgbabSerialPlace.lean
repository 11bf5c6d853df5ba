/-
  The walk of the closure of limewashtop.TopSerial. It proves no statement by itself.
-/
import Derived.Test.YtpdcaoagpjcgbabSerA
import Derived.Test.YtpdcaoagpjcgbabLateOrders
set_option linter.unusedVariables false
set_option linter.unusedSimpArgs false
namespace Go.Proofs.Ytpdcaoagpjcgbab
open Go.RowKit Stm

/-- What the closure reads in a round. -/
def PlS (N b3 b5 gA LA cA gX oX cX q : Nat) (z7 z8 : Value) (r : Stm.Act) (a : Ans) (w' : World) : Prop :=
  w'.cell? ⟨N, 0, none⟩ = some z7 ∧ w'.cell? ⟨N + 1, 0, none⟩ = some z8 ∧ w'.cell? ⟨b3, 0, none⟩ = some (.slice (some ⟨gA, 0, none⟩) LA cA) ∧ w'.cell? ⟨b5, 0, none⟩ = some (.slice (some ⟨gX, oX, none⟩) LA cX) ∧ w'.cell? ⟨gA, q * 5, none⟩ = some (.int .i64 r.kind) ∧ w'.cell? ⟨gA, q * 5 + 1, none⟩ = some (.int .i64 r.t) ∧ w'.cell? ⟨gA, q * 5 + 2, none⟩ = some (.int .i64 r.a) ∧ w'.cell? ⟨gA, q * 5 + 3, none⟩ = some (.int .i64 r.b) ∧ w'.cell? ⟨gA, q * 5 + 4, none⟩ = some (.int .i64 r.n) ∧ w'.cell? ⟨gX, oX + q * 7, none⟩ = some (.int .i64 a.code) ∧ w'.cell? ⟨gX, oX + q * 7 + 1, none⟩ = some (.bool a.isNum) ∧ w'.cell? ⟨gX, oX + q * 7 + 2, none⟩ = some (.int .i64 a.number) ∧ w'.cell? ⟨gX, oX + q * 7 + 3, none⟩ = some (.bool a.yes) ∧ w'.cell? ⟨gX, oX + q * 7 + 4, none⟩ = some (.int .i64 a.words) ∧ w'.cell? ⟨gX, oX + q * 7 + 5, none⟩ = some (.bool a.going) ∧ w'.cell? ⟨gX, oX + q * 7 + 6, none⟩ = some (.int .i64 a.freed)

theorem run_append_act (X : World) (base : Nat) (v : Value) (l : List Stm.Act) (r : Stm.Act) (B : Nat) (hl : OwnC X base v l) (hB : X.heap[B]? = some (.cells (actCells r).toArray 71 (0, 0))) (hn : l.length ≤ 900) (hb : base ≤ X.heap.size) :
    ∃ g n c w', (∀ ty, (Builtin.append_ #[61, 61] ty #[v, .slice (some ⟨B, 0, none⟩) 1 1]).run Try.prog X = .ok (.slice (some ⟨g, 0, none⟩) n c) w') ∧ OwnC w' base (.slice (some ⟨g, 0, none⟩) n c) (l ++ [r]) ∧ X.grownBy w' v.ownBlock := by
  obtain ⟨iA, hiA, hA0, hA1, hA2⟩ := info_parts Try.actInfo
  obtain ⟨v', w', hr, h2, h3, _, _⟩ := run_append_at (P := Try.prog) X base 61 0 71 iA _ 5 40 Try.underlying61 hiA hA0 hA1 hA2 rfl (by decide) v l.length (ccells l) hl ⟨B, 0, none⟩ 1 1 (actCells r) rfl (fun j u hu => World.news_of_block hB j u (by simpa using hu)) (by intro u hu; simp [actCells] at hu; rcases hu with rfl | rfl | rfl | rfl | rfl <;> rfl) (by unfold maxLen; omega) (by omega) hb
  have h4 : OwnC w' base v' (l ++ [r]) := by unfold OwnC; rw [ccells_append, ccells_one, List.length_append]; exact h2
  obtain ⟨g, cap, cur, e, _⟩ := h4.2.resolve_left (fun h => by simp at h)
  subst e
  exact ⟨g, _, cap, w', fun ty => hr, h4, h3⟩
theorem run_append_answer (X : World) (base : Nat) (v : Value) (l : List Ans) (r : Ans) (B : Nat) (hl : OwnA X base v l) (hB : X.heap[B]? = some (.cells (ansCells r).toArray 74 (0, 0))) (hn : l.length ≤ 900) (hb : base ≤ X.heap.size) :
    ∃ g n c w', (∀ ty, (Builtin.append_ #[62, 62] ty #[v, .slice (some ⟨B, 0, none⟩) 1 1]).run Try.prog X = .ok (.slice (some ⟨g, 0, none⟩) n c) w') ∧ OwnA w' base (.slice (some ⟨g, 0, none⟩) n c) (l ++ [r]) ∧ X.grownBy w' v.ownBlock := by
  obtain ⟨iA, hiA, hA0, hA1, hA2⟩ := info_parts Try.answerInfo
  obtain ⟨v', w', hr, h2, h3, _, _⟩ := run_append_at (P := Try.prog) X base 62 0 74 iA _ 7 56 Try.underlying62 hiA hA0 hA1 hA2 rfl (by decide) v l.length (acells l) hl ⟨B, 0, none⟩ 1 1 (ansCells r) rfl (fun j u hu => World.news_of_block hB j u (by simpa using hu)) (by intro u hu; simp [ansCells] at hu; rcases hu with rfl | rfl | rfl | rfl | rfl | rfl | rfl <;> rfl) (by unfold maxLen; omega) (by omega) hb
  have h4 : OwnA w' base v' (l ++ [r]) := by unfold OwnA; rw [acells_snoc, List.length_append]; exact h2
  obtain ⟨g, cap, cur, e, _⟩ := h4.2.resolve_left (fun h => by simp at h)
  subst e
  exact ⟨g, _, cap, w', fun ty => hr, h4, h3⟩

set_option maxHeartbeats 6400000 in
set_option maxRecDepth 100000 in
theorem place_any (W0 : World) (N : Nat) (hN : W0.heap.size = N) (b3 b5 gA LA cA gX oX cX : Nat) (AL : List Stm.Act) (xs : List Ans) (hC : SC W0 b3 b5 gA LA cA gX oX cX AL xs) (S : List Stm.Act) (A : List Ans) (parts : Nat → List Nat) (opn : Nat → Nat) (v7 v8 : Value) (p : Nat → Value) (w : World)
    (hM : SM W0 N S A parts opn v7 v8 p w) (t : Nat) (ht : t < 4) (hp : ∀ i ∈ parts t, i < LA) (hpl : (parts t).length ≤ 100) (hSl : S.length ≤ 300) (hAl : A.length = S.length) :
    Calls Try.prog 42 #[.int .i64 t, .pointer (some ⟨N + 2, 0, none⟩), .pointer (some ⟨N, 0, none⟩), .pointer (some ⟨b3, 0, none⟩), .pointer (some ⟨N + 1, 0, none⟩), .pointer (some ⟨b5, 0, none⟩)] w fun e w' =>
      e = .returned (.tuple #[]) ∧ ∃ v7' v8', SM W0 N (S ++ (parts t).map (actAt AL)) (A ++ (parts t).map (ansAt xs)) (upd parts t []) opn v7' v8' (upd p t (.slice none 0 0)) w' := by
  obtain ⟨iA, hiA, hA0, hA1, hA2⟩ := info_parts Try.actInfo
  obtain ⟨jA, hjA, hB0, hB1, hB2⟩ := info_parts Try.answerInfo
  obtain ⟨y9, y9f⟩ := hM.cellP ht
  have HM := Lib.hide hM
  have HC := Lib.hide hC
  have HP := Lib.hide hp
  obtain ⟨K, hK⟩ : ∃ K, (parts t).length = K := ⟨_, rfl⟩
  obtain ⟨ap, cp, hpv, hpi⟩ := (hM.op t ht).ints
  rw [nums_length, hK] at hpv
  rw [hpv] at y9
  have HPV := Lib.hide hpv
  have HKK := Lib.hide hK
  rw [hK] at hpl
  have i4 : (t : Int) < 4 := by omega
  clear hM hC hp hpv hK hpi
  go_enter Try.func42, Try.ntmps42
  go_wp2
  go_loopw [13] (fun u wr => ∃ (i : Nat) (v7' v8' : Value), i ≤ K ∧ u = .int .i64 i ∧ SM W0 N (S ++ ((parts t).take i).map (actAt AL)) (A ++ ((parts t).take i).map (ansAt xs)) parts opn v7' v8' p wr) (fun u _ => K - (intOf u).toNat)
  case atStart => exact ⟨0, v7, v8, by omega, rfl, by simpa using HM.out⟩
  case round =>
    obtain ⟨i, z7, z8, hiK, rfl, hm⟩ := hrel
    have HMM := Lib.hide hm
    by_cases hlt : i < K
    · have hilt : i < (parts t).length := by rw [HKK.out]; exact hlt
      obtain ⟨q, hq⟩ : ∃ q, q = (parts t)[i] := ⟨_, rfl⟩
      have hql : q < LA := HP.out q (by rw [hq]; exact List.getElem_mem _)
      have hpo := hm.op t ht
      rw [HPV.out] at hpo
      obtain ⟨b, o, rfl, hb, hcc⟩ := hpo.reads.2.at (by rw [nums_length]; omega)
      have x1 := hcc i (by rw [nums_length]; exact hilt)
      rw [nums_getD, List.getD_eq_getElem?_getD, List.getElem?_eq_getElem hilt, Option.getD_some, ← hq] at x1
      have HQ := Lib.hide hq
      have bel := hm.bel
      obtain ⟨r, hr⟩ : ∃ r, AL[q]? = some r := ⟨AL[q]'(by rw [HC.out.la]; exact hql), List.getElem?_eq_getElem _⟩
      obtain ⟨a, ha⟩ : ∃ a, xs[q]? = some a := ⟨xs[q]'(by rw [HC.out.lx]; exact hql), List.getElem?_eq_getElem _⟩
      have hbw : Below W0.heap.size W0 wr := by rw [hN]; exact bel
      have lt3 : b3 < W0.heap.size := cell_lt (p := ⟨b3, 0, none⟩) HC.out.c3
      have lt5 : b5 < W0.heap.size := cell_lt (p := ⟨b5, 0, none⟩) HC.out.c5
      have c3 := (hbw.cell (p := ⟨b3, 0, none⟩) lt3).trans HC.out.c3
      have c5 := (hbw.cell (p := ⟨b5, 0, none⟩) lt5).trans HC.out.c5
      obtain ⟨_, _, eb, e0, e1, e2, e3, e4⟩ := (HC.out.acts.below hbw).cells hr
      injection eb with eb
      injection eb with eb1 eb2
      subst eb1 eb2
      rw [Nat.zero_add] at e0 e1 e2 e3 e4
      obtain ⟨_, _, eb, _, hcx⟩ := (HC.out.answers.below hbw).resolve_left (fun h => by rw [h] at ha; simp at ha)
      injection eb with eb
      injection eb with eb1 eb2
      subst eb1 eb2
      have hx := hcx q a ha
      obtain ⟨r0, r1, r2, r3, r4⟩ := r
      obtain ⟨a0, a1, a2, a3, a4, a5, a6⟩ := a
      dsimp only at e0 e1 e2 e3 e4
      have f0 := hx 0 _ rfl
      have f1 := hx 1 _ rfl
      have f2 := hx 2 _ rfl
      have f3 := hx 3 _ rfl
      have f4 := hx 4 _ rfl
      have f5 := hx 5 _ rfl
      have f6 := hx 6 _ rfl
      rw [Nat.add_zero] at f0
      have g7 := cell_of_one hm.b7
      have g8 := cell_of_one hm.b8
      have g7f := frozen_of_row wr N 0 _ _ hm.b7
      have g8f := frozen_of_row wr (N + 1) 0 _ _ hm.b8
      have q1 : (q : Int) < (LA : Int) := by omega
      have HR := Lib.hide (And.intro hr ha)
      have HS := Lib.hide hm.size
      have HO7 := Lib.hide hm.o7
      have HO8 := Lib.hide hm.o8
      have hTL : ((parts t).take i).length = i := by rw [List.length_take, HKK.out]; omega
      have HL7 := Lib.hide (show (S ++ ((parts t).take i).map (actAt AL)).length ≤ 900 by rw [List.length_append, List.length_map, hTL]; omega)
      have HL8 := Lib.hide (show (A ++ ((parts t).take i).map (ansAt xs)).length ≤ 900 by rw [List.length_append, List.length_map, hTL]; omega)
      clear hm hq hpo hcc hx hcx hr ha bel hbw lt3 lt5 hTL
      have hts : (parts t).take (i + 1) = (parts t).take i ++ [q] := by rw [List.take_succ_eq_append_getElem hilt, HQ.out]
      have haq : actAt AL q = ⟨r0, r1, r2, r3, r4⟩ := by unfold actAt; rw [List.getD_eq_getElem?_getD, HR.out.1]; rfl
      have hxq : ansAt xs q = ⟨a0, a1, a2, a3, a4, a5, a6⟩ := by unfold ansAt; rw [List.getD_eq_getElem?_getD, HR.out.2]; rfl
      have HSE := Lib.hide (show S ++ ((parts t).take (i + 1)).map (actAt AL) = (S ++ ((parts t).take i).map (actAt AL)) ++ [⟨r0, r1, r2, r3, r4⟩] by rw [hts, List.map_append, List.map_singleton, haq, List.append_assoc])
      have HAE := Lib.hide (show A ++ ((parts t).take (i + 1)).map (ansAt xs) = (A ++ ((parts t).take i).map (ansAt xs)) ++ [⟨a0, a1, a2, a3, a4, a5, a6⟩] by rw [hts, List.map_append, List.map_singleton, hxq, List.append_assoc])
      clear hts haq hxq
      generalize (S ++ ((parts t).take i).map (actAt AL)) = S1 at HO7 HL7 HMM HSE
      generalize (A ++ ((parts t).take i).map (ansAt xs)) = A1 at HO8 HL8 HMM HAE
      have HFIN := Lib.hide (fun (u7 u8 : Value) {wz : World} (h : SM W0 N (S1 ++ [⟨r0, r1, r2, r3, r4⟩]) (A1 ++ [⟨a0, a1, a2, a3, a4, a5, a6⟩]) parts opn u7 u8 p wz) => show SM W0 N (S ++ ((parts t).take (i + 1)).map (actAt AL)) (A ++ ((parts t).take (i + 1)).map (ansAt xs)) parts opn u7 u8 p wz from by rw [HSE.out, HAE.out]; exact h)
      have HLT := Lib.hide (show (b3 < N ∧ b5 < N) ∧ gA < N ∧ gX < N from by
        refine ⟨⟨by have := cell_lt (p := ⟨b3, 0, none⟩) HC.out.c3; rw [hN] at this; dsimp only at this; omega, by have := cell_lt (p := ⟨b5, 0, none⟩) HC.out.c5; rw [hN] at this; dsimp only at this; omega⟩, ?_, ?_⟩
        · obtain ⟨b', o', eb, hlt, _⟩ := HC.out.acts.resolve_left (fun h => by have := HR.out.1; rw [h] at this; simp at this)
          injection eb with eb
          injection eb with eb1 eb2
          subst eb1
          rw [hN] at hlt
          omega
        · obtain ⟨b', o', eb, hlt, _⟩ := HC.out.answers.resolve_left (fun h => by have := HR.out.2; rw [h] at this; simp at this)
          injection eb with eb
          injection eb with eb1 eb2
          subst eb1
          rw [hN] at hlt
          omega)
      have HK := Lib.hide (fun (w' : World) (hT : Two wr w' z7.ownBlock z8.ownBlock) => show ∀ k, k < N + 4 → w'.heap[k]? = wr.heap[k]? from fun k hk => hT.block k (by have := HMM.out.size; omega) (fun e => by have := (World.ownsRow.lt HO7.out k e.symm).1; omega) (fun e => by have := (World.ownsRow.lt HO8.out k e.symm).1; omega))
      have HC' := Lib.hide (fun (w' : World) (hT : Two wr w' z7.ownBlock z8.ownBlock) (k j : Nat) (v : Value) (hk : k < N + 4) (hv : wr.cell? ⟨k, j, none⟩ = some v) => show w'.cell? ⟨k, j, none⟩ = some v from (World.cell?_of_block (HK.out w' hT k hk)).trans hv)
      have HFZ := Lib.hide (fun (w' : World) (hT : Two wr w' z7.ownBlock z8.ownBlock) => show w'.frozen? ⟨N, 0, none⟩ = false ∧ w'.frozen? ⟨N + 1, 0, none⟩ = false from ⟨(World.frozen?_of_block (HK.out w' hT N (by omega))).trans g7f, (World.frozen?_of_block (HK.out w' hT (N + 1) (by omega))).trans g8f⟩)
      have HN7 := Lib.hide (show ∀ k, wr.heap.size ≤ k → some k ≠ z7.ownBlock from fun k hk e => by have := (World.ownsRow.lt HO7.out k e.symm).2; omega)
      have HFZ2 := HFZ
      clear HFZ
      have HFZ := Lib.hide (fun (w' : World) (hT : Two wr w' z7.ownBlock z8.ownBlock) => show w'.frozen? ⟨N, 0, none⟩ = false ∧ w'.frozen? ⟨N + 1, 0, none⟩ = false ∧ w'.cell? ⟨N, 0, none⟩ = some z7 ∧ w'.cell? ⟨N + 1, 0, none⟩ = some z8 from ⟨(HFZ2.out w' hT).1, (HFZ2.out w' hT).2, HC'.out w' hT N 0 _ (by omega) g7, HC'.out w' hT (N + 1) 0 _ (by omega) g8⟩)
      have HSS := Lib.hide (fun (w' : World) (hT : Two wr w' z7.ownBlock z8.ownBlock) => show (PlS N b3 b5 gA LA cA gX oX cX q z7 z8 ⟨r0, r1, r2, r3, r4⟩ ⟨a0, a1, a2, a3, a4, a5, a6⟩) w' from by
        obtain ⟨⟨l3, l5⟩, lA, lX⟩ := HLT.out
        exact ⟨HC'.out w' hT _ _ _ (by omega) g7, HC'.out w' hT _ _ _ (by omega) g8, HC'.out w' hT _ _ _ (by omega) c3, HC'.out w' hT _ _ _ (by omega) c5, HC'.out w' hT _ _ _ (by omega) e0, HC'.out w' hT _ _ _ (by omega) e1, HC'.out w' hT _ _ _ (by omega) e2, HC'.out w' hT _ _ _ (by omega) e3, HC'.out w' hT _ _ _ (by omega) e4, HC'.out w' hT _ _ _ (by omega) f0, HC'.out w' hT _ _ _ (by omega) f1, HC'.out w' hT _ _ _ (by omega) f2, HC'.out w' hT _ _ _ (by omega) f3, HC'.out w' hT _ _ _ (by omega) f4, HC'.out w' hT _ _ _ (by omega) f5, HC'.out w' hT _ _ _ (by omega) f6⟩)
      have D0 := Lib.hide (show Below wr.heap.size wr wr.drew from (by repeat (first | exact Below.refl _ _ | assumption | refine Below.drew ?_ | refine below_drewN ?_ _ | refine Below.allocs ?_ | refine Below.next ?_ (by assumption) | refine Below.setCell ?_ (by dsimp only; omega) _)))
      have DR := Lib.hide (show Below wr.heap.size wr (wr.alloc (.cells #[.int .i64 r0, .int .i64 r1, .int .i64 r2, .int .i64 r3, .int .i64 r4] 71)).drew from (by repeat (first | exact Below.refl _ _ | assumption | refine Below.drew ?_ | refine below_drewN ?_ _ | refine Below.allocs ?_ | refine Below.next ?_ (by assumption) | refine Below.setCell ?_ (by dsimp only; omega) _)))
      have DA := Lib.hide (show Below wr.heap.size wr (wr.alloc (.cells #[.int .i64 a0, .bool a1, .int .i64 a2, .bool a3, .int .i64 a4, .bool a5, .int .i64 a6] 74)).drew from (by repeat (first | exact Below.refl _ _ | assumption | refine Below.drew ?_ | refine below_drewN ?_ _ | refine Below.allocs ?_ | refine Below.next ?_ (by assumption) | refine Below.setCell ?_ (by dsimp only; omega) _)))
      have DRA := Lib.hide (show Below wr.heap.size wr ((wr.alloc (.cells #[.int .i64 r0, .int .i64 r1, .int .i64 r2, .int .i64 r3, .int .i64 r4] 71)).alloc (.cells #[.int .i64 a0, .bool a1, .int .i64 a2, .bool a3, .int .i64 a4, .bool a5, .int .i64 a6] 74)).drew from (by repeat (first | exact Below.refl _ _ | assumption | refine Below.drew ?_ | refine below_drewN ?_ _ | refine Below.allocs ?_ | refine Below.next ?_ (by assumption) | refine Below.setCell ?_ (by dsimp only; omega) _)))
      have DAR := Lib.hide (show Below wr.heap.size wr ((wr.alloc (.cells #[.int .i64 a0, .bool a1, .int .i64 a2, .bool a3, .int .i64 a4, .bool a5, .int .i64 a6] 74)).alloc (.cells #[.int .i64 r0, .int .i64 r1, .int .i64 r2, .int .i64 r3, .int .i64 r4] 71)).drew from (by repeat (first | exact Below.refl _ _ | assumption | refine Below.drew ?_ | refine below_drewN ?_ _ | refine Below.allocs ?_ | refine Below.next ?_ (by assumption) | refine Below.setCell ?_ (by dsimp only; omega) _)))
      have hHeld := HSS.out wr.drew (Two.of_below D0.out _ _)
      clear HFZ2
      go_wp2_with fail
      refine wp_region_late (fun j => decide (14 ≤ j)) (PlS N b3 b5 gA LA cA gX oX cX q z7 z8 ⟨r0, r1, r2, r3, r4⟩ ⟨a0, a1, a2, a3, a4, a5, a6⟩) (by kernel_rfl) ?_
      refine wpLate.take (i := 0) (oi := ?o0_16) (v := ?v0_16) ?hi0_16 (by kernel_rfl) (by kernel_rfl) (by kernel_rfl) (by kernel_rfl) ?hQ0_16 ?hy0_16 hHeld ?rest0_16
      case hi0_16 => (simp only [List.getElem?_toArray, List.getElem?_cons_zero, List.getElem?_cons_succ]; rfl)
      case hQ0_16 => exact fun _ _ _ h => h
      case hy0_16 => (refine Or.inl ⟨by rfl, ?_⟩; intro w hSw; unfold PlS at hSw; dsimp only at hSw; go_simp; try with_reducible rfl)
      try simp only [Act.put, List.setIfInBounds_toArray, List.set_cons_zero, List.set_cons_succ]
      refine wpLate.take (i := 1) (oi := ?o1_17) (v := ?v1_17) ?hi1_17 (by kernel_rfl) (by kernel_rfl) (by kernel_rfl) (by kernel_rfl) ?hQ1_17 ?hy1_17 hHeld ?rest1_17
      case hi1_17 => (simp only [List.getElem?_toArray, List.getElem?_cons_zero, List.getElem?_cons_succ]; rfl)
      case hQ1_17 => exact fun _ _ _ h => h
      case hy1_17 => (refine Or.inl ⟨by rfl, ?_⟩; intro w hSw; unfold PlS at hSw; dsimp only at hSw; go_simp; try with_reducible rfl)
      try simp only [Act.put, List.setIfInBounds_toArray, List.set_cons_zero, List.set_cons_succ]
      refine wpLate.take (i := 2) (oi := ?o2_18) (v := ?v2_18) ?hi2_18 (by kernel_rfl) (by kernel_rfl) (by kernel_rfl) (by kernel_rfl) ?hQ2_18 ?hy2_18 hHeld ?rest2_18
      case hi2_18 => (simp only [List.getElem?_toArray, List.getElem?_cons_zero, List.getElem?_cons_succ]; rfl)
      case hQ2_18 => exact fun _ _ _ h => h
      case hy2_18 => (refine Or.inl ⟨by rfl, ?_⟩; intro w hSw; unfold PlS at hSw; dsimp only at hSw; go_simp; try with_reducible rfl)
      try simp only [Act.put, List.setIfInBounds_toArray, List.set_cons_zero, List.set_cons_succ]
      refine wpLate.take (i := 3) (oi := ?o3_19) (v := ?v3_19) ?hi3_19 (by kernel_rfl) (by kernel_rfl) (by kernel_rfl) (by kernel_rfl) ?hQ3_19 ?hy3_19 hHeld ?rest3_19
      case hi3_19 => (simp only [List.getElem?_toArray, List.getElem?_cons_zero, List.getElem?_cons_succ]; rfl)
      case hQ3_19 => exact fun _ _ _ h => h
      case hy3_19 => (refine Or.inl ⟨by rfl, ?_⟩; intro w hSw; unfold PlS at hSw; dsimp only at hSw; go_simp; try with_reducible rfl)
      try simp only [Act.put, List.setIfInBounds_toArray, List.set_cons_zero, List.set_cons_succ]
      refine wpLate.take (i := 4) (oi := ?o4_20) (v := ?v4_20) ?hi4_20 (by kernel_rfl) (by kernel_rfl) (by kernel_rfl) (by kernel_rfl) ?hQ4_20 ?hy4_20 hHeld ?rest4_20
      case hi4_20 => (simp only [List.getElem?_toArray, List.getElem?_cons_zero, List.getElem?_cons_succ]; rfl)
      case hQ4_20 => exact fun _ _ _ h => h
      case hy4_20 => (refine Or.inl ⟨by rfl, ?_⟩; intro w hSw; unfold PlS at hSw; dsimp only at hSw; go_simp; try with_reducible rfl)
      try simp only [Act.put, List.setIfInBounds_toArray, List.set_cons_zero, List.set_cons_succ]
      refine wpLate.take (i := 7) (oi := ?o7_21) (v := ?v7_21) ?hi7_21 (by kernel_rfl) (by kernel_rfl) (by kernel_rfl) (by kernel_rfl) ?hQ7_21 ?hy7_21 hHeld ?rest7_21
      case hi7_21 => (simp only [List.getElem?_toArray, List.getElem?_cons_zero, List.getElem?_cons_succ]; rfl)
      case hQ7_21 => exact fun _ _ _ h => h
      case hy7_21 => (refine Or.inl ⟨by rfl, ?_⟩; intro w hSw; unfold PlS at hSw; dsimp only at hSw; go_simp; try with_reducible rfl)
      try simp only [Act.put, List.setIfInBounds_toArray, List.set_cons_zero, List.set_cons_succ]
      refine wpLate.take (i := 8) (oi := ?o8_22) (v := ?v8_22) ?hi8_22 (by kernel_rfl) (by kernel_rfl) (by kernel_rfl) (by kernel_rfl) ?hQ8_22 ?hy8_22 hHeld ?rest8_22
      case hi8_22 => (simp only [List.getElem?_toArray, List.getElem?_cons_zero, List.getElem?_cons_succ]; rfl)
      case hQ8_22 => exact fun _ _ _ h => h
      case hy8_22 => (refine Or.inl ⟨by rfl, ?_⟩; intro w hSw; unfold PlS at hSw; dsimp only at hSw; go_simp; try with_reducible rfl)
      try simp only [Act.put, List.setIfInBounds_toArray, List.set_cons_zero, List.set_cons_succ]
      refine wpLate.take (i := 9) (oi := ?o9_23) (v := ?v9_23) ?hi9_23 (by kernel_rfl) (by kernel_rfl) (by kernel_rfl) (by kernel_rfl) ?hQ9_23 ?hy9_23 hHeld ?rest9_23
      case hi9_23 => (simp only [List.getElem?_toArray, List.getElem?_cons_zero, List.getElem?_cons_succ]; rfl)
      case hQ9_23 => exact fun _ _ _ h => h
      case hy9_23 => (refine Or.inl ⟨by rfl, ?_⟩; intro w hSw; unfold PlS at hSw; dsimp only at hSw; go_simp; try with_reducible rfl)
      try simp only [Act.put, List.setIfInBounds_toArray, List.set_cons_zero, List.set_cons_succ]
      refine wpLate.take (i := 10) (oi := ?o10_24) (v := ?v10_24) ?hi10_24 (by kernel_rfl) (by kernel_rfl) (by kernel_rfl) (by kernel_rfl) ?hQ10_24 ?hy10_24 hHeld ?rest10_24
      case hi10_24 => (simp only [List.getElem?_toArray, List.getElem?_cons_zero, List.getElem?_cons_succ]; rfl)
      case hQ10_24 => exact fun _ _ _ h => h
      case hy10_24 => (refine Or.inl ⟨by rfl, ?_⟩; intro w hSw; unfold PlS at hSw; dsimp only at hSw; go_simp; try with_reducible rfl)
      try simp only [Act.put, List.setIfInBounds_toArray, List.set_cons_zero, List.set_cons_succ]
      refine wpLate.take (i := 11) (oi := ?o11_25) (v := ?v11_25) ?hi11_25 (by kernel_rfl) (by kernel_rfl) (by kernel_rfl) (by kernel_rfl) ?hQ11_25 ?hy11_25 hHeld ?rest11_25
      case hi11_25 => (simp only [List.getElem?_toArray, List.getElem?_cons_zero, List.getElem?_cons_succ]; rfl)
      case hQ11_25 => exact fun _ _ _ h => h
      case hy11_25 => (refine Or.inl ⟨by rfl, ?_⟩; intro w hSw; unfold PlS at hSw; dsimp only at hSw; go_simp; try with_reducible rfl)
      try simp only [Act.put, List.setIfInBounds_toArray, List.set_cons_zero, List.set_cons_succ]
      refine wpLate.ready (rs := [5, 12]) (by kernel_rfl) (by simp) ?_
      refine AllLate.cons (o := ?o5_26) ?hi5_26 ?step5_26 ?more5_26
      case hi5_26 => (simp only [List.getElem?_toArray, List.getElem?_cons_zero, List.getElem?_cons_succ]; rfl)
      case step5_26 =>
        intro K hK
        go_simp
        refine hK.out _ _ (fun _ => HSS.out _ (Two.of_below (DR).out _ _)) (fun hHeld => ?_)
        clear hK K
        try simp only [Act.put, List.setIfInBounds_toArray, List.set_cons_zero, List.set_cons_succ]
        refine wpLate.ready (rs := [6, 12]) (by kernel_rfl) (by simp) ?_
        refine AllLate.cons (o := ?o6_9) ?hi6_9 ?step6_9 ?more6_9
        case hi6_9 => (simp only [List.getElem?_toArray, List.getElem?_cons_zero, List.getElem?_cons_succ]; rfl)
        case step6_9 =>
          intro K hK
          refine step_append_act (X := (wr.alloc (.cells #[.int .i64 r0, .int .i64 r1, .int .i64 r2, .int .i64 r3, .int .i64 r4] 71)).drew) rfl (.tmp 17) (.tmp 22) rfl (N + 4) z7 S1 ⟨r0, r1, r2, r3, r4⟩ wr.heap.size (by simp [Act.eval, Act.put]) (by simp [Act.eval, Act.put]) (HO7.out.below DR.out) (heap_alloc_new wr _) HL7.out (by have := HS.out; have := (DR.out).size; omega) ?_
          intro G1 n1 d1 w1 ho1 hg1
          have T1 := Lib.hide ((Two.of_below DR.out z7.ownBlock z8.ownBlock).left hg1)
          have U1 := Lib.hide ((HO8.out.below2 DR.out).grown (HO7.out.below DR.out) hg1)
          have O1 := Lib.hide ho1
          have hS1 := HSS.out w1 T1.out
          have B1A := Lib.hide (show Below w1.heap.size w1 (w1.alloc (.cells #[.int .i64 a0, .bool a1, .int .i64 a2, .bool a3, .int .i64 a4, .bool a5, .int .i64 a6] 74)) from (by repeat (first | exact Below.refl _ _ | assumption | refine Below.drew ?_ | refine below_drewN ?_ _ | refine Below.allocs ?_ | refine Below.next ?_ (by assumption) | refine Below.setCell ?_ (by dsimp only; omega) _)))
          have TX := Lib.hide (T1.out.step B1A.out)
          clear ho1 hg1
          refine hK.out _ _ (fun _ => hS1) (fun hHeld => ?_)
          clear hK K
          try simp only [Act.put, List.setIfInBounds_toArray, List.set_cons_zero, List.set_cons_succ]
          refine wpLate.ready (rs := [12]) (by kernel_rfl) (by simp) ?_
          refine AllLate.cons (o := ?o12_4) ?hi12_4 ?step12_4 ?more12_4
          case hi12_4 => (simp only [List.getElem?_toArray, List.getElem?_cons_zero, List.getElem?_cons_succ]; rfl)
          case step12_4 =>
            intro K hK
            go_simp
            refine hK.out _ _ (fun _ => HSS.out _ TX.out) (fun hHeld => ?_)
            clear hK K
            try simp only [Act.put, List.setIfInBounds_toArray, List.set_cons_zero, List.set_cons_succ]
            refine wpLate.ready (rs := [13]) (by kernel_rfl) (by simp) ?_
            refine AllLate.cons (o := ?o13_3) ?hi13_3 ?step13_3 ?more13_3
            case hi13_3 => (simp only [List.getElem?_toArray, List.getElem?_cons_zero, List.getElem?_cons_succ]; rfl)
            case step13_3 =>
              intro K hK
              refine step_append_answer (X := w1.alloc (.cells #[.int .i64 a0, .bool a1, .int .i64 a2, .bool a3, .int .i64 a4, .bool a5, .int .i64 a6] 74)) rfl (.tmp 24) (.tmp 29) rfl (N + 4) z8 A1 ⟨a0, a1, a2, a3, a4, a5, a6⟩ w1.heap.size (by simp [Act.eval, Act.put]) (by simp [Act.eval, Act.put]) (U1.out.below2 B1A.out) (heap_alloc_new w1 _) HL8.out (by have := HS.out; have := (TX.out).size; omega) ?_
              intro G2 n2 d2 w2 ho2 hg2
              have V1 := (TX.out).right hg2
              have F1 := Lib.hide (HMM.out.both hN V1 ((O1.out.below B1A.out).grown (U1.out.below2 B1A.out) hg2) ho2)
              have hS2 := HSS.out w2 V1
              obtain ⟨y1, y2, y3, y4⟩ := HFZ.out w2 V1
              clear ho2 hg2 V1
              refine hK.out _ _ (fun _ => hS2) (fun hHeld => ?_)
              clear hK K
              try simp only [Act.put, List.setIfInBounds_toArray, List.set_cons_zero, List.set_cons_succ]
              refine wpLate.ready (rs := [14]) (by kernel_rfl) (by simp) ?_
              refine AllLate.cons (o := ?o14_2) ?hi14_2 ?step14_2 ?more14_2
              case hi14_2 => (simp only [List.getElem?_toArray, List.getElem?_cons_zero, List.getElem?_cons_succ]; rfl)
              case step14_2 =>
                intro K hK
                go_simp
                refine hK.out _ _ (fun e => absurd e (by decide)) (fun hHeld => ?_)
                clear hK K
                try simp only [Act.put, List.setIfInBounds_toArray, List.set_cons_zero, List.set_cons_succ]
                refine wpLate.ready (rs := [15]) (by kernel_rfl) (by simp) ?_
                refine AllLate.cons (o := ?o15_1) ?hi15_1 ?step15_1 ?more15_1
                case hi15_1 => (simp only [List.getElem?_toArray, List.getElem?_cons_zero, List.getElem?_cons_succ]; rfl)
                case step15_1 =>
                  intro K hK
                  go_simp
                  refine hK.out _ _ (fun e => absurd e (by decide)) (fun hHeld => ?_)
                  clear hK K
                  try simp only [Act.put, List.setIfInBounds_toArray, List.set_cons_zero, List.set_cons_succ]
                  refine wpLate.done (by kernel_rfl) ?_ _
                  go_wp2
                  go_roundw
                  case rel => exact ⟨i + 1, _, _, by omega, by go_num, HFIN.out _ _ F1.out⟩
                  case measure => simp [intOf]; omega
                case more15_1 => exact AllLate.nil
              case more14_2 => exact AllLate.nil
            case more13_3 => exact AllLate.nil
          case more12_4 => exact AllLate.nil
        case more6_9 =>
          refine AllLate.cons (o := ?o12_10) ?hi12_10 ?step12_10 ?more12_10
          case hi12_10 => (simp only [List.getElem?_toArray, List.getElem?_cons_zero, List.getElem?_cons_succ]; rfl)
          case step12_10 =>
            intro K hK
            go_simp
            refine hK.out _ _ (fun _ => HSS.out _ (Two.of_below (DRA).out _ _)) (fun hHeld => ?_)
            clear hK K
            try simp only [Act.put, List.setIfInBounds_toArray, List.set_cons_zero, List.set_cons_succ]
            refine wpLate.ready (rs := [6]) (by kernel_rfl) (by simp) ?_
            refine AllLate.cons (o := ?o6_8) ?hi6_8 ?step6_8 ?more6_8
            case hi6_8 => (simp only [List.getElem?_toArray, List.getElem?_cons_zero, List.getElem?_cons_succ]; rfl)
            case step6_8 =>
              intro K hK
              refine step_append_act (X := ((wr.alloc (.cells #[.int .i64 r0, .int .i64 r1, .int .i64 r2, .int .i64 r3, .int .i64 r4] 71)).alloc (.cells #[.int .i64 a0, .bool a1, .int .i64 a2, .bool a3, .int .i64 a4, .bool a5, .int .i64 a6] 74)).drew) rfl (.tmp 17) (.tmp 22) rfl (N + 4) z7 S1 ⟨r0, r1, r2, r3, r4⟩ wr.heap.size (by simp [Act.eval, Act.put]) (by simp [Act.eval, Act.put]) (HO7.out.below DRA.out) ((Below.heap_alloc (wr.alloc (.cells #[.int .i64 r0, .int .i64 r1, .int .i64 r2, .int .i64 r3, .int .i64 r4] 71)) (.cells #[.int .i64 a0, .bool a1, .int .i64 a2, .bool a3, .int .i64 a4, .bool a5, .int .i64 a6] 74) wr.heap.size (by simp)).trans (heap_alloc_new wr _)) HL7.out (by have := HS.out; have := (DRA.out).size; omega) ?_
              intro G1 n1 d1 w1 ho1 hg1
              have T1 := Lib.hide ((Two.of_below DRA.out z7.ownBlock z8.ownBlock).left hg1)
              have U1 := Lib.hide ((HO8.out.below2 DRA.out).grown (HO7.out.below DRA.out) hg1)
              have O1 := Lib.hide ho1
              have hS1 := HSS.out w1 T1.out
              have hB2 := (hg1.block (wr.heap.size + 1) (by simp) (HN7.out _ (by omega))).trans (heap_alloc_second wr _ _)
              clear ho1 hg1
              refine hK.out _ _ (fun _ => hS1) (fun hHeld => ?_)
              clear hK K
              try simp only [Act.put, List.setIfInBounds_toArray, List.set_cons_zero, List.set_cons_succ]
              refine wpLate.ready (rs := [13]) (by kernel_rfl) (by simp) ?_
              refine AllLate.cons (o := ?o13_7) ?hi13_7 ?step13_7 ?more13_7
              case hi13_7 => (simp only [List.getElem?_toArray, List.getElem?_cons_zero, List.getElem?_cons_succ]; rfl)
              case step13_7 =>
                intro K hK
                refine step_append_answer (X := w1) rfl (.tmp 24) (.tmp 29) rfl (N + 4) z8 A1 ⟨a0, a1, a2, a3, a4, a5, a6⟩ (wr.heap.size + 1) (by simp [Act.eval, Act.put]) (by simp [Act.eval, Act.put]) U1.out hB2 HL8.out (by have := HS.out; have := (T1.out).size; omega) ?_
                intro G2 n2 d2 w2 ho2 hg2
                have V1 := (T1.out).right hg2
                have F1 := Lib.hide (HMM.out.both hN V1 (O1.out.grown U1.out hg2) ho2)
                have hS2 := HSS.out w2 V1
                obtain ⟨y1, y2, y3, y4⟩ := HFZ.out w2 V1
                clear ho2 hg2 V1
                refine hK.out _ _ (fun _ => hS2) (fun hHeld => ?_)
                clear hK K
                try simp only [Act.put, List.setIfInBounds_toArray, List.set_cons_zero, List.set_cons_succ]
                refine wpLate.ready (rs := [14]) (by kernel_rfl) (by simp) ?_
                refine AllLate.cons (o := ?o14_6) ?hi14_6 ?step14_6 ?more14_6
                case hi14_6 => (simp only [List.getElem?_toArray, List.getElem?_cons_zero, List.getElem?_cons_succ]; rfl)
                case step14_6 =>
                  intro K hK
                  go_simp
                  refine hK.out _ _ (fun e => absurd e (by decide)) (fun hHeld => ?_)
                  clear hK K
                  try simp only [Act.put, List.setIfInBounds_toArray, List.set_cons_zero, List.set_cons_succ]
                  refine wpLate.ready (rs := [15]) (by kernel_rfl) (by simp) ?_
                  refine AllLate.cons (o := ?o15_5) ?hi15_5 ?step15_5 ?more15_5
                  case hi15_5 => (simp only [List.getElem?_toArray, List.getElem?_cons_zero, List.getElem?_cons_succ]; rfl)
                  case step15_5 =>
                    intro K hK
                    go_simp
                    refine hK.out _ _ (fun e => absurd e (by decide)) (fun hHeld => ?_)
                    clear hK K
                    try simp only [Act.put, List.setIfInBounds_toArray, List.set_cons_zero, List.set_cons_succ]
                    refine wpLate.done (by kernel_rfl) ?_ _
                    go_wp2
                    go_roundw
                    case rel => exact ⟨i + 1, _, _, by omega, by go_num, HFIN.out _ _ F1.out⟩
                    case measure => simp [intOf]; omega
                  case more15_5 => exact AllLate.nil
                case more14_6 => exact AllLate.nil
              case more13_7 => exact AllLate.nil
            case more6_8 => exact AllLate.nil
          case more12_10 => exact AllLate.nil
      case more5_26 =>
        refine AllLate.cons (o := ?o12_27) ?hi12_27 ?step12_27 ?more12_27
        case hi12_27 => (simp only [List.getElem?_toArray, List.getElem?_cons_zero, List.getElem?_cons_succ]; rfl)
        case step12_27 =>
          intro K hK
          go_simp
          refine hK.out _ _ (fun _ => HSS.out _ (Two.of_below (DA).out _ _)) (fun hHeld => ?_)
          clear hK K
          try simp only [Act.put, List.setIfInBounds_toArray, List.set_cons_zero, List.set_cons_succ]
          refine wpLate.ready (rs := [5]) (by kernel_rfl) (by simp) ?_
          refine AllLate.cons (o := ?o5_15) ?hi5_15 ?step5_15 ?more5_15
          case hi5_15 => (simp only [List.getElem?_toArray, List.getElem?_cons_zero, List.getElem?_cons_succ]; rfl)
          case step5_15 =>
            intro K hK
            go_simp
            refine hK.out _ _ (fun _ => HSS.out _ (Two.of_below (DAR).out _ _)) (fun hHeld => ?_)
            clear hK K
            try simp only [Act.put, List.setIfInBounds_toArray, List.set_cons_zero, List.set_cons_succ]
            refine wpLate.ready (rs := [6]) (by kernel_rfl) (by simp) ?_
            refine AllLate.cons (o := ?o6_14) ?hi6_14 ?step6_14 ?more6_14
            case hi6_14 => (simp only [List.getElem?_toArray, List.getElem?_cons_zero, List.getElem?_cons_succ]; rfl)
            case step6_14 =>
              intro K hK
              refine step_append_act (X := ((wr.alloc (.cells #[.int .i64 a0, .bool a1, .int .i64 a2, .bool a3, .int .i64 a4, .bool a5, .int .i64 a6] 74)).alloc (.cells #[.int .i64 r0, .int .i64 r1, .int .i64 r2, .int .i64 r3, .int .i64 r4] 71)).drew) rfl (.tmp 17) (.tmp 22) rfl (N + 4) z7 S1 ⟨r0, r1, r2, r3, r4⟩ (wr.heap.size + 1) (by simp [Act.eval, Act.put]) (by simp [Act.eval, Act.put]) (HO7.out.below DAR.out) (heap_alloc_second wr _ _) HL7.out (by have := HS.out; have := (DAR.out).size; omega) ?_
              intro G1 n1 d1 w1 ho1 hg1
              have T1 := Lib.hide ((Two.of_below DAR.out z7.ownBlock z8.ownBlock).left hg1)
              have U1 := Lib.hide ((HO8.out.below2 DAR.out).grown (HO7.out.below DAR.out) hg1)
              have O1 := Lib.hide ho1
              have hS1 := HSS.out w1 T1.out
              have hB3 := (hg1.block wr.heap.size (by simp; omega) (HN7.out _ (by omega))).trans ((Below.heap_alloc (wr.alloc (.cells #[.int .i64 a0, .bool a1, .int .i64 a2, .bool a3, .int .i64 a4, .bool a5, .int .i64 a6] 74)) (.cells #[.int .i64 r0, .int .i64 r1, .int .i64 r2, .int .i64 r3, .int .i64 r4] 71) wr.heap.size (by simp)).trans (heap_alloc_new wr _))
              clear ho1 hg1
              refine hK.out _ _ (fun _ => hS1) (fun hHeld => ?_)
              clear hK K
              try simp only [Act.put, List.setIfInBounds_toArray, List.set_cons_zero, List.set_cons_succ]
              refine wpLate.ready (rs := [13]) (by kernel_rfl) (by simp) ?_
              refine AllLate.cons (o := ?o13_13) ?hi13_13 ?step13_13 ?more13_13
              case hi13_13 => (simp only [List.getElem?_toArray, List.getElem?_cons_zero, List.getElem?_cons_succ]; rfl)
              case step13_13 =>
                intro K hK
                refine step_append_answer (X := w1) rfl (.tmp 24) (.tmp 29) rfl (N + 4) z8 A1 ⟨a0, a1, a2, a3, a4, a5, a6⟩ wr.heap.size (by simp [Act.eval, Act.put]) (by simp [Act.eval, Act.put]) U1.out hB3 HL8.out (by have := HS.out; have := (T1.out).size; omega) ?_
                intro G2 n2 d2 w2 ho2 hg2
                have V1 := (T1.out).right hg2
                have F1 := Lib.hide (HMM.out.both hN V1 (O1.out.grown U1.out hg2) ho2)
                have hS2 := HSS.out w2 V1
                obtain ⟨y1, y2, y3, y4⟩ := HFZ.out w2 V1
                clear ho2 hg2 V1
                refine hK.out _ _ (fun _ => hS2) (fun hHeld => ?_)
                clear hK K
                try simp only [Act.put, List.setIfInBounds_toArray, List.set_cons_zero, List.set_cons_succ]
                refine wpLate.ready (rs := [14]) (by kernel_rfl) (by simp) ?_
                refine AllLate.cons (o := ?o14_12) ?hi14_12 ?step14_12 ?more14_12
                case hi14_12 => (simp only [List.getElem?_toArray, List.getElem?_cons_zero, List.getElem?_cons_succ]; rfl)
                case step14_12 =>
                  intro K hK
                  go_simp
                  refine hK.out _ _ (fun e => absurd e (by decide)) (fun hHeld => ?_)
                  clear hK K
                  try simp only [Act.put, List.setIfInBounds_toArray, List.set_cons_zero, List.set_cons_succ]
                  refine wpLate.ready (rs := [15]) (by kernel_rfl) (by simp) ?_
                  refine AllLate.cons (o := ?o15_11) ?hi15_11 ?step15_11 ?more15_11
                  case hi15_11 => (simp only [List.getElem?_toArray, List.getElem?_cons_zero, List.getElem?_cons_succ]; rfl)
                  case step15_11 =>
                    intro K hK
                    go_simp
                    refine hK.out _ _ (fun e => absurd e (by decide)) (fun hHeld => ?_)
                    clear hK K
                    try simp only [Act.put, List.setIfInBounds_toArray, List.set_cons_zero, List.set_cons_succ]
                    refine wpLate.done (by kernel_rfl) ?_ _
                    go_wp2
                    go_roundw
                    case rel => exact ⟨i + 1, _, _, by omega, by go_num, HFIN.out _ _ F1.out⟩
                    case measure => simp [intOf]; omega
                  case more15_11 => exact AllLate.nil
                case more14_12 => exact AllLate.nil
              case more13_13 => exact AllLate.nil
            case more6_14 => exact AllLate.nil
          case more5_15 => exact AllLate.nil
        case more12_27 => exact AllLate.nil
    · obtain rfl : i = K := by omega
      obtain ⟨y9', y9f'⟩ := hm.cellP ht
      rw [HPV.out] at y9'
      have hfull := hm
      rw [List.take_of_length_le (by rw [HKK.out]; exact Nat.le_refl _)] at hfull
      have hz := hfull.setPart (v := .slice none 0 0) (l := []) ht (World.grownBy.refl wr (p t).ownBlock) ⟨rfl, .inl ⟨rfl, rfl⟩⟩ (fun g hg => (by cases hg))
      have HZ := Lib.hide hz
      clear hm hfull hz HMM HM
      go_wp2
      go_end0
      exact ⟨rfl, _, _, HZ.out⟩
end Go.Proofs.Ytpdcaoagpjcgbab

