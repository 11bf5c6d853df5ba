/-
  The walk of limewashtop.TopHeld. It proves no statement by itself.
-/
import Derived.Test.YtpdcaoagpjcgbacTopRun
import Derived.Test.YtpdcaoagpjcgbacHeldEnd
set_option linter.unusedVariables false
set_option linter.unusedSimpArgs false
namespace Go.Proofs.Ytpdcaoagpjcgbac
open Go.RowKit Stm

theorem acts_new (w : World) (l : List Stm.Act) (t : TypeId) : ∀ j u, (ccells l)[j]? = some u → (w.alloc (.cells (ccells l).toArray t)).cell? ((⟨w.heap.size, 0, none⟩ : Addr).add j) = some u := fun j u hu => by
  rw [addr_add]
  exact (BoxL.new w (ccells l) t).cell j u hu

set_option maxRecDepth 100000 in
theorem Try.eqlAns (w : World) (a : Int) (b : Bool) (c : Int) (d : Bool) (e : Int) (f : Bool) (g : Int) :
    (binOp .eql 33 (.agg #[.int .i64 a, .bool b, .int .i64 c, .bool d, .int .i64 e, .bool f, .int .i64 g]) (.agg #[.int .i64 a, .bool b, .int .i64 c, .bool d, .int .i64 e, .bool f, .int .i64 g])).run Try.prog w = .ok (.bool true) w := by
  go_simp
  try simp

set_option maxHeartbeats 3200000 in
set_option maxRecDepth 100000 in
theorem topHeld.walk (a0 : Option Addr) (n0 cap0 : Nat) (R : Nat → Nat → Int) (_ : n0 ≤ cap0) (_ : cap0 ≤ maxLen) (w : World) (hR : Recs w a0 n0 4 R) :
    Calls Try.prog 3 #[.slice a0 n0 cap0] w fun e w' => e = .returned (.bool true) ∧ Below w.heap.size w w' := by
  obtain ⟨iA, hiA, hA0, hA1, hA2⟩ := info_parts Try.actInfo
  have CA := Lib.hide (show ∀ w', Below w.heap.size w w' → Calls Try.prog 7 #[.slice a0 n0 cap0, .int .i64 60, .int .i64 4] w' (ActsPost w' (4 : Nat) R (min n0 60)) from fun w' h => acts_any a0 n0 cap0 R 60 4 w' (hR.below h) (by omega) (by omega) (by omega))
  have hkk : min n0 60 ≤ 60 := Nat.min_le_right _ _
  obtain ⟨AC, hAC⟩ : ∃ AC, AC = actsTo (4 : Nat) R (min n0 60) := ⟨_, rfl⟩
  have hACl : AC.length = min n0 60 := by rw [hAC, actsTo_length]
  have HAC := Lib.hide hAC
  generalize min n0 60 = kk at CA hkk hACl HAC
  obtain ⟨L, hL⟩ : ∃ L, L = 12 + kk := ⟨_, rfl⟩
  have hL2 : L ≤ 72 := by omega
  have HLL := Lib.hide (show (sharedActs ++ AC).length = L by rw [List.length_append, hACl, hL]; rfl)
  have HKL := Lib.hide (show sharedActs.length + AC.length ≤ 1000 by rw [hACl]; have : sharedActs.length = 12 := rfl; omega)
  generalize hALe : sharedActs ++ AC = AL at HLL
  have HALE := Lib.hide hALe
  clear hR hL hAC hACl hkk hALe
  go_enter Try.func3, Try.ntmps3
  go_wp2_with fail
  refine (shared_any w).mono ?_
  rintro e w1 ⟨a1, cp1, rfl, ho1, hb1⟩
  have HO1 := Lib.hide ho1
  have HB1 := Lib.hide hb1
  clear ho1 hb1
  go_wp2_with fail
  refine (CA.out w1 HB1.out).mono ?_
  rintro e w2 ⟨a2, cp2, rfl, ho2, hb2⟩
  rw [← HAC.out] at ho2
  have HO2 := Lib.hide (show OwnC w2 w.heap.size (.slice a2 kk cp2) AC from ⟨ho2.1, ho2.2.imp id (fun ⟨g, cap, cur, e, hb, hr⟩ => ⟨g, cap, cur, e, Nat.le_trans HB1.out.size hb, hr⟩)⟩)
  have HO1' := Lib.hide (HO1.out.below hb2)
  have HB2 := Lib.hide (Below.step HB1.out (Below.mono hb2 HB1.out.size))
  clear ho2 hb2 HO1
  go_wp2_with (at_builtin; refine wpList_append_acts _ rfl (.tmp 8) (.tmp 10) rfl w.heap.size _ _ sharedActs AC rfl rfl HO1'.out HO2.out HKL.out HB2.out.size ?_)
  intro v3 w3 ho3 hb3
  rw [HALE.out] at ho3
  have HB3 := Lib.hide (Below.step HB2.out hb3)
  have HO3 := Lib.hide ho3
  clear ho3 hb3 HO1' HO2 HB2 HB1
  go_wp2
  go_loopw [12, 3] (fun u v wr => ∃ t : Nat, t ≤ 4 ∧ u = .int .i64 t ∧ OwnC wr w.heap.size v (AL ++ aborts t) ∧ Below w.heap.size w wr) (fun u _ _ => 4 - (intOf u).toNat)
  case atStart => exact ⟨0, by omega, rfl, by simpa [aborts] using HO3.out, HB3.out⟩
  case round =>
    obtain ⟨t, ht, rfl, hown, hbel⟩ := hrel
    have HOW := Lib.hide hown
    have HBE := Lib.hide hbel
    have hlen : (AL ++ aborts t).length = L + t := by rw [List.length_append, HLL.out, aborts_length]
    have HLE := Lib.hide hlen
    clear hown hbel hlen
    by_cases h4 : t < 4
    · have i1 : (t : Int) < 4 := by omega
      go_wp2_with (at_builtin; refine wpList_append_at _ rfl (.tmp 15) (.tmp 18) 23 rfl w.heap.size 27 iA _ 5 40 Try.underlying23 hiA hA0 hA1 hA2 rfl (by decide) u3 _ (ccells (AL ++ aborts t)) rfl (World.ownsRow.alloc HOW.out _) ⟨wr.heap.size, 0, none⟩ 1 1 (actCells ⟨3, (t : Int), 0, 0, 0⟩) rfl rfl (act_new wr ⟨3, (t : Int), 0, 0, 0⟩ _) ?c2 ?c3 ?c4 ?c5 ?_)
      case c2 => intro u hu; simp [actCells] at hu; rcases hu with rfl | rfl | rfl | rfl | rfl <;> rfl
      case c3 => rw [HLE.out]; unfold maxLen; omega
      case c4 => rw [HLE.out]; omega
      case c5 => have := HBE.out.size; simp; omega
      intro v' w4 hown' hg2 _ _
      have hvb : ∀ g, u3.ownBlock = some g → w.heap.size ≤ g := fun g hg => (World.ownsRow.lt HOW.out g hg).1
      have hsz2 : wr.heap.size + 1 ≤ w4.heap.size := by have h9 := hg2.size; simpa using h9
      have hfin : OwnC w4 w.heap.size v' (AL ++ aborts (t + 1)) ∧ Below w.heap.size w w4 := by
        refine ⟨?_, ⟨hg2.os.trans HBE.out.os, hg2.tape.trans HBE.out.tape, hg2.output.trans HBE.out.output, by have := HBE.out.size; omega, fun k hk => ?_⟩⟩
        · unfold OwnC
          rw [aborts_succ, ← List.append_assoc, ccells_append, ccells_one, List.length_append, List.length_append]
          exact hown'
        · rw [hg2.block k (by have := HBE.out.size; simp; omega) (fun e => by have := hvb k e.symm; omega), Below.heap_alloc _ _ _ (by have := HBE.out.size; omega)]
          exact HBE.out.block k hk
      have HF := Lib.hide hfin
      clear hown' hg2 hvb hsz2 hfin
      go_wp2
      go_roundw
      case rel => exact ⟨t + 1, by omega, by go_num, HF.out⟩
      case measure => simp [intOf]; omega
    · obtain rfl : t = 4 := by omega
      go_wp2_with (at_builtin; refine wpList_append_at _ rfl (.tmp 21) (.tmp 29) 23 rfl w.heap.size 27 iA _ 5 40 Try.underlying23 hiA hA0 hA1 hA2 rfl (by decide) u3 _ (ccells (AL ++ aborts 4)) rfl (World.ownsRow.alloc HOW.out _) ⟨wr.heap.size, 0, none⟩ 7 7 (ccells held7) rfl rfl (acts_new wr held7 _) ?d2 ?d3 ?d4 ?d5 ?_)
      case d2 =>
        intro u hu
        obtain ⟨y, _, hy⟩ := List.mem_flatMap.1 hu
        simp [actCells] at hy
        rcases hy with rfl | rfl | rfl | rfl | rfl <;> rfl
      case d3 => rw [HLE.out]; unfold maxLen; omega
      case d4 => rw [HLE.out]; omega
      case d5 => have := HBE.out.size; simp; omega
      intro v5 w5 hown5 hg5 _ _
      have hvb : ∀ g, u3.ownBlock = some g → w.heap.size ≤ g := fun g hg => (World.ownsRow.lt HOW.out g hg).1
      have hsz2 : wr.heap.size + 1 ≤ w5.heap.size := by have h9 := hg5.size; simpa using h9
      have hfl : (AL ++ aborts 4 ++ held7).length = L + 11 := by rw [List.length_append, HLE.out]; rfl
      have hown6 : OwnC w5 w.heap.size v5 (AL ++ aborts 4 ++ held7) := by
        unfold OwnC
        rw [ccells_append, List.length_append, List.length_append]
        exact hown5
      have hb5 : Below w.heap.size w w5 := by
        refine ⟨hg5.os.trans HBE.out.os, hg5.tape.trans HBE.out.tape, hg5.output.trans HBE.out.output, by have := HBE.out.size; omega, fun k hk => ?_⟩
        rw [hg5.block k (by have := HBE.out.size; simp; omega) (fun e => by have := hvb k e.symm; omega), Below.heap_alloc _ _ _ (by have := HBE.out.size; omega)]
        exact HBE.out.block k hk
      obtain ⟨g, cp, cur, rfl, _, _, hcp, _⟩ := hown6.2.resolve_left (fun h => by omega)
      rw [hfl] at hown6
      have HAT := Lib.hide (show ActsAt w5 (some ⟨g, 0, none⟩) (AL ++ aborts 4 ++ held7) from (OwnC.reads (hfl ▸ hown6)).2)
      have HB5 := Lib.hide hb5
      have HFL := Lib.hide hfl
      rw [hfl]
      clear hown5 hg5 hvb hsz2 hfl hown6 hb5 hcp HOW HBE HO3 HB3
      have HL4 := Lib.hide (show L + 11 ≤ 400 by omega)
      go_wp2_with fail
      refine (topRun_any _ _ (L + 11) cp w5 HFL.out HL4.out HAT.out).mono ?_
      rintro e w6 ⟨rs, c, lf, a6, c6, rfl, hrl, hrc, hra, hrk, hb6⟩
      obtain ⟨pre, q1, q2, q3, q4, q5, hrs, hpre⟩ := held_end hrc
      have hpl : pre.length = L + 4 := by
        have h8 := HFL.out
        rw [hpre]
        simp [aborts_length, held7] at h8
        omega
      obtain ⟨bx, ox, rfl, hlx, hcx⟩ := hra.resolve_left (fun h => by rw [h] at hrl; simp at hrl)
      have HF6 := Lib.hide (Below.step HB5.out (Below.mono hb6 HB5.out.size))
      have hx1 : rs[L + 10]? = some q4 := by rw [hrs, List.getElem?_append_right (by omega), hpl]; simp [show L + 10 - (L + 4) = 6 by omega]
      have hx4 : rs[L + 7]? = some q4 := by rw [hrs, List.getElem?_append_right (by omega), hpl]; simp [show L + 7 - (L + 4) = 3 by omega]
      have hx2 : rs[L + 9]? = some ⟨0, false, 0, false, 0, false, 0⟩ := by rw [hrs, List.getElem?_append_right (by omega), hpl]; simp [show L + 9 - (L + 4) = 5 by omega]
      have HX1 := Lib.hide (hcx _ _ hx1)
      have HX4 := Lib.hide (hcx _ _ hx4)
      have HX2 := Lib.hide (hcx _ _ hx2)
      clear hrl hrc hra hrk hb6 hrs hpre hpl hcx hx1 hx2 hx4
      go_wp2_with fail
      obtain ⟨z0, z1, z2, z3, z4, z5, z6⟩ := q4
      have y10 := HX1.out 0 _ rfl
      have y11 := HX1.out 1 _ rfl
      have y12 := HX1.out 2 _ rfl
      have y13 := HX1.out 3 _ rfl
      have y14 := HX1.out 4 _ rfl
      have y15 := HX1.out 5 _ rfl
      have y16 := HX1.out 6 _ rfl
      rw [Nat.add_zero] at y10
      have y40 := HX4.out 0 _ rfl
      have y41 := HX4.out 1 _ rfl
      have y42 := HX4.out 2 _ rfl
      have y43 := HX4.out 3 _ rfl
      have y44 := HX4.out 4 _ rfl
      have y45 := HX4.out 5 _ rfl
      have y46 := HX4.out 6 _ rfl
      rw [Nat.add_zero] at y40
      have y20 := HX2.out 0 _ rfl
      have y21 := HX2.out 1 _ rfl
      have y22 := HX2.out 2 _ rfl
      have y23 := HX2.out 3 _ rfl
      have y24 := HX2.out 4 _ rfl
      have y25 := HX2.out 5 _ rfl
      have y26 := HX2.out 6 _ rfl
      rw [Nat.add_zero] at y20
      have heq := Try.eqlAns
      go_quiet (fail)
      go_wp2
      go_ret
      first | exact ⟨rfl, below_drewN HF6.out _⟩ | exact ⟨rfl, HF6.out⟩
end Go.Proofs.Ytpdcaoagpjcgbac

