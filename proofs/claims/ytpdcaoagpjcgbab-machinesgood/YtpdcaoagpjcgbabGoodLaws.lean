/-
  The walk of limewashkeep.MachinesGood. It proves no statement by itself.
-/
import Derived.Test.YtpdcaoagpjcgbabGoodWalks
set_option linter.unusedVariables false
set_option linter.unusedSimpArgs false
namespace Go.Proofs.Ytpdcaoagpjcgbab
open Go.RowKit Stm

/-- What Run leaves, the heap too. -/
def RunH (w : World) (n : Nat) (l : List Stm.Act) (L : Nat) (e : Ending) (w' : World) : Prop :=
  ∃ (rs : List Ans) (c : Mc) (lf : List Nat) (a1 : Option Addr) (c1 : Nat) (a2 : Option Addr) (c2 : Nat), e = .returned (.tuple #[.slice a1 L c1, .agg #[.slice a2 c.xs.length c2, .int .i64 c.top], .int .i64 0]) ∧
    rs.length = L ∧ RunC n l rs c lf ∧ AnsAt w' a1 rs ∧ L ≤ c1 ∧ IsHeap w' a2 c.xs.length c2 c.xs c.top ∧ Lw.Valid c.xs c.top lf ∧ Below w.heap.size w w'
theorem run_full (k0 : Nat) (h3 : k0 ≤ 300) (l : List Stm.Act) (a : Option Addr) (L cp : Nat) (w : World) (hl : l.length = L) (hL : L ≤ 400) (ha : ActsAt w a l) :
    Calls Try.prog 32 #[.int .i64 (20 + (k0 : Int)), .slice a L cp] w (RunH w (20 + k0) l L) := by
  have h := run_yes (20 + k0) l a L cp w (by omega) (by omega) hl hL ha
  rw [Int.natCast_add] at h
  refine h.mono ?_
  rintro e w' ⟨rs, c, lf, a1, c1, a2, c2, rfl, hr, ho, hw, hb⟩
  have hlen := hr.length
  rw [hl] at hlen
  have hrd := ho.reads
  have hg := hr.good (by omega) (by omega)
  rw [hlen] at ho
  refine ⟨rs, c, lf, a1, c1, a2, c2, by rw [hlen], hlen, hr, hrd.2, ?_, hw.isHeap hg.inv.fits (fits_small (by have := hg.inv.valid.top1; omega) (by have := hg.inv.valid.top2; have := hg.inv.valid.len2; omega)), hg.inv.valid, hb⟩
  rcases ho.2 with ⟨e, h1⟩ | ⟨g, cap, cur, e, _, _, hnc, _⟩
  · injection e with e1 e2 e3
    omega
  · injection e with e1 e2 e3
    omega

set_option maxHeartbeats 3200000 in
set_option maxRecDepth 100000 in
theorem machinesGood.walk (a0 : Option Addr) (n0 cap0 : Nat) (R : Nat → Nat → Int) (_ : n0 ≤ cap0) (_ : cap0 ≤ maxLen) (x : Int) (Fx : Fits x) (y : Int) (Fy : Fits y) (w : World) (hR : Recs w a0 n0 4 R) :
    Calls Try.prog 10 #[.slice a0 n0 cap0, .int .i64 x, .int .i64 y] w fun e w' => e = .returned (.bool true) ∧ Below w.heap.size w w' := by
  have CA := Lib.hide (show ∀ w', Below w.heap.size w w' → Calls Try.prog 38 #[.slice a0 n0 cap0, .int .i64 90, .int .i64 4] w' (ActsPost w' (4 : Nat) R (min n0 90)) from fun w' h => acts_any a0 n0 cap0 R 90 4 w' (hR.below h) (by omega) (by omega) (by omega))
  have hkk : min n0 90 ≤ 90 := Nat.min_le_right _ _
  obtain ⟨AC, hAC⟩ : ∃ AC, AC = actsTo (4 : Nat) R (min n0 90) := ⟨_, rfl⟩
  have hACl : AC.length = min n0 90 := by rw [hAC, actsTo_length]
  have HAC := Lib.hide hAC
  generalize min n0 90 = kk at CA hkk hACl HAC
  obtain ⟨k0, hk0⟩ := Int.eq_ofNat_of_zero_le (pick_lt y 300 (by omega)).1
  have hk1 := (pick_lt y 300 (by omega)).2
  have C300 := Lib.hide (fun w => picked_any y 300 w Fy (by omega) (by omega))
  rw [hk0] at C300 hk1
  have hk2 : k0 ≤ 300 := by omega
  have C9 := Lib.hide (fun w => picked_any x 9 w Fx (by omega) (by omega))
  have hq := pick_lt x 9 (by omega)
  generalize pick x 9 = q at C9 hq
  have HQ := Lib.hide hq
  obtain ⟨L, hL⟩ : ∃ L, L = 12 + kk := ⟨_, rfl⟩
  have hL1 : 12 ≤ L := by omega
  have hL2 : L ≤ 102 := by omega
  have HLL := Lib.hide (show (sharedActs ++ AC).length = L by rw [List.length_append, hACl, hL]; rfl)
  have HKL := Lib.hide (show sharedActs.length + AC.length ≤ 1000 by rw [hACl]; have : sharedActs.length = 12 := rfl; omega)
  generalize hALe : sharedActs ++ AC = AL at HLL
  have HALE := Lib.hide hALe
  obtain ⟨iA, hiA, hA0, hA1, hA2⟩ := info_parts Try.actInfo
  clear hR hL hAC hACl hkk hALe Fx Fy hk0 hk1
  go_enter Try.func10, Try.ntmps10
  go_wp2_with fail
  refine (shared_any w).mono ?_
  rintro e w1 ⟨a1, cp1, rfl, ho1, hb1⟩
  have HO1 := Lib.hide ho1
  have HB1 := Lib.hide hb1
  clear ho1 hb1
  go_wp2_with fail
  refine (CA.out w1 HB1.out).mono ?_
  rintro e w2 ⟨a2, cp2, rfl, ho2, hb2⟩
  rw [← HAC.out] at ho2
  have HO2 := Lib.hide (show OwnC w2 w.heap.size (.slice a2 kk cp2) AC from ⟨ho2.1, ho2.2.imp id (fun ⟨g, cap, cur, e, hb, hr⟩ => ⟨g, cap, cur, e, Nat.le_trans HB1.out.size hb, hr⟩)⟩)
  have HO1' := Lib.hide (HO1.out.below hb2)
  have HB2 := Lib.hide (Below.step HB1.out (Below.mono hb2 HB1.out.size))
  clear ho2 hb2 HO1
  go_wp2_with (at_builtin; refine wpList_append_acts _ rfl (.tmp 21) (.tmp 23) rfl w.heap.size _ _ sharedActs AC rfl rfl HO1'.out HO2.out HKL.out HB2.out.size ?_)
  intro v3 w3 ho3 hb3
  rw [HALE.out] at ho3
  have HB3 := Lib.hide (Below.step HB2.out hb3)
  obtain ⟨g, cp, cur, rfl, _, _, hcp, _⟩ := ho3.2.resolve_left (fun h => by have := HLL.out; omega)
  rw [HLL.out] at hcp ho3 ⊢
  have HAT := Lib.hide ho3.reads.2
  clear ho3 hb3 HO1' HO2 HB2 HB1 CA
  go_wp2_with (go_at_call 17; refine (C300.out _).mono ?_; rintro e w' ⟨rfl, rfl⟩)
  refine (run_full k0 hk2 AL _ L cp w3 HLL.out (by omega) HAT.out).mono ?_
  rintro e w4 ⟨xs, c, lf, ax, kx, a4, c4, rfl, hxl, hxc, hxa, hxk, hhp, hva, hb4⟩
  have hX4 : Below w4.heap.size w4 (w4.alloc (.cells #[.slice a4 c.xs.length c4, .int .i64 c.top] 27)) := (by repeat (first | exact Below.refl _ _ | assumption | refine Below.drew ?_ | refine below_drewN ?_ _ | refine Below.allocs ?_ | refine Below.next ?_ (by assumption) | refine Below.setCell ?_ (by dsimp only; omega) _))
  have hbx4 := Box2.new w4 (.slice a4 c.xs.length c4) (.int .i64 c.top) 27
  go_wp2_with fail
  generalize w4.alloc (.cells #[.slice a4 c.xs.length c4, .int .i64 c.top] 27) = X4 at hX4 hbx4 ⊢
  generalize w4.heap.size = B4 at hbx4 ⊢
  have hB4 : Below w3.heap.size w3 X4 := Below.step hb4 (Below.mono hX4 hb4.size)
  have HXL := Lib.hide hxl
  have HXC := Lib.hide hxc
  have HHP := Lib.hide (hhp.below hX4)
  have HVA := Lib.hide hva
  have HBX4 := Lib.hide hbx4
  have HAT4 := Lib.hide (HAT.out.below hB4)
  have HB4 := Lib.hide (Below.step HB3.out (Below.mono hB4 HB3.out.size))
  clear hxl hxc hxa hhp hva hb4 hX4 hbx4 hB4 HAT HB3
  refine (cloneC_any g 0 L cp AL X4 HLL.out (by omega) HAT4.out).mono ?_
  rintro e w5 ⟨a5, c5, rfl, ho5, hb5⟩
  have HO5 := Lib.hide ho5
  have HB5 := Lib.hide hb5
  clear ho5 hb5
  go_wp2_with (first
    | (go_at_call 17; refine (C9.out _).mono ?_; rintro e w' ⟨rfl, rfl⟩)
    | (at_builtin; refine wpList_append_lit X4 w5 _ _ rfl (.tmp 38) (.tmp 45) rfl (.slice a5 L c5) 3 AL [⟨13 + q, 0, 0, 0, 0⟩, ⟨5, 0, 4, 0, 0⟩, ⟨1, -1, 0, 0, 0⟩] rfl rfl rfl rfl HO5.out (by rw [HLL.out]; omega) HB5.out ?_))
  intro v6 w6 ho6 hb6
  have hl6 : (AL ++ [(⟨13 + q, 0, 0, 0, 0⟩ : Stm.Act), ⟨5, 0, 4, 0, 0⟩, ⟨1, -1, 0, 0, 0⟩]).length = L + 3 := by rw [List.length_append, HLL.out]; rfl
  obtain ⟨g6, c6, cur, rfl, _, _, hc6, _⟩ := ho6.2.resolve_left (fun h => by omega)
  rw [hl6] at hc6 ho6 ⊢
  have HAT6 := Lib.hide ho6.reads.2
  have HB6 := Lib.hide hb6
  have HL6 := Lib.hide hl6
  clear ho6 hb6 hl6 HO5 HB5
  go_wp2_with fail
  refine (run_full k0 hk2 _ _ (L + 3) c6 w6 HL6.out (by omega) HAT6.out).mono ?_
  rintro e w7 ⟨ys, d, lf7, ay, ky, a7, c7, rfl, hyl, hyc, hya, hyk, hhp7, hva7, hb7⟩
  obtain ⟨r1, lf8, hr8, hrs⟩ := bad3 (by have := HQ.out; omega) hyc
  obtain ⟨rfl, rfl, _⟩ := hr8.det HXC.out
  subst hrs
  have hX7 : Below w7.heap.size w7 (w7.alloc (.cells #[.slice a7 d.xs.length c7, .int .i64 d.top] 27)) := (by repeat (first | exact Below.refl _ _ | assumption | refine Below.drew ?_ | refine below_drewN ?_ _ | refine Below.allocs ?_ | refine Below.next ?_ (by assumption) | refine Below.setCell ?_ (by dsimp only; omega) _))
  have hbx7 := Box2.new w7 (.slice a7 d.xs.length c7) (.int .i64 d.top) 27
  go_wp2_with fail
  generalize w7.alloc (.cells #[.slice a7 d.xs.length c7, .int .i64 d.top] 27) = X7 at hX7 hbx7 ⊢
  generalize w7.heap.size = B7 at hbx7 ⊢
  have hB7 : Below X4.heap.size X4 X7 := Below.step (Below.step HB6.out (Below.mono hb7 HB6.out.size)) (Below.mono hX7 (Nat.le_trans HB6.out.size hb7.size))
  have HYL := Lib.hide hyl
  have HYA := Lib.hide (hya.below hX7)
  have HH7 := Lib.hide (hhp7.below hX7)
  have HBX7 := Lib.hide hbx7
  have HHP' := Lib.hide (HHP.out.below hB7)
  have HBX4' := Lib.hide (HBX4.out.next hB7)
  have HB7 := Lib.hide (Below.step HB4.out (Below.mono hB7 HB4.out.size))
  clear hyl hyc hya hhp7 hva7 hb7 hX7 hbx7 hB7 hr8 HHP HBX4 HB4 HB6 HAT6 HL6 HXC HAT4 HQ
  refine (run_zero X7).mono ?_
  rintro e w8 ⟨rfl, hb8⟩
  have hX8 : Below w8.heap.size w8 (w8.alloc (.cells #[.slice none 0 0, .int .i64 0] 27)) := (by repeat (first | exact Below.refl _ _ | assumption | refine Below.drew ?_ | refine below_drewN ?_ _ | refine Below.allocs ?_ | refine Below.next ?_ (by assumption) | refine Below.setCell ?_ (by dsimp only; omega) _))
  have hB8 : Below X7.heap.size X7 (w8.alloc (.cells #[.slice none 0 0, .int .i64 0] 27)) := Below.step hb8 (Below.mono hX8 hb8.size)
  have HB8 := Lib.hide hB8
  clear hb8 hX8 hB8
  go_wp2_with (at_make; refine wpList_make_full _ rfl _ _ 61 rfl X7.heap.size 71 iA _ 5 Try.underlying61 hiA hA0 hA1 .i64 .i64 401 401 401 rfl rfl rfl rfl (by rw [hA2]; omega) (by unfold maxLen; omega) HB8.out.size ?_)
  intro w9 ho9 hg9
  have hB9 : Below X7.heap.size X7 w9 := ⟨hg9.os.trans HB8.out.os, hg9.tape.trans HB8.out.tape, hg9.output.trans HB8.out.output, Nat.le_trans HB8.out.size hg9.size, fun k hk => by
    rw [hg9.block k (Nat.lt_of_lt_of_le hk HB8.out.size) (fun e => by cases e)]
    exact HB8.out.block k hk⟩
  have HB9 := Lib.hide hB9
  clear ho9 hg9 hB9 HB8
  have CB := Lib.hide (show ∀ a, Calls Try.prog 32 #[.int .i64 (20 + (k0 : Int)), .slice a 401 401] w9 (RunNo w9 1) from fun a => by
    have := run_big (20 + k0) 401 401 a w9 (by omega) (by omega) (by omega) (by omega)
    rwa [Int.natCast_add] at this)
  go_wp2_with fail
  refine (CB.out _).mono ?_
  rintro e w10 ⟨rfl, hb10⟩
  have hX10 : Below w10.heap.size w10 (w10.alloc (.cells #[.slice none 0 0, .int .i64 0] 27)) := (by repeat (first | exact Below.refl _ _ | assumption | refine Below.drew ?_ | refine below_drewN ?_ _ | refine Below.allocs ?_ | refine Below.next ?_ (by assumption) | refine Below.setCell ?_ (by dsimp only; omega) _))
  have hB10 : Below X7.heap.size X7 (w10.alloc (.cells #[.slice none 0 0, .int .i64 0] 27)) := Below.step HB9.out (Below.mono (Below.step hb10 (Below.mono hX10 hb10.size)) HB9.out.size)
  obtain ⟨z0, z1, _, _, _⟩ := HBX4'.out.next hB10
  obtain ⟨t0, t1, _, _, _⟩ := HBX7.out.next hB10
  have HHX := Lib.hide (HHP'.out.below hB10)
  have HHY := Lib.hide (HH7.out.below hB10)
  have HYX := Lib.hide (HYA.out.below hB10)
  have HF10 := Lib.hide (Below.step HB7.out (Below.mono hB10 HB7.out.size))
  clear hb10 hB10 CB HB9 HBX4' HBX7 HHP' HH7 HYA HB7
  go_wp2_with fail
  generalize w10.alloc (.cells #[.slice none 0 0, .int .i64 0] 27) = X10 at hX10 z0 z1 t0 t1 HHX HHY HYX HF10 ⊢
  clear hX10
  refine (check_yes a4 _ c4 d.xs d.top lf X10 HHX.out HVA.out).mono ?_
  rintro e w11 ⟨rfl, hb11⟩
  have hsz : ∀ b, b < X10.heap.size → ∀ j, w11.cell? ⟨b, j, none⟩ = X10.cell? ⟨b, j, none⟩ := fun b hb j => hb11.cell (p := ⟨b, j, none⟩) hb
  have lt4 : B4 < X10.heap.size := cell_lt z0
  have lt7 : B7 < X10.heap.size := cell_lt t0
  have z0' := (hsz B4 lt4 0).trans z0
  have t0' := (hsz B7 lt7 0).trans t0
  obtain ⟨by1, oy, rfl, _, hcy⟩ := (HYX.out.below hb11).resolve_left (fun h => by simp at h)
  have i0 : (r1 ++ [Ans.err 3, .err 2, .err 2])[L]? = some (.err 3) := by rw [List.getElem?_append_right (by rw [HXL.out]; omega), HXL.out, Nat.sub_self]; rfl
  have i1 : (r1 ++ [Ans.err 3, .err 2, .err 2])[L + 1]? = some (.err 2) := by rw [List.getElem?_append_right (by rw [HXL.out]; omega), HXL.out, show L + 1 - L = 1 by omega]; rfl
  have i2 : (r1 ++ [Ans.err 3, .err 2, .err 2])[L + 2]? = some (.err 2) := by rw [List.getElem?_append_right (by rw [HXL.out]; omega), HXL.out, show L + 2 - L = 2 by omega]; rfl
  have y0 := hcy L _ i0 0 _ rfl
  have y1 := hcy (L + 1) _ i1 0 _ rfl
  have y2 := hcy (L + 2) _ i2 0 _ rfl
  rw [Nat.add_zero] at y0 y1 y2
  have CE := Lib.hide (equal_same a4 a7 d.xs.length c4 c7 d.xs w11 (HHX.out.ints.below hb11) (HHY.out.ints.below hb11) rfl (by have := HVA.out.len2; omega))
  have HF11 := Lib.hide (Below.step HF10.out (Below.mono hb11 HF10.out.size))
  clear hb11 hsz lt4 lt7 z0 z1 t0 t1 hcy i0 i1 i2 HYX HHX HHY HF10 HVA HXL HYL
  have b1 : (L : Int) < (L : Int) + 3 := by omega
  have b2 : (L : Int) + 1 < (L : Int) + 3 := by omega
  have b3 : (L : Int) + 2 < (L : Int) + 3 := by omega
  have b4 : (0 : Int) ≤ (L : Int) + 1 := by omega
  have b5 : (0 : Int) ≤ (L : Int) + 2 := by omega
  have b6 : ((L : Int) + 1).toNat = L + 1 := by omega
  have b7 : ((L : Int) + 2).toNat = L + 2 := by omega
  dsimp only
  iterate 70 go_step
  go_wp2_with fail
  refine CE.out.mono ?_
  rintro e w12 ⟨rfl, hb12⟩
  have HF12 := Lib.hide (Below.step HF11.out (Below.mono hb12 HF11.out.size))
  clear hb12
  go_wp2
  go_ret
  exact ⟨rfl, HF12.out⟩
end Go.Proofs.Ytpdcaoagpjcgbab

