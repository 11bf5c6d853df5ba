/-
  The walk of the law that objects are allocated one after the other. It proves no statement by itself.
-/
import Derived.Test.YtpdcaoagpjcgbabStoreWalks
import Derived.Test.YtpdcaoagpjcgbabPickWalks
import Derived.Test.YtpdcaoagpjcgbabModel2
set_option linter.unusedVariables false
set_option linter.unusedSimpArgs false
namespace Go.Proofs.Ytpdcaoagpjcgbab
open Go.RowKit

theorem grow_prod {i n t : Nat} (h : t = 1 + i * (2 + n)) (ht : t ≤ 200) : ∃ P : Nat, wrap64 ((i : Int) * (2 + (n : Int))) = (P : Int) ∧ ((t : Int) != 1 + (P : Int)) = false ∧ P ≤ 200 := by
  generalize hP : i * (2 + n) = P at h
  refine ⟨P, ?_, ?_, by omega⟩
  · have hPi : ((i : Int) * (2 + (n : Int))) = (P : Int) := by rw [← hP]; simp
    rw [hPi]
    show wrap64 (P : Int) = (P : Int)
    unfold wrap64
    omega
  · simp
    omega

open Lw in
/-- What holds at the head of AllocsGrow's loop. -/
def GrowRel (w : World) (B k n : Nat) (u : Value) (wr : World) : Prop :=
  ∃ (i t : Nat) (a : Option Addr) (cap : Nat) (xs : List Int) (l : List Nat), i ≤ k ∧ u = .int .i64 i ∧ Box2 wr B (.slice a k cap) (.int .i64 t) ∧ Own wr w.heap.size (.slice a k cap) xs ∧ (Value.slice a k cap).ownBlock ≠ some B ∧
    Valid xs (t : Int) l ∧ l.length = i ∧ t = 1 + i * (2 + n) ∧ i < t ∧ t ≤ k ∧ (∀ x ∈ xs, Fits x) ∧ Below w.heap.size w wr

set_option maxHeartbeats 1600000 in
open Lw in
theorem allocsGrow.walk (x : Int) (hx : Fits x) (y : Int) (hy : Fits y) (w : World) :
    Calls Try.prog 4 #[.int .i64 x, .int .i64 y] w fun e w' => e = .returned (.bool true) ∧ Below w.heap.size w w' := by
  obtain ⟨k0, hk0⟩ : ∃ k0 : Nat, pick x 200 = k0 := Int.eq_ofNat_of_zero_le (pick_lt x 200 (by omega)).1
  obtain ⟨n, hn⟩ : ∃ n : Nat, pick y 7 = n := Int.eq_ofNat_of_zero_le (pick_lt y 7 (by omega)).1
  have hk1 : k0 < 200 := by have := (pick_lt x 200 (by omega)).2; omega
  have hn1 : n ≤ 6 := by have := (pick_lt y 7 (by omega)).2; omega
  have C1 := Lib.hide (fun w => picked_any x 200 w hx (by omega) (by omega))
  have C2 := Lib.hide (fun w => picked_any y 7 w hy (by omega) (by omega))
  rw [hk0] at C1
  rw [hn] at C2
  clear hk0 hn hx hy
  obtain ⟨k, hk⟩ : ∃ k, k = k0 + 1 := ⟨_, rfl⟩
  have hkk : (1 : Int) + (k0 : Int) = (k : Int) := by omega
  have HK := Lib.hide hkk
  have hkb : 1 ≤ k ∧ k ≤ 200 := by omega
  obtain ⟨kb1, kb2⟩ := hkb
  clear hk hkk
  go_enter Try.func4, Try.ntmps4
  go_wp2_with fail
  refine (C1.out _).mono ?_
  rintro e w' ⟨rfl, rfl⟩
  go_wp2_with fail
  rw [HK.out]
  refine (C2.out _).mono ?_
  rintro e w' ⟨rfl, rfl⟩
  go_wp2_with (go_at_call 22; refine (new_yes k _ kb1 (by omega)).mono ?_; rintro e w1 ⟨a1, c1, rfl, ho1, hb1⟩; have HO1 := Lib.hide ho1; clear ho1)
  go_loopw [28] (fun u wr => GrowRel w w1.heap.size k n u wr) (fun u _ => k - (intOf u).toNat)
  case atStart =>
    refine ⟨0, 1, a1, c1, List.replicate k 0, [], Nat.zero_le _, rfl, Box2.new w1 _ _ _, HO1.out.allocs _, fun h => ?_, Valid.new k kb1 (by omega), rfl, by simp, by omega, kb1, ?_, (by repeat (first | exact Below.refl _ _ | assumption | refine Below.drew ?_ | refine below_drewN ?_ _ | refine Below.allocs ?_ | refine Below.next ?_ (by assumption) | refine Below.setCell ?_ (by dsimp only; omega) _))⟩
    · have := (World.ownsRow.lt HO1.out _ h).2
      omega
    · intro z hz
      rw [List.eq_of_mem_replicate hz]
      exact fits_small (by omega) (by omega)
  case round =>
    obtain ⟨i, t, a, cap, xs, l, hik, rfl, hbox, hown, hne, hv, hli, hti, hit, htk, hfit, hbel⟩ := hrel
    have HBOX := Lib.hide hbox
    have HOWN := Lib.hide hown
    have HNE := Lib.hide hne
    have HV := Lib.hide hv
    have HLI := Lib.hide hli
    have HTI := Lib.hide hti
    have HFI := Lib.hide hfit
    have hxl := hown.reads.1
    have HXL := Lib.hide hxl
    obtain ⟨q0, q1, q2, q3, q4⟩ := hbox
    have hlt : i < k := by omega
    have hs1 := hb1.size
    have hhp := hown.isHeap (top := t) hfit (fits_small (by omega) (by omega))
    have HHP := Lib.hide hhp
    clear hown hne hv hli hti hfit hhp hxl
    by_cases hroom : t + 2 + n ≤ k
    · have C := Lib.hide (alloc_yes a k cap xs t n l wr HHP.out HV.out hn1 hroom)
      have hv2 := HV.out.alloc (f := n) hn1 (by rw [HXL.out]; exact hroom)
      have HV2 := Lib.hide hv2
      clear hv2
      obtain ⟨P, hw1, hd, hPk⟩ := grow_prod HTI.out (show t ≤ 200 by omega)
      have hfs := fits_set (i := t + 1) (y := (n : Int)) HFI.out (fits_small (by omega) (by omega))
      have HFS := Lib.hide hfs
      clear hfs
      go_wp2_with (first
        | (go_at_call 23; refine C.out.mono ?_; rintro e w2 ⟨a2, c2, rfl, ho2, hb2⟩; have hn2 : (Value.slice a2 k c2).ownBlock ≠ some w1.heap.size := (fun h => Nat.lt_irrefl _ (Nat.lt_of_lt_of_le q4 (World.ownsRow.lt ho2 _ h).1)); have HN2 := Lib.hide hn2; clear hn2; have HO2 := Lib.hide ho2; clear ho2; have HB2 := Lib.hide (HBOX.out.next hb2); obtain ⟨r0, r1, r2, r3, r4⟩ := HB2.out)
        | (go_at_call 21; refine (check_yes a2 k c2 _ _ _ _ ((HO2.out.isHeap HFS.out (fits_small (by omega) (by omega))).below (by repeat (first | exact Below.refl _ _ | assumption | refine Below.drew ?_ | refine below_drewN ?_ _ | refine Below.allocs ?_ | refine Below.next ?_ (by assumption) | refine Below.setCell ?_ (by dsimp only; omega) _))) HV2.out).mono ?_; rintro e w3 ⟨rfl, hb3⟩; have HB3 := Lib.hide ((HB2.out.alloc _).next hb3); obtain ⟨s0, s1, s2, s3, s4⟩ := HB3.out; obtain ⟨t0, t1, t2, t3, t4⟩ := (Box2.new w2 (.slice a2 k c2) (.int .i64 ((t : Int) + (2 + n))) 27).next hb3))
      go_roundw
      case rel =>
        refine ⟨i + 1, t + 2 + n, a2, c2, xs.set (t + 1) n, l ++ [t], by omega, by go_num, ?_, ?_, ?_, ?_, by simp [HLI.out], ?_, by omega, hroom, HFS.out, (by repeat (first | exact Below.refl _ _ | assumption | refine Below.drew ?_ | refine below_drewN ?_ _ | refine Below.allocs ?_ | refine Below.next ?_ (by assumption) | refine Below.setCell ?_ (by dsimp only; omega) _))⟩
        · have e : ((t + 2 + n : Nat) : Int) = (t : Int) + (2 + n) := by omega
          rw [e]
          constructor <;> go_simp
        · exact ownsRow_base (((HO2.out.below (Below.next (by repeat (first | exact Below.refl _ _ | assumption | refine Below.drew ?_ | refine below_drewN ?_ _ | refine Below.allocs ?_ | refine Below.next ?_ (by assumption) | refine Below.setCell ?_ (by dsimp only; omega) _)) hb3)).far HN2.out _).far HN2.out _) hbel.size
        · exact HN2.out
        · have e : ((t + 2 + n : Nat) : Int) = (t : Int) + (2 + n) := by omega
          rw [e]
          exact HV2.out
        · rw [HTI.out, Nat.add_mul]; omega
      case measure => simp [intOf]; omega
    · have C := Lib.hide (alloc_full a k cap xs t n l wr HHP.out HV.out hn1 (by omega))
      have hl : ((l.length : Int) == (i : Int)) = true := by simp [HLI.out]
      have hd : decide ((k : Int) - (t : Int) < 2 + (n : Int)) = true := by simp; omega
      go_wp2_with (first
        | (go_at_call 23; refine C.out.mono ?_; rintro e w2 ⟨rfl, hb2⟩; have HB2 := Lib.hide (HBOX.out.next hb2); obtain ⟨r0, r1, r2, r3, r4⟩ := HB2.out)
        | (go_at_call 16; refine (places_yes a k cap xs t l _ (HHP.out.below (by repeat (first | exact Below.refl _ _ | assumption | refine Below.drew ?_ | refine below_drewN ?_ _ | refine Below.allocs ?_ | refine Below.next ?_ (by assumption) | refine Below.setCell ?_ (by dsimp only; omega) _))) HV.out).mono ?_; rintro e w3 ⟨a3, c3, rfl, ho3, hb3⟩; clear ho3; obtain ⟨s0, s1, s2, s3, s4⟩ := (HB2.out.alloc _).next hb3))
      go_ret
      exact ⟨rfl, (by repeat (first | exact Below.refl _ _ | assumption | refine Below.drew ?_ | refine below_drewN ?_ _ | refine Below.allocs ?_ | refine Below.next ?_ (by assumption) | refine Below.setCell ?_ (by dsimp only; omega) _))⟩
end Go.Proofs.Ytpdcaoagpjcgbab
