/-
  The walks of limewashkeep.places and of slices.ContainsFunc over moves that move nothing. It proves no statement by itself.
-/
import Derived.Test.YtpdcaoagpjcgbabRootsWalks
import Derived.Test.YtpdcaoagpjcgbabReachesModel
import Derived.Test.YtpdcaoagpjcgbabCompactWalks
import Derived.Test.YtpdcaoagpjcgbabCompactedModel
set_option linter.unusedVariables false
set_option linter.unusedSimpArgs false
namespace Go.Proofs.Ytpdcaoagpjcgbab
open Go.RowKit

set_option maxHeartbeats 400000 in
open Lw in
theorem keepPlaces_yes (a : Option Addr) (n cap : Nat) (xs : List Int) (top : Int) (l : List Nat) (w : World) (hh : IsHeap w a n cap xs top) (hv : Valid xs top l) :
    Calls Try.prog 29 #[.agg #[.slice a n cap, .int .i64 top]] w fun e w' => ∃ a1 c1, e = .returned (.slice a1 l.length c1) ∧ Ints w' a1 (nums l) ∧ Below w.heap.size w w' := by
  have H := Lib.hide hh
  have HV := Lib.hide hv
  clear hh hv
  go_enter Try.func29, Try.ntmps29
  go_wp2_with (go_at_call 16; refine (places_yes a n cap xs top l _ (H.out.below (by repeat (first | exact Below.refl _ _ | assumption | refine Below.drew ?_ | refine below_drewN ?_ _ | refine Below.allocs ?_ | refine Below.next ?_ (by assumption) | refine Below.setCell ?_ (by dsimp only; omega) _))) HV.out).mono ?_; rintro e w1 ⟨a1, c1, rfl, ho1, hb1⟩; have HO1 := Lib.hide ho1; clear ho1)
  go_ret
  exact ⟨a1, c1, rfl, HO1.out.reads.2, (by repeat (first | exact Below.refl _ _ | assumption | refine Below.drew ?_ | refine below_drewN ?_ _ | refine Below.allocs ?_ | refine Below.next ?_ (by assumption) | refine Below.setCell ?_ (by dsimp only; omega) _))⟩

set_option maxHeartbeats 400000 in
theorem stays_one (d : Int) (w : World) :
    Calls Try.prog 31 #[.agg #[.int .i64 d, .int .i64 d]] w fun e w' => e = .returned (.bool false) ∧ Below w.heap.size w w' := by
  have hd : (d != d) = false := by simp
  go_enter Try.func31, Try.ntmps31
  go_wp2
  go_ret
  exact ⟨rfl, (by repeat (first | exact Below.refl _ _ | assumption | refine Below.drew ?_ | refine below_drewN ?_ _ | refine Below.allocs ?_ | refine Below.next ?_ (by assumption) | refine Below.setCell ?_ (by dsimp only; omega) _))⟩

set_option maxHeartbeats 800000 in
theorem indexMoves_none (a : Option Addr) (n cap : Nat) (ps : List (Nat × Nat)) (w : World) (hi : Moves w a ps) (hz : ps.length = n) (hn : n ≤ 400) (hall : ∀ i, i < n → (ps.getD i (0, 0)).1 = (ps.getD i (0, 0)).2) :
    Calls Try.prog 65 #[.slice a n cap, .func (.func 31) #[] #[]] w fun e w' => e = .returned (.int .i64 (-1)) ∧ Below w.heap.size w w' := by
  have HI := Lib.hide hi
  have HZ := Lib.hide hz
  have HA := Lib.hide hall
  clear hi hz hall
  go_enter Try.func65, Try.ntmps65
  go_wp2
  go_loopw [8] (fun u wr => ∃ i : Nat, i ≤ n ∧ u = .int .i64 i ∧ Below w.heap.size w wr) (fun u _ => n - (intOf u).toNat)
  case atStart => exact ⟨0, Nat.zero_le _, rfl, (by repeat (first | exact Below.refl _ _ | assumption | refine Below.drew ?_ | refine below_drewN ?_ _ | refine Below.allocs ?_ | refine Below.next ?_ (by assumption) | refine Below.setCell ?_ (by dsimp only; omega) _))⟩
  case round =>
    obtain ⟨i, hin, rfl, hbel⟩ := hrel
    by_cases hlt : i < n
    · obtain ⟨b, o, rfl, hb, hc⟩ := (HI.out.below hbel).at (by rw [HZ.out]; omega)
      obtain ⟨e1, e2⟩ := hc i (by rw [HZ.out]; omega)
      rw [HA.out i hlt] at e1
      clear hc
      generalize (((ps.getD i (0, 0)).2 : Nat) : Int) = y at *
      go_wp2_with (go_at_call 31; refine (stays_one y _).mono ?_; rintro e w' ⟨rfl, hb'⟩)
      go_roundw
      case rel => exact ⟨i + 1, by omega, by go_num, (by repeat (first | exact Below.refl _ _ | assumption | refine Below.drew ?_ | refine below_drewN ?_ _ | refine Below.allocs ?_ | refine Below.next ?_ (by assumption) | refine Below.setCell ?_ (by dsimp only; omega) _))⟩
      case measure => simp [intOf]; omega
    · go_wp2
      go_ret
      exact ⟨rfl, (by repeat (first | exact Below.refl _ _ | assumption | refine Below.drew ?_ | refine below_drewN ?_ _ | refine Below.allocs ?_ | refine Below.next ?_ (by assumption) | refine Below.setCell ?_ (by dsimp only; omega) _))⟩

set_option maxHeartbeats 400000 in
theorem containsMoves_none (a : Option Addr) (n cap : Nat) (ps : List (Nat × Nat)) (w : World) (hi : Moves w a ps) (hz : ps.length = n) (hn : n ≤ 400) (hall : ∀ i, i < n → (ps.getD i (0, 0)).1 = (ps.getD i (0, 0)).2) :
    Calls Try.prog 30 #[.slice a n cap, .func (.func 31) #[] #[]] w fun e w' => e = .returned (.bool false) ∧ Below w.heap.size w w' := by
  have C := Lib.hide (indexMoves_none a n cap ps w hi hz hn hall)
  clear hi hz hall
  go_enter Try.func30, Try.ntmps30
  go_wp2_with (go_at_call 65; refine C.out.mono ?_; rintro e w' ⟨rfl, hb⟩)
  go_ret
  exact ⟨rfl, (by repeat (first | exact Below.refl _ _ | assumption | refine Below.drew ?_ | refine below_drewN ?_ _ | refine Below.allocs ?_ | refine Below.next ?_ (by assumption) | refine Below.setCell ?_ (by dsimp only; omega) _))⟩

open Lw in
/-- The reachable objects can be kept. -/
theorem ReachOf.keeps {xs rs zs : List Int} {l : List Nat} (h : ReachOf xs l rs zs) (hf : FieldsOk xs l) (hr : RootsOk (nums l) rs) (hs : l.Pairwise (· < ·)) : ∃ qs, zs = nums qs ∧ Kept l qs ∧ Closed xs qs qs.length := by
  have hm := fun q => h.mem hf hr (q := q)
  obtain ⟨m, rfl, _⟩ := h
  refine ⟨l.filter (fun p => m (p : Int)), ?_, ⟨fun q hq => (List.mem_filter.1 hq).1, hs.filter _⟩, ?_⟩
  · unfold nums; rw [List.filter_map]; rfl
  · have e : (nums l).filter m = nums (l.filter (fun p => m (p : Int))) := by unfold nums; rw [List.filter_map]; rfl
    intro i hi q hq
    rw [e] at hm
    exact (hm q).2 (.step ((hm _).1 (mem_nums.2 (getD_mem hi))) hq)

open Lw in
theorem reach_keeps (a : Option Addr) (n cap : Nat) (xs : List Int) (top : Int) (l : List Nat) (a2 : Option Addr) (k cap2 : Nat) (rs : List Int) (w : World) (hh : IsHeap w a n cap xs top) (hv : Valid xs top l) (hi2 : Ints w a2 rs) (hk : rs.length = k) (hkm : k * 8 ≤ 140737488351232)
    (hro : RootsOk (nums l) rs) : Calls Try.prog 24 #[.agg #[.slice a n cap, .int .i64 top], .slice a2 k cap2] w fun e w' =>
      ∃ (qs : List Nat) (az : Option Addr) (cz : Nat), Kept l qs ∧ Closed xs qs qs.length ∧ e = .returned (.tuple #[.slice az qs.length cz, .int .i64 0]) ∧ Ints w' az (nums qs) ∧ Below w.heap.size w w' := by
  refine (reach_yes a n cap xs top l a2 k cap2 rs w hh hv hi2 hk hkm hro).mono ?_
  rintro e w' ⟨zs, az, cz, hz, rfl, ho, hb⟩
  obtain ⟨qs, rfl, h1, h2⟩ := hz.keeps hv.fields hro (Objects.laid hv.objects).sorted
  exact ⟨qs, az, cz, h1, h2, by rw [nums_length], ho.reads.2, hb⟩

theorem IsHeap.cell {w : World} {b o n cap : Nat} {xs : List Int} {top : Int} (h : IsHeap w (some ⟨b, o, none⟩) n cap xs top) {i : Nat} (hi : i < n) : b < w.heap.size ∧ w.cell? ⟨b, o + i, none⟩ = some (.int .i64 (xs.getD i 0)) := by
  obtain ⟨b', o', e, h1, h2⟩ := h.ints.at (by rw [h.len]; omega)
  simp only [Option.some.injEq, Addr.mk.injEq, and_true] at e
  obtain ⟨rfl, rfl⟩ := e
  exact ⟨h1, h2 i (by rw [h.len]; exact hi)⟩

/-- What is known while a heap and its compacted heap are compared. -/
structure SameCtx (W : World) (B C b o c g cc : Nat) (t T : Int) (xs ys : List Int) (az am : Option Addr) (qs : List Nat) : Prop where
  bh : Box2 W B (.slice (some ⟨b, o, none⟩) 300 c) (.int .i64 t)
  bc : Box2 W C (.slice (some ⟨g, 0, none⟩) 300 cc) (.int .i64 T)
  hh : IsHeap W (some ⟨b, o, none⟩) 300 c xs t
  hc : IsHeap W (some ⟨g, 0, none⟩) 300 cc ys T
  ik : Ints W az (nums qs)
  mv : Moves W am (planOf xs qs qs.length)
theorem SameCtx.next {W W' : World} {B C b o c g cc : Nat} {t T : Int} {xs ys : List Int} {az am : Option Addr} {qs : List Nat} (h : SameCtx W B C b o c g cc t T xs ys az am qs) (hb : Below W.heap.size W W') : SameCtx W' B C b o c g cc t T xs ys az am qs :=
  ⟨h.bh.next hb, h.bc.next hb, h.hh.below hb, h.hc.below hb, h.ik.below hb, h.mv.below hb⟩
end Go.Proofs.Ytpdcaoagpjcgbab
