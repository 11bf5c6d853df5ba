/-
  The walks of the reference's ReachedOf. It proves no statement by itself.
-/
import Derived.Test.YtpdcaoagpjcgbaaSeenModel
import Derived.Test.YtpdcaoagpjcgbaaReachWalks
import Derived.Test.YtpdcaoagpjcgbaaLoadRef
import Derived.Test.YtpdcaoagpjcgbaaCopyRef
import Derived.Deep.RegionHeld3
namespace Go.Proofs.Ytpdcaoagpjcgbaa
open Go.RowKit

/-- append of a list onto nil, its source nil, empty or not, at the operation. -/
theorem wpList_append_copy {P : Program} {ops : Array Oper} {rest : List Oper} {o : Oper} {a : Act} {Q : Exit → Act → World → Prop} (w : World) (hgd : o.guard = none) (s x : Operand) (t : TypeId)
    (ho : o.op = .call { callee := .builtin .append, args := #[s, x], argTypes := #[t, t] }) (e : TypeId) (i : TypeInfo) (z : Value) (bytes : Nat) (ht : P.underlying t = some (.slice e)) (hi : P.info? e = some i) (hz : i.zero = some z)
    (hsize : i.size = 1) (hby : i.bytes = bytes) (hzs : z.cells.size = 1) (hs : a.eval s = .slice none 0 0) (A : Option Addr) (m c : Nat) (news : List Value) (hx : a.eval x = .slice A m c) (hl : news.length = m) (hnone : A = none → m = 0 ∧ c = 0)
    (hnews : 0 < m → ∃ ad, A = some ad ∧ ∀ j u, news[j]? = some u → w.cell? (ad.add j) = some u) (h1 : ∀ u ∈ news, u.oneCell' = true) (h63 : m ≤ maxLen) (hbytes : m * bytes ≤ 140737488355328)
    (h : ∀ a' c' w', w'.ownsRow w.heap.size e 1 (.slice a' m c') m news → w.grownBy w' none → wpList P ops Q rest (a.put o.dst (.slice a' m c')) w') : wpList P ops Q (o :: rest) a w := by
  refine wpList_plain hgd fun K' hK' => ?_
  obtain ⟨a', c', w', hrun, h2, h3⟩ := run_append_copy (P := P) w t o.type e i z bytes ht hi hz hsize hby hzs A m c news hl hnone hnews h1 h63 hbytes
  unfold Oper.wp execOp
  simp only [ho, resolve, invoke, builtin, Sem.run_bind, Sem.run_pure, Result.andThen_ok, List.map_toArray, List.map_cons, List.map_nil, hs, hx, hrun]
  exact hK' _ _ (h a' c' w' h2 h3)

set_option maxHeartbeats 400000 in
set_option maxRecDepth 100000 in
open Lw in
theorem reachedOf_bad (a : Option Addr) (n cap : Nat) (xs : List Int) (top : Int) (a2 : Option Addr) (k cap2 : Nat) (w : World) (hh : IsHeap w a n cap xs top) (hv : ∀ l, ¬ Valid xs top l) :
    Calls Try.prog 34 #[.agg #[.slice a n cap, .int .i64 top], .slice a2 k cap2] w fun e w' => e = .returned (.tuple #[.slice none 0 0, .int .i64 5]) ∧ Below w.heap.size w w' := by
  have H := Lib.hide hh
  have HV := Lib.hide hv
  clear hh hv
  go_enter Try.func34, Try.ntmps34
  go_wp2_with (go_at_call 22; refine (placesOfRef_no a n cap xs top _ (H.out.below (by repeat (first | exact Below.refl _ _ | assumption | refine Below.drew ?_ | refine below_drewN ?_ _ | refine Below.allocs ?_ | refine Below.next ?_ (by assumption) | refine Below.setCell ?_ (by dsimp only; omega) _))) HV.out).mono ?_; rintro e w1 ⟨rfl, hb1⟩)
  go_ret2
  exact ⟨rfl, (by repeat (first | exact Below.refl _ _ | assumption | refine Below.drew ?_ | refine below_drewN ?_ _ | refine Below.allocs ?_ | refine Below.next ?_ (by assumption) | refine Below.setCell ?_ (by dsimp only; omega) _))⟩

set_option maxHeartbeats 800000 in
set_option maxRecDepth 100000 in
open Lw in
theorem reachedOf_none (a : Option Addr) (n cap : Nat) (xs : List Int) (top : Int) (l : List Nat) (a2 : Option Addr) (k cap2 : Nat) (rs : List Int) (w : World) (hh : IsHeap w a n cap xs top) (hv : Valid xs top l) (hi2 : Ints w a2 rs) (hk : rs.length = k) (hkm : k * 8 ≤ 140737488351232)
    (hro : ¬ RootsOk (nums l) rs) : Calls Try.prog 34 #[.agg #[.slice a n cap, .int .i64 top], .slice a2 k cap2] w fun e w' => e = .returned (.tuple #[.slice none 0 0, .int .i64 4]) ∧ Below w.heap.size w w' := by
  have hl := Objects.laid hv.objects
  have hl4 : l.length ≤ 400 := by
    have := hl.short
    have := hv.top1
    have := hv.top2
    have := hv.len2
    omega
  rw [rootsOk_at, hk] at hro
  have H := Lib.hide hh
  have HV := Lib.hide hv
  have HI2 := Lib.hide hi2
  have HK := Lib.hide hk
  have HRO := Lib.hide hro
  clear hh hv hl hi2 hk hro
  go_enter Try.func34, Try.ntmps34
  go_wp2_with (go_at_call 22; refine (placesOfRef_yes a n cap xs top l _ (H.out.below (by repeat (first | exact Below.refl _ _ | assumption | refine Below.drew ?_ | refine below_drewN ?_ _ | refine Below.allocs ?_ | refine Below.next ?_ (by assumption) | refine Below.setCell ?_ (by dsimp only; omega) _))) HV.out).mono ?_; rintro e w1 ⟨a1, c1, rfl, ho1, hb1⟩; have HO1 := Lib.hide ho1; clear ho1)
  go_loop [8] (fun u => ∃ i : Nat, i ≤ k ∧ u = .int .i64 i ∧ ∀ j, j < i → rs.getD j 0 = 0 ∨ rs.getD j 0 ∈ nums l) (fun u => k - (intOf u).toNat)
  case atStart => exact ⟨0, Nat.zero_le _, rfl, fun k hk => absurd hk (Nat.not_lt_zero _)⟩
  case round =>
    obtain ⟨i, hin, rfl, hlo⟩ := hrel
    have HLO := Lib.hide hlo
    clear hlo
    by_cases hlt : i < k
    · obtain ⟨b, o, rfl, hb, hc⟩ := (HI2.out.below (w' := w1) (by repeat (first | exact Below.refl _ _ | assumption | refine Below.drew ?_ | refine below_drewN ?_ _ | refine Below.allocs ?_ | refine Below.next ?_ (by assumption) | refine Below.setCell ?_ (by dsimp only; omega) _))).at (by rw [HK.out]; omega)
      have e1 := hc i (by rw [HK.out]; omega)
      clear hc
      obtain ⟨y, hy⟩ : ∃ y, rs.getD i 0 = y := ⟨_, rfl⟩
      rw [hy] at e1
      have HY := Lib.hide hy
      clear hy
      by_cases hy0 : y = 0
      · have hd : (y != 0) = false := by simpa using hy0
        have HY0 := Lib.hide hy0
        clear hy0
        go_wp2
        go_round
        case rel =>
          refine ⟨i + 1, by omega, by go_num, fun k hk => ?_⟩
          rcases Nat.lt_or_ge k i with h | h
          · exact HLO.out k h
          · obtain rfl : k = i := by omega
            rw [HY.out]; exact .inl HY0.out
        case measure => simp [intOf]; omega
      · have hd : (y != 0) = true := by simpa using hy0
        have HY0 := Lib.hide hy0
        clear hy0
        by_cases hm' : y ∈ nums l
        · have HM := Lib.hide hm'
          clear hm'
          go_wp2_with (go_at_call 42; refine (has_any a1 l.length c1 (nums l) y _ HO1.out.reads.2 (nums_length l) (by omega) true (decide_eq_true HM.out)).mono ?_; rintro e w2 ⟨rfl, rfl⟩)
          go_round
          case rel =>
            refine ⟨i + 1, by omega, by go_num, fun k hk => ?_⟩
            rcases Nat.lt_or_ge k i with h | h
            · exact HLO.out k h
            · obtain rfl : k = i := by omega
              rw [HY.out]; exact .inr HM.out
          case measure => simp [intOf]; omega
        · have HM := Lib.hide hm'
          clear hm'
          go_wp2_with (go_at_call 42; refine (has_any a1 l.length c1 (nums l) y _ HO1.out.reads.2 (nums_length l) (by omega) false (decide_eq_false HM.out)).mono ?_; rintro e w2 ⟨rfl, rfl⟩)
          go_ret2
          exact ⟨rfl, (by repeat (first | exact Below.refl _ _ | assumption | refine Below.drew ?_ | refine below_drewN ?_ _ | refine Below.allocs ?_ | refine Below.next ?_ (by assumption) | refine Below.setCell ?_ (by dsimp only; omega) _))⟩
    · exact absurd (fun j hj => HLO.out j (by omega)) HRO.out

/-- What holds of the list of the seen, between two steps. -/
structure SeenRel (w1 : World) (xs rs : List Int) (l : List Nat) (v : Value) (wr : World) (S : List Int) : Prop where
  own : Own wr w1.heap.size v S
  seen : Seen xs rs l S
  below : Below w1.heap.size w1 wr

set_option maxHeartbeats 4000000 in
set_option maxRecDepth 100000 in
open Lw in
theorem reachedOf_yes (a : Option Addr) (n cap : Nat) (xs : List Int) (top : Int) (l : List Nat) (a2 : Option Addr) (k cap2 : Nat) (rs : List Int) (w : World) (hh : IsHeap w a n cap xs top) (hv : Valid xs top l) (hi2 : Ints w a2 rs) (hk : rs.length = k) (hkm : k * 8 ≤ 140737488351232) (hkc : k ≤ cap2) (hnil : a2 = none → cap2 = 0)
    (hro : RootsOk (nums l) rs) : Calls Try.prog 34 #[.agg #[.slice a n cap, .int .i64 top], .slice a2 k cap2] w (ReachYes w xs rs l) := by
  obtain ⟨i0, hi0, hz0, hz1, hz2⟩ := info_parts Try.intInfo
  have hx := hh.len
  have v2 := hv.len2
  have v3 := hv.top1
  have v4 := hv.top2
  rw [hx] at v2 v4
  have hl := Objects.laid hv.objects
  have ht : top.toNat ≤ n := by omega
  have hl4 : l.length ≤ 400 := by have := hl.short; omega
  have hno : a2 = none → k = 0 ∧ cap2 = 0 := fun h => ⟨by have := hnil h; omega, hnil h⟩
  have HH := Lib.hide hh
  have HV := Lib.hide hv
  have HL := Lib.hide hl
  have HX := Lib.hide hx
  have HI2 := Lib.hide hi2
  have HK := Lib.hide hk
  have HRO := Lib.hide hro
  have HNO := Lib.hide hno
  have HRM := Lib.hide (fun q (hq : Reached xs rs q) => hq.mem hv.fields hro)
  clear hh hv hl hx hi2 hk hro hno hnil
  go_enter Try.func34, Try.ntmps34
  go_wp2_with (go_at_call 22; refine (placesOfRef_yes a n cap xs top l _ (HH.out.below (by repeat (first | exact Below.refl _ _ | assumption | refine Below.drew ?_ | refine below_drewN ?_ _ | refine Below.allocs ?_ | refine Below.next ?_ (by assumption) | refine Below.setCell ?_ (by dsimp only; omega) _))) HV.out).mono ?_; rintro e w1 ⟨a1, c1, rfl, ho1, hb1⟩; have HO1 := Lib.hide ho1; clear ho1; have HBX := Lib.hide ((Box2.new w (.slice a n cap) (.int .i64 top) 24).next hb1))
  have hbw1 : Below w.heap.size w w1 := (by repeat (first | exact Below.refl _ _ | assumption | refine Below.drew ?_ | refine below_drewN ?_ _ | refine Below.allocs ?_ | refine Below.next ?_ (by assumption) | refine Below.setCell ?_ (by dsimp only; omega) _))
  have HBW1 := Lib.hide hbw1
  clear hbw1
  go_loop [8] (fun u => ∃ i : Nat, i ≤ k ∧ u = .int .i64 i) (fun u => k - (intOf u).toNat)
  case atStart => exact ⟨0, Nat.zero_le _, rfl⟩
  case round =>
    obtain ⟨i, hin, rfl⟩ := hrel
    by_cases hlt : i < k
    · obtain ⟨b, o, rfl, hb, hc⟩ := (HI2.out.below (w' := w1) HBW1.out).at (by rw [HK.out]; omega)
      have e1 := hc i (by rw [HK.out]; omega)
      have hyr := rootsOk_at.1 HRO.out i (by rw [HK.out]; exact hlt)
      clear hc
      obtain ⟨y, hy⟩ : ∃ y, rs.getD i 0 = y := ⟨_, rfl⟩
      rw [hy] at e1 hyr
      clear hy
      by_cases hy0 : y = 0
      · have hd : (y != 0) = false := by simpa using hy0
        clear hy0 hyr
        go_wp2
        go_round
        case rel => exact ⟨i + 1, by omega, by go_num⟩
        case measure => simp [intOf]; omega
      · have hd : (y != 0) = true := by simpa using hy0
        have HM := Lib.hide (hyr.resolve_left hy0)
        clear hy0 hyr
        go_wp2_with (go_at_call 42; refine (has_any a1 l.length c1 (nums l) y _ HO1.out.reads.2 (nums_length l) (by omega) true (decide_eq_true HM.out)).mono ?_; rintro e w2 ⟨rfl, rfl⟩)
        go_round
        case rel => exact ⟨i + 1, by omega, by go_num⟩
        case measure => simp [intOf]; omega
    · have hsrc : 0 < k → ∃ ad, a2 = some ad ∧ ∀ j v, (rs.map (Value.int .i64))[j]? = some v → w1.cell? (ad.add j) = some v := fun h0 => (HI2.out.below HBW1.out).src (by simpa [HK.out] using h0)
      have HSRC := Lib.hide hsrc
      have H1 := Lib.hide (ints_one rs)
      have HNL := Lib.hide (show (rs.map (Value.int .i64)).length = k by simpa using HK.out)
      clear hsrc
      go_wp2_with (at_builtin; refine wpList_append_copy _ rfl (.const (.slice none 0 0)) (.tmp 45) 22 rfl 3 i0 (.int .i64 0) 8 Try.underlying22 hi0 hz0 hz1 hz2 rfl rfl a2 k cap2 (rs.map (Value.int .i64)) rfl HNL.out HNO.out HSRC.out H1.out (by unfold maxLen; omega) (by omega) ?_; intro a3 c3 w3 hown3 hg3; have ho3 : Own w3 w1.heap.size (.slice a3 k c3) rs := (by unfold Own; rw [HK.out]; exact hown3); have hb3 : Below w1.heap.size w1 w3 := (Below.refl _ _).grown hg3 (Nat.le_refl _) (by simp); have HO3 := Lib.hide ho3; have HB3 := Lib.hide hb3; clear hown3 hg3 ho3 hb3)
      have hs3 : SeenRel w1 xs rs l (.slice a3 k c3) w3 rs := ⟨HO3.out, Seen.start _ _ _, HB3.out⟩
      have HS3 := Lib.hide hs3
      clear hs3 HO3 HB3 HSRC H1 HNL HNO HI2 HRO
      go_loopg [9, 10] l.length (fun g v u wr => ∃ (r : Nat) (S : List Int), r ≤ l.length ∧ g = l.length - r ∧ u = .int .i64 r ∧ SeenRel w1 xs rs l v wr S ∧ Prog xs rs l S r)
      case atStart => exact ⟨0, rs, Nat.zero_le _, rfl, rfl, HS3.out, Prog.start _ _ _ _⟩
      case round =>
        obtain ⟨r, S, hr, rfl, rfl, hs, hp⟩ := hrel
        have HS := Lib.hide hs
        have HP := Lib.hide hp
        clear hs hp HS3
        by_cases hlt2 : r < l.length
        · go_wp2
          go_loopg [9, 11] l.length (fun g v u wr => ∃ (i : Nat) (S' : List Int), i ≤ l.length ∧ g = l.length - i ∧ u = .int .i64 i ∧ SeenRel w1 xs rs l v wr S' ∧ (∀ q ∈ S, q ∈ S') ∧ ∀ j, j < i → ((l.getD j 0 : Nat) : Int) ∈ S → ∀ q, Refers xs (l.getD j 0) q → q ∈ S')
          case atStart => exact ⟨0, S, Nat.zero_le _, rfl, rfl, HS.out, fun _ h => h, fun j hj => absurd hj (Nat.not_lt_zero _)⟩
          case round =>
            obtain ⟨i, S', hi, rfl, rfl, hs, hsub, hdone⟩ := hrel
            have HS' := Lib.hide hs
            have HSUB := Lib.hide hsub
            have HDO := Lib.hide hdone
            clear hs hsub hdone
            by_cases hlt3 : i < l.length
            · obtain ⟨b1, o1, he1, hbb1, hcc1⟩ := (HO1.out.reads.2.below HS'.out.below).at (by rw [nums_length]; omega)
              subst he1
              have e1 := hcc1 i (by rw [nums_length]; exact hlt3)
              rw [nums_getD] at e1
              clear hcc1
              obtain ⟨p, hp⟩ : ∃ p, l.getD i 0 = p := ⟨_, rfl⟩
              rw [hp] at e1
              have hpl : p ∈ l := by
                rw [← hp]
                simp [List.getD_eq_getElem?_getD, List.getElem?_eq_getElem hlt3]
              obtain ⟨hp1, fit1, fit2, fit3, fit4⟩ := HL.out.fit p hpl
              obtain ⟨f, hf⟩ := Int.eq_ofNat_of_zero_le fit2
              rw [hf] at fit3 fit4
              rw [Int.toNat_natCast] at fit4
              have HF := Lib.hide hf
              have HP := Lib.hide hp
              have HPL := Lib.hide hpl
              clear hf hp hpl fit2
              by_cases hpS : (p : Int) ∈ S'
              · have HPS := Lib.hide hpS
                clear hpS
                have hs4 := HS'.out
                have HS4 := Lib.hide hs4
                clear hs4
                go_wp2
                go_loopg [9, 12] f (fun g v u wq => ∃ (j : Nat) (S'' : List Int), j ≤ f ∧ g = f - j ∧ u = .int .i64 j ∧ SeenRel w1 xs rs l v wq S'' ∧ (∀ q ∈ S', q ∈ S'') ∧ ∀ t, t < j → xs.getD (p + 2 + t) 0 % 2 = 1 → xs.getD (p + 2 + t) 0 / 2 ∈ S'')
                case atStart => exact ⟨0, S', Nat.zero_le _, rfl, rfl, HS4.out, fun _ h => h, fun t ht => absurd ht (Nat.not_lt_zero _)⟩
                case round =>
                  clear HS4 e1 hbb1
                  obtain ⟨j, S2, hj, rfl, rfl, hs, hsub, hdone⟩ := hrel
                  have HS2 := Lib.hide hs
                  have HSUB2 := Lib.hide hsub
                  have HDO2 := Lib.hide hdone
                  clear hs hsub hdone
                  have hbx := HBX.out.next HS2.out.below
                  have HBX2 := Lib.hide hbx
                  obtain ⟨x0, x1, x2, x3, x4⟩ := hbx
                  obtain ⟨b1', o1', he1, hbb1, hcc1⟩ := (HO1.out.reads.2.below HS2.out.below).at (by rw [nums_length]; omega)
                  have e1 : wr.cell? ⟨b1, o1 + i, none⟩ = some (.int .i64 p) := by
                    injection he1 with he1
                    injection he1 with he2 he3
                    subst he2
                    subst he3
                    rw [hcc1 i (by rw [nums_length]; exact hlt3), nums_getD, HP.out]
                  have hbl : b1 < wr.heap.size := by
                    injection he1 with he1
                    injection he1 with he2 he3
                    subst he2
                    exact hbb1
                  clear hcc1 he1 hbb1
                  have hown := HS2.out.own
                  obtain ⟨aS, cS, hv, hI⟩ := hown.ints
                  have hsl2 : S2.length ≤ k + 401 := by have := HS2.out.seen.length; rw [HK.out] at this; omega
                  subst hv
                  have HIS := Lib.hide hI
                  have HPS2 := Lib.hide (HSUB2.out _ HPS.out)
                  have hbwr := Below.next HBW1.out HS2.out.below
                  have HBWR := Lib.hide hbwr
                  obtain ⟨b, o, he, hb, hc⟩ := (HH.out.ints.below hbwr).at (by rw [HX.out]; omega)
                  subst he
                  have e2 := hc (p + 1) (by rw [HX.out]; omega)
                  rw [HF.out] at e2
                  have HC := Lib.hide hc
                  clear hown hI hbwr hc
                  by_cases hjf : j < f
                  · have hd : decide ((j : Int) < (f : Int)) = true := by simp; omega
                    go_wp2
                    go_quiet ((go_at_call 42; exact quiet_left (has_any aS S2.length cS S2 p _ (HIS.out.below (by repeat (first | exact Below.refl _ _ | assumption | refine Below.drew ?_ | refine below_drewN ?_ _ | refine Below.allocs ?_ | refine Below.next ?_ (by assumption) | refine Below.setCell ?_ (by dsimp only; omega) _))) rfl (by omega) true (decide_eq_true HPS2.out))))
                    go_wp2
                    have hbW : Below wr.heap.size wr (wr.drewN nq) := (by repeat (first | exact Below.refl _ _ | assumption | refine Below.drew ?_ | refine below_drewN ?_ _ | refine Below.allocs ?_ | refine Below.next ?_ (by assumption) | refine Below.setCell ?_ (by dsimp only; omega) _))
                    have HBXW := Lib.hide (HBX2.out.next hbW)
                    have eW : (wr.drewN nq).cell? ⟨b1, o1 + i, none⟩ = some (.int .i64 p) := (hbW.cell (p := ⟨b1, o1 + i, none⟩) hbl).trans e1
                    have hlW : b1 < (wr.drewN nq).heap.size := Nat.lt_of_lt_of_le hbl hbW.size
                    generalize wr.drewN nq = W at *
                    obtain ⟨y0, y1, y2, y3, y4⟩ := HBXW.out
                    obtain ⟨y, hy⟩ : ∃ y, xs.getD (p + 2 + j) 0 = y := ⟨_, rfl⟩
                    have HY := Lib.hide hy
                    have hhf : HasField xs l p j := ⟨mem_nums.2 HPL.out, by omega, by rw [Int.toNat_natCast, HF.out]; omega⟩
                    have CL := Lib.hide (fun w' (h : Below W.heap.size W w') => loadOf_yes (some ⟨b, o, none⟩) n cap xs top p j l w' (HH.out.below (Below.next (Below.next HBWR.out hbW) h)) HV.out hhf y (by rw [Int.toNat_natCast, Int.toNat_natCast]; exact HY.out))
                    clear hy hhf x0 x1 x2 x3 e1 e2
                    go_region_held3 (fun w' => w'.cell? ⟨w.heap.size, 0, none⟩ = some (.slice (some ⟨b, o, none⟩) n cap) ∧ w'.cell? ⟨w.heap.size, 1, none⟩ = some (.int .i64 top) ∧ w'.cell? ⟨b1, o1 + i, none⟩ = some (.int .i64 p))
                      (first | exact ⟨y0, y1, eW⟩ | exact ⟨m0, m1, m2⟩ | go_keep | (go_split_ands; refine ⟨?_, ?_, ?_⟩ <;> go_simp))
                      (first
                        | (go_at_call 28; (with_reducible refine (CL.out W.drew (by repeat (first | exact Below.refl _ _ | assumption | refine Below.drew ?_ | refine below_drewN ?_ _ | refine Below.allocs ?_ | refine Below.next ?_ (by assumption) | refine Below.setCell ?_ (by dsimp only; omega) _))).mono ?_); rintro e w5 ⟨rfl, hb5⟩; have HB5 := Lib.hide (HBXW.out.next (w' := w5) (by repeat (first | exact Below.refl _ _ | assumption | refine Below.drew ?_ | refine below_drewN ?_ _ | refine Below.allocs ?_ | refine Below.next ?_ (by assumption) | refine Below.setCell ?_ (by dsimp only; omega) _))); obtain ⟨m0, m1, m3, m4, m5⟩ := HB5.out; have hb5W : Below W.heap.size W w5 := (by repeat (first | exact Below.refl _ _ | assumption | refine Below.drew ?_ | refine below_drewN ?_ _ | refine Below.allocs ?_ | refine Below.next ?_ (by assumption) | refine Below.setCell ?_ (by dsimp only; omega) _)); have m2 := (hb5W.cell (p := ⟨b1, o1 + i, none⟩) hlW).trans eW)
                        | (go_at_call 28; (with_reducible refine (CL.out (W.alloc (.cells #[.int .i64 0, .int .i64 0] 40)).drew (by repeat (first | exact Below.refl _ _ | assumption | refine Below.drew ?_ | refine below_drewN ?_ _ | refine Below.allocs ?_ | refine Below.next ?_ (by assumption) | refine Below.setCell ?_ (by dsimp only; omega) _))).mono ?_); rintro e w5 ⟨rfl, hb5⟩; have HB5 := Lib.hide (HBXW.out.next (w' := w5) (by repeat (first | exact Below.refl _ _ | assumption | refine Below.drew ?_ | refine below_drewN ?_ _ | refine Below.allocs ?_ | refine Below.next ?_ (by assumption) | refine Below.setCell ?_ (by dsimp only; omega) _))); obtain ⟨m0, m1, m3, m4, m5⟩ := HB5.out; have hb5W : Below W.heap.size W w5 := (by repeat (first | exact Below.refl _ _ | assumption | refine Below.drew ?_ | refine below_drewN ?_ _ | refine Below.allocs ?_ | refine Below.next ?_ (by assumption) | refine Below.setCell ?_ (by dsimp only; omega) _)); have m2 := (hb5W.cell (p := ⟨b1, o1 + i, none⟩) hlW).trans eW; obtain ⟨n0, n1, n2, n3, n4⟩ := ((Box2.new W (.int .i64 0) (.int .i64 0) 40).next (w' := (W.alloc (.cells #[.int .i64 0, .int .i64 0] 40)).drew) (by repeat (first | exact Below.refl _ _ | assumption | refine Below.drew ?_ | refine below_drewN ?_ _ | refine Below.allocs ?_ | refine Below.next ?_ (by assumption) | refine Below.setCell ?_ (by dsimp only; omega) _))).next hb5))
                    all_goals have hsW := hbW.size
                    · have hN : Below wr.heap.size wr (w5.alloc (.cells #[.int .i64 (y % 2), .int .i64 (y / 2)] 40)) := (by repeat (first | exact Below.refl _ _ | assumption | refine Below.drew ?_ | refine below_drewN ?_ _ | refine Below.allocs ?_ | refine Below.next ?_ (by assumption) | refine Below.setCell ?_ (by dsimp only; omega) _))
                      have d0 : (w5.alloc (.cells #[.int .i64 (y % 2), .int .i64 (y / 2)] 40)).cell? ⟨w5.heap.size, 0, none⟩ = some (.int .i64 (y % 2)) := by go_simp
                      have d1 : (w5.alloc (.cells #[.int .i64 (y % 2), .int .i64 (y / 2)] 40)).cell? ⟨w5.heap.size, 1, none⟩ = some (.int .i64 (y / 2)) := by go_simp
                      have HN := Lib.hide hN
                      clear hN
                      generalize w5.alloc (.cells #[.int .i64 (y % 2), .int .i64 (y / 2)] 40) = wN at HN d0 d1 ⊢
                      generalize w5.heap.size = B5 at d0 d1 ⊢
                      by_cases hpar : y % 2 = 1
                      · have hd2 : (y % 2 == 1) = true := by simpa using hpar
                        have HPAR := Lib.hide hpar
                        clear hpar
                        by_cases hin2 : y / 2 ∈ S2
                        · have HIN2 := Lib.hide hin2
                          clear hin2
                          go_wp2_with (go_at_call 42; refine (has_any aS S2.length cS S2 (y / 2) _ (HIS.out.below HN.out) rfl (by omega) true (decide_eq_true HIN2.out)).mono ?_; rintro e w6 ⟨rfl, rfl⟩)
                          go_roundg (f - (j + 1))
                          case measure => omega
                          case rel =>
                            refine ⟨j + 1, S2, by omega, rfl, by go_num, ⟨Own.below HS2.out.own HN.out, HS2.out.seen, HS2.out.below.trans (HN.out.mono HS2.out.below.size)⟩, HSUB2.out, fun t ht h => ?_⟩
                            rcases Nat.lt_or_ge t j with h' | h'
                            · exact HDO2.out t h' h
                            · obtain rfl : t = j := by omega
                              rw [HY.out]
                              exact HIN2.out
                        · have HIN2 := Lib.hide hin2
                          clear hin2
                          have hpush : Seen xs rs l (S2 ++ [y / 2]) := HS2.out.seen.push HIN2.out (by
                            by_cases h0 : y / 2 = 0
                            · exact .inl h0
                            · have hrf : Refers xs p (y / 2) := ⟨j, by rw [HF.out]; omega, by rw [HY.out]; exact HPAR.out, by rw [HY.out], h0⟩
                              have hpr : Reached xs rs p := (HS2.out.seen.sound _ HPS2.out).resolve_left (by omega)
                              exact .inr ⟨hrf.mem HV.out.fields HPL.out, .step hpr hrf⟩)
                          have HPU := Lib.hide hpush
                          have hsl3 : S2.length + 1 ≤ k + 401 := by
                            have := hpush.length
                            rw [HK.out, List.length_append, List.length_singleton] at this
                            omega
                          have hNs := HN.out.size
                          have hws := HS2.out.below.size
                          clear hpush
                          go_wp2_with (first
                            | (go_at_call 42; refine (has_any aS S2.length cS S2 (y / 2) _ (HIS.out.below HN.out) rfl (by omega) false (decide_eq_false HIN2.out)).mono ?_; rintro e w6 ⟨rfl, rfl⟩)
                            | (at_builtin; refine wpList_append_own _ rfl (.tmp 100) (.tmp 103) 22 rfl w1.heap.size 3 i0 (.int .i64 0) 1 8 Try.underlying22 hi0 hz0 hz1 hz2 rfl (by decide) (.slice aS S2.length cS) S2.length _ rfl (World.ownsRow.alloc (w := wN) (Own.below HS2.out.own HN.out) _) ⟨wN.heap.size, 0, none⟩ 1 1 [.int .i64 (y / 2)] rfl rfl (cell_one_new _ _ _) (fun u hu => by simp at hu; subst hu; rfl) (by unfold maxLen; omega) (by omega) (by simp; omega) ?_; intro v' w7 hown7 hg7 _; obtain ⟨hbel7, hown8⟩ := append_step HS2.out.below hws HN.out HS2.out.own hown7 hg7; have HB7 := Lib.hide hbel7; have HO8 := Lib.hide hown8; clear hown7 hg7 hbel7 hown8))
                          go_roundg (f - (j + 1))
                          case measure => omega
                          case rel =>
                            refine ⟨j + 1, S2 ++ [y / 2], by omega, rfl, by go_num, ⟨HO8.out, HPU.out, HB7.out⟩, fun q hq => List.mem_append_left _ (HSUB2.out q hq), fun t ht h => ?_⟩
                            rcases Nat.lt_or_ge t j with h' | h'
                            · exact List.mem_append_left _ (HDO2.out t h' h)
                            · obtain rfl : t = j := by omega
                              rw [HY.out]
                              simp
                      · have hd2 : (y % 2 == 1) = false := by simpa using hpar
                        have HPAR := Lib.hide hpar
                        clear hpar
                        go_wp2
                        go_roundg (f - (j + 1))
                        case measure => omega
                        case rel =>
                          refine ⟨j + 1, S2, by omega, rfl, by go_num, ⟨Own.below HS2.out.own HN.out, HS2.out.seen, HS2.out.below.trans (HN.out.mono HS2.out.below.size)⟩, HSUB2.out, fun t ht h => ?_⟩
                          rcases Nat.lt_or_ge t j with h' | h'
                          · exact HDO2.out t h' h
                          · obtain rfl : t = j := by omega
                            rw [HY.out] at h
                            exact absurd h HPAR.out
                    · have hN : Below wr.heap.size wr ((w5.setCell ⟨W.heap.size, 0, none⟩ (.int .i64 (y % 2))).setCell ⟨W.heap.size, 1, none⟩ (.int .i64 (y / 2))) := (by repeat (first | exact Below.refl _ _ | assumption | refine Below.drew ?_ | refine below_drewN ?_ _ | refine Below.allocs ?_ | refine Below.next ?_ (by assumption) | refine Below.setCell ?_ (by dsimp only; omega) _))
                      have d0 : ((w5.setCell ⟨W.heap.size, 0, none⟩ (.int .i64 (y % 2))).setCell ⟨W.heap.size, 1, none⟩ (.int .i64 (y / 2))).cell? ⟨W.heap.size, 0, none⟩ = some (.int .i64 (y % 2)) := by go_simp
                      have d1 : ((w5.setCell ⟨W.heap.size, 0, none⟩ (.int .i64 (y % 2))).setCell ⟨W.heap.size, 1, none⟩ (.int .i64 (y / 2))).cell? ⟨W.heap.size, 1, none⟩ = some (.int .i64 (y / 2)) := by go_simp
                      have HN := Lib.hide hN
                      clear hN
                      generalize (w5.setCell ⟨W.heap.size, 0, none⟩ (.int .i64 (y % 2))).setCell ⟨W.heap.size, 1, none⟩ (.int .i64 (y / 2)) = wN at HN d0 d1 ⊢
                      generalize W.heap.size = B5 at d0 d1 ⊢
                      by_cases hpar : y % 2 = 1
                      · have hd2 : (y % 2 == 1) = true := by simpa using hpar
                        have HPAR := Lib.hide hpar
                        clear hpar
                        by_cases hin2 : y / 2 ∈ S2
                        · have HIN2 := Lib.hide hin2
                          clear hin2
                          go_wp2_with (go_at_call 42; refine (has_any aS S2.length cS S2 (y / 2) _ (HIS.out.below HN.out) rfl (by omega) true (decide_eq_true HIN2.out)).mono ?_; rintro e w6 ⟨rfl, rfl⟩)
                          go_roundg (f - (j + 1))
                          case measure => omega
                          case rel =>
                            refine ⟨j + 1, S2, by omega, rfl, by go_num, ⟨Own.below HS2.out.own HN.out, HS2.out.seen, HS2.out.below.trans (HN.out.mono HS2.out.below.size)⟩, HSUB2.out, fun t ht h => ?_⟩
                            rcases Nat.lt_or_ge t j with h' | h'
                            · exact HDO2.out t h' h
                            · obtain rfl : t = j := by omega
                              rw [HY.out]
                              exact HIN2.out
                        · have HIN2 := Lib.hide hin2
                          clear hin2
                          have hpush : Seen xs rs l (S2 ++ [y / 2]) := HS2.out.seen.push HIN2.out (by
                            by_cases h0 : y / 2 = 0
                            · exact .inl h0
                            · have hrf : Refers xs p (y / 2) := ⟨j, by rw [HF.out]; omega, by rw [HY.out]; exact HPAR.out, by rw [HY.out], h0⟩
                              have hpr : Reached xs rs p := (HS2.out.seen.sound _ HPS2.out).resolve_left (by omega)
                              exact .inr ⟨hrf.mem HV.out.fields HPL.out, .step hpr hrf⟩)
                          have HPU := Lib.hide hpush
                          have hsl3 : S2.length + 1 ≤ k + 401 := by
                            have := hpush.length
                            rw [HK.out, List.length_append, List.length_singleton] at this
                            omega
                          have hNs := HN.out.size
                          have hws := HS2.out.below.size
                          clear hpush
                          go_wp2_with (first
                            | (go_at_call 42; refine (has_any aS S2.length cS S2 (y / 2) _ (HIS.out.below HN.out) rfl (by omega) false (decide_eq_false HIN2.out)).mono ?_; rintro e w6 ⟨rfl, rfl⟩)
                            | (at_builtin; refine wpList_append_own _ rfl (.tmp 100) (.tmp 103) 22 rfl w1.heap.size 3 i0 (.int .i64 0) 1 8 Try.underlying22 hi0 hz0 hz1 hz2 rfl (by decide) (.slice aS S2.length cS) S2.length _ rfl (World.ownsRow.alloc (w := wN) (Own.below HS2.out.own HN.out) _) ⟨wN.heap.size, 0, none⟩ 1 1 [.int .i64 (y / 2)] rfl rfl (cell_one_new _ _ _) (fun u hu => by simp at hu; subst hu; rfl) (by unfold maxLen; omega) (by omega) (by simp; omega) ?_; intro v' w7 hown7 hg7 _; obtain ⟨hbel7, hown8⟩ := append_step HS2.out.below hws HN.out HS2.out.own hown7 hg7; have HB7 := Lib.hide hbel7; have HO8 := Lib.hide hown8; clear hown7 hg7 hbel7 hown8))
                          go_roundg (f - (j + 1))
                          case measure => omega
                          case rel =>
                            refine ⟨j + 1, S2 ++ [y / 2], by omega, rfl, by go_num, ⟨HO8.out, HPU.out, HB7.out⟩, fun q hq => List.mem_append_left _ (HSUB2.out q hq), fun t ht h => ?_⟩
                            rcases Nat.lt_or_ge t j with h' | h'
                            · exact List.mem_append_left _ (HDO2.out t h' h)
                            · obtain rfl : t = j := by omega
                              rw [HY.out]
                              simp
                      · have hd2 : (y % 2 == 1) = false := by simpa using hpar
                        have HPAR := Lib.hide hpar
                        clear hpar
                        go_wp2
                        go_roundg (f - (j + 1))
                        case measure => omega
                        case rel =>
                          refine ⟨j + 1, S2, by omega, rfl, by go_num, ⟨Own.below HS2.out.own HN.out, HS2.out.seen, HS2.out.below.trans (HN.out.mono HS2.out.below.size)⟩, HSUB2.out, fun t ht h => ?_⟩
                          rcases Nat.lt_or_ge t j with h' | h'
                          · exact HDO2.out t h' h
                          · obtain rfl : t = j := by omega
                            rw [HY.out] at h
                            exact absurd h HPAR.out
                  · obtain rfl : j = f := by omega
                    have hd : decide ((j : Int) < (j : Int)) = false := by simp
                    go_wp2
                    go_quiet ((go_at_call 42; exact quiet_left (has_any aS S2.length cS S2 p _ (HIS.out.below (by repeat (first | exact Below.refl _ _ | assumption | refine Below.drew ?_ | refine below_drewN ?_ _ | refine Below.allocs ?_ | refine Below.next ?_ (by assumption) | refine Below.setCell ?_ (by dsimp only; omega) _))) rfl (by omega) true (decide_eq_true HPS2.out))))
                    go_wp2
                    go_roundg (l.length - (i + 1))
                    case measure => omega
                    case rel =>
                      refine ⟨i + 1, S2, by omega, rfl, by go_num, ⟨Own.below HS2.out.own (by repeat (first | exact Below.refl _ _ | assumption | refine Below.drew ?_ | refine below_drewN ?_ _ | refine Below.allocs ?_ | refine Below.next ?_ (by assumption) | refine Below.setCell ?_ (by dsimp only; omega) _)), HS2.out.seen, HS2.out.below.trans (Below.mono (B := wr.heap.size) (by repeat (first | exact Below.refl _ _ | assumption | refine Below.drew ?_ | refine below_drewN ?_ _ | refine Below.allocs ?_ | refine Below.next ?_ (by assumption) | refine Below.setCell ?_ (by dsimp only; omega) _)) HS2.out.below.size)⟩, fun q hq => HSUB2.out q (HSUB.out q hq), fun t ht htS q hq => ?_⟩
                      rcases Nat.lt_or_ge t i with h | h
                      · exact HSUB2.out q (HDO.out t h htS q hq)
                      · obtain rfl : t = i := by omega
                        rw [HP.out] at hq
                        obtain ⟨z, hz, h1, h2, h3⟩ := hq
                        rw [HF.out] at hz
                        rw [← h2]
                        exact HDO2.out z (by omega) h1
              · have HPS := Lib.hide hpS
                clear hpS
                have hown := HS'.out.own
                obtain ⟨aS, cS, hv, hI⟩ := hown.ints
                have hsl : S'.length ≤ 281474976710656 := by have := HS'.out.seen.length; rw [HK.out] at this; omega
                subst hv
                have HIS := Lib.hide hI
                clear hown hI
                go_wp2
                refine wp_loop_rounds 1 ?_; rw [rounds_succ]
                go_wp2
                go_quiet ((go_at_call 42; exact quiet_left (has_any aS S'.length cS S' p _ (HIS.out.below (by repeat (first | exact Below.refl _ _ | assumption | refine Below.drew ?_ | refine below_drewN ?_ _ | refine Below.allocs ?_ | refine Below.next ?_ (by assumption) | refine Below.setCell ?_ (by dsimp only; omega) _))) rfl hsl false (decide_eq_false HPS.out))))
                go_wp2
                go_roundg (l.length - (i + 1))
                case measure => omega
                case rel =>
                  refine ⟨i + 1, S', by omega, rfl, by go_num, ⟨Own.below HS'.out.own (by repeat (first | exact Below.refl _ _ | assumption | refine Below.drew ?_ | refine below_drewN ?_ _ | refine Below.allocs ?_ | refine Below.next ?_ (by assumption) | refine Below.setCell ?_ (by dsimp only; omega) _)), HS'.out.seen, HS'.out.below.trans (Below.mono (B := wr.heap.size) (by repeat (first | exact Below.refl _ _ | assumption | refine Below.drew ?_ | refine below_drewN ?_ _ | refine Below.allocs ?_ | refine Below.next ?_ (by assumption) | refine Below.setCell ?_ (by dsimp only; omega) _)) HS'.out.below.size)⟩, HSUB.out, fun j hj hjS q hq => ?_⟩
                  rcases Nat.lt_or_ge j i with h | h
                  · exact HDO.out j h hjS q hq
                  · obtain rfl : j = i := by omega
                    rw [HP.out] at hjS
                    exact absurd (HSUB.out _ hjS) HPS.out
            · obtain rfl : i = l.length := by omega
              go_wp2
              go_roundg (l.length - (r + 1))
              case measure => omega
              case rel =>
                refine ⟨r + 1, S', by omega, rfl, by go_num, HS'.out, HP.out.step HS'.out.seen (fun p hp => (HL.out.fit p hp).1) HRM.out HSUB.out (fun p hp hpS q hq => ?_)⟩
                obtain ⟨j, hj, rfl⟩ := List.mem_iff_getElem.1 hp
                have e : l.getD j 0 = l[j] := by simp [List.getD_eq_getElem?_getD, List.getElem?_eq_getElem hj]
                exact HDO.out j hj (by rw [e]; exact hpS) q (by rw [e]; exact hq)
        · obtain rfl : r = l.length := by omega
          have hown := HS.out.own
          obtain ⟨aS, cS, hv, hI⟩ := hown.ints
          have hsl : S.length ≤ 281474976710656 := by have := HS.out.seen.length; rw [HK.out] at this; omega
          subst hv
          have HIS := Lib.hide hI
          clear hown hI hr
          have HB4 := Lib.hide HS.out.below
          have hall : ∀ q ∈ nums l, (isIn S q = true ↔ Reached xs rs q) := fun q hq => by
            rw [isIn_iff]
            refine ⟨fun h => (HS.out.seen.sound q h).resolve_left ?_, fun h => HP.out.all HRM.out h⟩
            obtain ⟨q, rfl, _⟩ := place_bounds hq HL.out
            have := (HL.out.fit q (mem_nums.1 hq)).1
            omega
          have HALL := Lib.hide hall
          obtain ⟨w4, rfl⟩ : ∃ w4 : World, w4 = wr := ⟨_, rfl⟩
          clear hall HP HS
          go_wp2
          go_loopg [15, 16] l.length (fun g v u wq => ∃ i : Nat, i ≤ l.length ∧ g = l.length - i ∧ u = .int .i64 i ∧ Own wq w4.heap.size v ((nums (l.take i)).filter (isIn S)) ∧ Below w4.heap.size w4 wq)
          case atStart => exact ⟨0, Nat.zero_le _, rfl, rfl, World.ownsRow_nil _ _ _ _, Below.refl _ _⟩
          case round =>
            obtain ⟨i, hi, rfl, rfl, hown, hbel⟩ := hrel
            have HOW := Lib.hide hown
            have HBE := Lib.hide hbel
            have hle := hbel.size
            clear hown
            by_cases hlt5 : i < l.length
            · obtain ⟨b1, o1, he1, hbb1, hcc1⟩ := (HO1.out.reads.2.below (Below.next HB4.out HBE.out)).at (by rw [nums_length]; omega)
              subst he1
              have e1 := hcc1 i (by rw [nums_length]; exact hlt5)
              rw [nums_getD] at e1
              clear hcc1
              have hts := take_succ_filter (m := isIn S) (zs := nums l) (j := i) (by rw [nums_length]; exact hlt5)
              rw [nums_getD] at hts
              obtain ⟨p, hp⟩ : ∃ p, l.getD i 0 = p := ⟨_, rfl⟩
              rw [hp] at e1 hts
              have hnt : ∀ j, (nums l).take j = nums (l.take j) := fun j => by unfold nums; rw [List.map_take]
              rw [hnt, hnt] at hts
              have HTS := Lib.hide hts
              clear hts hp hnt
              by_cases hpS : (p : Int) ∈ S
              · have HPS := Lib.hide hpS
                clear hpS
                have hol : ((nums (l.take i)).filter (isIn S)).length ≤ 400 := by
                  have := List.length_filter_le (isIn S) (nums (l.take i))
                  rw [nums_length] at this
                  have h2 : (l.take i).length ≤ l.length := by simp; omega
                  omega
                go_wp2_with (first
                  | (go_at_call 42; refine (has_any aS S.length cS S p _ (HIS.out.below HBE.out) rfl (by omega) true (decide_eq_true HPS.out)).mono ?_; rintro e w6 ⟨rfl, rfl⟩)
                  | (at_builtin; refine wpList_append_own _ rfl (.tmp 117) (.tmp 122) 22 rfl w4.heap.size 3 i0 (.int .i64 0) 1 8 Try.underlying22 hi0 hz0 hz1 hz2 rfl (by decide) u15 ((nums (l.take i)).filter (isIn S)).length _ rfl (World.ownsRow.alloc (w := wr) HOW.out _) ⟨wr.heap.size, 0, none⟩ 1 1 [.int .i64 p] rfl rfl (cell_one_new _ _ _) (fun u hu => by simp at hu; subst hu; rfl) (by unfold maxLen; omega) (by omega) (by simp; omega) ?_; intro v' w7 hown7 hg7 _; obtain ⟨hbel7, hown8⟩ := append_step HBE.out hle (Below.refl _ _) HOW.out hown7 hg7; have HB7 := Lib.hide hbel7; have HO8 := Lib.hide hown8; clear hown7 hg7 hbel7 hown8))
                go_roundg (l.length - (i + 1))
                case measure => omega
                case rel =>
                  refine ⟨i + 1, by omega, rfl, by go_num, ?_, HB7.out⟩
                  rw [HTS.out, isIn_iff.2 HPS.out, if_pos rfl]
                  exact HO8.out
              · have HPS := Lib.hide hpS
                clear hpS
                go_wp2_with (go_at_call 42; refine (has_any aS S.length cS S p _ (HIS.out.below HBE.out) rfl (by omega) false (decide_eq_false HPS.out)).mono ?_; rintro e w6 ⟨rfl, rfl⟩)
                go_roundg (l.length - (i + 1))
                case measure => omega
                case rel =>
                  refine ⟨i + 1, by omega, rfl, by go_num, ?_, HBE.out⟩
                  rw [HTS.out, isIn_not.2 HPS.out]
                  simpa using HOW.out
            · obtain rfl : i = l.length := by omega
              have hown := HOW.out
              rw [List.take_length] at hown
              obtain ⟨a', c', hv, _⟩ := hown.ints
              have HV' := Lib.hide hv
              have HOW2 := Lib.hide hown
              have hbw4 := Below.next (Below.next HBW1.out HB4.out) HBE.out
              have HBF := Lib.hide hbw4
              have hsz := (Below.next HBW1.out HB4.out).size
              clear hv hown hbw4
              go_wp2
              go_ret2
              refine ⟨(nums l).filter (isIn S), a', c', ⟨isIn S, rfl, HALL.out⟩, by rw [← HV'.out]; rfl, ?_, HBF.out⟩
              rw [← HV'.out]
              exact ownsRow_base HOW2.out hsz
end Go.Proofs.Ytpdcaoagpjcgbaa
