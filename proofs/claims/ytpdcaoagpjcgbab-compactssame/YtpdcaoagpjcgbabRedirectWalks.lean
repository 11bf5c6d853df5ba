/-
  The walk of gc.redirect, and a copy into a list of the call's own. It proves no statement by itself.
-/
import Derived.Test.YtpdcaoagpjcgbabPlanWalks
set_option linter.unusedVariables false
set_option linter.unusedSimpArgs false
namespace Go.Proofs.Ytpdcaoagpjcgbab
open Go.RowKit

theorem mid_get (A B : List Int) (x : Int) {k : Nat} (hk : A.length = k) : (A ++ x :: B).getD k 0 = x := by
  subst hk
  simp [List.getD_eq_getElem?_getD]
theorem mid_set (A B : List Int) (x y : Int) {k : Nat} (hk : A.length = k) : (A ++ x :: B).set k y = A ++ y :: B := by
  subst hk
  simp

/-- A part of a list, its first i numbers changed by a function. -/
def part (g : Int → Int) (pre fl post : List Int) (i : Nat) : List Int := (pre ++ (fl.take i).map g) ++ (fl.drop i ++ post)
theorem part_zero (g : Int → Int) (pre fl post : List Int) : part g pre fl post 0 = pre ++ (fl ++ post) := by simp [part]
theorem part_all (g : Int → Int) (pre fl post : List Int) : part g pre fl post fl.length = pre ++ (fl.map g ++ post) := by simp [part]
theorem part_get {g : Int → Int} {pre fl post : List Int} {i : Nat} (hi : i < fl.length) : (part g pre fl post i).getD (pre.length + i) 0 = fl.getD i 0 := by
  unfold part
  rw [List.drop_eq_getElem_cons hi, List.cons_append, mid_get]
  · simp [List.getD_eq_getElem?_getD, List.getElem?_eq_getElem hi]
  · simp; omega
theorem take_map_snoc {g : Int → Int} {fl : List Int} {i : Nat} (hi : i < fl.length) : (fl.take (i + 1)).map g = (fl.take i).map g ++ [g fl[i]] := by
  rw [List.take_succ_eq_append_getElem hi, List.map_append]
  rfl
theorem part_set {g : Int → Int} {pre fl post : List Int} {i : Nat} (hi : i < fl.length) {y : Int} (hy : g (fl.getD i 0) = y) : (part g pre fl post i).set (pre.length + i) y = part g pre fl post (i + 1) := by
  subst hy
  unfold part
  have e : fl.getD i 0 = fl[i] := by simp [List.getD_eq_getElem?_getD, List.getElem?_eq_getElem hi]
  rw [List.drop_eq_getElem_cons hi, List.cons_append, mid_set _ _ _ _ (by simp; omega), take_map_snoc hi, e]
  simp only [List.append_assoc, List.cons_append, List.nil_append]
theorem part_same {g : Int → Int} {pre fl post : List Int} {i : Nat} (hi : i < fl.length) (hy : g (fl.getD i 0) = fl.getD i 0) : part g pre fl post (i + 1) = part g pre fl post i := by
  unfold part
  have e : fl.getD i 0 = fl[i] := by simp [List.getD_eq_getElem?_getD, List.getElem?_eq_getElem hi]
  rw [e] at hy
  rw [List.drop_eq_getElem_cons hi, take_map_snoc hi, hy]
  simp only [List.append_assoc, List.cons_append, List.nil_append]

theorem Own.grown {w w' : World} {base : Nat} {v : Value} {xs : List Int} (h : Own w base v xs) {g : Nat} (hg : w.grownBy w' (some g)) (hne : v.ownBlock ≠ some g) : Own w' base v xs := World.ownsRow.kept h hg (.inr hne)

/-- A word that leads to an object that does not move along. -/
def Astray (m : Int → Option Int) (y : Int) : Prop := y % 2 = 1 ∧ m (y / 2) = none

set_option maxHeartbeats 1600000 in
/-- redirect, as long as all references have a place to go to. -/
theorem redirect_yes (aw : Option Addr) (f c g n cap base mb k off : Nat) (m : Int → Option Int) (pre fl post : List Int) (w : World) (ho : Own w base (.slice (some ⟨g, 0, none⟩) n cap) (pre ++ (fl ++ post))) (hoff : pre.length = off) (hfl : fl.length = f) (hf6 : f ≤ 6) (hn : n ≤ 400)
    (haw : 0 < f → aw = some ⟨g, off, none⟩) (hm : MapI w mb k m) (hmb : mb ≠ g) (hfit : ∀ y ∈ fl, Fits y) (hmf : ∀ x v, m x = some v → 0 ≤ v ∧ v ≤ 400) (hall : ∀ y ∈ fl, ¬ Astray m y) :
    Calls Try.prog 83 #[.slice aw f c, .map (some mb)] w fun e w' => e = .returned (.bool true) ∧ Own w' base (.slice (some ⟨g, 0, none⟩) n cap) (pre ++ (fl.map (redir m) ++ post)) ∧ w.grownBy w' (some g) := by
  have hlen := ho.reads.1
  have HO := Lib.hide ho
  have HOFF := Lib.hide hoff
  have HFL := Lib.hide hfl
  have HAW := Lib.hide haw
  have HM := Lib.hide hm
  have HFI := Lib.hide hfit
  have HMF := Lib.hide hmf
  have HALL := Lib.hide hall
  have hofn : off + f ≤ n := by
    rw [← hlen]
    simp
    omega
  have HMB := Lib.hide hmb
  clear ho hoff hfl haw hm hfit hmf hall hlen hmb
  go_enter Try.func83, Try.ntmps83
  go_wp2
  go_loopg [12] f (fun q u wr => ∃ i : Nat, i ≤ f ∧ q = f - i ∧ u = .int .i64 i ∧ Own wr base (.slice (some ⟨g, 0, none⟩) n cap) (part (redir m) pre fl post i) ∧ MapI wr mb k m ∧ w.grownBy wr (some g))
  case atStart => exact ⟨0, Nat.zero_le _, rfl, rfl, by rw [part_zero]; exact HO.out, HM.out, World.grownBy.refl _ _⟩
  case round =>
    obtain ⟨i, hi, rfl, rfl, hown, hmap, hgr⟩ := hrel
    have HOW := Lib.hide hown
    have HMA := Lib.hide hmap
    have HGR := Lib.hide hgr
    clear hown hmap hgr
    by_cases hlt : i < f
    · obtain rfl := HAW.out (by omega)
      have hif : i < fl.length := by rw [HFL.out]; exact hlt
      obtain ⟨g', he, hg1, hg2, hgc, hgf⟩ := HOW.out.row (by omega)
      injection he with he
      injection he with he
      subst he
      have e1 := hgc (off + i) (by omega)
      have e2 := hgf (off + i)
      have hpg := part_get (g := redir m) (pre := pre) (post := post) hif
      rw [HOFF.out] at hpg
      rw [hpg] at e1
      clear hgc hgf hpg
      have hyf := HFI.out _ (mem_at.2 ⟨i, hif, rfl⟩)
      have hya := HALL.out _ (mem_at.2 ⟨i, hif, rfl⟩)
      have hps := fun (y : Int) (h : redir m (fl.getD i 0) = y) => part_set (g := redir m) (pre := pre) (post := post) hif h
      have hpn := fun (h : redir m (fl.getD i 0) = fl.getD i 0) => part_same (g := redir m) (pre := pre) (post := post) hif h
      rw [HOFF.out] at hps
      obtain ⟨y, hy⟩ : ∃ y, fl.getD i 0 = y := ⟨_, rfl⟩
      rw [hy] at e1 hyf hya hps hpn
      have HPS := Lib.hide hps
      have HPN := Lib.hide hpn
      have HYF := Lib.hide hyf
      clear hy hps hpn hyf
      by_cases hpar : y % 2 = 1
      · have hd : (y % 2 != 1) = false := by simpa using hpar
        obtain ⟨v, hv⟩ : ∃ v, m (y / 2) = some v := by
          cases hmv : m (y / 2) with
          | none => exact absurd ⟨hpar, hmv⟩ hya
          | some v => exact ⟨v, rfl⟩
        obtain ⟨hv1, hv2⟩ := HMF.out _ _ hv
        have hq3 : Fits (y / 2) := by
          have := HYF.out.1
          have := HYF.out.2
          exact ⟨by omega, by omega⟩
        have hred : redir m y = 2 * v + 1 := by unfold redir; rw [if_pos hpar, hv]; rfl
        have hset := HPS.out _ hred
        have HSET := Lib.hide hset
        have LK := Lib.hide (fun w' (h : MapI w' mb k m) => h.look_ok hq3 v true (by rw [hv]; rfl) (by rw [hv]; rfl))
        clear hpar hv hya hred hset hq3
        have hne : mb < wr.heap.size := HMA.out.lt
        go_wp2_with (first
          | (go_at_call 26; refine (of_any y _ HYF.out).mono ?_; rintro e w5 ⟨rfl, hb5⟩; have hlk := LK.out (w5.alloc (.cells #[.int .i64 (y % 2), .int .i64 (y / 2)] 34)) (HMA.out.kept ((Below.heap_alloc _ _ _ (Nat.lt_of_lt_of_le hne hb5.size)).trans (hb5.block _ hne))))
          | (go_at_call 55; refine (word_any 1 v _ (by omega) (by omega)).mono ?_; rintro e w6 ⟨rfl, hb6⟩; have hb56 : Below wr.heap.size wr w6 := (by repeat (first | exact Below.refl _ _ | assumption | refine Below.drew ?_ | refine below_drewN ?_ _ | refine Below.allocs ?_ | refine Below.next ?_ (by assumption) | refine Below.setCell ?_ (by dsimp only; omega) _)); have d1 := (hb56.cell (p := ⟨g, off + i, none⟩) hg2).trans e1; have d2 := (hb56.frozen (p := ⟨g, off + i, none⟩) hg2).trans e2; have d3 : g < w6.heap.size := Nat.lt_of_lt_of_le hg2 hb56.size))
        go_roundg (f - (i + 1))
        case measure => omega
        case rel =>
          have hw1 : wordOf 1 v = 2 * v + 1 := by simp [wordOf]
          refine ⟨i + 1, by omega, rfl, by go_num, ?_, ?_, ?_⟩
          · have := (Own.below HOW.out hb56).stored (off + i) (2 * v + 1)
            rw [HSET.out] at this
            rw [hw1]
            exact this
          · exact (HMA.out.kept (hb56.block _ hne)).kept (Below.heap_setCell _ _ _ _ HMB.out)
          · refine grownBy_trans (grownBy_trans HGR.out (Below.grownBy hb56 _)) ⟨rfl, rfl, rfl, by simp [World.setCell], fun q hq hne => Below.heap_setCell _ _ _ _ (fun e => hne (by rw [e]))⟩
      · have hd : (y % 2 != 1) = true := by simpa using hpar
        have hred : redir m y = y := by unfold redir; rw [if_neg hpar]
        have hsame := HPN.out hred
        have HSAME := Lib.hide hsame
        clear hpar hya hred hsame
        go_wp2_with (go_at_call 26; refine (of_any y _ HYF.out).mono ?_; rintro e w5 ⟨rfl, hb5⟩)
        have hb5' : Below wr.heap.size wr (w5.alloc (.cells #[.int .i64 (y % 2), .int .i64 (y / 2)] 34)) := (by repeat (first | exact Below.refl _ _ | assumption | refine Below.drew ?_ | refine below_drewN ?_ _ | refine Below.allocs ?_ | refine Below.next ?_ (by assumption) | refine Below.setCell ?_ (by dsimp only; omega) _))
        go_roundg (f - (i + 1))
        case measure => omega
        case rel =>
          refine ⟨i + 1, by omega, rfl, by go_num, ?_, HMA.out.kept (hb5'.block _ HMA.out.lt), grownBy_trans HGR.out (Below.grownBy hb5' _)⟩
          rw [HSAME.out]
          exact Own.below HOW.out hb5'
    · obtain rfl : i = f := by omega
      have hown := HOW.out
      rw [← HFL.out, part_all] at hown
      have HOW2 := Lib.hide hown
      clear hown
      go_wp2
      go_ret
      exact ⟨rfl, HOW2.out, HGR.out⟩

set_option maxHeartbeats 1600000 in
/-- redirect, where a reference has no place to go to. -/
theorem redirect_no (aw : Option Addr) (f c g n cap base mb k off : Nat) (m : Int → Option Int) (pre fl post : List Int) (w : World) (ho : Own w base (.slice (some ⟨g, 0, none⟩) n cap) (pre ++ (fl ++ post))) (hoff : pre.length = off) (hfl : fl.length = f) (hf6 : f ≤ 6) (hn : n ≤ 400)
    (haw : 0 < f → aw = some ⟨g, off, none⟩) (hm : MapI w mb k m) (hmb : mb ≠ g) (hfit : ∀ y ∈ fl, Fits y) (hmf : ∀ x v, m x = some v → 0 ≤ v ∧ v ≤ 400) (hsome : ∃ y ∈ fl, Astray m y) :
    Calls Try.prog 83 #[.slice aw f c, .map (some mb)] w fun e w' => e = .returned (.bool false) ∧ w.grownBy w' (some g) := by
  have hlen := ho.reads.1
  have HO := Lib.hide ho
  have HOFF := Lib.hide hoff
  have HFL := Lib.hide hfl
  have HAW := Lib.hide haw
  have HM := Lib.hide hm
  have HFI := Lib.hide hfit
  have HMF := Lib.hide hmf
  have HSO := Lib.hide hsome
  have hofn : off + f ≤ n := by
    rw [← hlen]
    simp
    omega
  have HMB := Lib.hide hmb
  clear ho hoff hfl haw hm hfit hmf hsome hlen hmb
  go_enter Try.func83, Try.ntmps83
  go_wp2
  go_loopg [12] f (fun q u wr => ∃ i : Nat, i ≤ f ∧ q = f - i ∧ u = .int .i64 i ∧ Own wr base (.slice (some ⟨g, 0, none⟩) n cap) (part (redir m) pre fl post i) ∧ MapI wr mb k m ∧ w.grownBy wr (some g) ∧ ∀ j, j < i → ¬ Astray m (fl.getD j 0))
  case atStart => exact ⟨0, Nat.zero_le _, rfl, rfl, by rw [part_zero]; exact HO.out, HM.out, World.grownBy.refl _ _, fun j hj => absurd hj (Nat.not_lt_zero _)⟩
  case round =>
    obtain ⟨i, hi, rfl, rfl, hown, hmap, hgr, hno⟩ := hrel
    have HOW := Lib.hide hown
    have HMA := Lib.hide hmap
    have HGR := Lib.hide hgr
    have HNO := Lib.hide hno
    clear hown hmap hgr hno
    by_cases hlt : i < f
    · obtain rfl := HAW.out (by omega)
      have hif : i < fl.length := by rw [HFL.out]; exact hlt
      obtain ⟨g', he, hg1, hg2, hgc, hgf⟩ := HOW.out.row (by omega)
      injection he with he
      injection he with he
      subst he
      have e1 := hgc (off + i) (by omega)
      have e2 := hgf (off + i)
      have hpg := part_get (g := redir m) (pre := pre) (post := post) hif
      rw [HOFF.out] at hpg
      rw [hpg] at e1
      clear hgc hgf hpg
      have hyf := HFI.out _ (mem_at.2 ⟨i, hif, rfl⟩)
      have hps := fun (y : Int) (h : redir m (fl.getD i 0) = y) => part_set (g := redir m) (pre := pre) (post := post) hif h
      have hpn := fun (h : redir m (fl.getD i 0) = fl.getD i 0) => part_same (g := redir m) (pre := pre) (post := post) hif h
      rw [HOFF.out] at hps
      obtain ⟨y, hy⟩ : ∃ y, fl.getD i 0 = y := ⟨_, rfl⟩
      rw [hy] at e1 hyf hps hpn
      have HPS := Lib.hide hps
      have HPN := Lib.hide hpn
      have HYF := Lib.hide hyf
      have HY := Lib.hide hy
      clear hy hps hpn hyf
      have hne : mb < wr.heap.size := HMA.out.lt
      by_cases hpar : y % 2 = 1
      · have hd : (y % 2 != 1) = false := by simpa using hpar
        have hq3 : Fits (y / 2) := by
          have := HYF.out.1
          have := HYF.out.2
          exact ⟨by omega, by omega⟩
        cases hmv : m (y / 2) with
        | none =>
          have LK := Lib.hide (fun w' (h : MapI w' mb k m) => h.look_ok hq3 0 false (by rw [hmv]; rfl) (by rw [hmv]; rfl))
          clear hpar hmv hq3
          go_wp2_with (go_at_call 26; refine (of_any y _ HYF.out).mono ?_; rintro e w5 ⟨rfl, hb5⟩; have hlk := LK.out (w5.alloc (.cells #[.int .i64 (y % 2), .int .i64 (y / 2)] 34)) (HMA.out.kept ((Below.heap_alloc _ _ _ (Nat.lt_of_lt_of_le hne hb5.size)).trans (hb5.block _ hne))))
          have hb5' : Below wr.heap.size wr (w5.alloc (.cells #[.int .i64 (y % 2), .int .i64 (y / 2)] 34)) := (by repeat (first | exact Below.refl _ _ | assumption | refine Below.drew ?_ | refine below_drewN ?_ _ | refine Below.allocs ?_ | refine Below.next ?_ (by assumption) | refine Below.setCell ?_ (by dsimp only; omega) _))
          go_ret
          exact ⟨rfl, grownBy_trans HGR.out (Below.grownBy hb5' _)⟩
        | some v =>
          obtain ⟨hv1, hv2⟩ := HMF.out _ _ hmv
          have hred : redir m y = 2 * v + 1 := by unfold redir; rw [if_pos hpar, hmv]; rfl
          have hset := HPS.out _ hred
          have HSET := Lib.hide hset
          have hnot : ¬ Astray m y := fun h => by have := h.2; rw [hmv] at this; cases this
          have HNT := Lib.hide hnot
          have LK := Lib.hide (fun w' (h : MapI w' mb k m) => h.look_ok hq3 v true (by rw [hmv]; rfl) (by rw [hmv]; rfl))
          clear hpar hmv hred hset hq3 hnot
          go_wp2_with (first
            | (go_at_call 26; refine (of_any y _ HYF.out).mono ?_; rintro e w5 ⟨rfl, hb5⟩; have hlk := LK.out (w5.alloc (.cells #[.int .i64 (y % 2), .int .i64 (y / 2)] 34)) (HMA.out.kept ((Below.heap_alloc _ _ _ (Nat.lt_of_lt_of_le hne hb5.size)).trans (hb5.block _ hne))))
            | (go_at_call 55; refine (word_any 1 v _ (by omega) (by omega)).mono ?_; rintro e w6 ⟨rfl, hb6⟩; have hb56 : Below wr.heap.size wr w6 := (by repeat (first | exact Below.refl _ _ | assumption | refine Below.drew ?_ | refine below_drewN ?_ _ | refine Below.allocs ?_ | refine Below.next ?_ (by assumption) | refine Below.setCell ?_ (by dsimp only; omega) _)); have d1 := (hb56.cell (p := ⟨g, off + i, none⟩) hg2).trans e1; have d2 := (hb56.frozen (p := ⟨g, off + i, none⟩) hg2).trans e2; have d3 : g < w6.heap.size := Nat.lt_of_lt_of_le hg2 hb56.size))
          go_roundg (f - (i + 1))
          case measure => omega
          case rel =>
            have hw1 : wordOf 1 v = 2 * v + 1 := by simp [wordOf]
            refine ⟨i + 1, by omega, rfl, by go_num, ?_, ?_, ?_, fun j hj => ?_⟩
            · have := (Own.below HOW.out hb56).stored (off + i) (2 * v + 1)
              rw [HSET.out] at this
              rw [hw1]
              exact this
            · exact (HMA.out.kept (hb56.block _ hne)).kept (Below.heap_setCell _ _ _ _ HMB.out)
            · refine grownBy_trans (grownBy_trans HGR.out (Below.grownBy hb56 _)) ⟨rfl, rfl, rfl, by simp [World.setCell], fun q hq hne => Below.heap_setCell _ _ _ _ (fun e => hne (by rw [e]))⟩
            · rcases Nat.lt_or_ge j i with h | h
              · exact HNO.out j h
              · obtain rfl : j = i := by omega
                rw [HY.out]; exact HNT.out
      · have hd : (y % 2 != 1) = true := by simpa using hpar
        have hred : redir m y = y := by unfold redir; rw [if_neg hpar]
        have hsame := HPN.out hred
        have HSAME := Lib.hide hsame
        have HPAR := Lib.hide hpar
        clear hpar hred hsame
        go_wp2_with (go_at_call 26; refine (of_any y _ HYF.out).mono ?_; rintro e w5 ⟨rfl, hb5⟩)
        have hb5' : Below wr.heap.size wr (w5.alloc (.cells #[.int .i64 (y % 2), .int .i64 (y / 2)] 34)) := (by repeat (first | exact Below.refl _ _ | assumption | refine Below.drew ?_ | refine below_drewN ?_ _ | refine Below.allocs ?_ | refine Below.next ?_ (by assumption) | refine Below.setCell ?_ (by dsimp only; omega) _))
        go_roundg (f - (i + 1))
        case measure => omega
        case rel =>
          refine ⟨i + 1, by omega, rfl, by go_num, ?_, HMA.out.kept (hb5'.block _ HMA.out.lt), grownBy_trans HGR.out (Below.grownBy hb5' _), fun j hj => ?_⟩
          · rw [HSAME.out]
            exact Own.below HOW.out hb5'
          · rcases Nat.lt_or_ge j i with h | h
            · exact HNO.out j h
            · obtain rfl : j = i := by omega
              rw [HY.out]; exact fun h => HPAR.out h.1
    · exfalso
      obtain ⟨y, hy, ha⟩ := HSO.out
      obtain ⟨j, hj, rfl⟩ := mem_at.1 hy
      rw [HFL.out] at hj
      exact HNO.out j (by omega) ha

theorem take_splice {α : Type} (L Z : List α) {off n : Nat} (h1 : off + Z.length ≤ n) (h2 : n ≤ L.length) : (L.take off ++ (Z ++ L.drop (off + Z.length))).take n = (L.take n).take off ++ (Z ++ (L.take n).drop (off + Z.length)) := by
  have e1 : (L.take off).length = off := by simp; omega
  rw [List.take_append, e1, List.take_of_length_le (by omega : (L.take off).length ≤ n), List.take_append, List.take_of_length_le (by omega : Z.length ≤ n - off), List.take_take, Nat.min_eq_left (by omega), List.drop_take]
  rw [show n - off - Z.length = n - (off + Z.length) by omega]

/-- copy into a list of the call's own, as one step of a region that draws its order. -/
theorem step_copy_into {ops : Array Oper} {o : Oper} {a : Act} {w : World} {K : Act → World → Prop} {Q : Exit → Act → World → Prop} {E : Prop} (hgd : o.guard = none) (d s : Operand)
    (ho : o.op = .call { callee := .builtin .copy, args := #[d, s], argTypes := #[25, 25] })
    (dp sp : Option Addr) (dLen dCap sLen sCap : Nat) (hd : a.eval d = .slice dp dLen dCap) (hs : a.eval s = .slice sp sLen sCap)
    (g off n c base : Nat) (ys zs : List Int) (hown : Own w base (.slice (some ⟨g, 0, none⟩) n c) ys) (hn : zs.length = Nat.min sLen dLen) (h0 : 0 < zs.length) (hdp : dp = some ⟨g, off, none⟩)
    (hpos : ∃ ad, sp = some ad ∧ ∀ j v, (zs.map (Value.int .i64))[j]? = some v → w.cell? (ad.add j) = some v) (hfit : off + zs.length ≤ n)
    (h : ∀ w', Own w' base (.slice (some ⟨g, 0, none⟩) n c) (splice ys off zs) → w.grownBy w' (some g) → K (a.put o.dst (goInt zs.length)) w') :
    if Region.wanted o (yielded ops a.tmps) = true then Oper.wp Try.prog o a w K Q else E := by
  have hw : Region.wanted o (yielded ops a.tmps) = true := by simp [Region.wanted, hgd]
  rw [if_pos hw]
  have hyl := hown.reads.1
  obtain ⟨ad, rfl, hsrc⟩ := hpos
  subst hdp
  have hsz : (Try.prog.info? 3).map (·.size) = some 1 := by kernel_rfl
  rcases hown.2 with ⟨h2, _⟩ | ⟨g', cap, cur, hv, hg, hh, r1, r2, r3, r4⟩
  · cases h2
  · simp only [Value.slice.injEq] at hv
    obtain ⟨hv1, hv2, hv3⟩ := hv
    subst hv3
    injection hv1 with hv1
    injection hv1 with hv1
    subst hv1
    rw [Nat.mul_one] at r3 r4
    have hrun := run_copy_row (P := Try.prog) w 25 25 o.type 3 g off dLen dCap ad sLen sCap cur 3 (zs.map (Value.int .i64)) Try.underlying25 hsz hh (by simpa using hn) hsrc (by simp; omega) (ints_one zs)
    unfold Oper.wp
    simp only [List.length_map] at hrun
    simp [execOp, ho, resolve, invoke, builtin, hd, hs, hrun, Result.andThen]
    refine h _ ?_ ?_
    · have hsl : (splice ys off zs).length = n := by rw [length_splice _ _ _ (by omega)]; exact hyl
      refine ⟨by simp, .inr ⟨g, c, _, by rw [hsl], hg, setRow_heap w g _ _ _ _ hh, ?_, r2, ?_, ?_⟩⟩
      · rw [hsl]; omega
      · simp
        omega
      · rw [hsl, Nat.mul_one]
        have h5 : ys.map (Value.int .i64) = cur.toList.take n := by rw [← r4, hyl]
        unfold splice
        rw [List.map_append, List.map_append, List.map_take, List.map_drop, h5]
        have h6 := take_splice cur.toList (zs.map (Value.int .i64)) (off := off) (n := n) (by simp; omega) (by simp; omega)
        rw [List.length_map] at h6
        exact h6
    · exact ⟨rfl, rfl, rfl, by simp, fun k _ hk => setRow_other w g k _ (fun e => hk (by rw [e]))⟩
end Go.Proofs.Ytpdcaoagpjcgbab
