/-
  The walks of set, copyRegister and stat of package stm. They prove no statement by themselves.
-/
import Derived.Test.YtpdcaoagpjcgbabStmB
import Derived.BigQuiet
set_option linter.unusedVariables false
set_option linter.unusedSimpArgs false
namespace Go.Proofs.Ytpdcaoagpjcgbab
open Go.RowKit Stm

/-- An answer's value. -/
def ansVal (r : Ans) : Value := .agg #[.int .i64 r.code, .bool r.isNum, .int .i64 r.number, .bool r.yes, .int .i64 r.words, .bool r.going, .int .i64 r.freed]
def actVal (a : Stm.Act) : Value := .agg #[.int .i64 a.kind, .int .i64 a.t, .int .i64 a.a, .int .i64 a.b, .int .i64 a.n]
/-- What a method that returns an answer leaves. -/
def MAns (w : World) (B mb k : Nat) (ρ : Roles) (R : Ans → Mc → Prop) (e : Ending) (w' : World) : Prop :=
  ∃ (r : Ans) (c' : Mc) (m' : Mem) (ρ' : Roles), R r c' ∧ e = .returned (ansVal r) ∧ Mach w' B mb k ρ' c' m' ∧ Moved ρ w ρ' w'

set_option maxHeartbeats 1600000 in
theorem stat_any (B mb k : Nat) (ρ : Roles) (c : Mc) (m : Mem) (w : World) (h : Mach w B mb k ρ c m) (h1 : 0 ≤ c.top) (h2 : c.top ≤ 400) :
    Calls Try.prog 95 #[.pointer (some ⟨mb, 0, none⟩)] w (MAns w B mb k ρ (CStat c)) := by
  have x0 := h.blk.top
  have x1 := h.blk.going
  have hlt := h.blk.lt
  have H := Lib.hide h
  clear h
  obtain ⟨T, hT⟩ : ∃ T, c.top = T := ⟨_, rfl⟩
  obtain ⟨G, hG⟩ : ∃ G, c.coll.going = G := ⟨_, rfl⟩
  rw [hT] at x0 h1 h2
  rw [hG] at x1
  have HT := Lib.hide hT
  have HG := Lib.hide hG
  clear hT hG
  go_enter Try.func95, Try.ntmps95
  go_wp2
  go_region
  go_wp2
  refine bodyPost_ret (v := ansVal ⟨0, false, 0, false, T - 1, G, 0⟩) (by simp [results, Try.results95, go_sem, ansVal]) rfl ?_
  refine ⟨⟨0, false, 0, false, T - 1, G, 0⟩, c, m, ρ, ?_, rfl, H.out.next (by repeat (first | exact Below.refl _ _ | assumption | refine Below.drew ?_ | refine below_drewN ?_ _ | refine Below.allocs ?_ | refine Below.next ?_ (by assumption) | refine Below.setCell ?_ (by dsimp only; omega) _)), Moved.of_below (by repeat (first | exact Below.refl _ _ | assumption | refine Below.drew ?_ | refine below_drewN ?_ _ | refine Below.allocs ?_ | refine Below.next ?_ (by assumption) | refine Below.setCell ?_ (by dsimp only; omega) _))⟩
  unfold CStat
  rw [HT.out, HG.out]
  exact ⟨rfl, rfl⟩

set_option maxHeartbeats 1600000 in
theorem set_any (B mb k : Nat) (ρ : Roles) (c : Mc) (m : Mem) (kd b : Int) (t A : Nat) (n : Int) (w : World) (h : Mach w B mb k ρ c m) (ht : t < 4) (hA : A < 4) :
    Calls Try.prog 91 #[.pointer (some ⟨mb, 0, none⟩), .agg #[.int .i64 kd, .int .i64 t, .int .i64 A, .int .i64 b, .int .i64 n]] w (MAns w B mb k ρ (CSet c t A n)) := by
  have x0 := h.blk.regk t A ht hA
  have x1 := h.blk.regn t A ht hA
  have f0 := h.blk.warm (2 + t * 8 + A * 2)
  have f1 := h.blk.warm (2 + t * 8 + A * 2 + 1)
  have hlt := h.blk.lt
  have H := Lib.hide h
  clear h
  by_cases h1 : n < -1099511627776
  · have hc : CSet c t A n (.err 2) c := Ite.neg (by omega) ⟨rfl, rfl⟩
    have HC := Lib.hide hc
    clear hc
    go_enter Try.func91, Try.ntmps91
    go_wp2
    refine bodyPost_ret (v := ansVal (.err 2)) (by simp [results, Try.results91, go_sem, ansVal, Ans.err]) rfl ?_
    exact ⟨.err 2, c, m, ρ, HC.out, rfl, H.out.next (by repeat (first | exact Below.refl _ _ | assumption | refine Below.drew ?_ | refine below_drewN ?_ _ | refine Below.allocs ?_ | refine Below.next ?_ (by assumption) | refine Below.setCell ?_ (by dsimp only; omega) _)), Moved.of_below (by repeat (first | exact Below.refl _ _ | assumption | refine Below.drew ?_ | refine below_drewN ?_ _ | refine Below.allocs ?_ | refine Below.next ?_ (by assumption) | refine Below.setCell ?_ (by dsimp only; omega) _))⟩
  by_cases h2 : 1099511627776 < n
  · have hc : CSet c t A n (.err 2) c := Ite.neg (by omega) ⟨rfl, rfl⟩
    have HC := Lib.hide hc
    clear hc
    go_enter Try.func91, Try.ntmps91
    go_wp2
    refine bodyPost_ret (v := ansVal (.err 2)) (by simp [results, Try.results91, go_sem, ansVal, Ans.err]) rfl ?_
    exact ⟨.err 2, c, m, ρ, HC.out, rfl, H.out.next (by repeat (first | exact Below.refl _ _ | assumption | refine Below.drew ?_ | refine below_drewN ?_ _ | refine Below.allocs ?_ | refine Below.next ?_ (by assumption) | refine Below.setCell ?_ (by dsimp only; omega) _)), Moved.of_below (by repeat (first | exact Below.refl _ _ | assumption | refine Below.drew ?_ | refine below_drewN ?_ _ | refine Below.allocs ?_ | refine Below.next ?_ (by assumption) | refine Below.setCell ?_ (by dsimp only; omega) _))⟩
  have hc : CSet c t A n (.num n) ⟨c.xs, c.top, upd c.regs t (upd (c.regs t) A ⟨0, n⟩), c.tx, c.coll⟩ := Ite.pos ⟨by omega, by omega⟩ ⟨rfl, rfl⟩
  have HC := Lib.hide hc
  clear hc
  go_enter Try.func91, Try.ntmps91
  go_wp2
  go_region
  go_wp2
  refine bodyPost_ret (v := ansVal (.num n)) (by simp [results, Try.results91, go_sem, ansVal, Ans.num]) rfl ?_
  have h3 := H.out.setReg ht hA ⟨0, n⟩
  have h4 := Moved.put H.out (2 + t * 8 + A * 2) [.int .i64 0, .int .i64 n]
  rw [puts_two] at h3 h4
  exact ⟨.num n, _, m, ρ, HC.out, rfl, h3.next (by repeat (first | exact Below.refl _ _ | assumption | refine Below.drew ?_ | refine below_drewN ?_ _ | refine Below.allocs ?_ | refine Below.next ?_ (by assumption) | refine Below.setCell ?_ (by dsimp only; omega) _)), h4.trans (Moved.of_below (by repeat (first | exact Below.refl _ _ | assumption | refine Below.drew ?_ | refine below_drewN ?_ _ | refine Below.allocs ?_ | refine Below.next ?_ (by assumption) | refine Below.setCell ?_ (by dsimp only; omega) _)))⟩

set_option maxHeartbeats 1600000 in
theorem copyRegister_no (B mb k : Nat) (ρ : Roles) (c : Mc) (m : Mem) (kd : Int) (t A b u : Nat) (w : World) (h : Mach w B mb k ρ c m) (ht : t < 4) (hA : A < 4) (hb : b < 4) (hu : u < 4) (hne : u ≠ t) (ho : (c.tx t).isOpen = true ∨ (c.tx u).isOpen = true) :
    Calls Try.prog 92 #[.pointer (some ⟨mb, 0, none⟩), .agg #[.int .i64 kd, .int .i64 t, .int .i64 A, .int .i64 b, .int .i64 u]] w (MCode w B mb k ρ (CCopy c t A b u)) := by
  have hc : CCopy c t A b u (.err 5) c := Ite.pos ⟨hne, ho⟩ ⟨rfl, rfl⟩
  have HC := Lib.hide hc
  have x0 := h.blk.isOpen t ht
  have x1 := h.blk.isOpen u hu
  have hlt := h.blk.lt
  have H := Lib.hide h
  clear h hc
  have e1 : ((u : Int) != (t : Int)) = true := by simp; omega
  cases o1 : (c.tx t).isOpen
  · obtain o2 : (c.tx u).isOpen = true := ho.resolve_left (by rw [o1]; simp)
    rw [o1] at x0
    rw [o2] at x1
    clear o1 o2 ho hne
    go_enter Try.func92, Try.ntmps92
    go_wp2
    go_quiet (fail)
    go_wp2
    go_ret
    exact ⟨5, c, m, ρ, HC.out, rfl, H.out.next (by repeat (first | exact Below.refl _ _ | assumption | refine Below.drew ?_ | refine below_drewN ?_ _ | refine Below.allocs ?_ | refine Below.next ?_ (by assumption) | refine Below.setCell ?_ (by dsimp only; omega) _)), Moved.of_below (by repeat (first | exact Below.refl _ _ | assumption | refine Below.drew ?_ | refine below_drewN ?_ _ | refine Below.allocs ?_ | refine Below.next ?_ (by assumption) | refine Below.setCell ?_ (by dsimp only; omega) _))⟩
  · rw [o1] at x0
    clear o1 ho hne
    go_enter Try.func92, Try.ntmps92
    go_wp2
    go_quiet (fail)
    go_wp2
    go_ret
    exact ⟨5, c, m, ρ, HC.out, rfl, H.out.next (by repeat (first | exact Below.refl _ _ | assumption | refine Below.drew ?_ | refine below_drewN ?_ _ | refine Below.allocs ?_ | refine Below.next ?_ (by assumption) | refine Below.setCell ?_ (by dsimp only; omega) _)), Moved.of_below (by repeat (first | exact Below.refl _ _ | assumption | refine Below.drew ?_ | refine below_drewN ?_ _ | refine Below.allocs ?_ | refine Below.next ?_ (by assumption) | refine Below.setCell ?_ (by dsimp only; omega) _))⟩

set_option maxHeartbeats 1600000 in
theorem copyRegister_yes (B mb k : Nat) (ρ : Roles) (c : Mc) (m : Mem) (kd : Int) (t A b u : Nat) (w : World) (h : Mach w B mb k ρ c m) (ht : t < 4) (hA : A < 4) (hb : b < 4) (hu : u < 4) (ho : ¬ (u ≠ t ∧ ((c.tx t).isOpen = true ∨ (c.tx u).isOpen = true))) :
    Calls Try.prog 92 #[.pointer (some ⟨mb, 0, none⟩), .agg #[.int .i64 kd, .int .i64 t, .int .i64 A, .int .i64 b, .int .i64 u]] w (MCode w B mb k ρ (CCopy c t A b u)) := by
  have hc : CCopy c t A b u (.err 0) ⟨c.xs, c.top, upd c.regs t (upd (c.regs t) A (c.regs u b)), c.tx, c.coll⟩ := Ite.neg ho ⟨rfl, rfl⟩
  have HC := Lib.hide hc
  have x0 := h.blk.isOpen t ht
  have x1 := h.blk.isOpen u hu
  have y0 := h.blk.regk t A ht hA
  have y1 := h.blk.regn t A ht hA
  have z0 := h.blk.regk u b hu hb
  have z1 := h.blk.regn u b hu hb
  have f0 := h.blk.warm (2 + t * 8 + A * 2)
  have f1 := h.blk.warm (2 + t * 8 + A * 2 + 1)
  have hlt := h.blk.lt
  have H := Lib.hide h
  clear h hc
  obtain ⟨v, hv⟩ : ∃ v, c.regs u b = v := ⟨_, rfl⟩
  rw [hv] at HC z0 z1
  clear hv
  by_cases hne : u = t
  · subst hne
    have e1 : ((u : Int) != (u : Int)) = false := by simp
    clear ho
    go_enter Try.func92, Try.ntmps92
    go_wp2
    go_quiet (fail)
    go_wp2
    go_region
    go_wp2
    go_ret
    rw [← puts_two]
    exact ⟨0, _, m, ρ, HC.out, rfl, (H.out.next (by repeat (first | exact Below.refl _ _ | assumption | refine Below.drew ?_ | refine below_drewN ?_ _ | refine Below.allocs ?_ | refine Below.next ?_ (by assumption) | refine Below.setCell ?_ (by dsimp only; omega) _))).setReg ht hA v, (Moved.of_below (by repeat (first | exact Below.refl _ _ | assumption | refine Below.drew ?_ | refine below_drewN ?_ _ | refine Below.allocs ?_ | refine Below.next ?_ (by assumption) | refine Below.setCell ?_ (by dsimp only; omega) _))).trans (Moved.put (H.out.next (by repeat (first | exact Below.refl _ _ | assumption | refine Below.drew ?_ | refine below_drewN ?_ _ | refine Below.allocs ?_ | refine Below.next ?_ (by assumption) | refine Below.setCell ?_ (by dsimp only; omega) _))) _ _)⟩
  · have e1 : ((u : Int) != (t : Int)) = true := by simp; omega
    have o1 : (c.tx t).isOpen = false := by
      cases e : (c.tx t).isOpen
      · rfl
      · exact absurd ⟨hne, .inl e⟩ ho
    have o2 : (c.tx u).isOpen = false := by
      cases e : (c.tx u).isOpen
      · rfl
      · exact absurd ⟨hne, .inr e⟩ ho
    rw [o1] at x0
    rw [o2] at x1
    clear ho hne o1 o2
    go_enter Try.func92, Try.ntmps92
    go_wp2
    go_quiet (fail)
    go_wp2
    go_region
    go_wp2
    go_ret
    rw [← puts_two]
    exact ⟨0, _, m, ρ, HC.out, rfl, (H.out.next (by repeat (first | exact Below.refl _ _ | assumption | refine Below.drew ?_ | refine below_drewN ?_ _ | refine Below.allocs ?_ | refine Below.next ?_ (by assumption) | refine Below.setCell ?_ (by dsimp only; omega) _))).setReg ht hA v, (Moved.of_below (by repeat (first | exact Below.refl _ _ | assumption | refine Below.drew ?_ | refine below_drewN ?_ _ | refine Below.allocs ?_ | refine Below.next ?_ (by assumption) | refine Below.setCell ?_ (by dsimp only; omega) _))).trans (Moved.put (H.out.next (by repeat (first | exact Below.refl _ _ | assumption | refine Below.drew ?_ | refine below_drewN ?_ _ | refine Below.allocs ?_ | refine Below.next ?_ (by assumption) | refine Below.setCell ?_ (by dsimp only; omega) _))) _ _)⟩

theorem copyRegister_any (B mb k : Nat) (ρ : Roles) (c : Mc) (m : Mem) (kd : Int) (t A b u : Nat) (w : World) (h : Mach w B mb k ρ c m) (ht : t < 4) (hA : A < 4) (hb : b < 4) (hu : u < 4) :
    Calls Try.prog 92 #[.pointer (some ⟨mb, 0, none⟩), .agg #[.int .i64 kd, .int .i64 t, .int .i64 A, .int .i64 b, .int .i64 u]] w (MCode w B mb k ρ (CCopy c t A b u)) := by
  by_cases ho : u ≠ t ∧ ((c.tx t).isOpen = true ∨ (c.tx u).isOpen = true)
  · exact copyRegister_no B mb k ρ c m kd t A b u w h ht hA hb hu ho.1 ho.2
  · exact copyRegister_yes B mb k ρ c m kd t A b u w h ht hA hb hu ho
end Go.Proofs.Ytpdcaoagpjcgbab

