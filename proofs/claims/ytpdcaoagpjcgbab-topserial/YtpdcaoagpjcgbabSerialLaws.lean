/-
  The walk of limewashtop.TopSerial, given that of its closure. It proves no statement by itself.
-/
import Derived.Test.YtpdcaoagpjcgbabSerA
import Derived.Test.YtpdcaoagpjcgbabSerialPlace
import Derived.Test.YtpdcaoagpjcgbabPlA
set_option linter.unusedVariables false
set_option linter.unusedSimpArgs false
namespace Go.Proofs.Ytpdcaoagpjcgbab
open Go.RowKit Stm

/-- What the closure does. -/
def PlaceAny : Prop := ∀ (W0 : World) (N : Nat), W0.heap.size = N → ∀ (b3 b5 gA LA cA gX oX cX : Nat) (AL : List Stm.Act) (xs : List Ans), SC W0 b3 b5 gA LA cA gX oX cX AL xs → ∀ (S : List Stm.Act) (A : List Ans) (parts : Nat → List Nat) (opn : Nat → Nat) (v7 v8 : Value) (p : Nat → Value) (w : World),
    SM W0 N S A parts opn v7 v8 p w → ∀ t, t < 4 → (∀ i ∈ parts t, i < LA) → (parts t).length ≤ 100 → S.length ≤ 300 → A.length = S.length →
    Calls Try.prog 42 #[.int .i64 t, .pointer (some ⟨N + 2, 0, none⟩), .pointer (some ⟨N, 0, none⟩), .pointer (some ⟨b3, 0, none⟩), .pointer (some ⟨N + 1, 0, none⟩), .pointer (some ⟨b5, 0, none⟩)] w fun e w' =>
      e = .returned (.tuple #[]) ∧ ∃ v7' v8', SM W0 N (S ++ (parts t).map (actAt AL)) (A ++ (parts t).map (ansAt xs)) (upd parts t []) opn v7' v8' (upd p t (.slice none 0 0)) w'

theorem fit_shared : ∀ a ∈ sharedActs, Fit4 a := by
  intro a ha
  simp [sharedActs, shared6, copies] at ha
  unfold Fit4
  rcases ha with rfl | rfl | rfl | rfl | rfl | rfl | rfl | rfl | rfl | rfl | rfl | rfl <;> simp
theorem fit_acts (R : Nat → Nat → Int) (k : Nat) : ∀ a ∈ actsTo (4 : Nat) R k, Fit4 a := by
  intro a ha
  unfold actsTo at ha
  obtain ⟨j, _, rfl⟩ := List.mem_map.1 ha
  have h1 := pick_lt (R j 3) ((4 : Nat) : Int) (by omega)
  have h2 := pick_lt ((R j 2).tdiv 4) ((4 : Nat) : Int) (by omega)
  unfold mkAct mkActK Fit4
  repeat' split
  all_goals
    dsimp only
    exact ⟨by omega, by omega, fun h => by omega⟩
theorem fit_aborts : ∀ a ∈ aborts 4, Fit4 a := by
  intro a ha
  unfold aborts at ha
  obtain ⟨i, hi, rfl⟩ := List.mem_map.1 ha
  have := List.mem_range.1 hi
  unfold Fit4
  dsimp only
  exact ⟨by omega, by omega, fun h => by omega⟩

/-- The script in its variable. -/
structure VarC (w : World) (b3 : Nat) (v : Value) (l : List Stm.Act) (wr : World) : Prop where
  lt : b3 < wr.heap.size
  ge : w.heap.size ≤ b3
  box : wr.heap[b3]? = some (.cells #[v] 61 (0, 0))
  own : OwnC wr w.heap.size v l
  bel : Below w.heap.size w wr

theorem wpList_append_var {ops : Array Oper} {rest : List Oper} {o : Oper} {a : Go.Act} {Q : Exit → Go.Act → World → Prop} (W wr : World) (b3 : Nat) (B : Array Value) (t : TypeId) (hgd : o.guard = none) (s x : Operand)
    (ho : o.op = .call { callee := .builtin .append, args := #[s, x], argTypes := #[61, 61] }) (v : Value) (l : List Stm.Act) (r : Stm.Act)
    (hs : a.eval s = v) (hB : B = (actCells r).toArray) (hx : a.eval x = .slice (some ⟨wr.heap.size, 0, none⟩) 1 1) (hl : VarC W b3 v l wr) (hn : l.length + 1 ≤ 1000)
    (h : ∀ g n c w', w'.heap[b3]? = wr.heap[b3]? → b3 < w'.heap.size → OwnC w' W.heap.size (.slice (some ⟨g, 0, none⟩) n c) (l ++ [r]) → Below W.heap.size W w' → wpList Try.prog ops Q rest (a.put o.dst (.slice (some ⟨g, 0, none⟩) n c)) w') : wpList Try.prog ops Q (o :: rest) a (wr.alloc (.cells B t)) := by
  obtain ⟨iA, hiA, hA0, hA1, hA2⟩ := info_parts Try.actInfo
  subst hB
  have hbs := hl.bel.size
  refine wpList_append_at _ hgd s x 61 ho W.heap.size 71 iA _ 5 40 Try.underlying61 hiA hA0 hA1 hA2 rfl (by decide) v l.length (ccells l) hs (World.ownsRow.alloc hl.own _) ⟨wr.heap.size, 0, none⟩ 1 1 (actCells r) hx rfl (act_new wr r _) ?_ ?_ ?_ ?_ ?_
  · intro u hu; simp [actCells] at hu; rcases hu with rfl | rfl | rfl | rfl | rfl <;> rfl
  · unfold maxLen; omega
  · omega
  · simp; omega
  · intro v' w' h2 hg2 _ _
    have hvb : ∀ g, v.ownBlock = some g → W.heap.size ≤ g := fun g hg => (World.ownsRow.lt hl.own g hg).1
    have hsz : wr.heap.size + 1 ≤ w'.heap.size := by have h9 := hg2.size; simpa using h9
    have h3 : OwnC w' W.heap.size v' (l ++ [r]) := by unfold OwnC; rw [ccells_append, ccells_one, List.length_append]; exact h2
    obtain ⟨g, cap, cur, e, _⟩ := h3.2.resolve_left (fun h => by simp at h)
    subst e
    have hlt := hl.lt
    refine h g _ cap w' ?_ (by omega) h3 ⟨hg2.os.trans hl.bel.os, hg2.tape.trans hl.bel.tape, hg2.output.trans hl.bel.output, by omega, fun k hk => ?_⟩
    · rw [hg2.block b3 (by simp; omega) (fun e => by
        obtain ⟨c1, h1⟩ := row_type hl.own e.symm
        rw [hl.box] at h1
        simp at h1), Below.heap_alloc _ _ _ (by omega)]
    · rw [hg2.block k (by simp; omega) (fun e => by have := hvb k e.symm; omega), Below.heap_alloc _ _ _ (by omega)]
      exact hl.bel.block k hk
theorem SM.start (W0 : World) : SM W0 W0.heap.size [] [] (fun _ => []) (fun _ => 0) (.slice none 0 0) (.slice none 0 0) (fun _ => .slice none 0 0)
    ((((W0.alloc (.cells #[.slice none 0 0] 61)).alloc (.cells #[.slice none 0 0] 62)).alloc (.cells #[.slice none 0 0, .slice none 0 0, .slice none 0 0, .slice none 0 0] 81)).alloc (.cells #[.int .i64 0, .int .i64 0, .int .i64 0, .int .i64 0] 82)) := by
  have h1 := heap_alloc_new W0 (.cells #[.slice none 0 0] 61)
  have s1 : (W0.alloc (.cells #[.slice none 0 0] 61)).heap.size = W0.heap.size + 1 := by simp
  generalize hX1 : W0.alloc (.cells #[.slice none 0 0] 61) = X1 at h1 s1 ⊢
  have b1 : Below W0.heap.size W0 X1 := by rw [← hX1]; exact (by repeat (first | exact Below.refl _ _ | assumption | refine Below.drew ?_ | refine below_drewN ?_ _ | refine Below.allocs ?_ | refine Below.next ?_ (by assumption) | refine Below.setCell ?_ (by dsimp only; omega) _))
  have h2 := heap_alloc_new X1 (.cells #[.slice none 0 0] 62)
  have k2 : ∀ k, k < X1.heap.size → (X1.alloc (.cells #[.slice none 0 0] 62)).heap[k]? = X1.heap[k]? := fun k hk => Below.heap_alloc _ _ _ hk
  have s2 : (X1.alloc (.cells #[.slice none 0 0] 62)).heap.size = W0.heap.size + 2 := by simp [s1]
  have b2 : Below X1.heap.size X1 (X1.alloc (.cells #[.slice none 0 0] 62)) := (by repeat (first | exact Below.refl _ _ | assumption | refine Below.drew ?_ | refine below_drewN ?_ _ | refine Below.allocs ?_ | refine Below.next ?_ (by assumption) | refine Below.setCell ?_ (by dsimp only; omega) _))
  generalize X1.alloc (.cells #[.slice none 0 0] 62) = X2 at h2 s2 k2 b2 ⊢
  have h3 := heap_alloc_new X2 (.cells #[.slice none 0 0, .slice none 0 0, .slice none 0 0, .slice none 0 0] 81)
  have k3 : ∀ k, k < X2.heap.size → (X2.alloc (.cells #[.slice none 0 0, .slice none 0 0, .slice none 0 0, .slice none 0 0] 81)).heap[k]? = X2.heap[k]? := fun k hk => Below.heap_alloc _ _ _ hk
  have s3 : (X2.alloc (.cells #[.slice none 0 0, .slice none 0 0, .slice none 0 0, .slice none 0 0] 81)).heap.size = W0.heap.size + 3 := by simp [s2]
  have b3 : Below X2.heap.size X2 (X2.alloc (.cells #[.slice none 0 0, .slice none 0 0, .slice none 0 0, .slice none 0 0] 81)) := (by repeat (first | exact Below.refl _ _ | assumption | refine Below.drew ?_ | refine below_drewN ?_ _ | refine Below.allocs ?_ | refine Below.next ?_ (by assumption) | refine Below.setCell ?_ (by dsimp only; omega) _))
  generalize X2.alloc (.cells #[.slice none 0 0, .slice none 0 0, .slice none 0 0, .slice none 0 0] 81) = X3 at h3 s3 k3 b3 ⊢
  have h4 := heap_alloc_new X3 (.cells #[.int .i64 0, .int .i64 0, .int .i64 0, .int .i64 0] 82)
  have k4 : ∀ k, k < X3.heap.size → (X3.alloc (.cells #[.int .i64 0, .int .i64 0, .int .i64 0, .int .i64 0] 82)).heap[k]? = X3.heap[k]? := fun k hk => Below.heap_alloc _ _ _ hk
  have s4 : (X3.alloc (.cells #[.int .i64 0, .int .i64 0, .int .i64 0, .int .i64 0] 82)).heap.size = W0.heap.size + 4 := by simp [s3]
  have b4 : Below X3.heap.size X3 (X3.alloc (.cells #[.int .i64 0, .int .i64 0, .int .i64 0, .int .i64 0] 82)) := (by repeat (first | exact Below.refl _ _ | assumption | refine Below.drew ?_ | refine below_drewN ?_ _ | refine Below.allocs ?_ | refine Below.next ?_ (by assumption) | refine Below.setCell ?_ (by dsimp only; omega) _))
  generalize X3.alloc (.cells #[.int .i64 0, .int .i64 0, .int .i64 0, .int .i64 0] 82) = X4 at h4 s4 k4 b4 ⊢
  rw [s1] at h2
  rw [s2] at h3
  rw [s3] at h4
  have bb := Below.step (Below.step (Below.step b1 (Below.mono b2 b1.size)) (Below.mono b3 (by omega))) (Below.mono b4 (by omega))
  refine ⟨by omega, bb, ?_, ?_, ?_, h4, ⟨rfl, .inl ⟨rfl, rfl⟩⟩, ⟨rfl, .inl ⟨rfl, rfl⟩⟩, fun t _ => ⟨rfl, .inl ⟨rfl, rfl⟩⟩, fun t u _ _ _ g hg => (by cases hg)⟩
  · rw [k4 _ (by omega), k3 _ (by omega), k2 _ (by omega)]; exact h1
  · rw [k4 _ (by omega), k3 _ (by omega)]; exact h2
  · rw [k4 _ (by omega)]; exact h3
theorem VarC.stored {w wr w' : World} {b3 : Nat} {v v' : Value} {l l' : List Stm.Act} (h : VarC w b3 v l wr) (hb : w'.heap[b3]? = wr.heap[b3]?) (hlt : b3 < w'.heap.size) (ho : OwnC w' w.heap.size v' l') (hbel : Below w.heap.size w w') : VarC w b3 v' l' (w'.setCell ⟨b3, 0, none⟩ v') := by
  refine ⟨by simpa [World.setCell] using hlt, h.ge, ?_, ownsRow_kept ho (fun g hg => Below.heap_setCell _ _ _ _ (fun e => ?_)), hbel.setCell h.ge _⟩
  · have := heap_setCell_same w' b3 0 #[v] 61 v' (by rw [hb]; exact h.box)
    simpa using this
  · obtain ⟨c1, h1⟩ := row_type ho hg
    have e' : g = b3 := e
    rw [e', hb, h.box] at h1
    simp at h1

section
variable {AL : List Stm.Act} {xs : List Ans} {σ : SerSt Nat} {i : Nat} {r : Stm.Act} {a : Ans} {tn : Nat}
theorem serStep_skip (hr : actAt AL i = r) (ha : ansAt xs i = a) (h1 : ¬((r.kind = 3 ∧ a.code = 0) ∨ a.code = 6)) (h2 : a.code ≠ 0) : serStep (actAt AL) (ansAt xs) σ i = ⟨σ.placed, σ.parts, σ.opn⟩ := by
  subst hr ha
  unfold serStep
  dsimp only
  rw [if_neg h1, if_pos h2]
theorem serStep_begin (hr : actAt AL i = r) (ha : ansAt xs i = a) (ht : r.t = (tn : Int)) (hk : r.kind = 1) (h0 : a.code = 0) : serStep (actAt AL) (ansAt xs) σ i = ⟨σ.placed, upd σ.parts tn (σ.parts tn ++ [i]), upd σ.opn tn (σ.parts tn).length⟩ := by
  subst hr ha
  unfold serStep
  dsimp only
  rw [if_neg (by omega), if_neg (by omega), if_pos hk, ht, Int.toNat_natCast]
theorem serStep_copy {nn : Nat} (hr : actAt AL i = r) (ha : ansAt xs i = a) (ht : r.t = (tn : Int)) (hk : r.kind = 8) (hn : r.n = (nn : Int)) (hne : nn ≠ tn) (h0 : a.code = 0) : serStep (actAt AL) (ansAt xs) σ i = ⟨σ.placed ++ σ.parts nn ++ (σ.parts tn ++ [i]), upd (upd σ.parts nn []) tn [], σ.opn⟩ := by
  subst hr ha
  unfold serStep
  dsimp only
  rw [if_neg (by omega), if_neg (by omega), if_neg (by omega), if_pos ⟨hk, by omega⟩, ht, hn, Int.toNat_natCast, Int.toNat_natCast]
theorem serStep_commit (hr : actAt AL i = r) (ha : ansAt xs i = a) (ht : r.t = (tn : Int)) (hk : r.kind = 2) (h0 : a.code = 0) : serStep (actAt AL) (ansAt xs) σ i = ⟨σ.placed ++ (σ.parts tn ++ [i]), upd σ.parts tn [], σ.opn⟩ := by
  subst hr ha
  unfold serStep
  dsimp only
  rw [if_neg (by omega), if_neg (by omega), if_neg (by omega), if_neg (by omega), if_pos hk, ht, Int.toNat_natCast]
theorem serStep_else (hr : actAt AL i = r) (ha : ansAt xs i = a) (ht : r.t = (tn : Int)) (h1 : r.kind ≠ 1) (h3 : r.kind ≠ 3) (h8 : ¬(r.kind = 8 ∧ r.n ≠ r.t)) (h2 : r.kind ≠ 2) (h0 : a.code = 0) : serStep (actAt AL) (ansAt xs) σ i = ⟨σ.placed, upd σ.parts tn (σ.parts tn ++ [i]), σ.opn⟩ := by
  subst hr ha
  unfold serStep
  dsimp only
  rw [if_neg (by omega), if_neg (by omega), if_neg h1, if_neg h8, if_neg h2, ht, Int.toNat_natCast]
theorem SM.next {W0 : World} {N : Nat} {S : List Stm.Act} {A : List Ans} {parts : Nat → List Nat} {opn : Nat → Nat} {v7 v8 : Value} {p : Nat → Value} {wr : World} (h : SM W0 N S A parts opn v7 v8 p wr) {pl : List Nat} {ps : Nat → List Nat} {op : Nat → Nat}
    (hn : serTo AL xs (i + 1) = serStep (actAt AL) (ansAt xs) σ i) (hs : serStep (actAt AL) (ansAt xs) σ i = ⟨pl, ps, op⟩) (hS : S = pl.map (actAt AL)) (hA : A = pl.map (ansAt xs)) (hp : parts = ps) (ho : opn = op) :
    SM W0 N ((serTo AL xs (i + 1)).placed.map (actAt AL)) ((serTo AL xs (i + 1)).placed.map (ansAt xs)) (serTo AL xs (i + 1)).parts (serTo AL xs (i + 1)).opn v7 v8 p wr := by
  rw [hn, hs]
  subst hS hA hp ho
  exact h
theorem SerOk.part (h : SerOk σ i) {t : Nat} (ht : t < 4) : (σ.parts t).length ≤ i := by
  have := h.size
  rcases four ht with rfl | rfl | rfl | rfl <;> omega
/-- What is placed once t threads' acts are. -/
def endTo (σ : SerSt Nat) : Nat → List Nat
  | 0 => σ.placed
  | t + 1 => endTo σ t ++ σ.parts t
def cleared (σ : SerSt Nat) (t : Nat) : Nat → List Nat := fun u => if u < t then [] else σ.parts u
theorem cleared_zero (σ : SerSt Nat) : cleared σ 0 = σ.parts := by funext u; simp [cleared]
theorem cleared_at (σ : SerSt Nat) (t : Nat) : cleared σ t t = σ.parts t := by simp [cleared]
theorem cleared_succ (σ : SerSt Nat) (t : Nat) : upd (cleared σ t) t [] = cleared σ (t + 1) := by
  funext u
  unfold cleared upd
  by_cases h : u = t
  · subst h; simp
  · rw [if_neg h]
    dsimp only
    by_cases h2 : u < t
    · rw [if_pos h2, if_pos (by omega)]
    · rw [if_neg h2, if_neg (by omega)]
theorem serial_fin {A0 AL : List Stm.Act} {xs ys : List Ans} {c c' : Mc} {lf lf' : List Nat} {n : Nat} (hA : A0 ++ aborts 4 = AL) (hn : AL.length = n) (h : RunC 400 AL xs c lf) (h' : RunC 400 ((serEnd (serTo AL xs n)).map (actAt AL)) ys c' lf')
    (hl : n ≤ 79) (hs : Small AL) (hc : ∀ a ∈ AL, ¬ Stm.Clean a) (hf : ∀ a ∈ AL, Fit4 a) : ys = (serEnd (serTo AL xs n)).map (ansAt xs) := by
  subst hn hA
  exact serial_same h h' hl hs hc hf
theorem endTo_length (h : SerOk σ i) {t : Nat} (ht : t ≤ 4) : (endTo σ t).length ≤ i := by
  have := h.size
  obtain rfl | rfl | rfl | rfl | rfl : t = 0 ∨ t = 1 ∨ t = 2 ∨ t = 3 ∨ t = 4 := by omega
  all_goals
    simp only [endTo, List.length_append]
    omega
end

set_option maxHeartbeats 6400000 in
set_option maxRecDepth 100000 in
theorem topSerial.walk0 (hPl : PlaceAny) (a0 : Option Addr) (n0 cap0 : Nat) (R : Nat → Nat → Int) (_ : n0 ≤ cap0) (_ : cap0 ≤ maxLen) (w : World) (hR : Recs w a0 n0 4 R) :
    Calls Try.prog 11 #[.slice a0 n0 cap0] w fun e w' => e = .returned (.bool true) ∧ Below w.heap.size w w' := by
  have CA := Lib.hide (show ∀ w', Below w.heap.size w w' → Calls Try.prog 40 #[.slice a0 n0 cap0, .int .i64 45, .int .i64 4] w' (PlainPost w' (actsTo (4 : Nat) R (min n0 45))) from fun w' h => plain_any a0 n0 cap0 R 45 4 w' (hR.below h) (by omega) (by omega) (by omega))
  obtain ⟨P, hP⟩ : ∃ P, P = plainOf (actsTo (4 : Nat) R (min n0 45)) := ⟨_, rfl⟩
  have hPlen : P.length ≤ 45 := by rw [hP]; have := plainOf_length (actsTo (4 : Nat) R (min n0 45)); rw [actsTo_length] at this; omega
  have HSM := Lib.hide (show Small P by rw [hP]; exact (small_acts _ _ _).plain)
  have HCP := Lib.hide (show ∀ a ∈ P, ¬ Stm.Clean a by rw [hP]; exact fun a ha => plainOf_plain ha)
  have HFP := Lib.hide (show ∀ a ∈ P, Fit4 a by rw [hP]; exact fun a ha => fit_acts R _ a (plainOf_sub ha))
  unfold PlainPost at CA
  rw [← hP] at CA
  obtain ⟨pl, hpl⟩ : ∃ pl, P.length = pl := ⟨_, rfl⟩
  rw [hpl] at CA hPlen
  obtain ⟨L, hL⟩ : ∃ L, L = 12 + pl := ⟨_, rfl⟩
  have hL1 : 12 ≤ L := by omega
  have hL2 : L ≤ 57 := by omega
  have HLL := Lib.hide (show (sharedActs ++ P).length = L by rw [List.length_append, hpl, hL]; rfl)
  have HKL := Lib.hide (show sharedActs.length + P.length ≤ 1000 by rw [hpl]; have : sharedActs.length = 12 := rfl; omega)
  have HSA := Lib.hide (show Small (sharedActs ++ P) from small_shared.append HSM.out)
  have HFA := Lib.hide (show ∀ a ∈ sharedActs ++ P, Fit4 a from fun a ha => (List.mem_append.1 ha).elim (fit_shared a) (HFP.out a))
  have HCA := Lib.hide (show ∀ a ∈ sharedActs ++ P, ¬ Stm.Clean a from fun a ha => by
    rcases List.mem_append.1 ha with h | h
    · simp [sharedActs, shared6, copies] at h
      unfold Stm.Clean
      rcases h with rfl | rfl | rfl | rfl | rfl | rfl | rfl | rfl | rfl | rfl | rfl | rfl <;> simp
    · exact HCP.out a h)
  generalize hALe : sharedActs ++ P = AL0 at HLL HSA HCA HFA
  have HALE := Lib.hide hALe
  have HPL := Lib.hide hPl
  obtain ⟨iA, hiA, hA0, hA1, hA2⟩ := info_parts Try.actInfo
  clear hR hL hP hpl hALe HCP HFP HSM hPl
  go_enter Try.func11, Try.ntmps11
  go_wp2_with fail
  refine (shared_any w).mono ?_
  rintro e w1 ⟨a1, cp1, rfl, ho1, hb1⟩
  have HO1 := Lib.hide ho1
  have HB1 := Lib.hide hb1
  clear ho1 hb1
  go_wp2_with fail
  refine (CA.out w1 HB1.out).mono ?_
  rintro e w2 ⟨a2, cp2, rfl, ho2, hb2⟩
  have HO2 := Lib.hide (show OwnC w2 w.heap.size (.slice a2 pl cp2) P from ⟨ho2.1, ho2.2.imp id (fun ⟨g, cap, cur, e, hb, hr⟩ => ⟨g, cap, cur, e, Nat.le_trans HB1.out.size hb, hr⟩)⟩)
  have HO1' := Lib.hide (HO1.out.below hb2)
  have HB2 := Lib.hide (Below.step HB1.out (Below.mono hb2 HB1.out.size))
  clear ho2 hb2 HO1 CA
  go_wp2_with (at_builtin; refine wpList_append_acts _ rfl (.tmp 18) (.tmp 20) rfl w.heap.size _ _ sharedActs P rfl rfl HO1'.out HO2.out HKL.out HB2.out.size ?_)
  intro v3 w3 ho3 hb3
  rw [HALE.out] at ho3
  obtain ⟨g, cp, cur, hv3, _⟩ := ho3.2.resolve_left (fun h => by have := HLL.out; omega)
  subst hv3
  rw [HLL.out] at ho3 ⊢
  have hX3 : Below w3.heap.size w3 (w3.alloc (.cells #[.slice (some ⟨g, 0, none⟩) L cp] 61)) := (by repeat (first | exact Below.refl _ _ | assumption | refine Below.drew ?_ | refine below_drewN ?_ _ | refine Below.allocs ?_ | refine Below.next ?_ (by assumption) | refine Below.setCell ?_ (by dsimp only; omega) _))
  have hB3 := Below.step HB2.out hb3
  have hV : VarC w w3.heap.size (.slice (some ⟨g, 0, none⟩) L cp) (AL0 ++ aborts 0) (w3.alloc (.cells #[.slice (some ⟨g, 0, none⟩) L cp] 61)) := ⟨by simp, hB3.size, heap_alloc_new _ _, by simpa [aborts] using ho3.below hX3, Below.step hB3 (Below.mono hX3 hB3.size)⟩
  have HV := Lib.hide hV
  clear ho3 hb3 HO1' HO2 HB2 HB1 hX3 hV hB3
  go_wp2
  generalize w3.alloc (.cells #[.slice (some ⟨g, 0, none⟩) L cp] 61) = X3 at HV ⊢
  generalize w3.heap.size = b3 at HV ⊢
  go_loopw [22] (fun u wr => ∃ (t : Nat) (v : Value), t ≤ 4 ∧ u = .int .i64 t ∧ VarC w b3 v (AL0 ++ aborts t) wr) (fun u _ => 4 - (intOf u).toNat)
  case atStart => exact ⟨0, _, by omega, rfl, HV.out⟩
  case round =>
    obtain ⟨t, v, ht, rfl, hvar⟩ := hrel
    have hlen : (AL0 ++ aborts t).length = L + t := by rw [List.length_append, HLL.out, aborts_length]
    have HLE := Lib.hide hlen
    obtain ⟨g1, c1, cur1, rfl, _⟩ := hvar.own.2.resolve_left (fun h => by omega)
    rw [hlen] at hvar
    have y3 := cell_of_one hvar.box
    have y3f := frozen_of_row wr b3 0 _ _ hvar.box
    have HVR := Lib.hide hvar
    clear hvar hlen
    by_cases h4 : t < 4
    · have i1 : (t : Int) < 4 := by omega
      go_wp2_with (at_builtin; refine wpList_append_var w wr b3 _ _ rfl (.tmp 25) (.tmp 28) rfl _ (AL0 ++ aborts t) ⟨3, (t : Int), 0, 0, 0⟩ rfl rfl rfl HVR.out (by rw [HLE.out]; omega) ?_)
      intro G n c w4 hbx hlt4 ho4 hb4
      have HF := Lib.hide (HVR.out.stored (l' := AL0 ++ aborts (t + 1)) hbx hlt4 (by rw [aborts_succ]; simpa only [List.append_assoc] using ho4) hb4)
      have z3 := (World.cell?_of_block (a := ⟨b3, 0, none⟩) hbx).trans y3
      have z3f := (World.frozen?_of_block (a := ⟨b3, 0, none⟩) hbx).trans y3f
      clear hbx hlt4 ho4 hb4 y3 y3f
      go_wp2
      go_roundw
      case rel => exact ⟨t + 1, _, by omega, by go_num, HF.out⟩
      case measure => simp [intOf]; omega
    · obtain rfl : t = 4 := by omega
      generalize hAL : AL0 ++ aborts 4 = AL at HVR HLE
      have HAL := Lib.hide hAL
      clear hAL h4
      go_wp2_with fail
      refine (topRun_any AL _ (L + 4) c1 wr HLE.out (by omega) HVR.out.own.reads.2).mono ?_
      rintro e w5 ⟨xs, cx, lx, ax, kx, rfl, hxl, hxc, hxa, hxk, hb5⟩
      have c3w : w5.cell? ⟨b3, 0, none⟩ = some (.slice (some ⟨g1, 0, none⟩) (L + 4) c1) := (hb5.cell (p := ⟨b3, 0, none⟩) HVR.out.lt).trans y3
      have lt5 : b3 < w5.heap.size := cell_lt (p := ⟨b3, 0, none⟩) c3w
      obtain ⟨bx, ox, rfl, _⟩ := hxa.resolve_left (fun h => by rw [h, List.length_nil] at hxl; omega)
      have hX5 : Below w5.heap.size w5 (w5.alloc (.cells #[.slice (some ⟨bx, ox, none⟩) (L + 4) kx] 62)) := (by repeat (first | exact Below.refl _ _ | assumption | refine Below.drew ?_ | refine below_drewN ?_ _ | refine Below.allocs ?_ | refine Below.next ?_ (by assumption) | refine Below.setCell ?_ (by dsimp only; omega) _))
      have hSC : SC (w5.alloc (.cells #[.slice (some ⟨bx, ox, none⟩) (L + 4) kx] 62)) b3 w5.heap.size g1 (L + 4) c1 bx ox kx AL xs := ⟨(hX5.cell (p := ⟨b3, 0, none⟩) lt5).trans c3w, (BoxL.new w5 [.slice (some ⟨bx, ox, none⟩) (L + 4) kx] _).cell 0 _ rfl, HLE.out, hxl, by omega, (HVR.out.own.reads.2.below hb5).below hX5, hxa.below hX5⟩
      have hB5 := Below.step HVR.out.bel (Below.mono hb5 (Nat.le_trans HVR.out.ge (Nat.le_of_lt HVR.out.lt)))
      have hB5' := Below.step hB5 (Below.mono hX5 hB5.size)
      have hsz5 : (w5.alloc (.cells #[.slice (some ⟨bx, ox, none⟩) (L + 4) kx] 62)).heap.size = w5.heap.size + 1 := by simp
      have hms := SM.start (w5.alloc (.cells #[.slice (some ⟨bx, ox, none⟩) (L + 4) kx] 62))
      rw [hsz5] at hms
      have c3z : (((((w5.alloc (.cells #[.slice (some ⟨bx, ox, none⟩) (L + 4) kx] 62)).alloc (.cells #[.slice none 0 0] 61)).alloc (.cells #[.slice none 0 0] 62)).alloc (.cells #[.slice none 0 0, .slice none 0 0, .slice none 0 0, .slice none 0 0] 81)).alloc (.cells #[.int .i64 0, .int .i64 0, .int .i64 0, .int .i64 0] 82)).cell? ⟨b3, 0, none⟩ = some (.slice (some ⟨g1, 0, none⟩) (L + 4) c1) := ((show Below w5.heap.size w5 (((((w5.alloc (.cells #[.slice (some ⟨bx, ox, none⟩) (L + 4) kx] 62)).alloc (.cells #[.slice none 0 0] 61)).alloc (.cells #[.slice none 0 0] 62)).alloc (.cells #[.slice none 0 0, .slice none 0 0, .slice none 0 0, .slice none 0 0] 81)).alloc (.cells #[.int .i64 0, .int .i64 0, .int .i64 0, .int .i64 0] 82)) from (by repeat (first | exact Below.refl _ _ | assumption | refine Below.drew ?_ | refine below_drewN ?_ _ | refine Below.allocs ?_ | refine Below.next ?_ (by assumption) | refine Below.setCell ?_ (by dsimp only; omega) _))).cell (p := ⟨b3, 0, none⟩) lt5).trans c3w
      have HXC := Lib.hide hxc
      have HXL := Lib.hide hxl
      have HMS := Lib.hide hms
      have HSC := Lib.hide hSC
      have HBW := Lib.hide hB5'
      have HSZ := Lib.hide hsz5
      have HLT5 := Lib.hide lt5
      clear hxc hxl hms hSC hB5 hB5' hsz5 hX5 hxa hb5 HVR HV y3 y3f c3w lt5
      go_wp2
      clear c3z
      obtain ⟨XX, hXX⟩ : ∃ XX, XX = (((((w5.alloc (.cells #[.slice (some ⟨bx, ox, none⟩) (L + 4) kx] 62)).alloc (.cells #[.slice none 0 0] 61)).alloc (.cells #[.slice none 0 0] 62)).alloc (.cells #[.slice none 0 0, .slice none 0 0, .slice none 0 0, .slice none 0 0] 81)).alloc (.cells #[.int .i64 0, .int .i64 0, .int .i64 0, .int .i64 0] 82)) := ⟨_, rfl⟩
      rw [← hXX] at HMS ⊢
      clear hXX
      generalize w5.alloc (.cells #[.slice (some ⟨bx, ox, none⟩) (L + 4) kx] 62) = W0 at HMS HSC HBW HSZ
      generalize w5.heap.size = b5 at HMS HSC HSZ HLT5 ⊢
      rw [show b5 + 1 + 1 + 1 + 1 = (b5 + 1) + 3 from rfl, show b5 + 1 + 1 + 1 = (b5 + 1) + 2 from rfl]
      generalize b5 + 1 = N at HMS HSZ ⊢
      have HFA4 := Lib.hide (show ∀ a ∈ AL, Fit4 a by rw [← HAL.out]; exact fun a ha => (List.mem_append.1 ha).elim (HFA.out a) (fit_aborts a))
      have HCA4 := Lib.hide (show ∀ a ∈ AL, ¬ Stm.Clean a by
        rw [← HAL.out]
        intro a ha
        rcases List.mem_append.1 ha with h | h
        · exact HCA.out a h
        · unfold aborts at h
          obtain ⟨i, _, rfl⟩ := List.mem_map.1 h
          unfold Stm.Clean
          dsimp only
          omega)
      have HSA4 := Lib.hide (show Small AL by
        rw [← HAL.out]
        refine HSA.out.append (fun a ha hk => ?_)
        unfold aborts at ha
        obtain ⟨i, _, rfl⟩ := List.mem_map.1 ha
        simp at hk)
      have HRA := Lib.hide (show ∃ s, RunA AS.init AL xs s by
        obtain ⟨⟨s, _, h1, _, _⟩, _⟩ := sim_run HXC.out (by rw [HLE.out]; omega) HSA4.out (Nat.le_trans (news_le _) (by rw [HLE.out]; omega))
        exact ⟨s, h1⟩)
      have HOK := Lib.hide (fun (i : Nat) (hi : i ≤ L + 4) => serOk (xs := xs) HFA4.out i (by rw [HLE.out]; exact hi))
      go_loopw [41] (fun u wr => ∃ (i : Nat) (v7 v8 : Value) (p : Nat → Value), i ≤ L + 4 ∧ u = .int .i64 i ∧ SM W0 N ((serTo AL xs i).placed.map (actAt AL)) ((serTo AL xs i).placed.map (ansAt xs)) (serTo AL xs i).parts (serTo AL xs i).opn v7 v8 p wr) (fun u _ => L + 4 - (intOf u).toNat)
      case atStart => exact ⟨0, _, _, _, by omega, rfl, HMS.out⟩
      case round =>
        obtain ⟨i, z7, z8, p, hiL, rfl, hm⟩ := hrel
        have HMM := Lib.hide hm
        by_cases hlt : i < L + 4
        · have hbw : Below W0.heap.size W0 wr := by rw [HSZ.out]; exact hm.bel
          obtain ⟨r, hr⟩ : ∃ r, AL[i]? = some r := ⟨AL[i]'(by rw [HLE.out]; exact hlt), List.getElem?_eq_getElem _⟩
          obtain ⟨a, ha⟩ : ∃ a, xs[i]? = some a := ⟨xs[i]'(by rw [HXL.out]; exact hlt), List.getElem?_eq_getElem _⟩
          have haq : actAt AL i = r := by unfold actAt; rw [List.getD_eq_getElem?_getD, hr]; rfl
          have hxq : ansAt xs i = a := by unfold ansAt; rw [List.getD_eq_getElem?_getD, ha]; rfl
          have hfit := HFA4.out r (List.mem_of_getElem? hr)
          obtain ⟨_, _, eb, e0, e1, e2, e3, e4⟩ := (HSC.out.acts.below hbw).cells hr
          injection eb with eb
          injection eb with eb1 eb2
          subst eb1 eb2
          rw [Nat.zero_add] at e0 e1 e2 e3 e4
          obtain ⟨_, _, eb, _, hcx⟩ := (HSC.out.answers.below hbw).resolve_left (fun h => by rw [h] at ha; simp at ha)
          injection eb with eb
          injection eb with eb1 eb2
          subst eb1 eb2
          have hx0 := hcx i a ha 0 _ rfl
          rw [Nat.add_zero] at hx0
          have lt5 : b5 < W0.heap.size := cell_lt (p := ⟨b5, 0, none⟩) HSC.out.c5
          have c5 := (hbw.cell (p := ⟨b5, 0, none⟩) lt5).trans HSC.out.c5
          obtain ⟨r0, r1, r2, r3, r4⟩ := r
          obtain ⟨a0, a1, a2, a3, a4, a5, a6⟩ := a
          obtain ⟨f1, f2, f3⟩ := hfit
          dsimp only at f1 f2 f3 e0 e1 e2 e3 e4 hx0
          obtain ⟨tn, rfl⟩ := Int.eq_ofNat_of_zero_le f1
          have ht4 : tn < 4 := by omega
          have i4 : (tn : Int) < 4 := by omega
          have hX : Below wr.heap.size wr (wr.alloc (.cells #[.int .i64 r0, .int .i64 (tn : Int), .int .i64 r2, .int .i64 r3, .int .i64 r4] 71)) := (by repeat (first | exact Below.refl _ _ | assumption | refine Below.drew ?_ | refine below_drewN ?_ _ | refine Below.allocs ?_ | refine Below.next ?_ (by assumption) | refine Below.setCell ?_ (by dsimp only; omega) _))
          have hmX := hm.below hX
          have hok := HOK.out i (by omega)
          have hnx := serTo_succ AL xs i
          have hopn := fun (he : ((actAt AL i).kind = 3 ∧ (ansAt xs i).code = 0) ∨ (ansAt xs i).code = 6) => (let ⟨_, h⟩ := HRA.out; ended_opn h HCA4.out (by rw [HLE.out]; exact hlt) he)
          rw [haq, hxq] at hopn
          generalize serTo AL xs i = σ at hm hmX hok hnx hopn HMM
          dsimp only at hopn
          rw [Int.toNat_natCast] at hopn
          have hlt5 : b5 < wr.heap.size := Nat.lt_of_lt_of_le lt5 hbw.size
          have ltX : bx < wr.heap.size := cell_lt hx0
          have c5X := (hX.cell (p := ⟨b5, 0, none⟩) hlt5).trans c5
          have hx0X := (hX.cell (p := ⟨bx, ox + i * 7, none⟩) ltX).trans hx0
          obtain ⟨yP, yPf⟩ := hmX.cellP ht4
          obtain ⟨yO, yOf⟩ := hmX.cellO ht4
          have HMX := Lib.hide hmX
          have HOKK := Lib.hide hok
          have HNX := Lib.hide hnx
          have HOP := Lib.hide hopn
          have HAQ := Lib.hide haq
          have HXQ := Lib.hide hxq
          have i5 : (i : Int) < (L : Int) + 4 := by omega
          have HSN := Lib.hide hm.size
          clear hm hmX hok hnx hopn haq hxq hr ha hcx hbw lt5 hX hlt5 ltX f1 f2 HMM
          by_cases hend : (r0 = 3 ∧ a0 = 0) ∨ a0 = 6
          · have hstep : serStep (actAt AL) (ansAt xs) σ i = ⟨σ.placed, upd σ.parts tn ((σ.parts tn).take (σ.opn tn)), σ.opn⟩ := by
              unfold serStep
              rw [HAQ.out, HXQ.out]
              dsimp only
              rw [Int.toNat_natCast, if_pos hend]
            have hole := HOP.out hend
            obtain ⟨ap, cp', hpv, _⟩ := (HMX.out.op tn ht4).ints
            rw [nums_length] at hpv
            have hcap : (σ.parts tn).length ≤ cp' := by
              rcases (HMX.out.op tn ht4).2 with ⟨e, h1⟩ | ⟨g', cap', cur', e, _, _, hc, _⟩
              · rw [nums_length] at h1; omega
              · rw [hpv] at e
                injection e with _ e2 e3
                rw [nums_length] at hc
                omega
            have hcap2 : cp' ≤ 9223372036854775807 := by
              rcases (HMX.out.op tn ht4).2 with ⟨e, h1⟩ | ⟨g', cap', cur', e, _, _, _, hc, _⟩
              · rw [hpv] at e; injection e with _ _ e3; omega
              · rw [hpv] at e
                injection e with _ e2 e3
                unfold maxLen at hc
                omega
            have hcut := (hpv ▸ HMX.out.op tn ht4 : Own _ (N + 4) (.slice ap (σ.parts tn).length cp') (nums (σ.parts tn))).cutAt hole
            have hset := HMX.out.setPart (v := .slice ap (σ.opn tn) cp') (l := (σ.parts tn).take (σ.opn tn)) ht4 (World.grownBy.refl _ _) hcut (fun g hg => .inl (by rw [hpv]; cases ap with | none => (simp [Value.ownBlock] at hg) | some _ => (simpa [Value.ownBlock] using hg)))
            have HSET := Lib.hide (show SM W0 N ((serTo AL xs (i + 1)).placed.map (actAt AL)) ((serTo AL xs (i + 1)).placed.map (ansAt xs)) (serTo AL xs (i + 1)).parts (serTo AL xs (i + 1)).opn z7 z8 (upd p tn (.slice ap (σ.opn tn) cp')) _ from by rw [HNX.out, hstep]; exact hset)
            rw [hpv] at yP
            obtain ⟨K, hK⟩ : ∃ K, (σ.parts tn).length = K := ⟨_, rfl⟩
            obtain ⟨oo, hoo⟩ : ∃ oo, σ.opn tn = oo := ⟨_, rfl⟩
            rw [hK, hoo] at hole
            rw [hK] at yP hcap
            rw [hoo] at yO HSET
            have j1 : (oo : Int) ≤ (cp' : Int) := by omega
            clear hstep hcut hset hpv hK hoo
            have hsub : (r0 = 3 ∧ a0 = 0) ∨ (r0 = 3 ∧ a0 = 6) ∨ ((r0 == 3) = false ∧ a0 = 6) := by
              rcases hend with h | h
              · exact .inl h
              · by_cases h3 : r0 = 3
                · exact .inr (.inl ⟨h3, h⟩)
                · exact .inr (.inr ⟨by simpa using h3, h⟩)
            clear hend
            rcases hsub with ⟨rfl, rfl⟩ | ⟨rfl, rfl⟩ | ⟨d3, rfl⟩
            all_goals
              go_wp2
              go_region
              all_goals
                go_wp2
                go_roundw
                case rel => exact ⟨i + 1, _, _, _, by omega, by go_num, HSET.out.below (by repeat (first | exact Below.refl _ _ | assumption | refine Below.drew ?_ | refine below_drewN ?_ _ | refine Below.allocs ?_ | refine Below.next ?_ (by assumption) | refine Below.setCell ?_ (by dsimp only; omega) _))⟩
                case measure => simp [intOf]; omega
          · by_cases h0 : a0 = 0
            · subst h0
              have hKn := HOKK.out.part ht4
              by_cases h1 : r0 = 1
              · subst h1
                have hstep := serStep_begin (σ := σ) HAQ.out HXQ.out rfl rfl rfl
                obtain ⟨ap, cp', hpv, _⟩ := (HMX.out.op tn ht4).ints
                rw [nums_length] at hpv
                have hmo := HMX.out.setOpn ht4 (σ.parts tn).length
                obtain ⟨zP, zPf⟩ := hmo.cellP ht4
                rw [hpv] at yP zP
                have HMO := Lib.hide hmo
                have HPV := Lib.hide hpv
                have HST := Lib.hide hstep
                have HKN := Lib.hide (show (σ.parts tn).length ≤ 900 by omega)
                clear hend hmo hpv hstep hKn
                go_wp2_with (at_builtin; refine wpList_append_part _ _ _ rfl (.tmp 112) (.tmp 114) rfl HMO.out tn ht4 _ HPV.out.symm i _ rfl rfl rfl (by simp [World.setCell]) HKN.out ?_)
                intro g n c w7 hS7 yc yf _ _
                have HF := Lib.hide (hS7.next HNX.out HST.out rfl rfl rfl rfl)
                clear hS7
                go_wp2
                go_roundw
                case rel => exact ⟨i + 1, _, _, _, by omega, by go_num, HF.out⟩
                case measure => simp [intOf]; omega
              · have n3 : r0 ≠ 3 := fun e => hend (.inl ⟨e, rfl⟩)
                have hpl : σ.placed.length + (σ.parts tn).length ≤ i := by
                  have := HOKK.out.size
                  rcases four ht4 with rfl | rfl | rfl | rfl <;> omega
                by_cases h8 : r0 = 8 ∧ r4 ≠ (tn : Int)
                · obtain ⟨rfl, h8n⟩ := h8
                  obtain ⟨f31, f32⟩ := f3 rfl
                  obtain ⟨nn, rfl⟩ := Int.eq_ofNat_of_zero_le f31
                  have hn4 : nn < 4 := by omega
                  have hne : nn ≠ tn := by omega
                  have d8 : (((nn : Nat) : Int) != ((tn : Nat) : Int)) = true := by simpa using h8n
                  have hstep := serStep_copy (σ := σ) HAQ.out HXQ.out rfl rfl rfl hne rfl
                  have hpl3 : σ.placed.length + (σ.parts nn).length + (σ.parts tn).length ≤ i := by
                    have := HOKK.out.size
                    rcases four ht4 with rfl | rfl | rfl | rfl <;> rcases four hn4 with rfl | rfl | rfl | rfl <;> first | omega | exact absurd rfl hne
                  have CP := Lib.hide (HPL.out W0 N HSZ.out b3 b5 g1 (L + 4) c1 bx ox kx AL xs HSC.out _ _ _ _ _ _ _ _ HMX.out nn hn4 (fun q hq => Nat.lt_trans (HOKK.out.parts nn hn4 q hq) hlt) (by omega) (by rw [List.length_map]; omega) (by rw [List.length_map, List.length_map]))
                  have HST := Lib.hide hstep
                  have HPL3 := Lib.hide hpl3
                  have HNE := Lib.hide hne
                  clear hend hstep hpl hpl3 hne h8n f31 f32 f3 n3 h1 hKn
                  go_wp2_with fail
                  refine CP.out.mono ?_
                  rintro e w6 ⟨rfl, y7, y8, hM6⟩
                  obtain ⟨yP6, yPf6⟩ := hM6.cellP ht4
                  have hpt : upd σ.parts nn [] tn = σ.parts tn := upd_other _ _ (Ne.symm HNE.out)
                  have HM6 := Lib.hide hM6
                  have HPT := Lib.hide hpt
                  obtain ⟨vt, hvt⟩ : ∃ vt, upd p nn (.slice none 0 0) tn = vt := ⟨_, rfl⟩
                  rw [hvt] at yP6
                  have HVT := Lib.hide hvt
                  clear hM6 hpt hvt CP yP yPf yO yOf c5X hx0X
                  go_wp2_with (at_builtin; refine wpList_append_part _ _ _ rfl (.tmp 134) (.tmp 136) rfl HM6.out tn ht4 _ HVT.out.symm i _ rfl rfl rfl rfl (by rw [HPT.out]; have := HPL3.out; omega) ?_)
                  intro g n c w7 hS7 yc yf _ _
                  have CP2 := Lib.hide (HPL.out W0 N HSZ.out b3 b5 g1 (L + 4) c1 bx ox kx AL xs HSC.out _ _ _ _ _ _ _ _ hS7 tn ht4
                    (fun q hq => by
                      rw [upd_same, HPT.out] at hq
                      rcases List.mem_append.1 hq with hq | hq
                      · exact Nat.lt_trans (HOKK.out.parts tn ht4 q hq) hlt
                      · rw [List.mem_singleton.1 hq]; exact hlt)
                    (by rw [upd_same, HPT.out, List.length_append, List.length_singleton]; have := HPL3.out; omega)
                    (by rw [List.length_append, List.length_map, List.length_map]; have := HPL3.out; omega)
                    (by simp only [List.length_append, List.length_map]))
                  clear hS7
                  go_wp2_with fail
                  refine CP2.out.mono ?_
                  rintro e w8 ⟨rfl, x7, x8, hM8⟩
                  have HF := Lib.hide (hM8.next HNX.out HST.out
                    (by rw [upd_same, HPT.out]; simp only [List.map_append])
                    (by rw [upd_same, HPT.out]; simp only [List.map_append])
                    (upd_upd _ _ _ _) rfl)
                  clear hM8 CP2
                  go_wp2
                  go_roundw
                  case rel => exact ⟨i + 1, _, _, _, by omega, by go_num, HF.out⟩
                  case measure => simp [intOf]; omega
                · have HKN := Lib.hide (show (σ.parts tn).length ≤ 900 by omega)
                  have HHPL := Lib.hide hpl
                  have HBX := Lib.hide (show (wr.alloc (.cells #[.int .i64 r0, .int .i64 (tn : Int), .int .i64 r2, .int .i64 r3, .int .i64 r4] 71)).heap[wr.heap.size]? = some (.cells #[.int .i64 r0, .int .i64 (tn : Int), .int .i64 r2, .int .i64 r3, .int .i64 r4] 71 (0, 0)) from heap_alloc_new _ _)
                  have hsub : (r0 = 8 ∧ r4 = (tn : Int)) ∨ r0 = 2 ∨ (r0 ≠ 8 ∧ r0 ≠ 2) := by omega
                  rcases hsub with ⟨rfl, rfl⟩ | rfl | ⟨n8, n2⟩
                  · have HST := Lib.hide (serStep_else (σ := σ) HAQ.out HXQ.out rfl (by dsimp only; omega) (by dsimp only; omega) (fun h => h.2 rfl) (by dsimp only; omega) rfl)
                    clear hend hpl h8 f3 n3 h1 hKn
                    go_wp2_with (at_builtin; refine wpList_append_part _ _ _ rfl (.tmp 70) (.tmp 72) rfl HMX.out tn ht4 _ rfl i _ rfl rfl rfl (by simp) HKN.out ?_)
                    intro g n c w7 hS7 yc yf hold _
                    have hk7 : (w7.setCell ⟨N + 2, tn, none⟩ (.slice (some ⟨g, 0, none⟩) n c)).heap[wr.heap.size]? = some (.cells #[.int .i64 8, .int .i64 (tn : Int), .int .i64 r2, .int .i64 r3, .int .i64 (tn : Int)] 71 (0, 0)) := (Below.heap_setCell _ _ _ _ (by dsimp only; have := HSN.out; omega)).trans ((hold wr.heap.size (by simp) (fun cur => by rw [HBX.out]; simp)).trans HBX.out)
                    have y7k : (w7.setCell ⟨N + 2, tn, none⟩ (.slice (some ⟨g, 0, none⟩) n c)).cell? ⟨wr.heap.size, 0, none⟩ = some (.int .i64 8) := cell_of_row _ wr.heap.size 0 _ _ _ hk7
                    have HF := Lib.hide (hS7.next HNX.out HST.out rfl rfl rfl rfl)
                    clear hS7 hk7 hold
                    go_wp2
                    go_roundw
                    case rel => exact ⟨i + 1, _, _, _, by omega, by go_num, HF.out⟩
                    case measure => simp [intOf]; omega
                  · have HST := Lib.hide (serStep_commit (σ := σ) HAQ.out HXQ.out rfl rfl rfl)
                    clear hend hpl h8 f3 n3 h1 hKn
                    go_wp2_with (at_builtin; refine wpList_append_part _ _ _ rfl (.tmp 70) (.tmp 72) rfl HMX.out tn ht4 _ rfl i _ rfl rfl rfl (by simp) HKN.out ?_)
                    intro g n c w7 hS7 yc yf hold _
                    have hk7 : (w7.setCell ⟨N + 2, tn, none⟩ (.slice (some ⟨g, 0, none⟩) n c)).heap[wr.heap.size]? = some (.cells #[.int .i64 2, .int .i64 (tn : Int), .int .i64 r2, .int .i64 r3, .int .i64 r4] 71 (0, 0)) := (Below.heap_setCell _ _ _ _ (by dsimp only; have := HSN.out; omega)).trans ((hold wr.heap.size (by simp) (fun cur => by rw [HBX.out]; simp)).trans HBX.out)
                    have y7k : (w7.setCell ⟨N + 2, tn, none⟩ (.slice (some ⟨g, 0, none⟩) n c)).cell? ⟨wr.heap.size, 0, none⟩ = some (.int .i64 2) := cell_of_row _ wr.heap.size 0 _ _ _ hk7
                    have CP2 := Lib.hide (HPL.out W0 N HSZ.out b3 b5 g1 (L + 4) c1 bx ox kx AL xs HSC.out _ _ _ _ _ _ _ _ hS7 tn ht4
                      (fun q hq => by
                        rw [upd_same] at hq
                        rcases List.mem_append.1 hq with hq | hq
                        · exact Nat.lt_trans (HOKK.out.parts tn ht4 q hq) hlt
                        · rw [List.mem_singleton.1 hq]; exact hlt)
                      (by rw [upd_same, List.length_append, List.length_singleton]; have := HHPL.out; omega)
                      (by rw [List.length_map]; have := HHPL.out; omega)
                      (by simp only [List.length_map]))
                    clear hS7 hk7 hold
                    go_wp2_with fail
                    refine CP2.out.mono ?_
                    rintro e w8 ⟨rfl, x7, x8, hM8⟩
                    have HF := Lib.hide (hM8.next HNX.out HST.out
                      (by rw [upd_same]; simp only [List.map_append])
                      (by rw [upd_same]; simp only [List.map_append])
                      (upd_upd _ _ _ _) rfl)
                    clear hM8 CP2
                    go_wp2
                    go_roundw
                    case rel => exact ⟨i + 1, _, _, _, by omega, by go_num, HF.out⟩
                    case measure => simp [intOf]; omega
                  · have HST := Lib.hide (serStep_else (σ := σ) HAQ.out HXQ.out rfl h1 n3 (fun h => n8 h.1) n2 rfl)
                    have d1 : (r0 == 1) = false := by simpa using h1
                    have d3 : (r0 == 3) = false := by simpa using n3
                    have d8 : (r0 == 8) = false := by simpa using n8
                    have d2 : (r0 == 2) = false := by simpa using n2
                    clear hend hpl h8 f3 n3 h1 hKn n8 n2
                    go_wp2_with (at_builtin; refine wpList_append_part _ _ _ rfl (.tmp 70) (.tmp 72) rfl HMX.out tn ht4 _ rfl i _ rfl rfl rfl (by simp) HKN.out ?_)
                    intro g n c w7 hS7 yc yf hold _
                    have hk7 : (w7.setCell ⟨N + 2, tn, none⟩ (.slice (some ⟨g, 0, none⟩) n c)).heap[wr.heap.size]? = some (.cells #[.int .i64 r0, .int .i64 (tn : Int), .int .i64 r2, .int .i64 r3, .int .i64 r4] 71 (0, 0)) := (Below.heap_setCell _ _ _ _ (by dsimp only; have := HSN.out; omega)).trans ((hold wr.heap.size (by simp) (fun cur => by rw [HBX.out]; simp)).trans HBX.out)
                    have y7k : (w7.setCell ⟨N + 2, tn, none⟩ (.slice (some ⟨g, 0, none⟩) n c)).cell? ⟨wr.heap.size, 0, none⟩ = some (.int .i64 r0) := cell_of_row _ wr.heap.size 0 _ _ _ hk7
                    have HF := Lib.hide (hS7.next HNX.out HST.out rfl rfl rfl rfl)
                    clear hS7 hk7 hold
                    go_wp2
                    go_roundw
                    case rel => exact ⟨i + 1, _, _, _, by omega, by go_num, HF.out⟩
                    case measure => simp [intOf]; omega
            · have hstep := serStep_skip (σ := σ) HAQ.out HXQ.out hend h0
              have HSET := Lib.hide (HMX.out.next HNX.out hstep rfl rfl rfl rfl)
              have d0 : (a0 == 0) = false := by simpa using h0
              have d6 : (a0 == 6) = false := by simpa using fun e => hend (.inr e)
              have d0' : (a0 != 0) = true := by simpa using h0
              clear hend hstep h0
              by_cases h3 : r0 = 3
              · subst h3
                go_wp2
                go_roundw
                case rel => exact ⟨i + 1, _, _, _, by omega, by go_num, HSET.out⟩
                case measure => simp [intOf]; omega
              · have d3 : (r0 == 3) = false := by simpa using h3
                go_wp2
                go_roundw
                case rel => exact ⟨i + 1, _, _, _, by omega, by go_num, HSET.out⟩
                case measure => simp [intOf]; omega
        · have hi : i = L + 4 := by omega
          have i5 : ¬ ((i : Int) < (L : Int) + 4) := by omega
          have hok := HOK.out i hiL
          have hsame := fun (ys : List Ans) (c' : Mc) (lf' : List Nat) (h : RunC 400 ((serEnd (serTo AL xs i)).map (actAt AL)) ys c' lf') => (show ys = (serEnd (serTo AL xs i)).map (ansAt xs) from serial_fin HAL.out (HLE.out.trans hi.symm) HXC.out h (by omega) HSA4.out HCA4.out HFA4.out)
          generalize serTo AL xs i = σ at hm hok hsame HMM
          have HM0 := Lib.hide (show SM W0 N ((endTo σ 0).map (actAt AL)) ((endTo σ 0).map (ansAt xs)) (cleared σ 0) σ.opn z7 z8 p wr by rw [cleared_zero]; exact hm)
          have HOKK := Lib.hide hok
          have HSAM := Lib.hide hsame
          have HIL := Lib.hide hiL
          clear hm hok hsame HMM HOK HRA HMS hi hlt hiL
          go_wp2
          go_loopw [143] (fun u wr => ∃ (t : Nat) (v7 v8 : Value) (p : Nat → Value), t ≤ 4 ∧ u = .int .i64 t ∧ SM W0 N ((endTo σ t).map (actAt AL)) ((endTo σ t).map (ansAt xs)) (cleared σ t) σ.opn v7 v8 p wr) (fun u _ => 4 - (intOf u).toNat)
          case atStart => exact ⟨0, _, _, _, by omega, rfl, HM0.out⟩
          case round =>
            obtain ⟨t, y7, y8, p', ht, rfl, hm⟩ := hrel
            have hel := endTo_length HOKK.out ht
            have hiL := HIL.out
            by_cases h4 : t < 4
            · have i4 : (t : Int) < 4 := by omega
              have hpt := HOKK.out.part h4
              have CP := Lib.hide (HPL.out W0 N HSZ.out b3 b5 g1 (L + 4) c1 bx ox kx AL xs HSC.out _ _ _ _ _ _ _ _ hm t h4 (fun q hq => by rw [cleared_at] at hq; exact Nat.lt_of_lt_of_le (HOKK.out.parts t h4 q hq) hiL) (by rw [cleared_at]; omega) (by rw [List.length_map]; omega) (by rw [List.length_map, List.length_map]))
              clear hm hpt hel hiL
              go_wp2_with fail
              refine CP.out.mono ?_
              rintro e w8 ⟨rfl, x7, x8, hM8⟩
              rw [cleared_at, cleared_succ, ← List.map_append, ← List.map_append] at hM8
              have HF := Lib.hide (show SM W0 N ((endTo σ (t + 1)).map (actAt AL)) ((endTo σ (t + 1)).map (ansAt xs)) (cleared σ (t + 1)) σ.opn x7 x8 _ w8 from hM8)
              clear hM8 CP
              go_wp2
              go_roundw
              case rel => exact ⟨t + 1, _, _, _, by omega, by go_num, HF.out⟩
              case measure => simp [intOf]; omega
            · obtain rfl : t = 4 := by omega
              have hsz := hm.size
              have h7 := hm.o7
              have h8 := hm.o8
              have hb7 := hm.b7
              have hb8 := hm.b8
              have hbel := hm.bel
              generalize hE : endTo σ 4 = E at hel h7 h8
              have hsame := HSAM.out
              rw [show serEnd σ = E from hE] at hsame
              obtain ⟨a7, c7, rfl⟩ : ∃ a7 c7, y7 = .slice a7 E.length c7 := by
                rcases h7.2 with ⟨h5, h6⟩ | ⟨g, cap, cur, h5, _⟩
                · rw [List.length_map] at h6; exact ⟨none, 0, by rw [h5, h6]⟩
                · rw [List.length_map] at h5; exact ⟨_, cap, h5⟩
              obtain ⟨a8, c8, rfl⟩ : ∃ a8 c8, y8 = .slice a8 E.length c8 := by
                rcases h8.2 with ⟨h5, h6⟩ | ⟨g, cap, cur, h5, _⟩
                · rw [List.length_map] at h6; exact ⟨none, 0, by rw [h5, h6]⟩
                · rw [List.length_map] at h5; exact ⟨_, cap, h5⟩
              have x7 := cell_of_one hb7
              have x8 := cell_of_one hb8
              have hEl : ∀ (f : Nat → Ans), (E.map f).length = E.length := fun f => List.length_map _
              have CR := Lib.hide (topRun_any (E.map (actAt AL)) a7 E.length c7 wr (List.length_map _) (by omega) h7.reads.2)
              have HA8 := Lib.hide h8.reads.2
              have HSAME := Lib.hide hsame
              have HBEL := Lib.hide (show Below w.heap.size w wr from Below.step HBW.out (Below.mono hbel (by rw [← HSZ.out]; exact HBW.out.size)))
              have HEL := Lib.hide (show (E.map (ansAt xs)).length = E.length from List.length_map _)
              have HEN := Lib.hide (show E.length ≤ 1000 by omega)
              have hn1 : N + 1 < wr.heap.size := by omega
              clear hm h7 h8 hb7 hb8 hbel hsame hel hEl hE hsz hiL
              generalize E.length = eN at *
              go_wp2_with fail
              refine CR.out.mono ?_
              rintro e w8 ⟨ys, cy, ly, ay, ky, rfl, hyl, hyc, hya, hyk, hby⟩
              have hys := HSAME.out ys _ _ hyc
              subst hys
              have x8' := (hby.cell (p := ⟨N + 1, 0, none⟩) hn1).trans x8
              have CE := Lib.hide (equalA_same ay a8 eN ky c8 _ w8 hya (HA8.out.below hby) HEL.out HEN.out)
              have HBE := Lib.hide (Below.step HBEL.out (Below.mono hby HBEL.out.size))
              clear hyl hyc hya hyk hby CR HA8 HSAME HEL
              go_wp2_with fail
              refine CE.out.mono ?_
              rintro e w9 ⟨rfl, hb9⟩
              have HF := Lib.hide (Below.step HBE.out (Below.mono hb9 HBE.out.size))
              clear hb9
              go_wp2
              go_ret
              exact ⟨rfl, HF.out⟩
theorem topSerial.walk (a0 : Option Addr) (n0 cap0 : Nat) (R : Nat → Nat → Int) (h1 : n0 ≤ cap0) (h2 : cap0 ≤ maxLen) (w : World) (hR : Recs w a0 n0 4 R) :
    Calls Try.prog 11 #[.slice a0 n0 cap0] w fun e w' => e = .returned (.bool true) ∧ Below w.heap.size w w' :=
  topSerial.walk0 (fun W0 N hN b3 b5 gA LA cA gX oX cX AL xs hC S A parts opn v7 v8 p w hM t ht hp hpl hSl hAl => place_any W0 N hN b3 b5 gA LA cA gX oX cX AL xs hC S A parts opn v7 v8 p w hM t ht hp hpl hSl hAl) a0 n0 cap0 R h1 h2 w hR
end Go.Proofs.Ytpdcaoagpjcgbab

