/-
  Slices of structs of integers that come in as arguments, and the struct of four integers. It proves no statement by itself.
-/
import Derived.Test.YtpdcaoagpjcgbabHeapA
import Derived.Deep.Slices
import Derived.Deep.Fields
import Derived.Test.YtpdcaoagpjcgbabRunA
set_option linter.unusedVariables false
set_option linter.unusedSimpArgs false
namespace Go.Proofs.Ytpdcaoagpjcgbab
open Go.ChangeShapes Go.WideShapes Go.ChangeAt Go.RowKit Go.Joins Go.Deep

/-- A slice at address a of n structs of k integers each: field j of element i is R i j. -/
def Recs (w : World) (a : Option Addr) (n k : Nat) (R : Nat → Nat → Int) : Prop :=
  n = 0 ∨ ∃ b o, a = some ⟨b, o, none⟩ ∧ b < w.heap.size ∧ ∀ i, i < n → ∀ j, j < k → w.cell? ⟨b, o + (i * k + j), none⟩ = some (.int .i64 (R i j)) ∧ Fits (R i j)

set_option maxRecDepth 100000 in
theorem Recs.below {w w' : World} {a : Option Addr} {n k : Nat} {R : Nat → Nat → Int} (h : Recs w a n k R) (hb : Below w.heap.size w w') : Recs w' a n k R := by
  rcases h with h | ⟨b, o, e, hlt, hc⟩
  · exact .inl h
  · exact .inr ⟨b, o, e, Nat.lt_of_lt_of_le hlt hb.size, fun i hi j hj => ⟨(hb.cell (p := ⟨b, o + (i * k + j), none⟩) hlt).trans (hc i hi j hj).1, (hc i hi j hj).2⟩⟩

set_option maxRecDepth 100000 in
theorem add_plain (b o i : Nat) : (⟨b, o, none⟩ : Addr).add i = ⟨b, o + i, none⟩ := by
  unfold Addr.add
  by_cases hi0 : i = 0 <;> simp [hi0]

set_option maxRecDepth 100000 in
theorem rows_of_trod {H : Type} {enc : TypeId × Value → H} {W : World} {fuel : Nat} {v : Value} {x : DataW H × List MemPlace} {t e : TypeId} {fs : Array Field} (hpos : 0 < fs.size)
    (ht : Try.prog.underlying t = some (.slice e)) (he : Try.prog.underlying e = some (.struct fs)) (hone : oneCellFields Try.prog fs = true) (hC : Try.prog.cellsOf e = fs.size)
    (hint : ∀ (j : Nat) (f : Field), fs[j]? = some f → Try.prog.underlying f.type = some (.int .i64))
    (hf : DataW.trod enc Try.prog W 0 (fun _ => true) true fuel t [v] = some x) :
    ∃ (a : Option Addr) (n cap : Nat) (R : Nat → Nat → Int), v = .slice a n cap ∧ n ≤ cap ∧ cap ≤ maxLen ∧ Recs W a n fs.size R := by
  rcases Deep.open_slice ht hf with ⟨hcs, _⟩ | ⟨a, len, cap, m, fu, D, Pl, hcs, _, hl, hm, hmm, _, hi⟩
  · simp at hcs
    exact ⟨none, 0, 0, fun _ _ => 0, hcs, Nat.le_refl _, by simp, .inl rfl⟩
  · simp at hcs hmm
    subst hmm
    rw [hC] at hi
    have key : ∀ i, i < len → ∀ j, j < fs.size → ∃ z : Int, W.cell? (a.add (i * fs.size + j)) = some (.int .i64 z) ∧ (Lit.int .i64 z).wf = true := by
      intro i hil j hj
      obtain ⟨cs', hc, htr⟩ := hi i (by omega)
      obtain ⟨ys, n', _, _, _, hyl, hfd⟩ := DataW.trod_struct he htr
      obtain ⟨_, hcl, hat⟩ := World.cells?_some hc
      have hfj : fs[j]? = some fs[j] := Array.getElem?_eq_getElem hj
      obtain ⟨ho, hk⟩ := hone_of hone j fs[j] hfj
      have h1 := hfd j fs[j] hfj
      rw [ho, hk] at h1
      have hd : (cs'.drop j).take 1 = [cs'[j]'(by omega)] := by rw [List.drop_eq_getElem_cons (by omega)]; rfl
      rw [hd, List.getElem?_eq_getElem (by omega)] at h1
      obtain ⟨z, e0, _, wz⟩ := DataW.trod_int (hint j fs[j] hfj) h1
      simp at e0
      refine ⟨z, ?_, wz⟩
      rw [← Deep.add_add, hat j hj, List.getElem?_eq_getElem (by omega), e0]
    refine ⟨some a, len, m, fun i j => if h : i < len ∧ j < fs.size then Classical.choose (key i h.1 j h.2) else 0, hcs, hl, hm, ?_⟩
    by_cases h0 : len = 0
    · exact .inl h0
    · obtain ⟨b, o, sp⟩ := a
      obtain ⟨z0, hc0, _⟩ := key 0 (by omega) 0 hpos
      have hspot : sp = none := by simpa [Addr.add] using World.cell?_spot hc0
      subst hspot
      have hlt : b < W.heap.size := by
        rcases Nat.lt_or_ge b W.heap.size with h | h
        · exact h
        · have : W.heap[b]? = none := Array.getElem?_eq_none h
          simp [World.cell?, add_plain, this] at hc0
      refine .inr ⟨b, o, rfl, hlt, fun i hi' j hj => ?_⟩
      have hs := Classical.choose_spec (key i hi' j hj)
      simp only [hi', hj, and_self, dif_pos]
      exact ⟨(congrArg W.cell? (add_plain b o (i * fs.size + j))).symm.trans hs.1, Fits.of_wf hs.2⟩

set_option maxRecDepth 100000 in
theorem open_raws {H : Type} {enc : TypeId × Value → H} {W : World} {base : Nat} {v : Value} {d : DataW H} {p : List MemPlace}
    (hv : Value.okWide Try.prog W .any base 22 v) (h : DataW.Trod enc Try.prog W 0 (fun _ => true) true 22 v d p) :
    ∃ (a : Option Addr) (n cap : Nat) (R : Nat → Nat → Int), v = .slice a n cap ∧ n ≤ cap ∧ cap ≤ maxLen ∧ Recs W a n 4 R := by
  obtain ⟨a, len, cap, rfl⟩ := okWide_slice Try.underlying22 hv
  obtain ⟨fuel, hf⟩ := h
  exact rows_of_trod (by decide) Try.underlying22 Try.underlying24 (by kernel_rfl) (by kernel_rfl) (by
    intro j f hj
    match j, hj with
    | 0, hj => simp at hj; subst hj; exact Try.underlying3
    | 1, hj => simp at hj; subst hj; exact Try.underlying3
    | 2, hj => simp at hj; subst hj; exact Try.underlying3
    | 3, hj => simp at hj; subst hj; exact Try.underlying3
    | j + 4, hj => simp at hj) (by simpa [Value.cells] using hf)

set_option maxRecDepth 100000 in
theorem open_raw {H : Type} {enc : TypeId × Value → H} {W : World} {base : Nat} {v : Value} {d : DataW H} {p : List MemPlace}
    (hv : Value.okWide Try.prog W .any base 24 v) (h : DataW.Trod enc Try.prog W 0 (fun _ => true) true 24 v d p) :
    ∃ k a b c : Int, v = .agg #[.int .i64 k, .int .i64 a, .int .i64 b, .int .i64 c] ∧ Fits k ∧ Fits a ∧ Fits b ∧ Fits c := by
  obtain ⟨c0, c1, c2, c3, y0, y1, y2, y3, m, rfl, rfl, rfl, hy0, hy1, hy2, hy3⟩ := open_agg4 Try.underlying24 (by kernel_rfl) (by kernel_rfl) hv h
  obtain ⟨a0, e0, _, w0⟩ := DataW.trod_int Try.underlying3 hy0
  obtain ⟨a1, e1, _, w1⟩ := DataW.trod_int Try.underlying3 hy1
  obtain ⟨a2, e2, _, w2⟩ := DataW.trod_int Try.underlying3 hy2
  obtain ⟨a3, e3, _, w3⟩ := DataW.trod_int Try.underlying3 hy3
  simp at e0 e1 e2 e3
  subst e0 e1 e2 e3
  exact ⟨a0, a1, a2, a3, rfl, Fits.of_wf w0, Fits.of_wf w1, Fits.of_wf w2, Fits.of_wf w3⟩
end Go.Proofs.Ytpdcaoagpjcgbab

/-
  The walk of limewashkeep.picked. It proves no statement by itself.
-/
namespace Go.Proofs.Ytpdcaoagpjcgbab
open Go.RowKit

/-- limewashkeep.picked: a number from 0 to many - 1. -/
def pick (n m : Int) : Int := if n < 0 then (-(n + 1)) % m else n % m

theorem pick_lt (n m : Int) (hm : 0 < m) : 0 ≤ pick n m ∧ pick n m < m := by
  unfold pick
  split
  · exact ⟨Int.emod_nonneg _ (by omega), Int.emod_lt_of_pos _ hm⟩
  · exact ⟨Int.emod_nonneg _ (by omega), Int.emod_lt_of_pos _ hm⟩

set_option maxHeartbeats 400000 in
theorem picked_any (n m : Int) (w : World) (hn : Fits n) (hm : 0 < m) (hm2 : m ≤ 1000000) :
    Calls Try.prog 17 #[.int .i64 n, .int .i64 m] w fun e w' => e = .returned (.int .i64 (pick n m)) ∧ w = w' := by
  obtain ⟨h1, h2⟩ := hn
  by_cases h3 : n < 0
  · have hp : pick n m = -((n + 1).tmod m) := by
      simp only [pick, h3, if_true]
      rw [← Int.neg_tmod, Int.tmod_eq_emod_of_nonneg (by omega)]
    rw [hp]
    clear hp
    go_enter Try.func17, Try.ntmps17
    go_wp2
    go_ret
    exact ⟨rfl, rfl⟩
  · have hp : pick n m = n % m := by simp [pick, h3]
    rw [hp]
    clear hp
    go_enter Try.func17, Try.ntmps17
    go_wp2
    go_ret
    exact ⟨rfl, rfl⟩

end Go.Proofs.Ytpdcaoagpjcgbab

/-
  Lists of acts that a law makes: in memory, and the walks of what makes them. It proves no statement by itself.
-/
namespace Go.Proofs.Ytpdcaoagpjcgbab
open Go.RowKit Stm

theorem Try.actInfo : (Try.prog.info? 71).map (fun i => (i.zero, i.size, i.bytes)) = some (some (.agg #[.int .i64 0, .int .i64 0, .int .i64 0, .int .i64 0, .int .i64 0]), 5, 40) := by kernel_rfl

def actCells (a : Stm.Act) : List Value := [.int .i64 a.kind, .int .i64 a.t, .int .i64 a.a, .int .i64 a.b, .int .i64 a.n]
def ccells (l : List Stm.Act) : List Value := l.flatMap actCells
theorem ccells_length (l : List Stm.Act) : (ccells l).length = l.length * 5 := by
  induction l with
  | nil => rfl
  | cons a l ih =>
    have : ccells (a :: l) = actCells a ++ ccells l := rfl
    rw [this, List.length_append, ih]
    simp [actCells]
    omega
theorem ccells_append (l m : List Stm.Act) : ccells (l ++ m) = ccells l ++ ccells m := by simp [ccells]
theorem ccells_one (a : Stm.Act) : ccells [a] = actCells a := by simp [ccells]
theorem ccells_at : ∀ (l : List Stm.Act) (i : Nat) (x : Stm.Act), l[i]? = some x → ∀ j v, (actCells x)[j]? = some v → (ccells l)[i * 5 + j]? = some v
  | [], i, x, h, _, _, _ => by simp at h
  | a :: l, 0, x, h, j, v, hv => by
    simp at h
    subst h
    have : ccells (a :: l) = actCells a ++ ccells l := rfl
    rw [this, Nat.zero_mul, Nat.zero_add, List.getElem?_append_left]
    · exact hv
    · rcases Nat.lt_or_ge j (actCells a).length with h' | h'
      · exact h'
      · rw [List.getElem?_eq_none h'] at hv; cases hv
  | a :: l, i + 1, x, h, j, v, hv => by
    have := ccells_at l i x (by simpa using h) j v hv
    have e : ccells (a :: l) = actCells a ++ ccells l := rfl
    rw [e, List.getElem?_append_right (by simp [actCells]; omega)]
    rw [show (i + 1) * 5 + j - (actCells a).length = i * 5 + j by simp [actCells]; omega]
    exact this
/-- A list of acts in memory of the call's own. -/
def OwnC (w : World) (base : Nat) (v : Value) (l : List Stm.Act) : Prop := w.ownsRow base 71 5 v l.length (ccells l)
theorem OwnC.reads {w : World} {base n c : Nat} {a : Option Addr} {l : List Stm.Act} (h : OwnC w base (.slice a n c) l) : l.length = n ∧ ActsAt w a l := by
  rcases h.2 with ⟨e, h1⟩ | ⟨g, cap, cur, e, hb, hg, hn, hm, hs, hx⟩
  · injection e with e1 e2 e3
    exact ⟨by omega, .inl (List.length_eq_zero_iff.1 h1)⟩
  · injection e with e1 e2 e3
    subst e1 e2 e3
    refine ⟨rfl, ?_⟩
    refine .inr ⟨g, 0, rfl, ?_, fun i x hi => ?_⟩
    · rcases Nat.lt_or_ge g w.heap.size with h' | h'
      · exact h'
      · rw [Array.getElem?_eq_none h'] at hg; cases hg
    · have hil : i < l.length := by
        rcases Nat.lt_or_ge i l.length with h' | h'
        · exact h'
        · rw [List.getElem?_eq_none h'] at hi; cases hi
      have hc : ∀ j v, (actCells x)[j]? = some v → w.cell? ⟨g, 0 + i * 5 + j, none⟩ = some v := fun j v hv => by
        have hj : j < 5 := by
          rcases Nat.lt_or_ge j 5 with h' | h'
          · exact h'
          · rw [List.getElem?_eq_none (by simpa [actCells] using h')] at hv; cases hv
        rw [Nat.zero_add]
        refine (World.ownsRow.cellAt h (i * 5 + j) (by omega)).trans ?_
        exact ccells_at l i x hi j v hv
      exact ⟨hc 0 _ rfl, hc 1 _ rfl, hc 2 _ rfl, hc 3 _ rfl, hc 4 _ rfl⟩
theorem OwnC.kept {w w' : World} {base : Nat} {v : Value} {l : List Stm.Act} (h : OwnC w base v l) (hb : ∀ g, v.ownBlock = some g → w'.heap[g]? = w.heap[g]?) : OwnC w' base v l := ownsRow_kept h hb
theorem OwnC.below {w w' : World} {base : Nat} {v : Value} {l : List Stm.Act} (h : OwnC w base v l) (hb : Below w.heap.size w w') : OwnC w' base v l := ownsRow_kept h (fun g hg => hb.block g (World.ownsRow.lt h g hg).2)
theorem act_new (w : World) (a : Stm.Act) (t : TypeId) : ∀ j u, (actCells a)[j]? = some u → (w.alloc (.cells (actCells a).toArray t)).cell? ((⟨w.heap.size, 0, none⟩ : Addr).add j) = some u := fun j u hu => by
  rw [addr_add]
  exact (BoxL.new w (actCells a) t).cell j u hu

/-- The list of acts, in a variable at block rb. -/
structure ListAt (rb : Nat) (w : World) (l : List Stm.Act) (v : Value) : Prop where
  blk : w.heap[rb]? = some (.cells #[v] 61 (0, 0))
  own : OwnC w (rb + 1) v l

set_option maxHeartbeats 1600000 in
set_option maxRecDepth 100000 in
theorem shared1_any (rb : Nat) (w : World) (l : List Stm.Act) (kd A b n : Int) (h : ∃ v, ListAt rb w l v) (hs : l.length ≤ 1000) :
    Calls Try.prog 73 #[.int .i64 kd, .int .i64 A, .int .i64 b, .int .i64 n, .pointer (some ⟨rb, 0, none⟩)] w (fun e w' => e = .returned (.tuple #[]) ∧ (∃ v, ListAt rb w' (l ++ [⟨kd, 0, A, b, n⟩]) v) ∧ Below rb w w') := by
  obtain ⟨iA, hiA, hA0, hA1, hA2⟩ := info_parts Try.actInfo
  obtain ⟨v, h1, h3⟩ := h
  have c1 := cell_of_one h1
  have hlt := lt_of_block h1
  have H1 := Lib.hide h1
  have H3 := Lib.hide h3
  clear h1 h3
  go_enter Try.func73, Try.ntmps73
  go_wp2_with (at_builtin; refine wpList_append_at _ rfl (.tmp 9) (.tmp 15) 61 rfl (rb + 1) 71 iA _ 5 40 Try.underlying61 hiA hA0 hA1 hA2 rfl (by decide) v l.length (ccells l) rfl (World.ownsRow.alloc H3.out _) ⟨w.heap.size, 0, none⟩ 1 1 (actCells ⟨kd, 0, A, b, n⟩) rfl rfl (act_new w ⟨kd, 0, A, b, n⟩ _) ?c2 ?c3 ?c4 ?c5 ?_)
  case c2 => intro u hu; simp [actCells] at hu; rcases hu with rfl | rfl | rfl | rfl | rfl <;> rfl
  case c3 => unfold maxLen; omega
  case c4 => omega
  case c5 => simp; omega
  intro v' w2 hown' hg2 hat _
  obtain ⟨g5, cp5, cur5, rfl, _⟩ := hown'.2.resolve_left (fun h => by omega)
  have hvb : ∀ g, v.ownBlock = some g → rb + 1 ≤ g := fun g hg => (World.ownsRow.lt H3.out g hg).1
  have hvb' : rb + 1 ≤ g5 ∧ g5 < w2.heap.size := World.ownsRow.lt hown' g5 rfl
  have hA' : ∀ i, i < w.heap.size → v.ownBlock ≠ some i → w2.heap[i]? = w.heap[i]? := fun i hi hn => by
    rw [hg2.block i (by simp; omega) (fun e => hn e.symm), Below.heap_alloc _ _ _ hi]
  have hb2 : w2.heap[rb]? = some (.cells #[v] 61 (0, 0)) := (hA' rb hlt (fun e => by have := hvb rb e; omega)).trans H1.out
  have c2 := cell_of_one hb2
  have f2 : w2.frozen? ⟨rb, 0, none⟩ = false := by unfold World.frozen?; rw [hb2]; simp
  have cl2 := lt_of_block hb2
  have hsz2 := hg2.size
  rw [show (w.alloc (.cells #[.int .i64 kd, .int .i64 0, .int .i64 A, .int .i64 b, .int .i64 n] 71)).heap.size = w.heap.size + 1 by simp] at hsz2
  have hfin : (∃ v, ListAt rb (w2.setCell ⟨rb, 0, none⟩ (.slice (some ⟨g5, 0, none⟩) (l.length + 1) cp5)) (l ++ [⟨kd, 0, A, b, n⟩]) v) ∧ Below rb w (w2.setCell ⟨rb, 0, none⟩ (.slice (some ⟨g5, 0, none⟩) (l.length + 1) cp5)) := by
    refine ⟨⟨_, one_setCell hb2, ?_⟩, ⟨hg2.os, hg2.tape, hg2.output, by simp [World.setCell]; omega, fun k hk => ?_⟩⟩
    · unfold OwnC
      rw [ccells_append, ccells_one, List.length_append]
      exact ownsRow_setCell_other hown' (fun e => by
        have e' : some g5 = some rb := e
        have := Option.some.inj e'
        omega) _
    · rw [set_other _ _ _ _ _ (by omega)]
      exact hA' k (by omega) (fun e => by have := hvb k e; omega)
  have HF := Lib.hide hfin
  clear hown' hg2 hat hvb hvb' hA' hb2 hsz2 hfin c1 hlt
  go_wp2
  go_end0
  exact ⟨rfl, HF.out⟩
end Go.Proofs.Ytpdcaoagpjcgbab

