/-
  What gc.move keeps in memory, and plain mathematics of one of its steps. It proves no statement by itself.
-/
import Derived.Test.YtpdcaoagpjcgbabRedirectWalks
set_option linter.unusedVariables false
set_option linter.unusedSimpArgs false
namespace Go.Proofs.Ytpdcaoagpjcgbab
open Go.RowKit

/-- The words of an object as they lie. -/
def rawWords (xs : List Int) (p f : Nat) : List Int := xs.getD p 0 :: xs.getD (p + 1) 0 :: fieldsAt xs p f
theorem rawWords_length {xs : List Int} {p f : Nat} (h : p + 2 + f ≤ xs.length) : (rawWords xs p f).length = 2 + f := by
  unfold rawWords
  simp [fieldsAt_length h]
  omega
theorem rawWords_at {xs : List Int} {p f i : Nat} (hi : i < 2 + f) : (rawWords xs p f).getD i 0 = xs.getD (p + i) 0 := by
  unfold rawWords
  match i with
  | 0 => simp
  | 1 => simp
  | i + 2 =>
    have := fieldsAt_getD (xs := xs) (p := p) (f := f) (k := i) (by omega)
    rw [show p + (i + 2) = p + 2 + i by omega, ← this]
    simp [List.getD_eq_getElem?_getD]

theorem Room.copied {xs : List Int} {t : Nat} {l qs : List Nat} (h : Room xs t l qs) (h1 : 1 ≤ t) (ht : t ≤ xs.length) {n : Nat} (hn : xs.length = n) (m : Int → Option Int) {j : Nat} (hj : j < qs.length) :
    splice (built n xs m qs j) (toAt xs qs j) (rawWords xs (qs.getD j 0) (lenAt xs (qs.getD j 0))) =
      (front xs m qs j ++ [xs.getD (qs.getD j 0) 0, xs.getD (qs.getD j 0 + 1) 0]) ++ (fieldsAt xs (qs.getD j 0) (lenAt xs (qs.getD j 0)) ++ List.replicate (n - toAt xs qs (j + 1)) 0) := by
  have hfl := h.front_length ht m j (by omega)
  have hts := toAt_succ (xs := xs) hj
  have hen := h.end_le h1 (j + 1) (by omega)
  have hfit := h.fit (getD_mem hj)
  have hrl := rawWords_length (xs := xs) (p := qs.getD j 0) (f := lenAt xs (qs.getD j 0)) (by omega)
  unfold splice built
  rw [hrl, ← hfl, List.take_left, List.drop_append, List.drop_eq_nil_of_le (by omega), List.drop_replicate]
  rw [hfl, show n - toAt xs qs j - (toAt xs qs j + (2 + lenAt xs (qs.getD j 0)) - toAt xs qs j) = n - toAt xs qs (j + 1) by omega]
  simp [rawWords]

theorem Room.redirected {xs : List Int} {t : Nat} {l qs : List Nat} (h : Room xs t l qs) (h1 : 1 ≤ t) (ht : t ≤ xs.length) {n : Nat} (m : Int → Option Int) {j : Nat} (hj : j < qs.length) :
    (front xs m qs j ++ [xs.getD (qs.getD j 0) 0, xs.getD (qs.getD j 0 + 1) 0]) ++ ((fieldsAt xs (qs.getD j 0) (lenAt xs (qs.getD j 0))).map (redir m) ++ List.replicate (n - toAt xs qs (j + 1)) 0) = built n xs m qs (j + 1) := by
  unfold built
  rw [h.front_length ht m (j + 1) (by omega), front_succ hj]
  simp [objWords]

theorem astray_iff {xs : List Int} {qs : List Nat} {m : Int → Option Int} (hd : Dest xs qs qs.length m) {p f : Nat} (hf : xs.getD (p + 1) 0 = (f : Int)) (hlen : p + 2 + f ≤ xs.length) :
    (∃ y ∈ fieldsAt xs p f, Astray m y) ↔ ¬ ∀ q, Refers xs p q → q ∈ nums qs := by
  constructor
  · rintro ⟨y, hy, h1, h2⟩ hall
    obtain ⟨k, hk, rfl⟩ := mem_at.1 hy
    rw [fieldsAt_length hlen] at hk
    rw [fieldsAt_getD hk] at h1 h2
    have hz : xs.getD (p + 2 + k) 0 / 2 ≠ 0 := fun e => by rw [e, hd.zero] at h2; cases h2
    have := hd.has.2 (.inr (hall _ ⟨k, by rw [hf]; omega, h1, rfl, hz⟩))
    rw [h2] at this
    cases this
  · intro hn
    refine Classical.byContradiction fun hno => hn fun q hq => ?_
    obtain ⟨k, hk, h1, h2, h3⟩ := hq
    rw [hf] at hk
    have hk' : k < f := by omega
    have hmem : xs.getD (p + 2 + k) 0 ∈ fieldsAt xs p f := mem_at.2 ⟨k, by rw [fieldsAt_length hlen]; exact hk', fieldsAt_getD hk'⟩
    cases hm : m q with
    | none => exact absurd ⟨_, hmem, h1, by rw [h2]; exact hm⟩ hno
    | some v =>
      have := (hd.has (x := q)).1 (by rw [hm]; rfl)
      exact this.resolve_left h3

theorem Dest.small {xs : List Int} {t : Nat} {l qs : List Nat} {m : Int → Option Int} (hd : Dest xs qs qs.length m) (h : Room xs t l qs) (h1 : 1 ≤ t) (ht : t ≤ 400) : ∀ x v, m x = some v → 0 ≤ v ∧ v ≤ 400 := by
  intro x v hv
  rcases (hd.has (x := x)).1 (by rw [hv]; rfl) with rfl | hm
  · rw [hd.zero] at hv
    injection hv with hv
    omega
  · obtain ⟨i, hi, rfl⟩ := mem_at.1 hm
    rw [nums_length] at hi
    rw [nums_getD, hd.new i hi] at hv
    injection hv with hv
    have := h.end_le h1 i (by omega)
    omega

theorem Box2.kept {w w' : World} {b : Nat} {x y : Value} (h : Box2 w b x y) (e : w'.heap[b]? = w.heap[b]?) (hs : w.heap.size ≤ w'.heap.size) : Box2 w' b x y :=
  ⟨(World.cell?_of_block e).trans h.c0, (World.cell?_of_block e).trans h.c1, (World.frozen?_of_block e).trans h.f0, (World.frozen?_of_block e).trans h.f1, Nat.lt_of_lt_of_le h.lt hs⟩

/-- What move keeps in memory: its argument, its result, the new heap (its box at block M, its words in block g, the map of new addresses behind the box). -/
structure MoveSt (w wr : World) (ah : Value) (top : Int) (g M n c t kk : Nat) (ys : List Int) (m : Int → Option Int) : Prop where
  bh : Box2 wr w.heap.size ah (.int .i64 top)
  br : Box2 wr (w.heap.size + 1) (.slice none 0 0) (.int .i64 0)
  bm : Box2 wr M (.slice (some ⟨g, 0, none⟩) n c) (.int .i64 t)
  own : Own wr (w.heap.size + 2) (.slice (some ⟨g, 0, none⟩) n c) ys
  map : MapI wr (M + 1) kk m
  below : Below w.heap.size w wr
  gM : g < M

theorem MoveSt.glt {w wr : World} {ah : Value} {top : Int} {g M n c t kk : Nat} {ys : List Int} {m : Int → Option Int} (h : MoveSt w wr ah top g M n c t kk ys m) : w.heap.size + 2 ≤ g := (World.ownsRow.lt h.own g rfl).1

theorem MoveSt.next {w wr w' : World} {ah : Value} {top : Int} {g M n c t kk : Nat} {ys : List Int} {m : Int → Option Int} (h : MoveSt w wr ah top g M n c t kk ys m) (hb : Below wr.heap.size wr w') : MoveSt w w' ah top g M n c t kk ys m :=
  ⟨h.bh.next hb, h.br.next hb, h.bm.next hb, Own.below h.own hb, h.map.kept (hb.block _ h.map.lt), Below.next h.below hb, h.gM⟩

/-- The words change. -/
theorem MoveSt.words {w wr w' : World} {ah : Value} {top : Int} {g M n c t kk : Nat} {ys ys' : List Int} {m : Int → Option Int} (h : MoveSt w wr ah top g M n c t kk ys m) (hg : wr.grownBy w' (some g)) (ho : Own w' (w.heap.size + 2) (.slice (some ⟨g, 0, none⟩) n c) ys') : MoveSt w w' ah top g M n c t kk ys' m := by
  have h1 := h.glt
  have h2 := h.gM
  refine ⟨h.bh.kept (hg.block _ h.bh.lt (fun e => by have := Option.some.inj e; omega)) hg.size, h.br.kept (hg.block _ h.br.lt (fun e => by have := Option.some.inj e; omega)) hg.size, h.bm.kept (hg.block _ h.bm.lt (fun e => by have := Option.some.inj e; omega)) hg.size, ho,
    h.map.kept (hg.block _ h.map.lt (fun e => by have := Option.some.inj e; omega)), ?_, h2⟩
  exact h.below.grown hg h.below.size (fun k hk => by have := Option.some.inj hk; omega)

/-- The map changes. -/
theorem MoveSt.puts {w wr w' : World} {ah : Value} {top : Int} {g M n c t kk kk' : Nat} {ys : List Int} {m m' : Int → Option Int} (h : MoveSt w wr ah top g M n c t kk ys m) (hg : wr.grownBy w' (some (M + 1))) (hm : MapI w' (M + 1) kk' m') : MoveSt w w' ah top g M n c t kk' ys m' := by
  have h1 := h.glt
  have h2 := h.gM
  refine ⟨h.bh.kept (hg.block _ h.bh.lt (fun e => by have := Option.some.inj e; omega)) hg.size, h.br.kept (hg.block _ h.br.lt (fun e => by have := Option.some.inj e; omega)) hg.size, h.bm.kept (hg.block _ h.bm.lt (fun e => by have := Option.some.inj e; omega)) hg.size,
    h.own.grown hg (by simp [Value.ownBlock]; omega), hm, ?_, h2⟩
  exact h.below.grown hg h.below.size (fun k hk => by have := Option.some.inj hk; omega)

/-- The top of the new heap changes. -/
theorem MoveSt.tops {w wr : World} {ah : Value} {top : Int} {g M n c t kk : Nat} {ys : List Int} {m : Int → Option Int} (h : MoveSt w wr ah top g M n c t kk ys m) (t' : Nat) : MoveSt w (wr.setCell ⟨M, 1, none⟩ (.int .i64 t')) ah top g M n c t' kk ys m := by
  have h1 := h.glt
  have h2 := h.gM
  refine ⟨h.bh.far (by dsimp only; omega) _, h.br.far (by dsimp only; omega) _, ?_, h.own.far (by simp [Value.ownBlock]; omega) _, h.map.kept (Below.heap_setCell _ _ _ _ (by dsimp only; omega)), h.below.setCell (by dsimp only; omega) _, h2⟩
  obtain ⟨b0, b1, b2, b3, b4⟩ := h.bm
  constructor <;> go_simp

theorem Moves.at {w : World} {a : Option Addr} {ps : List (Nat × Nat)} (h : Moves w a ps) (h0 : 0 < ps.length) : ∃ b o, a = some ⟨b, o, none⟩ ∧ b < w.heap.size ∧ ∀ i, i < ps.length → w.cell? ⟨b, o + i * 2, none⟩ = some (.int .i64 ((ps.getD i (0, 0)).1 : Int)) ∧ w.cell? ⟨b, o + i * 2 + 1, none⟩ = some (.int .i64 ((ps.getD i (0, 0)).2 : Int)) := by
  rcases h with rfl | h
  · simp at h0
  · exact h

theorem planOf_getD {xs : List Int} {qs : List Nat} {k i : Nat} (hi : i < k) : (planOf xs qs k).getD i (0, 0) = (qs.getD i 0, toAt xs qs i) := by
  simp [planOf, List.getD_eq_getElem?_getD, List.getElem?_map, List.getElem?_range hi]
end Go.Proofs.Ytpdcaoagpjcgbab
