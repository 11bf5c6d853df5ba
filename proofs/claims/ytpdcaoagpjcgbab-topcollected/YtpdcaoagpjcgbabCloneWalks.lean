/-
  The walk of slices.Clone over acts. It proves no statement by itself.
-/
import Derived.Test.YtpdcaoagpjcgbabPlA
set_option linter.unusedVariables false
set_option linter.unusedSimpArgs false
namespace Go.Proofs.Ytpdcaoagpjcgbab
open Go.RowKit Stm

theorem ActsAt.news {w : World} {b o : Nat} {l : List Stm.Act} (h : ActsAt w (some ⟨b, o, none⟩) l) : ∀ j u, (ccells l)[j]? = some u → w.cell? ((⟨b, o, none⟩ : Addr).add j) = some u := fun j u hu => by
  have hj : j < l.length * 5 := by
    rcases Nat.lt_or_ge j (l.length * 5) with h' | h'
    · exact h'
    · rw [List.getElem?_eq_none (by rw [ccells_length]; exact h')] at hu; cases hu
  have hd : j / 5 < l.length := by omega
  have hx : l[j / 5]? = some l[j / 5] := List.getElem?_eq_getElem hd
  obtain ⟨b', o', eb, c0, c1, c2, c3, c4⟩ := h.cells hx
  injection eb with eb
  injection eb with eb1 eb2
  subst eb1 eb2
  have hat := fun v (hv : (actCells l[j / 5])[j % 5]? = some v) => ccells_at l (j / 5) _ hx (j % 5) v hv
  have ej : j / 5 * 5 + j % 5 = j := by omega
  rw [ej] at hat
  have hm : j % 5 < 5 := Nat.mod_lt _ (by omega)
  have hv : ∃ v, (actCells l[j / 5])[j % 5]? = some v := ⟨(actCells l[j / 5])[j % 5]'hm, List.getElem?_eq_getElem _⟩
  obtain ⟨v, hv⟩ := hv
  have := hat v hv
  rw [hu] at this
  injection this with this
  subst this
  have ea : (⟨b, o, none⟩ : Addr).add j = ⟨b, o + j, none⟩ := by
    unfold Addr.add
    by_cases h0 : j = 0 <;> simp [h0]
  rw [ea]
  have e5 : o + j = o + j / 5 * 5 + j % 5 := by omega
  rw [e5]
  match hmm : j % 5 with
  | 0 => rw [hmm] at hv; simp [actCells] at hv; rw [← hv]; exact c0
  | 1 => rw [hmm] at hv; simp [actCells] at hv; rw [← hv]; exact c1
  | 2 => rw [hmm] at hv; simp [actCells] at hv; rw [← hv]; exact c2
  | 3 => rw [hmm] at hv; simp [actCells] at hv; rw [← hv]; exact c3
  | 4 => rw [hmm] at hv; simp [actCells] at hv; rw [← hv]; exact c4
  | k + 5 => omega

/-- Appending acts that lie somewhere. -/
theorem wpList_append_from {ops : Array Oper} {rest : List Oper} {o : Oper} {a : Go.Act} {Q : Exit → Go.Act → World → Prop} (w : World) (hgd : o.guard = none) (s x : Operand)
    (ho : o.op = .call { callee := .builtin .append, args := #[s, x], argTypes := #[61, 61] }) (base : Nat) (v : Value) (b f k c : Nat) (l m : List Stm.Act)
    (hs : a.eval s = v) (hx : a.eval x = .slice (some ⟨b, f, none⟩) k c) (hk : m.length = k) (hl : OwnC w base v l) (hm : ActsAt w (some ⟨b, f, none⟩) m) (hn : l.length + k ≤ 1000) (hb : base ≤ w.heap.size)
    (h : ∀ v' w', OwnC w' base v' (l ++ m) → Below base w w' → wpList Try.prog ops Q rest (a.put o.dst v') w') : wpList Try.prog ops Q (o :: rest) a w := by
  obtain ⟨iA, hiA, hA0, hA1, hA2⟩ := info_parts Try.actInfo
  subst hk
  refine wpList_append_at w hgd s x 61 ho base 71 iA _ 5 40 Try.underlying61 hiA hA0 hA1 hA2 rfl (by decide) v l.length (ccells l) hs hl ⟨b, f, none⟩ m.length c (ccells m) hx (ccells_length m) hm.news ?_ ?_ ?_ hb ?_
  · intro u hu
    obtain ⟨y, _, hy⟩ := List.mem_flatMap.1 hu
    simp [actCells] at hy
    rcases hy with rfl | rfl | rfl | rfl | rfl <;> rfl
  · unfold maxLen; omega
  · omega
  · intro v' w' h2 hg2 _ _
    refine h v' w' (by unfold OwnC; rw [ccells_append, List.length_append]; exact h2) ⟨hg2.os, hg2.tape, hg2.output, hg2.size, fun k hk => hg2.block k (by omega) (fun e => ?_)⟩
    have := (World.ownsRow.lt hl k e.symm).1
    omega

set_option maxHeartbeats 1600000 in
set_option maxRecDepth 100000 in
theorem cloneC_any (b f L c : Nat) (l : List Stm.Act) (w : World) (hl : l.length = L) (hL : L ≤ 1000) (ha : ActsAt w (some ⟨b, f, none⟩) l) :
    Calls Try.prog 39 #[.slice (some ⟨b, f, none⟩) L c] w fun e w' => ∃ a' c', e = .returned (.slice a' L c') ∧ OwnC w' w.heap.size (.slice a' L c') l ∧ Below w.heap.size w w' := by
  have HL := Lib.hide hl
  have HA := Lib.hide ha
  clear hl ha
  have heq := fun w => Lib.run_eql_slice_nil (P := Try.prog) w 61 71 (some ⟨b, f, none⟩) L c 0 0 Try.underlying61
  go_enter Try.func39, Try.ntmps39
  go_wp2_with (at_builtin; refine wpList_append_from _ rfl (.tmp 5) (.tmp 6) rfl w.heap.size _ b f L c [] l rfl rfl HL.out ?h1 (HA.out.below ?h2) ?h3 ?h4 ?_)
  case h1 => exact ⟨rfl, .inr ⟨w.heap.size, 0, #[], rfl, Nat.le_refl _, heap_alloc_new w _, Nat.le_refl _, Nat.zero_le _, rfl, rfl⟩⟩
  case h2 => exact (by repeat (first | exact Below.refl _ _ | assumption | refine Below.drew ?_ | refine below_drewN ?_ _ | refine Below.allocs ?_ | refine Below.next ?_ (by assumption) | refine Below.setCell ?_ (by dsimp only; omega) _))
  case h3 => simp; omega
  case h4 => simp
  intro v' w' ho hb
  have hB : Below w.heap.size w w' := Below.step (show Below w.heap.size w (w.alloc (.cells #[] 71)) from (by repeat (first | exact Below.refl _ _ | assumption | refine Below.drew ?_ | refine below_drewN ?_ _ | refine Below.allocs ?_ | refine Below.next ?_ (by assumption) | refine Below.setCell ?_ (by dsimp only; omega) _))) hb
  obtain ⟨a', c', rfl⟩ : ∃ a' c', v' = .slice a' L c' := by
    rcases ho.2 with ⟨h5, h6⟩ | ⟨g, cap, cur, h5, _⟩
    · exact ⟨none, 0, by rw [h5, ← HL.out, h6]⟩
    · exact ⟨_, cap, by rw [h5, HL.out]⟩
  have HF := Lib.hide (And.intro ho hB)
  clear ho hb hB
  go_wp2
  go_ret
  exact ⟨a', c', rfl, HF.out⟩
end Go.Proofs.Ytpdcaoagpjcgbab

