/-
  The walk of limewashkeep.Shared for four threads. It proves no statement by itself.
-/
import Derived.Test.YtpdcaoagpjcgbabLawA
set_option linter.unusedVariables false
set_option linter.unusedSimpArgs false
namespace Go.Proofs.Ytpdcaoagpjcgbab
open Go.RowKit Stm

def copies : Nat → List Stm.Act
  | 0 => []
  | t + 1 => copies t ++ [⟨8, (t + 1 : Nat), 0, 0, 0⟩, ⟨8, (t + 1 : Nat), 1, 1, 0⟩]
def shared6 : List Stm.Act := [⟨1, 0, 0, 0, 0⟩, ⟨4, 0, 0, 0, 3⟩, ⟨4, 0, 1, 0, 3⟩, ⟨6, 0, 0, 1, 0⟩, ⟨6, 0, 1, 0, 1⟩, ⟨2, 0, 0, 0, 0⟩]
def sharedActs : List Stm.Act := shared6 ++ copies 3
theorem copies_length : ∀ t, (copies t).length = 2 * t
  | 0 => rfl
  | t + 1 => by simp [copies, copies_length t]; omega

def SharedPost (w : World) (e : Ending) (w' : World) : Prop :=
  ∃ a cap, e = .returned (.slice a 12 cap) ∧ OwnC w' w.heap.size (.slice a 12 cap) sharedActs ∧ Below w.heap.size w w'

theorem two_new (w : World) (x y : Stm.Act) (t : TypeId) : ∀ j u, (actCells x ++ actCells y)[j]? = some u → (w.alloc (.cells (actCells x ++ actCells y).toArray t)).cell? ((⟨w.heap.size, 0, none⟩ : Addr).add j) = some u := fun j u hu => by
  rw [addr_add]
  exact (BoxL.new w (actCells x ++ actCells y) t).cell j u hu

theorem Below.step {rb : Nat} {a b c : World} (h : Below rb a b) (k : Below rb b c) : Below rb a c := h.trans k

set_option maxHeartbeats 3200000 in
set_option maxRecDepth 100000 in
theorem shared_any (w : World) : Calls Try.prog 37 #[.int .i64 4] w (SharedPost w) := by
  obtain ⟨iA, hiA, hA0, hA1, hA2⟩ := info_parts Try.actInfo
  have hmf : ∀ (fn : Fn) (first cap : Array Value) (w : World), (Instr.makeFunc fn first cap).run Try.prog w = .ok (.func fn first cap) w := fun _ _ _ _ => rfl
  have hnew : (w.alloc (.cells #[.slice none 0 0] 61)).heap[w.heap.size]? = some (.cells #[.slice none 0 0] 61 (0, 0)) := (MapKept.heap_alloc w _).1
  have h0 : ∃ v, ListAt w.heap.size (w.alloc (.cells #[.slice none 0 0] 61)) [] v := ⟨_, hnew, World.ownsRow_nil _ _ _ _⟩
  have hb0 : Below w.heap.size w (w.alloc (.cells #[.slice none 0 0] 61)) := (by repeat (first | exact Below.refl _ _ | assumption | refine Below.drew ?_ | refine below_drewN ?_ _ | refine Below.allocs ?_ | refine Below.next ?_ (by assumption) | refine Below.setCell ?_ (by dsimp only; omega) _))
  have H0 := Lib.hide h0
  have HB0 := Lib.hide hb0
  clear hnew h0 hb0
  go_enter Try.func37, Try.ntmps37
  go_wp2_with fail
  refine (shared1_any w.heap.size _ [] 1 0 0 0 H0.out (by simp)).mono ?_
  rintro e w1 ⟨rfl, h1, hb1⟩
  have HB1 := Lib.hide (Below.step HB0.out hb1)
  have H1 := Lib.hide h1
  clear h1 hb1 H0 HB0
  go_wp2_with fail
  refine (shared1_any w.heap.size w1 _ 4 0 0 3 H1.out (by simp)).mono ?_
  rintro e w2 ⟨rfl, h2, hb2⟩
  have HB2 := Lib.hide (Below.step HB1.out hb2)
  have H2 := Lib.hide h2
  clear h2 hb2 H1 HB1
  go_wp2_with fail
  refine (shared1_any w.heap.size w2 _ 4 1 0 3 H2.out (by simp)).mono ?_
  rintro e w3 ⟨rfl, h3, hb3⟩
  have HB3 := Lib.hide (Below.step HB2.out hb3)
  have H3 := Lib.hide h3
  clear h3 hb3 H2 HB2
  go_wp2_with fail
  refine (shared1_any w.heap.size w3 _ 6 0 1 0 H3.out (by simp)).mono ?_
  rintro e w4 ⟨rfl, h4, hb4⟩
  have HB4 := Lib.hide (Below.step HB3.out hb4)
  have H4 := Lib.hide h4
  clear h4 hb4 H3 HB3
  go_wp2_with fail
  refine (shared1_any w.heap.size w4 _ 6 1 0 1 H4.out (by simp)).mono ?_
  rintro e w5 ⟨rfl, h5, hb5⟩
  have HB5 := Lib.hide (Below.step HB4.out hb5)
  have H5 := Lib.hide h5
  clear h5 hb5 H4 HB4
  go_wp2_with fail
  refine (shared1_any w.heap.size w5 _ 2 0 0 0 H5.out (by simp)).mono ?_
  rintro e w6 ⟨rfl, h6, hb6⟩
  have HB6 := Lib.hide (Below.step HB5.out hb6)
  have H6 := Lib.hide (show ∃ v, ListAt w.heap.size w6 shared6 v from h6)
  clear h6 hb6 H5 HB5
  go_wp2
  go_loopw [5] (fun u wr => ∃ t : Nat, t ≤ 3 ∧ u = .int .i64 (t + 1 : Nat) ∧ (∃ v, ListAt w.heap.size wr (shared6 ++ copies t) v) ∧ Below w.heap.size w wr) (fun u _ => 4 - (intOf u).toNat)
  case atStart => exact ⟨0, by omega, rfl, by simpa [copies] using H6.out, HB6.out⟩
  case round =>
    obtain ⟨t, ht, rfl, ⟨v, hb, ho⟩, hbel⟩ := hrel
    have hll : (shared6 ++ copies t).length = 6 + 2 * t := by rw [List.length_append, copies_length]; rfl
    have c1 := cell_of_one hb
    have hlt := lt_of_block hb
    have HBK := Lib.hide hb
    have HO := Lib.hide ho
    have HBE := Lib.hide hbel
    clear hb ho hbel
    by_cases h3 : t < 3
    · have i1 : ((t + 1 : Nat) : Int) < 4 := by omega
      go_wp2_with (at_builtin; refine wpList_append_at _ rfl (.tmp 24) (.tmp 29) 61 rfl (w.heap.size + 1) 71 iA _ 5 40 Try.underlying61 hiA hA0 hA1 hA2 rfl (by decide) v _ (ccells (shared6 ++ copies t)) rfl (World.ownsRow.alloc HO.out _) ⟨wr.heap.size, 0, none⟩ 2 2 (actCells ⟨8, (t + 1 : Nat), 0, 0, 0⟩ ++ actCells ⟨8, (t + 1 : Nat), 1, 1, 0⟩) rfl rfl (two_new wr ⟨8, (t + 1 : Nat), 0, 0, 0⟩ ⟨8, (t + 1 : Nat), 1, 1, 0⟩ _) ?c2 ?c3 ?c4 ?c5 ?_)
      case c2 => intro u hu; simp [actCells] at hu; rcases hu with rfl | rfl | rfl | rfl | rfl | rfl | rfl | rfl | rfl | rfl <;> rfl
      case c3 => rw [hll]; unfold maxLen; omega
      case c4 => rw [hll]; omega
      case c5 => simp; omega
      intro v' w7 hown' hg2 hat _
      obtain ⟨g5, cp5, cur5, rfl, _⟩ := hown'.2.resolve_left (fun h => by omega)
      have hvb : ∀ g, v.ownBlock = some g → w.heap.size + 1 ≤ g := fun g hg => (World.ownsRow.lt HO.out g hg).1
      have hvb' : w.heap.size + 1 ≤ g5 ∧ g5 < w7.heap.size := World.ownsRow.lt hown' g5 rfl
      have hA' : ∀ i, i < wr.heap.size → v.ownBlock ≠ some i → w7.heap[i]? = wr.heap[i]? := fun i hi hn => by
        rw [hg2.block i (by simp; omega) (fun e => hn e.symm), Below.heap_alloc _ _ _ hi]
      have hb2 : w7.heap[w.heap.size]? = some (.cells #[v] 61 (0, 0)) := (hA' w.heap.size hlt (fun e => by have := hvb _ e; omega)).trans HBK.out
      have c2 := cell_of_one hb2
      have f2 : w7.frozen? ⟨w.heap.size, 0, none⟩ = false := by unfold World.frozen?; rw [hb2]; simp
      have cl2 := lt_of_block hb2
      have hsz2 : wr.heap.size + 1 ≤ w7.heap.size := by have h9 := hg2.size; simpa using h9
      have hfin : (∃ v, ListAt w.heap.size (w7.setCell ⟨w.heap.size, 0, none⟩ (.slice (some ⟨g5, 0, none⟩) (6 + 2 * t + 2) cp5)) (shared6 ++ copies (t + 1)) v) ∧ Below w.heap.size w (w7.setCell ⟨w.heap.size, 0, none⟩ (.slice (some ⟨g5, 0, none⟩) (6 + 2 * t + 2) cp5)) := by
        refine ⟨⟨_, one_setCell hb2, ?_⟩, ⟨hg2.os.trans HBE.out.os, hg2.tape.trans HBE.out.tape, hg2.output.trans HBE.out.output, by have := HBE.out.size; simp [World.setCell]; omega, fun k hk => ?_⟩⟩
        · unfold OwnC copies
          rw [← List.append_assoc, ccells_append, List.length_append, hll]
          exact ownsRow_setCell_other hown' (fun e => by
            have e' : some g5 = some (⟨w.heap.size, 0, none⟩ : Addr).block := e
            have := Option.some.inj e'
            dsimp only at this
            omega) _
        · rw [set_other _ _ _ _ _ (by omega)]
          exact (hA' k (by have := HBE.out.size; omega) (fun e => by have := hvb k e; omega)).trans (HBE.out.block k hk)
      have HF := Lib.hide hfin
      clear hown' hg2 hat hvb hvb' hA' hb2 hsz2 hfin c1 hlt
      go_wp2
      go_roundw
      case rel => exact ⟨t + 1, by omega, by go_num, HF.out⟩
      case measure => simp [intOf]; omega
    · obtain rfl : t = 3 := by omega
      have hform : ∃ a cap, v = .slice a 12 cap := by
        rcases HO.out.2 with ⟨e1, e2⟩ | ⟨g, cap, cur, e1, _⟩
        · rw [hll] at e2; omega
        · exact ⟨_, cap, by rw [e1, hll]⟩
      obtain ⟨a, cap, rfl⟩ := hform
      have HP := Lib.hide (show SharedPost w (.returned (.slice a 12 cap)) wr from ⟨a, cap, rfl, ownsRow_base HO.out (Nat.le_succ _), HBE.out⟩)
      go_wp2
      go_ret
      exact HP.out
end Go.Proofs.Ytpdcaoagpjcgbab

