/-
  The walk of collect of package stm. It proves no statement by itself.
-/
import Derived.Test.YtpdcaoagpjcgbabVisB
import Derived.Test.YtpdcaoagpjcgbabStmPut
import Derived.Test.YtpdcaoagpjcgbabGcC
import Derived.Test.YtpdcaoagpjcgbabGcD
import Derived.Test.YtpdcaoagpjcgbabHeapB
set_option linter.unusedVariables false
set_option linter.unusedSimpArgs false
namespace Go.Proofs.Ytpdcaoagpjcgbab
open Go.RowKit Stm

/-- What a method that returns a code leaves. -/
def MCodeW (w : World) (B mb k : Nat) (ρ : Roles) (R : Ans → Mc → Prop) (e : Ending) (w' : World) : Prop :=
  ∃ (x : Int) (c' : Mc) (m' : Mem) (ρ' : Roles), R (.err x) c' ∧ e = .returned (.int .i64 x) ∧ Mach w' B mb k ρ' c' m' ∧ MovedW ρ w ρ' w'
def MAnsW (w : World) (B mb k : Nat) (ρ : Roles) (R : Ans → Mc → Prop) (e : Ending) (w' : World) : Prop :=
  ∃ (r : Ans) (c' : Mc) (m' : Mem) (ρ' : Roles), R r c' ∧ e = .returned (ansVal r) ∧ Mach w' B mb k ρ' c' m' ∧ MovedW ρ w ρ' w'

/-- The machine takes over a list of retained objects. -/
theorem Mach.newColl {w w' : World} {B mb k : Nat} {ρ : Roles} {c : Mc} {m : Mem} (h : Mach w B mb k ρ c m) (hB : B ≤ w.heap.size) (hb : Below w.heap.size w w') {a : Option Addr} {n cp : Nat} {zs : List Int} (hn : zs.length = n) (ho : Own w' w.heap.size (.slice a n cp) zs) (g : Bool) (left top : Int) :
    ∃ ρ', Mach (puts w' mb 78 [.bool g, .slice a n cp, .int .i64 left, .int .i64 top]) B mb k ρ' ⟨c.xs, c.top, c.regs, c.tx, ⟨g, zs, left, top⟩⟩ ⟨m.wa, m.wcap, m.rm, m.om, m.fa, m.fc, a, cp⟩ ∧ MovedW ρ w ρ' (puts w' mb 78 [.bool g, .slice a n cp, .int .i64 left, .int .i64 top]) := by
  have h1 := h.next hb
  have hlow : ∀ g, (Value.slice a n cp).ownBlock = some g → w.heap.size ≤ g ∧ g < w'.heap.size := fun g hg => World.ownsRow.lt ho _ hg
  let ρ' : Roles := fun i => if (Value.slice a n cp).ownBlock = some i then some (2, 0, 0) else ρ i
  have e1 : ∀ i, i < w.heap.size → ρ' i = ρ i := fun i hi => by
    show (if (Value.slice a n cp).ownBlock = some i then some (2, 0, 0) else ρ i) = ρ i
    rw [if_neg (fun hh => by have := (hlow i hh).1; omega)]
  have h2 := h1.roles (ρ' := ρ') (fun i hi => e1 i (h.low i hi).2) (fun i hi => by
    by_cases hh : (Value.slice a n cp).ownBlock = some i
    · have := hlow i hh; omega
    · have : ρ i ≠ none := fun hn => hi (by
        show (if (Value.slice a n cp).ownBlock = some i then some (2, 0, 0) else ρ i) = none
        rw [if_neg hh]; exact hn)
      exact h1.low i this)
  have hrole : ∀ g, (Value.slice a n cp).ownBlock = some g → ρ' g = some (2, 0, 0) := fun g hg => by
    show (if (Value.slice a n cp).ownBlock = some g then some (2, 0, 0) else ρ g) = _
    rw [if_pos hg]
  refine ⟨ρ', h2.setColl g a n cp zs left top hn (ownsRow_base ho hB) hrole, ?_⟩
  have m1 : Moved ρ w ρ' w' := { Moved.of_below (ρ := ρ) hb with roles := e1 }
  exact (m1.trans (Moved.put h2 78 _)).w

theorem Inv.roots {c : Mc} {l : List Nat} {k : Nat} (h : Inv c l k) {q : Int} (hq : IsRoot c q) : q ∈ keepL c l := by
  rcases hq with (⟨t, r, _, _, e⟩ | ⟨t, r, _, _, e⟩ | ⟨t, p, o, _, hp, ho⟩) | ⟨t, _, (⟨v, hv⟩ | ⟨o, ho⟩)⟩
  · rcases h.regs t r with ⟨h1, _⟩ | ⟨_, h1⟩ <;> rw [e] at h1
    · cases h1
    · exact h1
  · rcases h.saved t r with ⟨h1, _⟩ | ⟨_, h1⟩ <;> rw [e] at h1
    · cases h1
    · exact h1
  · rcases h.fields t p o hp _ ho with ⟨h1, _⟩ | ⟨_, h1⟩
    · cases h1
    · exact h1
  · exact (h.recd t q v hv).1
  · exact (h.own t q o ho).1

set_option maxHeartbeats 800000 in
theorem collect_no (B mb k : Nat) (ρ : Roles) (c : Mc) (m : Mem) (l : List Nat) (w : World) (h : Mach w B mb k ρ c m) (hg : c.coll.going = true) :
    Calls Try.prog 93 #[.pointer (some ⟨mb, 0, none⟩)] w (MCodeW w B mb k ρ (CCollect c l)) := by
  have x0 := h.blk.going
  rw [hg] at x0
  have hlt := h.blk.lt
  have HP := Lib.hide (show MCodeW w B mb k ρ (CCollect c l) (.returned (.int .i64 5)) w from ⟨5, c, m, ρ, Ite.pos hg ⟨rfl, rfl⟩, rfl, h, MovedW.refl _ _⟩)
  clear h hg
  go_enter Try.func93, Try.ntmps93
  go_wp2
  go_ret
  exact HP.out

set_option maxHeartbeats 1600000 in
set_option maxRecDepth 100000 in
theorem collect_yes (B mb k : Nat) (ρ : Roles) (c : Mc) (m : Mem) (l : List Nat) (k' : Nat) (w : World) (h : Mach w B mb k ρ c m) (hi : Inv c l k') (hB : B ≤ w.heap.size) (hk : k ≤ 1000) (hg : c.coll.going = false) :
    Calls Try.prog 93 #[.pointer (some ⟨mb, 0, none⟩)] w (MCodeW w B mb k ρ (CCollect c l)) := by
  have x0 := h.blk.going
  rw [hg] at x0
  have hlt := h.blk.lt
  have y0 := h.blk.words
  have y1 := h.blk.top
  have H := Lib.hide h
  have HI := Lib.hide hi
  have HG := Lib.hide hg
  have HV := Lib.hide (hi.vis (f := fun p => p) (fun p q _ _ e => e))
  clear h hi hg
  go_enter Try.func93, Try.ntmps93
  go_wp2
  clear x0
  have hBd : B ≤ w.drew.heap.size := hB
  have CR := Lib.hide (roots_any B mb k ρ c m w.drew H.out.drew hBd hk HV.out)
  go_region_held3 (fun w' => w'.cell? ⟨mb, 0, none⟩ = some (.slice m.wa c.xs.length m.wcap) ∧ w'.cell? ⟨mb, 1, none⟩ = some (.int .i64 c.top))
    (first | exact ⟨y0, y1⟩ | exact ⟨k0, k1⟩ | exact ⟨l0, l1⟩ | go_keep)
    (first
      | (go_at_call 115; (with_reducible refine CR.out.mono ?_); rintro e w2 ⟨a2, cp2, rs, m2, ρ2, rfl, ho2, hrs, hrl, hm2, hmv2, hwa2, hwc2⟩; have k0 := hm2.blk.words; rw [hwa2, hwc2] at k0; have k1 := hm2.blk.top; have kl := hm2.blk.lt; have HM2 := Lib.hide hm2; have MV2 := Lib.hide ((Moved.drew ρ w).w.trans hmv2); have HO2 := Lib.hide (show Own w2 w.heap.size (.slice a2 rs.length cp2) rs from ho2); have HRS := Lib.hide hrs; have HRL := Lib.hide hrl; have HHW := Lib.hide (show IsHeap w2 m.wa c.xs.length m.wcap c.xs c.top by have h9 := hm2.isHeap HI.out; rwa [hwa2, hwc2] at h9); have HRO := Lib.hide (show RootsOk (nums l) rs from fun q hq => .inr (HI.out.sub (HI.out.roots ((hrs q).1 hq)))); clear hm2 hmv2 ho2 hrs hrl hwa2 hwc2)
      | (go_at_call 24; (refine (reach_yes m.wa c.xs.length m.wcap c.xs c.top l a2 rs.length cp2 rs w2 HHW.out HI.out.valid HO2.out.reads.2 rfl (by have := HRL.out; omega) HRO.out).mono ?_); rintro e w3 ⟨zs, a3, cp3, hz, rfl, ho3, hb3⟩; have l0 := (hb3.cell (p := ⟨mb, 0, none⟩) kl).trans k0; have l1 := (hb3.cell (p := ⟨mb, 1, none⟩) kl).trans k1; have HZ := Lib.hide hz; have HO3 := Lib.hide ho3; have HB3 := Lib.hide hb3; clear hz ho3 hb3))
  have hm3 := HM2.out.next HB3.out
  have q1 := hm3.blk.going
  have q2 := hm3.blk.ret
  have q3 := hm3.blk.left
  have q4 := hm3.blk.ctop
  have f1 := hm3.blk.warm 78
  have f2 := hm3.blk.warm 79
  have f3 := hm3.blk.warm 80
  have f4 := hm3.blk.warm 81
  have ql := hm3.blk.lt
  have hw2B : B ≤ w2.heap.size := Nat.le_trans hB MV2.out.size
  obtain ⟨ρ4, hm4, hmv4⟩ := HM2.out.newColl hw2B HB3.out rfl HO3.out true zs.length c.top
  rw [puts_four] at hm4 hmv4
  have HP := Lib.hide (show MCodeW w B mb k ρ (CCollect c l) (.returned (.int .i64 0)) _ from ⟨0, _, _, ρ4, Ite.neg (by rw [HG.out]; simp) ⟨rfl, rs, zs, HRS.out, HZ.out, rfl⟩, rfl, hm4, MV2.out.trans hmv4⟩)
  clear hm3 hm4 hmv4 k0 k1 kl y0 y1 hlt
  go_wp2
  go_ret
  exact HP.out

theorem collect_any (B mb k : Nat) (ρ : Roles) (c : Mc) (m : Mem) (l : List Nat) (k' : Nat) (w : World) (h : Mach w B mb k ρ c m) (hi : Inv c l k') (hB : B ≤ w.heap.size) (hk : k ≤ 1000) :
    Calls Try.prog 93 #[.pointer (some ⟨mb, 0, none⟩)] w (MCodeW w B mb k ρ (CCollect c l)) := by
  cases hg : c.coll.going
  · exact collect_yes B mb k ρ c m l k' w h hi hB hk hg
  · exact collect_no B mb k ρ c m l w h hg
end Go.Proofs.Ytpdcaoagpjcgbab

/-
  The walks of follow of package stm and of its closure. They prove no statement by themselves.
-/
namespace Go.Proofs.Ytpdcaoagpjcgbab
open Go.RowKit Stm

/-- The table of new addresses, in a variable at block fb. -/
def FollowAt (fb tb n : Nat) (g : Int → Option Int) (w : World) (ρ : Roles) (_ : List Int) : Prop :=
  w.heap[fb]? = some (.cells #[.map (some tb)] 55 (0, 0)) ∧ ρ fb = some (6, 0, 0) ∧ MapR w tb n (recV g) ∧ ρ tb = some (6, 0, 0)

theorem MovedC.same {ρ : Roles} {w : World} (hl : ∀ i, ρ i ≠ none → i < w.heap.size) : MovedC ρ w ρ w := MovedC.refl hl

set_option maxHeartbeats 800000 in
theorem follow1_any (fb tb n : Nat) (g : Int → Option Int) (w : World) (ρ : Roles) (s : List Int) (p : Int) (h : FollowAt fb tb n g w ρ s) (hl : ∀ i, ρ i ≠ none → i < w.heap.size) (hp : Fits p) :
    Calls Try.prog 131 #[.int .i64 p, .pointer (some ⟨fb, 0, none⟩)] w (fun e w' => e = .returned (.int .i64 (mvN g p)) ∧ ∃ ρ', FollowAt fb tb n g w' ρ' (s ++ [p]) ∧ MovedC ρ w ρ' w') := by
  have HP := Lib.hide (show ∃ ρ', FollowAt fb tb n g w ρ' (s ++ [p]) ∧ MovedC ρ w ρ' w from ⟨ρ, h, MovedC.same hl⟩)
  obtain ⟨h1, _, h3, _⟩ := h
  have c1 := cell_of_one h1
  have hlook := h3.look Try.underlying55 (Try.zeroInt w) hp (.int .i64 (mvN g p)) (by unfold recV mvN; cases g p <;> rfl)
  clear h1 h3 hl hp
  go_enter Try.func131, Try.ntmps131
  go_wp2
  go_ret
  exact ⟨rfl, HP.out⟩

theorem followClo (fb tb n : Nat) (g : Int → Option Int) (hf : ∀ p, Fits (mvN g p)) : Clo 131 (.pointer (some ⟨fb, 0, none⟩)) (FollowAt fb tb n g) (mvN g) := by
  refine ⟨fun w ρ s p h hl _ hp => follow1_any fb tb n g w ρ s p h hl hp, fun w ρ s w' ρ' h hb hsz hr => ?_, fun p _ => hf p, fun args w => by go_simp⟩
  obtain ⟨h1, h2, h3, h4⟩ := h
  exact ⟨(hb fb h2).trans h1, hr fb h2, h3.kept (hb tb h4), hr tb h4⟩

/-- The table, so far. -/
structure Fol (xs : List Int) (qs : List Nat) (j : Nat) (g : Int → Option Int) : Prop where
  new : ∀ i, i < j → g ((qs.getD i 0 : Nat) : Int) = some ((toAt xs qs i : Nat) : Int)
  other : ∀ x, x ∉ nums (qs.take j) → g x = none
theorem Fol.start (xs : List Int) (qs : List Nat) : Fol xs qs 0 (fun _ => none) := ⟨fun i hi => absurd hi (Nat.not_lt_zero _), fun _ _ => rfl⟩
theorem Fol.step {xs : List Int} {qs : List Nat} {j : Nat} {g : Int → Option Int} (h : Fol xs qs j g) (hj : j < qs.length) (hs : qs.Pairwise (· < ·)) :
    Fol xs qs (j + 1) (setAt g ((qs.getD j 0 : Nat) : Int) (some ((toAt xs qs j : Nat) : Int))) := by
  refine ⟨fun i hi => ?_, fun x hn => ?_⟩
  · rcases Nat.lt_or_ge i j with h' | h'
    · have := sorted_at (nums_sorted hs) (i := i) (j := j) h' (by rw [nums_length]; exact hj)
      rw [nums_getD, nums_getD] at this
      rw [setAt_other _ _ (by omega)]
      exact h.new i h'
    · obtain rfl : i = j := by omega
      exact setAt_same _ _ _
  · rw [take_snoc_nat hj, nums_append] at hn
    have hn1 : x ∉ nums (qs.take j) := fun hm => hn (List.mem_append_left _ hm)
    have hn2 : x ≠ ((qs.getD j 0 : Nat) : Int) := fun hm => hn (List.mem_append_right _ (by simp [nums, hm]))
    rw [setAt_other _ _ hn2]
    exact h.other x hn1
/-- It leads where the compaction leads. -/
theorem Fol.same {xs : List Int} {qs : List Nat} {g m : Int → Option Int} (h : Fol xs qs qs.length g) (hd : Dest xs qs qs.length m) (h0 : ∀ q ∈ qs, 1 ≤ q) : mvN g = mvN m := by
  funext x
  unfold mvN
  by_cases hx : x ∈ nums qs
  · obtain ⟨i, hi, e⟩ := mem_at.1 hx
    rw [nums_length] at hi
    rw [nums_getD] at e
    rw [← e, h.new i hi, hd.new i hi]
  · have hx' : x ∉ nums (qs.take qs.length) := by rwa [List.take_of_length_le (Nat.le_refl _)]
    rw [h.other x hx']
    by_cases e : x = 0
    · subst e; rw [hd.zero]; rfl
    · rw [hd.other x e hx']

/-- What follow leaves. -/
def FolPost (w : World) (B mb k : Nat) (ρ : Roles) (c : Mc) (f : Int → Int) (e : Ending) (w' : World) : Prop :=
  ∃ (tx' : Nat → Tx) (m' : Mem) (ρ' : Roles), e = .returned (.tuple #[]) ∧ (∀ t, t < 4 → FTx f (c.tx t) (tx' t)) ∧ (∀ t, 4 ≤ t → tx' t = c.tx t) ∧ Mach w' B mb k ρ' ⟨c.xs, c.top, regsI f c 4, tx', c.coll⟩ m' ∧ MovedW ρ w ρ' w'

set_option maxHeartbeats 1600000 in
set_option maxRecDepth 100000 in
theorem follow_any (B mb k : Nat) (ρ : Roles) (c : Mc) (m : Mem) (xs : List Int) (qs : List Nat) (d : Int → Option Int) (a : Option Addr) (n cp : Nat) (w : World) (h : Mach w B mb k ρ c m) (hB : B ≤ w.heap.size) (hk : k ≤ 1000) (hmv : Moves w a (planOf xs qs n)) (hn : qs.length = n) (hn4 : n ≤ 400)
    (hq : ∀ q ∈ qs, 1 ≤ q ∧ q ≤ 400) (hs : qs.Pairwise (· < ·)) (ht : ∀ j, j < n → toAt xs qs j ≤ 400) (hd : Dest xs qs qs.length d) (hv : VisOk c (mvN d)) :
    Calls Try.prog 125 #[.pointer (some ⟨mb, 0, none⟩), .slice a n cp] w (FolPost w B mb k ρ c (mvN d)) := by
  have hmm := @run_makeMap Try.prog
  have hmf : ∀ (fn : Fn) (first cap : Array Value) (w : World), (Instr.makeFunc fn first cap).run Try.prog w = .ok (.func fn first cap) w := fun _ _ _ _ => rfl
  have H := Lib.hide h
  have HMV := Lib.hide hmv
  have HN := Lib.hide hn
  have HQ := Lib.hide hq
  have HS := Lib.hide hs
  have HT := Lib.hide ht
  have HD := Lib.hide hd
  have HV := Lib.hide hv
  have hX : Below w.heap.size w ((w.alloc (.map #[] 0)).alloc (.cells #[.map (some w.heap.size)] 55)) := (by repeat (first | exact Below.refl _ _ | assumption | refine Below.drew ?_ | refine below_drewN ?_ _ | refine Below.allocs ?_ | refine Below.next ?_ (by assumption) | refine Below.setCell ?_ (by dsimp only; omega) _))
  have HX := Lib.hide hX
  have hX1 : ((w.alloc (.map #[] 0)).alloc (.cells #[.map (some w.heap.size)] 55)).heap[w.heap.size + 1]? = some (.cells #[.map (some w.heap.size)] 55 (0, 0)) := by
    have := (MapKept.heap_alloc (w.alloc (.map #[] 0)) (.cells #[.map (some w.heap.size)] 55)).1
    rwa [show (w.alloc (.map #[] 0)).heap.size = w.heap.size + 1 by simp] at this
  have hX2 : MapR ((w.alloc (.map #[] 0)).alloc (.cells #[.map (some w.heap.size)] 55)) w.heap.size 0 (recV (fun _ => none)) := (MapR.made w).kept (Below.heap_alloc _ _ _ (by simp))
  have HX1 := Lib.hide hX1
  have HX2 := Lib.hide hX2
  clear h hmv hn hq hs ht hd hv hX hX1 hX2
  go_enter Try.func125, Try.ntmps125
  go_wp2
  go_loopw [10] (fun u wr => ∃ (i : Nat) (g : Int → Option Int), i ≤ n ∧ u = .int .i64 i ∧ Fol xs qs i g ∧ MapR wr w.heap.size i (recV g) ∧ wr.heap[w.heap.size + 1]? = some (.cells #[.map (some w.heap.size)] 55 (0, 0)) ∧ Below w.heap.size w wr ∧ w.heap.size + 1 < wr.heap.size) (fun u _ => n - (intOf u).toNat)
  case atStart => exact ⟨0, fun _ => none, Nat.zero_le _, rfl, Fol.start _ _, HX2.out, HX1.out, HX.out, by simp⟩
  case round =>
    obtain ⟨i, g, hin, rfl, hfol, hmp, hfb, hbw, hsz⟩ := hrel
    have HFO := Lib.hide hfol
    have HMP := Lib.hide hmp
    have HFB := Lib.hide hfb
    have HBW := Lib.hide hbw
    by_cases hlt : i < n
    · have hmv2 := HMV.out.below hbw
      obtain ⟨b, o, rfl, hbl, hcell⟩ := hmv2.at (by rw [planOf_length]; omega)
      obtain ⟨e0, e1⟩ := hcell i (by rw [planOf_length]; exact hlt)
      rw [planOf_getD hlt] at e0 e1
      have hqi := HQ.out _ (getD_mem (qs := qs) (j := i) (by rw [HN.out]; exact hlt))
      have hti := HT.out i hlt
      obtain ⟨q, hqe⟩ : ∃ q, qs.getD i 0 = q := ⟨_, rfl⟩
      obtain ⟨t, hte⟩ : ∃ t, toAt xs qs i = t := ⟨_, rfl⟩
      have HST := Lib.hide (HFO.out.step (by rw [HN.out]; exact hlt) HS.out)
      rw [hqe, hte] at HST
      dsimp only at e0 e1
      rw [hqe] at e0 hqi
      rw [hte] at e1 hti
      have i1 : (0 : Int) ≤ (i : Int) := by omega
      have i2 : (i : Int) < (n : Int) := by omega
      have hX : Below wr.heap.size wr (wr.alloc (.cells #[.int .i64 (q : Int), .int .i64 (t : Int)] 57)) := (by repeat (first | exact Below.refl _ _ | assumption | refine Below.drew ?_ | refine below_drewN ?_ _ | refine Below.allocs ?_ | refine Below.next ?_ (by assumption) | refine Below.setCell ?_ (by dsimp only; omega) _))
      have c1 := cell_of_one ((hX.block (w.heap.size + 1) hsz).trans hfb)
      obtain ⟨w3, hput, hm3, hg3⟩ := (hmp.kept (hX.block w.heap.size (by omega))).put Try.underlying55 (by unfold maxLen; omega) (x := (q : Int)) (fits_small (by omega) (by omega)) (.int .i64 (t : Int))
      rw [← recV_set] at hm3
      have HX3 := Lib.hide hX
      have HM3 := Lib.hide hm3
      have HG3 := Lib.hide hg3
      clear hfol hmp hfb hbw hmv2 hcell hqe hte hqi hti hm3 hg3
      go_wp2
      go_roundw
      case rel =>
        have hs3 := HG3.out.size
        have hsx : (wr.alloc (.cells #[.int .i64 (q : Int), .int .i64 (t : Int)] 57)).heap.size = wr.heap.size + 1 := by simp
        refine ⟨i + 1, _, by omega, by go_num, HST.out, HM3.out, ?_, ?_, by omega⟩
        · exact (HG3.out.block _ (by omega) (fun e => by have := Option.some.inj e; omega)).trans ((HX3.out.block _ hsz).trans HFB.out)
        · have hb1 : Below w.heap.size w (wr.alloc (.cells #[.int .i64 (q : Int), .int .i64 (t : Int)] 57)) := Below.next HBW.out HX3.out
          exact hb1.grown HG3.out hb1.size (fun k hk => by rw [← Option.some.inj hk]; exact Nat.le_refl _)
      case measure => simp [intOf]; omega
    · obtain rfl : i = n := by omega
      have hqs : qs.length = i := HN.out
      have hfe : mvN g = mvN d := (by have := HFO.out; rw [← hqs] at this; exact this.same HD.out (fun q hq => (HQ.out q hq).1))
      have hlow : ∀ j, ρ j ≠ none → j < w.heap.size := fun j hj => (H.out.low j hj).2
      let ρ2 : Roles := fun j => if j = w.heap.size ∨ j = w.heap.size + 1 then some (6, 0, 0) else ρ j
      have hr2 : ∀ j, ρ j ≠ none → ρ2 j = ρ j := fun j hj => by
        show (if j = w.heap.size ∨ j = w.heap.size + 1 then some (6, 0, 0) else ρ j) = ρ j
        rw [if_neg (by have := hlow j hj; omega)]
      have hm2 : Mach wr B mb k ρ2 c m := (H.out.next hbw).roles hr2 (fun j hj => by
        by_cases e : j = w.heap.size ∨ j = w.heap.size + 1
        · omega
        · have hj' : (if j = w.heap.size ∨ j = w.heap.size + 1 then some (6, 0, 0) else ρ j) ≠ none := hj
          rw [if_neg e] at hj'
          have := H.out.low j hj'
          have := hbw.size
          omega)
      have hfits : ∀ p, Fits (mvN g p) := fun p => by
        unfold mvN
        by_cases hp : p ∈ nums qs
        · obtain ⟨j, hj, e⟩ := mem_at.1 hp
          rw [nums_length] at hj
          rw [nums_getD] at e
          rw [← e, HFO.out.new j (by omega)]
          have := HT.out j (by omega)
          simp only [Option.getD_some]
          exact fits_small (by omega) (by omega)
        · rw [HFO.out.other p (by rw [List.take_of_length_le (by omega)]; exact hp)]
          exact fits_small (by simp) (by simp)
      have hI : FollowAt (w.heap.size + 1) w.heap.size i g wr ρ2 [] := ⟨hfb, by show (if _ then _ else _) = _; rw [if_pos (.inr rfl)], hmp, by show (if _ then _ else _) = _; rw [if_pos (.inl rfl)]⟩
      have V := Lib.hide (machVisit_any (followClo (w.heap.size + 1) w.heap.size i g hfits) B mb k ρ2 c m wr hm2 hI (by omega) hk (by rw [hfe]; exact HV.out))
      have hmw : MovedW ρ w ρ2 wr := (MovedW.below hbw).roles (fun j hj hn => by
        show (if j = w.heap.size ∨ j = w.heap.size + 1 then some (6, 0, 0) else ρ j) = none
        rw [if_neg (by omega)]; exact hn)
      have HMW := Lib.hide hmw
      have HFE := Lib.hide hfe
      clear hfol hmp hfb hbw hqs hfe hlow hr2 hm2 hfits hI hmw
      go_wp2_with (go_at_call 123; (with_reducible refine V.out.mono ?_); rintro e w5 ⟨rfl, ⟨⟨ρ5, m5, tx5, ks5, hm5, _, hmv5, hdn5, hrs5, _, _, _, _⟩⟩⟩; have HP := Lib.hide (show FolPost w B mb k ρ c (mvN d) (.returned (.tuple #[])) w5 from ⟨tx5, m5, ρ5, rfl, (by rw [← HFE.out]; exact hdn5), hrs5, (by rw [← HFE.out]; exact hm5), HMW.out.trans hmv5⟩); clear hm5 hmv5 hdn5 hrs5)
      go_end0
      exact HP.out
end Go.Proofs.Ytpdcaoagpjcgbab

/-
  The walk of slices.BinarySearch over integers: where a number belongs. It proves no statement by itself.
-/
namespace Go.Proofs.Ytpdcaoagpjcgbab
open Go.RowKit

/-- Where x belongs in a sorted list. -/
def FoundAt (w : World) (x : Int) (zs : List Int) (e : Ending) (w' : World) : Prop :=
  ∃ (i : Nat) (fb : Bool), e = .returned (.tuple #[.int .i64 i, .bool fb]) ∧ w = w' ∧ i ≤ zs.length ∧ (∀ k, k < i → zs.getD k 0 < x) ∧ ∀ k, i ≤ k → k < zs.length → x ≤ zs.getD k 0

set_option maxHeartbeats 800000 in
theorem bs_index (a : Option Addr) (n cap : Nat) (zs : List Int) (x : Int) (w : World) (hi : Ints w a zs) (hz : zs.length = n) (hn : n ≤ 400) (hs : zs.Pairwise (· < ·)) :
    Calls Try.prog 103 #[.slice a n cap, .int .i64 x] w (FoundAt w x zs) := by
  have HI := Lib.hide hi
  have HZ := Lib.hide hz
  have HS := Lib.hide hs
  clear hi hz hs
  go_enter Try.func103, Try.ntmps103
  go_wp2
  go_loop [7, 8] (fun u v => ∃ i j : Nat, i ≤ j ∧ j ≤ n ∧ u = .int .i64 i ∧ v = .int .i64 j ∧ (∀ k, k < i → zs.getD k 0 < x) ∧ ∀ k, j ≤ k → k < n → x ≤ zs.getD k 0) (fun u v => (intOf v).toNat - (intOf u).toNat)
  case atStart => exact ⟨0, n, Nat.zero_le _, Nat.le_refl _, rfl, rfl, fun k hk => absurd hk (Nat.not_lt_zero _), fun k h1 h2 => by omega⟩
  case round =>
    obtain ⟨i, j, hij, hjn, rfl, rfl, hlo, hhi⟩ := hrel
    have HLO := Lib.hide hlo
    have HHI := Lib.hide hhi
    clear hlo hhi
    by_cases hlt : i < j
    · obtain ⟨b, o, rfl, hb, hc⟩ := HI.out.at (by rw [HZ.out]; omega)
      have e1 := hc ((i + j) / 2) (by rw [HZ.out]; omega)
      clear hc
      obtain ⟨y, hy⟩ : ∃ y, zs.getD ((i + j) / 2) 0 = y := ⟨_, rfl⟩
      rw [hy] at e1
      have HY := Lib.hide hy
      clear hy
      by_cases hyx : y < x
      · have hd : decide (y < x) = true := by simpa using hyx
        go_wp2_with (go_at_call 118; refine (less_any y x _).mono ?_; rintro e w' ⟨rfl, rfl⟩)
        go_round
        case rel =>
          refine ⟨(i + j) / 2 + 1, j, by omega, hjn, by go_num, rfl, fun k hk => ?_, HHI.out⟩
          rcases Nat.lt_or_ge k ((i + j) / 2) with h | h
          · have := sorted_at HS.out h (by rw [HZ.out]; omega)
            rw [HY.out] at this
            omega
          · obtain rfl : k = (i + j) / 2 := by omega
            rw [HY.out]; exact hyx
        case measure => simp [intOf]; omega
      · have hd : decide (y < x) = false := by simpa using hyx
        go_wp2_with (go_at_call 118; refine (less_any y x _).mono ?_; rintro e w' ⟨rfl, rfl⟩)
        go_round
        case rel =>
          refine ⟨i, (i + j) / 2, by omega, by omega, rfl, by go_num, HLO.out, fun k h1 h2 => ?_⟩
          rcases Nat.lt_or_ge ((i + j) / 2) k with h | h
          · have := sorted_at HS.out h (by rw [HZ.out]; omega)
            rw [HY.out] at this
            omega
          · obtain rfl : k = (i + j) / 2 := by omega
            rw [HY.out]; omega
        case measure => simp [intOf]; omega
    · obtain rfl : i = j := by omega
      by_cases hin : i < n
      · obtain ⟨b, o, rfl, hb, hc⟩ := HI.out.at (by rw [HZ.out]; omega)
        have e1 := hc i (by rw [HZ.out]; omega)
        clear hc
        obtain ⟨y, hy⟩ : ∃ y, zs.getD i 0 = y := ⟨_, rfl⟩
        rw [hy] at e1
        have HY := Lib.hide hy
        clear hy
        by_cases hyx : y = x
        · have hm : decide (x ∈ zs) = true := decide_eq_true (mem_at.2 ⟨i, by rw [HZ.out]; exact hin, HY.out.trans hyx⟩)
          have HM := Lib.hide hm
          have hd : (y == x) = true := by simpa using hyx
          clear hm hyx
          go_wp2
          go_ret2
          exact ⟨i, _, rfl, rfl, by rw [HZ.out]; exact hjn, HLO.out, by rw [HZ.out]; exact HHI.out⟩
        · have hm : decide (x ∈ zs) = false := by
            rw [decide_eq_false_iff_not, mem_at]
            rintro ⟨k, hk, hkx⟩
            rw [HZ.out] at hk
            rcases Nat.lt_trichotomy k i with h | h | h
            · have := HLO.out k h; omega
            · subst h; exact hyx (HY.out.symm.trans hkx)
            · have h2 := sorted_at HS.out h (by rw [HZ.out]; omega)
              have h3 := HHI.out i (Nat.le_refl _) hin
              omega
          have HM := Lib.hide hm
          have hd : (y == x) = false := by simpa using hyx
          have hq : (y != y) = false := by simp
          clear hm hyx
          go_wp2
          go_ret2
          exact ⟨i, _, rfl, rfl, by rw [HZ.out]; exact hjn, HLO.out, by rw [HZ.out]; exact HHI.out⟩
      · obtain rfl : i = n := by omega
        have hm : decide (x ∈ zs) = false := by
          rw [decide_eq_false_iff_not, mem_at]
          rintro ⟨k, hk, hkx⟩
          rw [HZ.out] at hk
          have := HLO.out k hk
          omega
        have HM := Lib.hide hm
        clear hm
        go_wp2
        go_ret2
        exact ⟨i, _, rfl, rfl, by rw [HZ.out]; exact hjn, HLO.out, by rw [HZ.out]; exact HHI.out⟩


/-- The numbers from there on. -/
theorem drop_filter {zs : List Int} {x : Int} {i : Nat} (h1 : ∀ k, k < i → zs.getD k 0 < x) (h2 : ∀ k, i ≤ k → k < zs.length → x ≤ zs.getD k 0) : zs.drop i = zs.filter (fun q => decide (x ≤ q)) := by
  have hsp := List.take_append_drop i zs
  have e : zs.filter (fun q => decide (x ≤ q)) = (zs.take i).filter (fun q => decide (x ≤ q)) ++ (zs.drop i).filter (fun q => decide (x ≤ q)) := by rw [← List.filter_append, hsp]
  have f1 : (zs.take i).filter (fun q => decide (x ≤ q)) = [] := by
    rw [List.filter_eq_nil_iff]
    intro z hz
    obtain ⟨j, hj, rfl⟩ := mem_at.1 hz
    have hji : j < i := by simp at hj; omega
    have := h1 j hji
    have e : (zs.take i).getD j 0 = zs.getD j 0 := by simp [List.getD_eq_getElem?_getD, List.getElem?_take, hji]
    rw [e]
    simpa using this
  have f2 : (zs.drop i).filter (fun q => decide (x ≤ q)) = zs.drop i := by
    rw [List.filter_eq_self]
    intro z hz
    obtain ⟨j, hj, rfl⟩ := mem_at.1 hz
    have e : (zs.drop i).getD j 0 = zs.getD (i + j) 0 := by simp [List.getD_eq_getElem?_getD, List.getElem?_drop]
    rw [e]
    have := h2 (i + j) (by omega) (by simp at hj; omega)
    simpa using this
  rw [e, f1, f2, List.nil_append]
end Go.Proofs.Ytpdcaoagpjcgbab

