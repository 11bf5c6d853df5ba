/-
  The walk of holds of package stm. It proves no statement by itself.
-/
import Derived.Test.YtpdcaoagpjcgbabStmB
import Derived.Test.YtpdcaoagpjcgbabStmUndo
set_option linter.unusedVariables false
set_option linter.unusedSimpArgs false
namespace Go.Proofs.Ytpdcaoagpjcgbab
open Go.RowKit Stm

/-- States that are small numbers, at the places of what a thread has recorded or owns. -/
def Keyed4 (c : Mc) (t : Nat) : Prop := ∀ p, ((∃ v, (c.tx t).recd p = some v) ∨ ∃ o, (c.tx t).own p = some o) → ∃ q : Nat, p = q ∧ q < c.xs.length ∧ 0 ≤ c.xs.getD q 0 ∧ c.xs.getD q 0 ≤ 1000000

set_option maxHeartbeats 1600000 in
theorem holds_any (B mb k : Nat) (ρ : Roles) (c : Mc) (m : Mem) (t : Nat) (w : World) (h : Mach w B mb k ρ c m) (ht : t < 4) (ho : (c.tx t).isOpen = true) (hn : c.xs.length ≤ 400) (hk : Keyed4 c t) (b : Bool) (hb : b = true ↔ Holds c t) :
    Calls Try.prog 109 #[.pointer (some ⟨mb, 0, none⟩), .int .i64 t] w fun e w' => e = .returned (.bool b) ∧ Below w.heap.size w w' := by
  have q1 := h.blk.recd t ht
  obtain ⟨g, n, e', _, _, hm⟩ := h.recMap ht ho
  rw [e'] at q1
  have hlt := h.blk.lt
  have hgl := hm.lt
  have H := Lib.hide h
  have HM := Lib.hide hm
  have HK := Lib.hide hk
  have HB := Lib.hide hb
  have HO := Lib.hide ho
  clear h hm hk hb ho e'
  go_enter Try.func109, Try.ntmps109
  go_wp2_with (first
    | (at_range; refine wpList_range_R _ rfl _ 55 rfl 3 Try.underlying55 g n _ rfl HM.out ?_; intro w0 cnt0 hrg0 hg0 hs0)
    | go_in)
  go_frame
  have HRG := Lib.hide hrg0
  have HG0 := Lib.hide hg0
  clear hrg0 hg0 hs0
  go_loopw [5] (fun _ wr => ∃ (left : Int → Bool) (cnt : Nat), RangeR wr g w.heap.size n (recV (c.tx t).recd) left cnt ∧ Below w.heap.size w wr ∧ ∀ p v, (c.tx t).recd p = some v → left p = false → ¬ Owned c.xs t p ∧ verOf c t p = v)
    (fun _ wr => wr.rangeLeft g w.heap.size)
  case atStart =>
    refine ⟨_, _, HRG.out, ⟨HG0.out.os, HG0.out.tape, HG0.out.output, HG0.out.size, fun i hi => HG0.out.block i hi (by simp)⟩, fun p v hp hl => ?_⟩
    simp [recV, hp] at hl
  case round =>
    obtain ⟨left, cnt, hrg, hbl, hdone⟩ := hrel
    have HRG2 := Lib.hide hrg
    have HBL := Lib.hide hbl
    have HD := Lib.hide hdone
    clear hrg hbl hdone HRG HG0
    go_wp2_with (first
      | (at_next; refine wpList_next_R _ rfl _ rfl (Value.int .i64) g w.heap.size n _ _ _ (fun x v hv => by cases hr : (c.tx t).recd x <;> simp [recV, hr] at hv; exact ⟨_, hv.symm⟩) rfl HRG2.out ?_ ?_)
      | go_in)
    · intro hc0 hl0
      have HL := Lib.hide hl0
      clear hl0
      have hbt : b = true := HB.out.2 (fun p v hp => HD.out p v hp (HL.out p))
      subst hbt
      go_wp2
      go_ret
      exact ⟨rfl, HBL.out⟩
    · intro x v w1 cnt1 hfx hlx hv hrg1 hlt1 hg1 hs1 hen
      have hrec : (c.tx t).recd x = some v := by
        cases hr : (c.tx t).recd x with
        | none => simp [recV, hr] at hv
        | some u => simp [recV, hr] at hv; rw [hv]
      obtain ⟨q, rfl, hq1, hq2, hq3⟩ := HK.out x (.inl ⟨v, hrec⟩)
      have hb1 : Below w.heap.size w w1 := HBL.out.grown hg1 HBL.out.size (fun j hj => by cases hj; exact Nat.le_refl _)
      have H1 := Lib.hide (H.out.next hb1)
      have HR := Lib.hide hrec
      have HRG1 := Lib.hide hrg1
      have HBL1 := Lib.hide hb1
      have HLX := Lib.hide hlx
      have HLT := Lib.hide hlt1
      clear hv hrg1 hg1 hs1 hlx hrec hb1 hlt1
      by_cases hown : Owned c.xs t q
      · have hbf : b = false := bfalse HB.out (fun hh => (hh q v HR.out).1 hown)
        subst hbf
        have HOW := Lib.hide hown
        clear hown
        go_wp2_with (first
          | (go_at_call 120; refine (otherOwns_any B mb k ρ c m t q _ H1.out ht hq1 hn hq2 hq3 true (tiff HOW.out)).mono ?_; rintro e w' ⟨rfl, rfl⟩)
          | go_in)
        go_ret
        exact ⟨rfl, HBL1.out⟩
      · have HOW := Lib.hide hown
        clear hown
        by_cases hver : verOf c t q = v
        · have hne : (verOf c t q != v) = false := by simp [hver]
          have HV := Lib.hide hver
          clear hver
          go_wp2_with (first
            | (go_at_call 120; refine (otherOwns_any B mb k ρ c m t q _ H1.out ht hq1 hn hq2 hq3 false (fiff HOW.out)).mono ?_; rintro e w' ⟨rfl, rfl⟩)
            | (go_at_call 121; refine (version_any B mb k ρ c m t q _ H1.out ht HO.out hq1 hn hq2 hq3).mono ?_; rintro e w2 ⟨rfl, hb2⟩)
            | go_in)
          have hrg2 := HRG1.out.kept (w' := w2) (hb2.block g (H1.out.blk.lt |> fun _ => HRG1.out.owns.lt)) (hb2.block w.heap.size HRG1.out.lt)
          go_roundw
          case rel =>
            refine ⟨_, _, hrg2, Below.next HBL1.out hb2, fun p u hp hl => ?_⟩
            by_cases hpq : p = q
            · subst hpq
              rw [HR.out] at hp
              injection hp with hp
              subst hp
              exact ⟨HOW.out, HV.out⟩
            · simp [hpq] at hl
              exact HD.out p u hp hl
          case measure => rw [hrg2.left_eq, HRG2.out.left_eq]; exact HLT.out
        · have hne : (verOf c t q != v) = true := by simp [hver]
          have hbf : b = false := bfalse HB.out (fun hh => hver (hh q v HR.out).2)
          subst hbf
          clear hver
          go_wp2_with (first
            | (go_at_call 120; refine (otherOwns_any B mb k ρ c m t q _ H1.out ht hq1 hn hq2 hq3 false (fiff HOW.out)).mono ?_; rintro e w' ⟨rfl, rfl⟩)
            | (go_at_call 121; refine (version_any B mb k ρ c m t q _ H1.out ht HO.out hq1 hn hq2 hq3).mono ?_; rintro e w2 ⟨rfl, hb2⟩)
            | go_in)
          go_ret
          exact ⟨rfl, Below.next HBL1.out hb2⟩
end Go.Proofs.Ytpdcaoagpjcgbab

/-
  Plain mathematics of the machine of threads: what holds between two acts, and what follows for what threads hold. No program is named here. It proves no statement by itself.
-/
namespace Go.Proofs.Ytpdcaoagpjcgbab
open Stm

/-- A number, or one of these addresses. -/
def ValIn (ks : List Int) (v : Val) : Prop := (v.k = 0 ∧ -1099511627776 ≤ v.n ∧ v.n ≤ 1099511627776) ∨ (v.k = 1 ∧ v.n ∈ ks)

open Lw in
structure Inv (c : Mc) (l : List Nat) (k : Nat) : Prop where
  valid : Valid c.xs c.top l
  fits : ∀ x ∈ c.xs, Fits x
  nonil : ∀ p ∈ l, ∀ j : Nat, (j : Int) < c.xs.getD (p + 1) 0 → c.xs.getD (p + 2 + j) 0 ≠ 1
  regs : ∀ t r, ValIn (keepL c l) (c.regs t r)
  saved : ∀ t r, ValIn (keepL c l) ((c.tx t).saved r)
  fields : ∀ t p o, (c.tx t).own p = some o → ∀ v ∈ o.fields, ValIn (keepL c l) v
  recd : ∀ t p v, (c.tx t).recd p = some v → p ∈ keepL c l ∧ 0 ≤ v ∧ v ≤ k
  own : ∀ t p o, (c.tx t).own p = some o → p ∈ keepL c l ∧ c.xs.getD p.toNat 0 = 2 * (t : Int) + 1 ∧ (o.fields.length : Int) = c.xs.getD (p.toNat + 1) 0 ∧ 0 ≤ o.ver ∧ o.ver ≤ k
  state : ∀ p ∈ l, (c.xs.getD p 0 % 2 = 1 → ∃ t o, t < 4 ∧ (c.tx t).own p = some o) ∧ (c.xs.getD p 0 % 2 = 0 → c.xs.getD p 0 ≤ 2 * k)
  shut : ∀ t, (c.tx t).isOpen = false → c.tx t = .zero
  high : ∀ t, 4 ≤ t → c.tx t = .zero
  out : ∀ t r, 4 ≤ t ∨ 4 ≤ r → c.regs t r = .zero ∧ (c.tx t).saved r = .zero
  ret : c.coll.going = true → ∃ qs, c.coll.ret = nums qs ∧ Kept l qs ∧ ∀ q ∈ qs, (q : Int) < c.coll.top
  ctop : c.coll.going = true → c.coll.top ≤ c.top
  stopped : c.coll.going = false → c.coll = .zero
  closed : ∀ p : Nat, (p : Int) ∈ keepL c l → ∀ q, Refers c.xs p q → q ∈ keepL c l

/-- What holds between two acts. -/
structure Good (c : Mc) (l : List Nat) (k : Nat) : Prop where
  inv : Inv c l k
  left : c.coll.going = true → 0 ≤ c.coll.left ∧ c.coll.left ≤ 400

theorem keepL_sub {c : Mc} {l : List Nat} (hr : c.coll.going = true → ∃ qs, c.coll.ret = nums qs ∧ Kept l qs ∧ ∀ q ∈ qs, (q : Int) < c.coll.top) {x : Int} (hx : x ∈ keepL c l) : x ∈ nums l := by
  unfold keepL at hx
  split at hx
  · rename_i hg
    obtain ⟨qs, h1, h2, _⟩ := hr hg
    rcases List.mem_append.1 hx with h | h
    · rw [h1] at h
      unfold nums at h
      obtain ⟨q, hq, rfl⟩ := List.mem_map.1 h
      exact mem_nums.2 (h2.sub q hq)
    · exact (List.mem_filter.1 h).1
  · exact hx
theorem Inv.sub {c : Mc} {l : List Nat} {k : Nat} (h : Inv c l k) {x : Int} (hx : x ∈ keepL c l) : x ∈ nums l := keepL_sub h.ret hx

theorem nums_mem {l : List Nat} {x : Int} (h : x ∈ nums l) : ∃ q : Nat, x = q ∧ q ∈ l := by
  unfold nums at h
  obtain ⟨q, hq, rfl⟩ := List.mem_map.1 h
  exact ⟨q, rfl, hq⟩

open Lw in
/-- Where an object of the heap lies. -/
theorem Inv.place {c : Mc} {l : List Nat} {k : Nat} (h : Inv c l k) {p : Nat} (hp : p ∈ l) : 1 ≤ p ∧ p + 2 + lenAt c.xs p ≤ c.xs.length ∧ lenAt c.xs p ≤ 6 ∧ c.xs.getD (p + 1) 0 = (lenAt c.xs p : Int) ∧ p + 2 + lenAt c.xs p ≤ c.top.toNat := by
  obtain ⟨h1, f1, f2, f3, f4⟩ := (Objects.laid h.valid.objects).fit p hp
  have := h.valid.top2
  have := h.valid.top1
  unfold lenAt
  exact ⟨h1, by omega, by omega, by omega, f4⟩

theorem Inv.small {c : Mc} {l : List Nat} {k : Nat} (h : Inv c l k) (hk : k ≤ 400) {p : Nat} (hp : p ∈ l) : 0 ≤ c.xs.getD p 0 ∧ c.xs.getD p 0 ≤ 1000000 := by
  have h0 := (h.valid.objects.2 p hp).1
  refine ⟨h0, ?_⟩
  obtain ⟨h1, h2⟩ := h.state p hp
  rcases Int.emod_two_eq (c.xs.getD p 0) with e | e
  · have := h2 e; omega
  · obtain ⟨t, o, ht, ho⟩ := h1 e
    have := (h.own t p o ho).2.1
    rw [Int.toNat_natCast] at this
    omega

theorem Inv.keyed {c : Mc} {l : List Nat} {k : Nat} (h : Inv c l k) (hk : k ≤ 400) (t : Nat) : Keyed4 c t := by
  intro p hp
  have hm : p ∈ keepL c l := by
    rcases hp with ⟨v, hv⟩ | ⟨o, ho⟩
    · exact (h.recd t p v hv).1
    · exact (h.own t p o ho).1
  obtain ⟨q, rfl, hq⟩ := nums_mem (h.sub hm)
  have h1 := h.place hq
  exact ⟨q, rfl, by omega, h.small hk hq⟩

theorem Inv.ownOk {c : Mc} {l : List Nat} {k : Nat} (h : Inv c l k) (hk : k ≤ 400) (t : Nat) : OwnOk c t := by
  refine ⟨fun p o ho => ?_, fun p q o o' ho ho' hne => ?_⟩
  · obtain ⟨h1, h2, h3, h4, h5⟩ := h.own t p o ho
    obtain ⟨q, rfl, hq⟩ := nums_mem (h.sub h1)
    have hp := h.place hq
    rw [Int.toNat_natCast] at h3
    refine ⟨q, rfl, hp.1, by omega, h4, by omega, fun v hv => ?_⟩
    rcases h.fields t q o ho v hv with h6 | ⟨_, h6⟩
    · omega
    · obtain ⟨p', e, hp'⟩ := nums_mem (h.sub h6)
      have := h.place hp'
      have := h.valid.len2
      omega
  · obtain ⟨h1, h2, h3, h4, h5⟩ := h.own t p o ho
    obtain ⟨h1', h2', h3', h4', h5'⟩ := h.own t q o' ho'
    have hp := mem_nums.1 (h.sub h1)
    have hq := mem_nums.1 (h.sub h1')
    rw [Int.toNat_natCast] at h3 h3'
    have e1 := (h.place hp).2.2.2.1
    have e2 := (h.place hq).2.2.2.1
    have hgap := objs_gap h.valid.objects.1
    rcases Nat.lt_trichotomy p q with hlt | hlt | hlt
    · have := hgap p hp q hq hlt; omega
    · omega
    · have := hgap q hq p hp hlt; omega
end Go.Proofs.Ytpdcaoagpjcgbab

