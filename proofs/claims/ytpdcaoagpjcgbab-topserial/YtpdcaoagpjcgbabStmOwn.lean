/-
  The walk of own of package stm. It proves no statement by itself.
-/
import Derived.Test.YtpdcaoagpjcgbabStmRecord
import Derived.Deep.RegionLaw
set_option linter.unusedVariables false
set_option linter.unusedSimpArgs false
namespace Go.Proofs.Ytpdcaoagpjcgbab
open Go.RowKit Stm

theorem Try.valueInfo : (Try.prog.info? 34).map (fun i => (i.zero, i.size, i.bytes)) = some (some (.agg #[.int .i64 0, .int .i64 0]), 2, 16) := by kernel_rfl

/-- append to a list of the call's own, as one step of a region that draws its order. -/
theorem step_append_own {P : Program} {ops : Array Oper} {o : Oper} {a : Go.Act} {w : World} {K : Go.Act → World → Prop} {Q : Exit → Go.Act → World → Prop} {E : Prop} (hgd : o.guard = none) (s x : Operand) (t : TypeId)
    (ho : o.op = .call { callee := .builtin .append, args := #[s, x], argTypes := #[t, t] })
    (base : Nat) (e : TypeId) (i : TypeInfo) (z : Value) (size bytes : Nat) (ht : P.underlying t = some (.slice e)) (hi : P.info? e = some i) (hz : i.zero = some z)
    (hsize : i.size = size) (hby : i.bytes = bytes) (hzs : z.cells.size = size) (hsz : 0 < size)
    (v : Value) (n : Nat) (xs : List Value) (hs : a.eval s = v) (hown : w.ownsRow base e size v n xs)
    (ad : Addr) (m c : Nat) (news : List Value) (hx : a.eval x = .slice (some ad) m c) (hl : news.length = m * size) (hnews : ∀ j u, news[j]? = some u → w.cell? (ad.add j) = some u) (h1 : ∀ u ∈ news, u.oneCell' = true)
    (h63 : n + m ≤ maxLen) (hbytes : (n + m) * bytes ≤ 140737488355328) (hbase : base ≤ w.heap.size)
    (h : ∀ v' w', w'.ownsRow base e size v' (n + m) (xs ++ news) → w.grownBy w' v.ownBlock → (v' = .slice none 0 0 ↔ v = .slice none 0 0 ∧ m = 0) → K (a.put o.dst v') w') :
    if Region.wanted o (yielded ops a.tmps) = true then Oper.wp P o a w K Q else E := by
  have hw : Region.wanted o (yielded ops a.tmps) = true := by simp [Region.wanted, hgd]
  rw [if_pos hw]
  exact wp_append_own w s x t ho base e i z size bytes ht hi hz hsize hby hzs hsz v n xs hs hown ad m c news hx hl hnews h1 h63 hbytes hbase h

/-- A call of a Go function, by its contract, as one step of a region that draws its order. -/
theorem step_call {ops : Array Oper} {o : Oper} {a : Go.Act} {w : World} {K : Go.Act → World → Prop} {Q : Exit → Go.Act → World → Prop} {E : Prop} (hgd : o.guard = none) (f : FuncId) (args : Array Value)
    (hrun : (execOp a.eval o).run Try.prog w = .ok (.enter f args) w) (V : Value) (R : World → Prop) (hc : Calls Try.prog f args w fun e w' => e = .returned V ∧ R w') (h : ∀ w', R w' → K (a.put o.dst V) w') :
    if Region.wanted o (yielded ops a.tmps) = true then Oper.wp Try.prog o a w K Q else E := by
  have hw : Region.wanted o (yielded ops a.tmps) = true := by simp [Region.wanted, hgd]
  rw [if_pos hw]
  unfold Oper.wp
  rw [hrun, Oper.upon_enter]
  refine hc.mono fun e w'' hh => ?_
  obtain ⟨rfl, hr⟩ := hh
  exact h _ hr

theorem valOf_eq (y : Int) : Stm.valOf y = ⟨y % 2, y / 2⟩ := by
  unfold Stm.valOf
  rcases Int.emod_two_eq y with e | e
  · rw [if_neg (by omega), e]
  · rw [if_pos e, e]

/-- The first i fields of the object at p. -/
def valsTo (xs : List Int) (p i : Nat) : List Val := ((xs.drop (p + 2)).take i).map Stm.valOf
theorem valsTo_length {xs : List Int} {p i : Nat} (h : p + 2 + i ≤ xs.length) : (valsTo xs p i).length = i := by simp [valsTo]; omega
theorem valsTo_succ {xs : List Int} {p i : Nat} (h : p + 2 + i < xs.length) : valsTo xs p (i + 1) = valsTo xs p i ++ [Stm.valOf (xs.getD (p + 2 + i) 0)] := by
  unfold valsTo
  rw [List.take_succ_eq_append_getElem (by simp; omega), List.map_append]
  simp [List.getD_eq_getElem?_getD, List.getElem?_eq_getElem h]
theorem valsTo_all (xs : List Int) (p : Nat) : valsTo xs p (lenAt xs p) = valsAt xs p := rfl

theorem ownV_set (f : Int → Option Orig) (fa : Int → Option Addr) (fc : Int → Nat) (p : Int) (o : Orig) (a : Option Addr) (c : Nat) : ownV (setAt f p (some o)) (setAt fa p a) (setAt fc p c) = setAt (ownV f fa fc) p (some (ownVal o a c)) := by
  funext x
  by_cases h : x = p
  · subst h; simp [ownV, setAt_same]
  · simp [ownV, setAt_other _ _ h]

/-- A thread that has become the owner of an object: its map, and the fields that it keeps. -/
theorem Mach.putOwn {w w' : World} {B mb k : Nat} {ρ : Roles} {c : Mc} {m : Mem} (h : Mach w B mb k ρ c m) {t : Nat} (ht : t < 4) {b n : Nat} (hb : m.om t = some b) (hn : n ≤ k) (hr : ρ b = some (4, t, 0)) (p : Int) (o : Orig) (a : Option Addr) (cp : Nat)
    (hno : (c.tx t).own p = none) (hv : OwnV w B (.slice a o.fields.length cp) o.fields) (hnew : ∀ g, (Value.slice a o.fields.length cp).ownBlock = some g → ρ g = none ∧ g ≠ b ∧ B ≤ g ∧ g < w.heap.size)
    (hm : MapR w' b (n + 1) (setAt (ownV (c.tx t).own (m.fa t) (m.fc t)) p (some (ownVal o a cp)))) (hg : w.grownBy w' (some b)) :
    ∃ ρ', Mach w' B mb (k + 1) ρ' ⟨c.xs, c.top, c.regs, upd c.tx t ⟨(c.tx t).isOpen, (c.tx t).saved, (c.tx t).recd, setAt (c.tx t).own p (some o)⟩, c.coll⟩ ⟨m.wa, m.wcap, m.rm, m.om, upd m.fa t (setAt (m.fa t) p a), upd m.fc t (setAt (m.fc t) p cp), m.ra, m.rcap⟩ ∧
      (∀ i, ρ i ≠ none → ρ' i = ρ i) ∧ (∀ i, ρ' i ≠ none → ρ i ≠ none ∨ (Value.slice a o.fields.length cp).ownBlock = some i) := by
  let ρ' : Roles := fun i => if (Value.slice a o.fields.length cp).ownBlock = some i then some (5, t, p) else ρ i
  have e1 : ∀ i, ρ i ≠ none → ρ' i = ρ i := fun i hi => by
    show (if (Value.slice a o.fields.length cp).ownBlock = some i then some (5, t, p) else ρ i) = ρ i
    split
    · rename_i hh; exact absurd (hnew i hh).1 hi
    · rfl
  have e2 : ∀ i, ρ' i ≠ none → ρ i ≠ none ∨ (Value.slice a o.fields.length cp).ownBlock = some i := fun i hi => by
    by_cases hh : (Value.slice a o.fields.length cp).ownBlock = some i
    · exact .inr hh
    · refine .inl fun hn => hi ?_
      show (if (Value.slice a o.fields.length cp).ownBlock = some i then some (5, t, p) else ρ i) = none
      rw [if_neg hh]; exact hn
  have h2 := h.roles (ρ' := ρ') e1 (fun i hi => by
    rcases e2 i hi with h' | h'
    · exact h.low i h'
    · exact ⟨(hnew i h').2.2.1, (hnew i h').2.2.2⟩)
  have hrb : ρ' b = some (4, t, 0) := (e1 b (by rw [hr]; simp)).trans hr
  have hne : ∀ i x, ρ' i = some x → x ≠ (4, t, 0) → w'.heap[i]? = w.heap[i]? := fun i x hx hn' => hg.block i (h2.low i (by rw [hx]; simp)).2 (fun e => by
    rw [Option.some.inj e, hrb] at hx
    exact hn' (Option.some.inj hx).symm)
  refine ⟨ρ', ⟨(h2.blk.kept (hne mb _ h2.rmb (by simp)) hg.size).retx t _ rfl rfl rfl rfl rfl rfl rfl rfl, ownsRow_kept h2.words (fun g hg' => hne g _ (h2.rwords g hg') (by simp)), ownsRow_kept h2.ret (fun g hg' => hne g _ (h2.rret g hg') (by simp)), fun t' ht' => ?_, h2.rmb, h2.rwords, h2.rret, fun i hi => ⟨(h2.low i hi).1, Nat.lt_of_lt_of_le (h2.low i hi).2 hg.size⟩⟩, e1, e2⟩
  have hx := (h2.txs t' ht').more (Nat.le_succ k)
  by_cases e : t' = t
  · subst e
    simp only [upd_same]
    refine ⟨hx.recd.imp id ?_, .inr ⟨b, n + 1, hb, by omega, hrb, by rw [ownV_set]; exact hm⟩, fun q o' ho' => ?_, hx.opened⟩
    · rintro ⟨b2, n2, h1, h2, h3, h4⟩
      exact ⟨b2, n2, h1, h2, h3, h4.kept (hne b2 _ h3 (by simp))⟩
    · by_cases hq : q = p
      · subst hq
        dsimp only at ho'
        rw [setAt_same] at ho' ⊢
        rw [setAt_same]
        injection ho' with ho'
        subst ho'
        have hrole : ∀ g, (Value.slice a o.fields.length cp).ownBlock = some g → ρ' g = some (5, t', q) := fun g hg' => by
          show (if (Value.slice a o.fields.length cp).ownBlock = some g then some (5, t', q) else ρ g) = _
          rw [if_pos hg']
        exact ⟨ownsRow_kept hv (fun g hg' => hne g _ (hrole g hg') (by simp)), hrole⟩
      · dsimp only at ho'
        rw [setAt_other _ _ hq] at ho' ⊢
        rw [setAt_other _ _ hq]
        obtain ⟨h1, h2⟩ := hx.fields q o' ho'
        exact ⟨ownsRow_kept h1 (fun g hg' => hne g _ (h2 g hg') (by simp)), h2⟩
  · simp only []
    rw [upd_other _ _ e, upd_other _ _ e, upd_other _ _ e]
    refine hx.kept (fun i hi => ?_)
    rcases hi with h | h | ⟨p, h⟩ <;> exact hne i _ h (by simp; try omega)

/-- What own leaves. -/
def OwnEnd (w : World) (B mb k : Nat) (ρ : Roles) (c : Mc) (t p : Nat) (e : Ending) (w' : World) : Prop :=
  ∃ m' ρ', e = .returned (.tuple #[]) ∧ Mach w' B mb (k + 1) ρ' (ownMc c t p) m' ∧ Moved ρ w ρ' w'

theorem ownBlock_any (a : Option Addr) (n n' c c' : Nat) : (Value.slice a n c).ownBlock = (Value.slice a n' c').ownBlock := by cases a <;> rfl
theorem ownMc_none {c : Mc} {t p i : Nat} {ver : Int} (h : (c.tx t).own p = none) (hv : verOf c t p = ver) (hl : lenAt c.xs p = i) : ownMc c t p = ⟨c.xs.set p (2 * (t : Int) + 1), c.top, c.regs, upd c.tx t ⟨(c.tx t).isOpen, (c.tx t).saved, (c.tx t).recd, setAt (c.tx t).own p (some ⟨ver, valsTo c.xs p i⟩)⟩, c.coll⟩ := by
  unfold ownMc ownXs ownTx
  rw [if_pos h, if_pos h, Int.toNat_natCast, hv, ← hl]
  rfl
theorem ownMc_some {c : Mc} {t p : Nat} {o : Orig} (h : (c.tx t).own p = some o) : ownMc c t p = c := by
  unfold ownMc ownXs ownTx
  rw [if_neg (by rw [h]; simp), if_neg (by rw [h]; simp), upd_id]

set_option maxHeartbeats 1600000 in
theorem own_some (B mb k : Nat) (ρ : Roles) (c : Mc) (m : Mem) (t p : Nat) (w : World) (h : Mach w B mb k ρ c m) (ht : t < 4) (ho : (c.tx t).isOpen = true) (o : Orig) (hown : (c.tx t).own p = some o) (hp : p ≤ 400) :
    Calls Try.prog 114 #[.pointer (some ⟨mb, 0, none⟩), .int .i64 t, .int .i64 p] w (OwnEnd w B mb k ρ c t p) := by
  have q1 := h.blk.own t ht
  obtain ⟨b, n, e1, _, _, hm⟩ := h.ownMap ht ho
  rw [e1] at q1
  have hlt := h.blk.lt
  have hbl := hm.lt
  have hlook := hm.look_ok Try.underlying107 (Try.zeroOrig w) (x := (p : Int)) (fits_small (by omega) (by omega)) _ _ rfl rfl
  unfold ownV at hlook
  rw [hown] at hlook
  simp only [Option.map_some, Option.getD_some, Option.isSome_some] at hlook
  unfold ownVal at hlook
  have H := Lib.hide (show Mach w B mb (k + 1) ρ (ownMc c t p) m by rw [ownMc_some hown]; exact h.more (Nat.le_succ _))
  obtain ⟨vr, hvr⟩ : ∃ vr, o.ver = vr := ⟨_, rfl⟩
  obtain ⟨fa', hfa'⟩ : ∃ fa', m.fa t p = fa' := ⟨_, rfl⟩
  obtain ⟨fc', hfc'⟩ : ∃ fc', m.fc t p = fc' := ⟨_, rfl⟩
  obtain ⟨fl, hfl⟩ : ∃ fl, o.fields.length = fl := ⟨_, rfl⟩
  rw [hvr, hfa', hfc', hfl] at hlook
  clear h hm hown hvr hfa' hfc' hfl e1 ho
  go_enter Try.func114, Try.ntmps114
  go_wp2
  go_end0
  exact ⟨m, ρ, rfl, H.out.next (by repeat (first | exact Below.refl _ _ | assumption | refine Below.drew ?_ | refine below_drewN ?_ _ | refine Below.allocs ?_ | refine Below.next ?_ (by assumption) | refine Below.setCell ?_ (by dsimp only; omega) _)), Moved.of_below (by repeat (first | exact Below.refl _ _ | assumption | refine Below.drew ?_ | refine below_drewN ?_ _ | refine Below.allocs ?_ | refine Below.next ?_ (by assumption) | refine Below.setCell ?_ (by dsimp only; omega) _))⟩

set_option maxHeartbeats 3200000 in
set_option maxRecDepth 100000 in
theorem own_long (B mb k : Nat) (ρ : Roles) (c : Mc) (m : Mem) (t p fl : Nat) (w : World) (h : Mach w B mb k ρ c m) (hk4 : k ≤ 400) (hB : B ≤ w.heap.size) (ht : t < 4) (ho : (c.tx t).isOpen = true) (hno : (c.tx t).own p = none) (hp1 : 1 ≤ p) (hp : p + 2 + fl ≤ c.xs.length) (hfl : c.xs.getD (p + 1) 0 = (fl : Int)) (hn : c.xs.length ≤ 400) (s0 : 0 ≤ c.xs.getD p 0) (s1 : c.xs.getD p 0 ≤ 1000000) (hfit : ∀ x ∈ c.xs, Fits x) (hcp : m.wcap ≠ p + 2) :
    Calls Try.prog 114 #[.pointer (some ⟨mb, 0, none⟩), .int .i64 t, .int .i64 p] w (OwnEnd w B mb k ρ c t p) := by
  obtain ⟨iV, hiV, hV0, hV1, hV2⟩ := info_parts Try.valueInfo
  have q1 := h.blk.own t ht
  obtain ⟨b, n, e1, hnk, hrb, hm⟩ := h.ownMap ht ho
  rw [e1] at q1
  have hlt := h.blk.lt
  have hbl := hm.lt
  have hlook := hm.look_ok Try.underlying107 (Try.zeroOrig w) (x := (p : Int)) (fits_small (by omega) (by omega)) _ _ rfl rfl
  unfold ownV at hlook
  rw [hno] at hlook
  simp only [Option.map_none, Option.getD_none, Option.isSome_none] at hlook
  obtain ⟨ver, hver⟩ : ∃ ver, verOf c t p = ver := ⟨_, rfl⟩
  obtain ⟨g, hwa, hBg, hgl, hrg, hc1, hc2, hcc, hcf⟩ := h.row (by omega)
  have hmg : mb ≠ g := fun e => by have := h.rmb; rw [e, hrg] at this; cases this
  have hbg : b ≠ g := fun e => by rw [e, hrg] at hrb; cases hrb
  have hmb2 : mb ≠ b := fun e => by have := h.rmb; rw [e, hrb] at this; cases this
  have HVE := Lib.hide hver
  have H := Lib.hide h
  have HO := Lib.hide ho
  have HNO := Lib.hide hno
  have HM := Lib.hide hm
  have E1 := Lib.hide e1
  have HRB := Lib.hide hrb
  have HWA := Lib.hide hwa
  have HFIT := Lib.hide hfit
  have HFL := Lib.hide hfl
  have HCC := Lib.hide hcc
  clear h hm hno ho hver e1 hrb hwa hfit hcc hfl
  go_enter Try.func114, Try.ntmps114
  go_wp2_with (first
    | (go_at_call 121; refine (version_any B mb k ρ c m t p _ (H.out.next (by repeat (first | exact Below.refl _ _ | assumption | refine Below.drew ?_ | refine below_drewN ?_ _ | refine Below.allocs ?_ | refine Below.next ?_ (by assumption) | refine Below.setCell ?_ (by dsimp only; omega) _))) ht HO.out (by omega) hn s0 s1).mono ?_; rintro e w2 ⟨rfl, hb2⟩; rw [HVE.out]; have HB2 := Lib.hide (show Below w.heap.size w w2 from (by repeat (first | exact Below.refl _ _ | assumption | refine Below.drew ?_ | refine below_drewN ?_ _ | refine Below.allocs ?_ | refine Below.next ?_ (by assumption) | refine Below.setCell ?_ (by dsimp only; omega) _))); clear hb2)
    | go_in)
  have hW2 := H.out.next (w' := w2.alloc (.cells #[.int .i64 ver, .slice none 0 0] 156)) (Below.allocs HB2.out)
  have z0 := hW2.blk.words
  rw [HWA.out] at z0
  have z1 : (w2.alloc (.cells #[.int .i64 ver, .slice none 0 0] 156)).cell? ⟨g, p + 1, none⟩ = some (.int .i64 (fl : Int)) := by
    rw [← HFL.out, ← HCC.out (p + 1) (by omega)]
    exact Below.cell (p := ⟨g, p + 1, none⟩) (Below.allocs HB2.out) hgl
  have HBX := Lib.hide (Box2.new w2 (.int .i64 ver) (.slice none 0 0) 156)
  have z2 := hW2.blk.lt
  clear hW2 hlook q1
  obtain ⟨N, hN⟩ : ∃ N, c.xs.length = N := ⟨_, rfl⟩
  rw [hN] at z0 hc1 hn hp
  have HN := Lib.hide hN
  clear hN
  have i1 : IntKind.i64.wrap ((p : Int) + 2) = (p : Int) + 2 := IntWalk.i64_in _ (by omega)
  have i2 : IntKind.i64.wrap ((p : Int) + 1) = (p : Int) + 1 := IntWalk.i64_in _ (by omega)
  have i3 : (0 : Int) ≤ (p : Int) + 2 := by omega
  have i4 : (p : Int) + 2 ≤ (N : Int) := by omega
  have i5 : ((p : Int) + 2).toNat = p + 2 := by omega
  have i6 : (0 : Int) ≤ (p : Int) + 1 := by omega
  have i7 : (p : Int) + 1 < (N : Int) := by omega
  have i8 : ((p : Int) + 1).toNat = p + 1 := by omega
  have i9 : (0 : Int) ≤ (fl : Int) := by omega
  have i10 : (fl : Int) ≤ ((m.wcap - (p + 2) : Nat) : Int) := by omega
  go_quiet (fail)
  go_wp2
  have hB0 : Below w.heap.size w ((w2.alloc (.cells #[.int .i64 ver, .slice none 0 0] 156)).drewN nq) := below_drewN (Below.allocs HB2.out) _
  have hX0 : Box2 ((w2.alloc (.cells #[.int .i64 ver, .slice none 0 0] 156)).drewN nq) w2.heap.size (.int .i64 ver) (.slice none 0 0) := HBX.out.next (below_drewN (Below.refl _ _) _)
  have hs2 := HB2.out.size
  generalize hW0 : (w2.alloc (.cells #[.int .i64 ver, .slice none 0 0] 156)).drewN nq = W0 at hB0 hX0 ⊢
  generalize hX9 : w2.heap.size = X9 at hX0 hs2 ⊢
  have HB0 := Lib.hide hB0
  have HX0 := Lib.hide hX0
  clear hB0 hX0 hW0 hX9 z0 z1 z2 HBX HB2 i1 i2 i3 i4 i5 i6 i7 i8 i9 i10
  go_loopw [51] (fun u wr => ∃ (i : Nat) (v : Value), i ≤ fl ∧ u = .int .i64 (i : Int) ∧ Below w.heap.size w wr ∧ Box2 wr X9 (.int .i64 ver) v ∧ wr.ownsRow (X9 + 1) 34 2 v i (vcells (valsTo c.xs p i)))
    (fun u _ => fl - (intOf u).toNat)
  case atStart => exact ⟨0, .slice none 0 0, Nat.zero_le _, rfl, HB0.out, HX0.out, rfl, .inl ⟨rfl, rfl⟩⟩
  case round =>
    obtain ⟨i, v, hi, rfl, hbw, hbx, how⟩ := hrel
    have HBW := Lib.hide hbw
    have HBX := Lib.hide hbx
    have HOW := Lib.hide how
    clear hbw how HB0 HX0
    by_cases hlt2 : i < fl
    · have c0 : wr.cell? ⟨g, p + 2 + i, none⟩ = some (.int .i64 (c.xs.getD (p + 2 + i) 0)) := by
        rw [← HCC.out (p + 2 + i) (by rw [HN.out]; omega)]
        exact Below.cell (p := ⟨g, p + 2 + i, none⟩) HBW.out hgl
      have hfy : Fits (c.xs.getD (p + 2 + i) 0) := by
        have hl : p + 2 + i < c.xs.length := by rw [HN.out]; omega
        refine HFIT.out _ ?_
        rw [List.getD_eq_getElem?_getD, List.getElem?_eq_getElem hl]
        simp
      have hvs := valsTo_succ (xs := c.xs) (p := p) (i := i) (by rw [HN.out]; omega)
      rw [valOf_eq] at hvs
      obtain ⟨y, hy⟩ : ∃ y, c.xs.getD (p + 2 + i) 0 = y := ⟨_, rfl⟩
      rw [hy] at c0 hfy hvs
      have HVS := Lib.hide hvs
      have HFY := Lib.hide hfy
      have hgw := Nat.lt_of_lt_of_le hgl HBW.out.size
      obtain ⟨b0, b1, b2, b3, b4⟩ := hbx
      have hvb : ∀ j, v.ownBlock = some j → X9 + 1 ≤ j := fun j hj => (World.ownsRow.lt HOW.out _ hj).1
      have HVB := Lib.hide hvb
      clear hvs hfy hy hvb
      go_wp2
      go_region_law (first
          | (refine step_call (by rfl) 26 #[.int .i64 y] (by go_simp) _ _ (of_any y wr.drew HFY.out) ?_; intro w4 hb4; obtain ⟨k0, k1, k2, k3, k4⟩ := HBX.out.next (w' := w4) (by repeat (first | exact Below.refl _ _ | assumption | refine Below.drew ?_ | refine below_drewN ?_ _ | refine Below.allocs ?_ | refine Below.next ?_ (by assumption) | refine Below.setCell ?_ (by dsimp only; omega) _)); have HB4 := Lib.hide (show Below wr.heap.size wr w4 from (by repeat (first | exact Below.refl _ _ | assumption | refine Below.drew ?_ | refine below_drewN ?_ _ | refine Below.allocs ?_ | refine Below.next ?_ (by assumption) | refine Below.setCell ?_ (by dsimp only; omega) _))); have HOW4 := Lib.hide (show w4.ownsRow (X9 + 1) 34 2 v i (vcells (valsTo c.xs p i)) from ownsRow_kept HOW.out (fun j hj => HB4.out.block j (World.ownsRow.lt HOW.out _ hj).2)); clear hb4)
          | (refine step_append_own (by rfl) (.tmp 56) (.tmp 59) 143 (by rfl) (X9 + 1) 34 iV (.agg #[.int .i64 0, .int .i64 0]) 2 16 Try.underlying143 hiV hV0 hV1 hV2 rfl (by decide) v i _ (by rfl) (World.ownsRow.alloc (w := w4) HOW4.out _) ⟨w4.heap.size, 0, none⟩ 1 1 [.int .i64 (y % 2), .int .i64 (y / 2)] (by rfl) (by rfl) (cells_two_new w4 _ _ _) (fun u hu => by simp at hu; rcases hu with rfl | rfl <;> rfl) (by unfold maxLen; omega) (by omega) (by simp; omega) ?_; intro v' w5 hown5 hg5 _; obtain ⟨g5, cp5, cur5, rfl, _⟩ := hown5.2.resolve_left (fun h => by omega); have HO5 := Lib.hide hown5; have HG5 := Lib.hide hg5; have hn5 : some X9 ≠ v.ownBlock := (fun e => by have := HVB.out X9 e.symm; omega); obtain ⟨l0, l1, l2, l3, l4⟩ := ((show Box2 w4 X9 (.int .i64 ver) v from ⟨k0, k1, k2, k3, k4⟩).alloc (.cells #[.int .i64 (y % 2), .int .i64 (y / 2)] 34)).kept (hg5.block X9 (by simp; omega) hn5) hg5.size; clear hown5 hg5))
      all_goals
        have hbw5 : Below w.heap.size w (w5.setCell ⟨X9, 1, none⟩ (.slice (some ⟨g5, 0, none⟩) (i + 1) cp5)) := by
          have h1 : Below w.heap.size w (w4.alloc (.cells #[.int .i64 (y % 2), .int .i64 (y / 2)] 34)) := (Below.next HBW.out HB4.out).alloc (Nat.le_trans HBW.out.size HB4.out.size) _
          exact (h1.grown HG5.out h1.size (fun j hj => by have := HVB.out j hj; omega)).setCell (by dsimp only; omega) _
        have hbx5 : Box2 (w5.setCell ⟨X9, 1, none⟩ (.slice (some ⟨g5, 0, none⟩) (i + 1) cp5)) X9 (.int .i64 ver) (.slice (some ⟨g5, 0, none⟩) (i + 1) cp5) := by constructor <;> go_simp
        have hX9g : X9 + 1 ≤ g5 := (World.ownsRow.lt HO5.out g5 rfl).1
        have how5 : (w5.setCell ⟨X9, 1, none⟩ (.slice (some ⟨g5, 0, none⟩) (i + 1) cp5)).ownsRow (X9 + 1) 34 2 (.slice (some ⟨g5, 0, none⟩) (i + 1) cp5) (i + 1) (vcells (valsTo c.xs p (i + 1))) := by
          rw [HVS.out, vcells_snoc]
          exact ownsRow_kept HO5.out (fun j hj => set_other _ _ _ _ _ (fun e => by simp [Value.ownBlock] at hj; omega))
        have HBW5 := Lib.hide hbw5
        have HBX5 := Lib.hide hbx5
        have HOW5 := Lib.hide how5
        clear hbw5 hbx5 how5 l0 l1 l2 l3 l4 k0 k1 k2 k3 k4 b0 b1 b2 b3 b4
        go_wp2
        go_roundw
        case rel => exact ⟨i + 1, _, by omega, by go_num, HBW5.out, HBX5.out, HOW5.out⟩
        case measure => simp [intOf]; omega
    · obtain rfl : i = fl := by omega
      have hmc := H.out.next HBW.out
      have hmr := HM.out.kept (HBW.out.block b hbl)
      have x0 := hmc.blk.own t ht
      rw [E1.out] at x0
      obtain ⟨b0, b1, b2, b3, b4⟩ := hbx
      have hvsh : ∃ va vc, v = .slice va i vc := by
        rcases HOW.out.2 with ⟨e1, e2⟩ | ⟨g5, cp5, cur5, e1, _⟩
        · subst e2; exact ⟨none, 0, e1⟩
        · exact ⟨_, _, e1⟩
      obtain ⟨va, vc, rfl⟩ := hvsh
      obtain ⟨w6, hrun6, hmap6, hg6⟩ := hmr.kept (w' := wr.drew) rfl |>.put Try.underlying107 (by unfold maxLen; omega) (x := (p : Int)) (fits_small (by omega) (by omega)) (.agg #[.int .i64 ver, .slice va i vc])
      have HMC := Lib.hide hmc
      have HMAP6 := Lib.hide hmap6
      have HG6 := Lib.hide hg6
      clear hmc hmr hmap6
      have hwrB := HBW.out.size
      have hrow : ∀ j, (Value.slice va i vc).ownBlock = some j → X9 + 1 ≤ j ∧ j < wr.heap.size := fun j hj => World.ownsRow.lt HOW.out _ hj
      have hfl2 : (valsTo c.xs p i).length = i := valsTo_length (by rw [HN.out]; omega)
      have hle : lenAt c.xs p = i := by unfold lenAt; rw [HFL.out]; simp
      obtain ⟨ρ', hmach6, hr1, hr2⟩ := (HMC.out.drew).putOwn ht E1.out hnk HRB.out p ⟨ver, valsTo c.xs p i⟩ va vc HNO.out (by
          show OwnV wr.drew B (.slice va (valsTo c.xs p i).length vc) (valsTo c.xs p i)
          rw [hfl2]
          unfold OwnV
          rw [hfl2]
          exact ownsRow_base HOW.out (by omega)) (fun j hj => by
          have hj' : (Value.slice va i vc).ownBlock = some j := (ownBlock_any _ _ _ _ _).trans hj
          have := hrow j hj'
          exact ⟨H.out.noRole (by omega), by omega, by omega, this.2⟩) (by
          unfold ownVal
          dsimp only
          rw [hfl2]
          exact HMAP6.out) HG6.out
      have mv6 : Moved ρ w ρ' w6 := by
        refine ⟨HG6.out.os.trans HBW.out.os, HG6.out.tape.trans HBW.out.tape, HG6.out.output.trans HBW.out.output, Nat.le_trans HBW.out.size HG6.out.size, fun j hj hn => ?_, fun j hj => ?_⟩
        · have e1 : w6.heap[j]? = wr.heap[j]? := HG6.out.block j (by show j < wr.heap.size; omega) (fun e => by rw [Option.some.inj e, HRB.out] at hn; cases hn)
          exact e1.trans (HBW.out.block j hj)
        · by_cases hn : ρ j = none
          · rw [hn]
            refine Classical.byContradiction fun hc => ?_
            rcases hr2 j hc with h' | h'
            · exact h' hn
            · have hj' : (Value.slice va i vc).ownBlock = some j := (ownBlock_any _ _ _ _ _).trans h'
              have := hrow j hj'
              omega
          · exact hr1 j hn
      have HMA6 := Lib.hide hmach6
      have MV6 := Lib.hide mv6
      have y0 := hmach6.blk.words
      have y1 := hmach6.blk.lt
      have y2 : m.wa = some ⟨g, 0, none⟩ := HWA.out
      dsimp only at y0
      rw [y2, HN.out] at y0
      obtain ⟨g', hwa', _, hgl', _, _, _, hcc', hcf'⟩ := hmach6.row (by show 0 < c.xs.length; rw [HN.out]; omega)
      obtain rfl : g' = g := by dsimp only at hwa'; rw [y2] at hwa'; injection hwa' with hwa'; injection hwa' with hwa' _; exact hwa'.symm
      have y3 := hcc' p (by show p < c.xs.length; rw [HN.out]; omega)
      have y4 := hcf' p
      have j1 : (0 : Int) ≤ (p : Int) := by omega
      have j2 : (p : Int) < (N : Int) := by omega
      have HXS := Lib.hide hle
      clear hcc' hcf' hwa' y2 hmach6 mv6 hr1 hr2 hle hfl2 hrow
      go_wp2
      go_region
      all_goals
        go_wp2
        go_region_held3 (fun w' => w'.cell? ⟨mb, 0, none⟩ = some (.slice (some ⟨g', 0, none⟩) N m.wcap))
          (first | exact y0 | exact far_cell y0 hmg)
          (first | (go_at_call 122; refine (ownedState_any t _ ht).mono ?_; rintro e w' ⟨rfl, rfl⟩))
        go_end0
        have hfin := (HMA6.out.setWord HWA.out p (2 * (t : Int) + 1)).drew
        have heq := ownMc_none HNO.out HVE.out HXS.out
        dsimp only at hfin
        rw [← heq] at hfin
        exact ⟨_, ρ', rfl, hfin, (MV6.out.trans (Moved.setWord HMA6.out HWA.out p _)).trans (Moved.drew _ _)⟩

set_option maxHeartbeats 3200000 in
set_option maxRecDepth 100000 in
theorem own_short (B mb k : Nat) (ρ : Roles) (c : Mc) (m : Mem) (t p fl : Nat) (w : World) (h : Mach w B mb k ρ c m) (hk4 : k ≤ 400) (hB : B ≤ w.heap.size) (ht : t < 4) (ho : (c.tx t).isOpen = true) (hno : (c.tx t).own p = none) (hp1 : 1 ≤ p) (hp : p + 2 + fl ≤ c.xs.length) (hfl : c.xs.getD (p + 1) 0 = (fl : Int)) (hn : c.xs.length ≤ 400) (s0 : 0 ≤ c.xs.getD p 0) (s1 : c.xs.getD p 0 ≤ 1000000) (hfit : ∀ x ∈ c.xs, Fits x) (hcp : m.wcap = p + 2) :
    Calls Try.prog 114 #[.pointer (some ⟨mb, 0, none⟩), .int .i64 t, .int .i64 p] w (OwnEnd w B mb k ρ c t p) := by
  obtain ⟨iV, hiV, hV0, hV1, hV2⟩ := info_parts Try.valueInfo
  have q1 := h.blk.own t ht
  obtain ⟨b, n, e1, hnk, hrb, hm⟩ := h.ownMap ht ho
  rw [e1] at q1
  have hlt := h.blk.lt
  have hbl := hm.lt
  have hlook := hm.look_ok Try.underlying107 (Try.zeroOrig w) (x := (p : Int)) (fits_small (by omega) (by omega)) _ _ rfl rfl
  unfold ownV at hlook
  rw [hno] at hlook
  simp only [Option.map_none, Option.getD_none, Option.isSome_none] at hlook
  obtain ⟨ver, hver⟩ : ∃ ver, verOf c t p = ver := ⟨_, rfl⟩
  obtain ⟨g, hwa, hBg, hgl, hrg, hc1, hc2, hcc, hcf⟩ := h.row (by omega)
  have hmg : mb ≠ g := fun e => by have := h.rmb; rw [e, hrg] at this; cases this
  have hbg : b ≠ g := fun e => by rw [e, hrg] at hrb; cases hrb
  have hmb2 : mb ≠ b := fun e => by have := h.rmb; rw [e, hrb] at this; cases this
  have HVE := Lib.hide hver
  have H := Lib.hide h
  have HO := Lib.hide ho
  have HNO := Lib.hide hno
  have HM := Lib.hide hm
  have E1 := Lib.hide e1
  have HRB := Lib.hide hrb
  have HWA := Lib.hide hwa
  have HFIT := Lib.hide hfit
  have HFL := Lib.hide hfl
  have HCC := Lib.hide hcc
  clear h hm hno ho hver e1 hrb hwa hfit hcc hfl
  go_enter Try.func114, Try.ntmps114
  go_wp2_with (first
    | (go_at_call 121; refine (version_any B mb k ρ c m t p _ (H.out.next (by repeat (first | exact Below.refl _ _ | assumption | refine Below.drew ?_ | refine below_drewN ?_ _ | refine Below.allocs ?_ | refine Below.next ?_ (by assumption) | refine Below.setCell ?_ (by dsimp only; omega) _))) ht HO.out (by omega) hn s0 s1).mono ?_; rintro e w2 ⟨rfl, hb2⟩; rw [HVE.out]; have HB2 := Lib.hide (show Below w.heap.size w w2 from (by repeat (first | exact Below.refl _ _ | assumption | refine Below.drew ?_ | refine below_drewN ?_ _ | refine Below.allocs ?_ | refine Below.next ?_ (by assumption) | refine Below.setCell ?_ (by dsimp only; omega) _))); clear hb2)
    | go_in)
  have hW2 := H.out.next (w' := w2.alloc (.cells #[.int .i64 ver, .slice none 0 0] 156)) (Below.allocs HB2.out)
  have z0 := hW2.blk.words
  rw [HWA.out] at z0
  have z1 : (w2.alloc (.cells #[.int .i64 ver, .slice none 0 0] 156)).cell? ⟨g, p + 1, none⟩ = some (.int .i64 (fl : Int)) := by
    rw [← HFL.out, ← HCC.out (p + 1) (by omega)]
    exact Below.cell (p := ⟨g, p + 1, none⟩) (Below.allocs HB2.out) hgl
  have HBX := Lib.hide (Box2.new w2 (.int .i64 ver) (.slice none 0 0) 156)
  have z2 := hW2.blk.lt
  clear hW2 hlook q1
  obtain ⟨N, hN⟩ : ∃ N, c.xs.length = N := ⟨_, rfl⟩
  rw [hN] at z0 hc1 hn hp
  have HN := Lib.hide hN
  clear hN
  have i1 : IntKind.i64.wrap ((p : Int) + 2) = (p : Int) + 2 := IntWalk.i64_in _ (by omega)
  have i2 : IntKind.i64.wrap ((p : Int) + 1) = (p : Int) + 1 := IntWalk.i64_in _ (by omega)
  have i3 : (0 : Int) ≤ (p : Int) + 2 := by omega
  have i4 : (p : Int) + 2 ≤ (N : Int) := by omega
  have i5 : ((p : Int) + 2).toNat = p + 2 := by omega
  have i6 : (0 : Int) ≤ (p : Int) + 1 := by omega
  have i7 : (p : Int) + 1 < (N : Int) := by omega
  have i8 : ((p : Int) + 1).toNat = p + 1 := by omega
  have i9 : (0 : Int) ≤ (fl : Int) := by omega
  have i10 : (fl : Int) ≤ ((m.wcap - (p + 2) : Nat) : Int) := by omega
  rw [hcp] at i10 z0 hc1 hc2
  go_quiet (fail)
  go_wp2
  have hB0 : Below w.heap.size w ((w2.alloc (.cells #[.int .i64 ver, .slice none 0 0] 156)).drewN nq) := below_drewN (Below.allocs HB2.out) _
  have hX0 : Box2 ((w2.alloc (.cells #[.int .i64 ver, .slice none 0 0] 156)).drewN nq) w2.heap.size (.int .i64 ver) (.slice none 0 0) := HBX.out.next (below_drewN (Below.refl _ _) _)
  have hs2 := HB2.out.size
  generalize hW0 : (w2.alloc (.cells #[.int .i64 ver, .slice none 0 0] 156)).drewN nq = W0 at hB0 hX0 ⊢
  generalize hX9 : w2.heap.size = X9 at hX0 hs2 ⊢
  have HB0 := Lib.hide hB0
  have HX0 := Lib.hide hX0
  clear hB0 hX0 hW0 hX9 z0 z1 z2 HBX HB2 i1 i2 i3 i4 i5 i6 i7 i8 i9 i10
  go_loopw [51] (fun u wr => ∃ (i : Nat) (v : Value), i ≤ fl ∧ u = .int .i64 (i : Int) ∧ Below w.heap.size w wr ∧ Box2 wr X9 (.int .i64 ver) v ∧ wr.ownsRow (X9 + 1) 34 2 v i (vcells (valsTo c.xs p i)))
    (fun u _ => fl - (intOf u).toNat)
  case atStart => exact ⟨0, .slice none 0 0, Nat.zero_le _, rfl, HB0.out, HX0.out, rfl, .inl ⟨rfl, rfl⟩⟩
  case round =>
    obtain ⟨i, v, hi, rfl, hbw, hbx, how⟩ := hrel
    have HBW := Lib.hide hbw
    have HBX := Lib.hide hbx
    have HOW := Lib.hide how
    clear hbw how HB0 HX0
    by_cases hlt2 : i < fl
    · exfalso
      omega
    · obtain rfl : i = fl := by omega
      have hmc := H.out.next HBW.out
      have hmr := HM.out.kept (HBW.out.block b hbl)
      have x0 := hmc.blk.own t ht
      rw [E1.out] at x0
      obtain ⟨b0, b1, b2, b3, b4⟩ := hbx
      have hvsh : ∃ va vc, v = .slice va i vc := by
        rcases HOW.out.2 with ⟨e1, e2⟩ | ⟨g5, cp5, cur5, e1, _⟩
        · subst e2; exact ⟨none, 0, e1⟩
        · exact ⟨_, _, e1⟩
      obtain ⟨va, vc, rfl⟩ := hvsh
      obtain ⟨w6, hrun6, hmap6, hg6⟩ := hmr.kept (w' := wr.drew) rfl |>.put Try.underlying107 (by unfold maxLen; omega) (x := (p : Int)) (fits_small (by omega) (by omega)) (.agg #[.int .i64 ver, .slice va i vc])
      have HMC := Lib.hide hmc
      have HMAP6 := Lib.hide hmap6
      have HG6 := Lib.hide hg6
      clear hmc hmr hmap6
      have hwrB := HBW.out.size
      have hrow : ∀ j, (Value.slice va i vc).ownBlock = some j → X9 + 1 ≤ j ∧ j < wr.heap.size := fun j hj => World.ownsRow.lt HOW.out _ hj
      have hfl2 : (valsTo c.xs p i).length = i := valsTo_length (by rw [HN.out]; omega)
      have hle : lenAt c.xs p = i := by unfold lenAt; rw [HFL.out]; simp
      obtain ⟨ρ', hmach6, hr1, hr2⟩ := (HMC.out.drew).putOwn ht E1.out hnk HRB.out p ⟨ver, valsTo c.xs p i⟩ va vc HNO.out (by
          show OwnV wr.drew B (.slice va (valsTo c.xs p i).length vc) (valsTo c.xs p i)
          rw [hfl2]
          unfold OwnV
          rw [hfl2]
          exact ownsRow_base HOW.out (by omega)) (fun j hj => by
          have hj' : (Value.slice va i vc).ownBlock = some j := (ownBlock_any _ _ _ _ _).trans hj
          have := hrow j hj'
          exact ⟨H.out.noRole (by omega), by omega, by omega, this.2⟩) (by
          unfold ownVal
          dsimp only
          rw [hfl2]
          exact HMAP6.out) HG6.out
      have mv6 : Moved ρ w ρ' w6 := by
        refine ⟨HG6.out.os.trans HBW.out.os, HG6.out.tape.trans HBW.out.tape, HG6.out.output.trans HBW.out.output, Nat.le_trans HBW.out.size HG6.out.size, fun j hj hn => ?_, fun j hj => ?_⟩
        · have e1 : w6.heap[j]? = wr.heap[j]? := HG6.out.block j (by show j < wr.heap.size; omega) (fun e => by rw [Option.some.inj e, HRB.out] at hn; cases hn)
          exact e1.trans (HBW.out.block j hj)
        · by_cases hn : ρ j = none
          · rw [hn]
            refine Classical.byContradiction fun hc => ?_
            rcases hr2 j hc with h' | h'
            · exact h' hn
            · have hj' : (Value.slice va i vc).ownBlock = some j := (ownBlock_any _ _ _ _ _).trans h'
              have := hrow j hj'
              omega
          · exact hr1 j hn
      have HMA6 := Lib.hide hmach6
      have MV6 := Lib.hide mv6
      have y0 := hmach6.blk.words
      have y1 := hmach6.blk.lt
      have y2 : m.wa = some ⟨g, 0, none⟩ := HWA.out
      dsimp only at y0
      rw [y2, HN.out] at y0
      obtain ⟨g', hwa', _, hgl', _, _, _, hcc', hcf'⟩ := hmach6.row (by show 0 < c.xs.length; rw [HN.out]; omega)
      obtain rfl : g' = g := by dsimp only at hwa'; rw [y2] at hwa'; injection hwa' with hwa'; injection hwa' with hwa' _; exact hwa'.symm
      have y3 := hcc' p (by show p < c.xs.length; rw [HN.out]; omega)
      have y4 := hcf' p
      have j1 : (0 : Int) ≤ (p : Int) := by omega
      have j2 : (p : Int) < (N : Int) := by omega
      have HXS := Lib.hide hle
      clear hcc' hcf' hwa' y2 hmach6 mv6 hr1 hr2 hle hfl2 hrow
      go_wp2
      go_region
      all_goals
        go_wp2
        go_region_held3 (fun w' => w'.cell? ⟨mb, 0, none⟩ = some (.slice (some ⟨g', 0, none⟩) N m.wcap))
          (first | exact y0 | exact far_cell y0 hmg)
          (first | (go_at_call 122; refine (ownedState_any t _ ht).mono ?_; rintro e w' ⟨rfl, rfl⟩))
        go_end0
        have hfin := (HMA6.out.setWord HWA.out p (2 * (t : Int) + 1)).drew
        have heq := ownMc_none HNO.out HVE.out HXS.out
        dsimp only at hfin
        rw [← heq] at hfin
        exact ⟨_, ρ', rfl, hfin, (MV6.out.trans (Moved.setWord HMA6.out HWA.out p _)).trans (Moved.drew _ _)⟩

theorem own_any (B mb k : Nat) (ρ : Roles) (c : Mc) (m : Mem) (t p fl : Nat) (w : World) (h : Mach w B mb k ρ c m) (hk4 : k ≤ 400) (hB : B ≤ w.heap.size) (ht : t < 4) (ho : (c.tx t).isOpen = true) (hp1 : 1 ≤ p) (hp : p + 2 + fl ≤ c.xs.length) (hfl : c.xs.getD (p + 1) 0 = (fl : Int)) (hn : c.xs.length ≤ 400) (s0 : 0 ≤ c.xs.getD p 0) (s1 : c.xs.getD p 0 ≤ 1000000) (hfit : ∀ x ∈ c.xs, Fits x) :
    Calls Try.prog 114 #[.pointer (some ⟨mb, 0, none⟩), .int .i64 t, .int .i64 p] w (OwnEnd w B mb k ρ c t p) := by
  cases hno : (c.tx t).own p with
  | some o => exact own_some B mb k ρ c m t p w h ht ho o hno (by omega)
  | none =>
    by_cases hcp : m.wcap = p + 2
    · exact own_short B mb k ρ c m t p fl w h hk4 hB ht ho hno hp1 hp hfl hn s0 s1 hfit hcp
    · exact own_long B mb k ρ c m t p fl w h hk4 hB ht ho hno hp1 hp hfl hn s0 s1 hfit hcp
end Go.Proofs.Ytpdcaoagpjcgbab

