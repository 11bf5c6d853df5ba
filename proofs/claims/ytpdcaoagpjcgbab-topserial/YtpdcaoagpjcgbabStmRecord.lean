/-
  The walk of record of package stm. It proves no statement by itself.
-/
import Derived.Test.YtpdcaoagpjcgbabStmAccess
set_option linter.unusedVariables false
set_option linter.unusedSimpArgs false
namespace Go.Proofs.Ytpdcaoagpjcgbab
open Go.RowKit Stm

/-- A transaction that differs in what it has recorded or owns alone. -/
theorem MBlk.retx {w : World} {mb : Nat} {c : Mc} {m m' : Mem} (h : MBlk w mb c m) (t : Nat) (x : Tx) (ho : x.isOpen = (c.tx t).isOpen) (hs : x.saved = (c.tx t).saved) (e1 : m'.wa = m.wa) (e2 : m'.wcap = m.wcap) (e3 : m'.rm = m.rm) (e4 : m'.om = m.om) (e5 : m'.ra = m.ra) (e6 : m'.rcap = m.rcap) : MBlk w mb ⟨c.xs, c.top, c.regs, upd c.tx t x, c.coll⟩ m' := by
  refine ⟨h.lt, by rw [e1, e2]; exact h.words, h.top, h.regk, h.regn, fun t' ht' => ?_, fun t' r ht' hr => ?_, fun t' r ht' hr => ?_, fun t' ht' => by rw [e3]; exact h.recd t' ht', fun t' ht' => by rw [e4]; exact h.own t' ht', h.going, by rw [e5, e6]; exact h.ret, h.left, h.ctop, h.warm⟩
  · by_cases e : t' = t
    · subst e; simp only [upd_same]; rw [ho]; exact h.isOpen t' ht'
    · simp only []; rw [upd_other _ _ e]; exact h.isOpen t' ht'
  · by_cases e : t' = t
    · subst e; simp only [upd_same]; rw [hs]; exact h.savk t' r ht' hr
    · simp only []; rw [upd_other _ _ e]; exact h.savk t' r ht' hr
  · by_cases e : t' = t
    · subst e; simp only [upd_same]; rw [hs]; exact h.savn t' r ht' hr
    · simp only []; rw [upd_other _ _ e]; exact h.savn t' r ht' hr

theorem recV_set (f : Int → Option Int) (p v : Int) : recV (setAt f p (some v)) = setAt (recV f) p (some (.int .i64 v)) := by
  funext x
  by_cases h : x = p
  · subst h; simp [recV, setAt_same]
  · simp [recV, setAt_other _ _ h]

/-- A store into the map of what a thread has recorded. -/
theorem Mach.putRec {w w' : World} {B mb k : Nat} {ρ : Roles} {c : Mc} {m : Mem} (h : Mach w B mb k ρ c m) {t : Nat} (ht : t < 4) {b n : Nat} (hb : m.rm t = some b) (hn : n ≤ k) (hr : ρ b = some (3, t, 0)) (f : Int → Option Int) (hm : MapR w' b (n + 1) (recV f)) (hg : w.grownBy w' (some b)) :
    Mach w' B mb (k + 1) ρ ⟨c.xs, c.top, c.regs, upd c.tx t ⟨(c.tx t).isOpen, (c.tx t).saved, f, (c.tx t).own⟩, c.coll⟩ m := by
  have hne : ∀ i x, ρ i = some x → x ≠ (3, t, 0) → w'.heap[i]? = w.heap[i]? := fun i x hx hn' => hg.block i (h.low i (by rw [hx]; simp)).2 (fun e => by
    rw [Option.some.inj e, hr] at hx
    exact hn' (Option.some.inj hx).symm)
  refine ⟨(h.blk.kept (hne mb _ h.rmb (by simp)) hg.size).retx t _ rfl rfl rfl rfl rfl rfl rfl rfl, ownsRow_kept h.words (fun g hg' => hne g _ (h.rwords g hg') (by simp)), ownsRow_kept h.ret (fun g hg' => hne g _ (h.rret g hg') (by simp)), fun t' ht' => ?_, h.rmb, h.rwords, h.rret, fun i hi => ⟨(h.low i hi).1, Nat.lt_of_lt_of_le (h.low i hi).2 hg.size⟩⟩
  have hx := (h.txs t' ht').more (Nat.le_succ k)
  by_cases e : t' = t
  · subst e
    simp only [upd_same]
    refine ⟨.inr ⟨b, n + 1, hb, by omega, hr, hm⟩, hx.own.imp id ?_, fun p o ho => ?_, hx.opened⟩
    · rintro ⟨b2, n2, h1, h2, h3, h4⟩
      exact ⟨b2, n2, h1, h2, h3, h4.kept (hne b2 _ h3 (by simp))⟩
    · obtain ⟨h1, h2⟩ := hx.fields p o ho
      exact ⟨ownsRow_kept h1 (fun g hg' => hne g _ (h2 g hg') (by simp)), h2⟩
  · simp only []
    rw [upd_other _ _ e]
    refine hx.kept (fun i hi => ?_)
    rcases hi with h | h | ⟨p, h⟩ <;> exact hne i _ h (by simp; try omega)

set_option maxHeartbeats 1600000 in
theorem record_any (B mb k : Nat) (ρ : Roles) (c : Mc) (m : Mem) (t p : Nat) (w : World) (h : Mach w B mb k ρ c m) (hk4 : k ≤ 400) (ht : t < 4) (ho : (c.tx t).isOpen = true) (hp : p < c.xs.length) (hn : c.xs.length ≤ 400) (s0 : 0 ≤ c.xs.getD p 0) (s1 : c.xs.getD p 0 ≤ 1000000) :
    Calls Try.prog 113 #[.pointer (some ⟨mb, 0, none⟩), .int .i64 t, .int .i64 p] w fun e w' => ∃ m', e = .returned (.tuple #[]) ∧ Mach w' B mb (k + 1) ρ ⟨c.xs, c.top, c.regs, upd c.tx t (recTx c t p), c.coll⟩ m' ∧ Moved ρ w ρ w' := by
  have q1 := h.blk.own t ht
  have q2 := h.blk.recd t ht
  obtain ⟨b, n, e1, _, _, hm⟩ := h.ownMap ht ho
  obtain ⟨b2, n2, e2, hn2, hr2, hm2⟩ := h.recMap ht ho
  rw [e1] at q1
  rw [e2] at q2
  have hlt := h.blk.lt
  have hbl := hm.lt
  have hbl2 := hm2.lt
  have hlook := hm.look_ok Try.underlying107 (Try.zeroOrig w) (x := (p : Int)) (fits_small (by omega) (by omega)) _ _ rfl rfl
  have H := Lib.hide h
  have HO := Lib.hide ho
  have HR2 := Lib.hide hr2
  have HM2 := Lib.hide hm2
  have E2 := Lib.hide e2
  unfold ownV at hlook
  cases hown : (c.tx t).own p with
  | some o =>
    rw [hown] at hlook
    simp only [Option.map_some, Option.getD_some, Option.isSome_some] at hlook
    unfold ownVal at hlook
    have hrt : recTx c t p = c.tx t := by unfold recTx; rw [if_neg (by rw [hown]; simp)]
    rw [hrt, upd_id]
    have hlook2 := (hm2.kept (w' := w.alloc (.cells #[.int .i64 o.ver, .slice (m.fa t p) o.fields.length (m.fc t p)] 156)) (Below.heap_alloc _ _ _ hbl2)).look_ok Try.underlying55 (Try.zeroInt _) (x := (p : Int)) (fits_small (by omega) (by omega)) (.int .i64 (((c.tx t).recd p).getD 0)) _ (by unfold recV; cases (c.tx t).recd p <;> rfl) rfl
    obtain ⟨y, hy⟩ : ∃ y, ((c.tx t).recd p).getD 0 = y := ⟨_, rfl⟩
    obtain ⟨ok, hok⟩ : ∃ ok, (recV (c.tx t).recd p).isSome = ok := ⟨_, rfl⟩
    obtain ⟨vr, hvr⟩ : ∃ vr, o.ver = vr := ⟨_, rfl⟩
    obtain ⟨fa', hfa'⟩ : ∃ fa', m.fa t p = fa' := ⟨_, rfl⟩
    obtain ⟨fc', hfc'⟩ : ∃ fc', m.fc t p = fc' := ⟨_, rfl⟩
    obtain ⟨fl, hfl⟩ : ∃ fl, o.fields.length = fl := ⟨_, rfl⟩
    rw [hy, hok, hvr, hfa', hfc', hfl] at hlook2
    rw [hvr, hfa', hfc', hfl] at hlook
    clear h hm hm2 hown hrt hy hok hvr hfa' hfc' hfl e1 e2 hr2 ho
    go_enter Try.func113, Try.ntmps113
    go_wp2
    go_end0
    exact ⟨m, rfl, (H.out.more (Nat.le_succ _)).next (by repeat (first | exact Below.refl _ _ | assumption | refine Below.drew ?_ | refine below_drewN ?_ _ | refine Below.allocs ?_ | refine Below.next ?_ (by assumption) | refine Below.setCell ?_ (by dsimp only; omega) _)), Moved.of_below (by repeat (first | exact Below.refl _ _ | assumption | refine Below.drew ?_ | refine below_drewN ?_ _ | refine Below.allocs ?_ | refine Below.next ?_ (by assumption) | refine Below.setCell ?_ (by dsimp only; omega) _))⟩
  | none =>
    rw [hown] at hlook
    simp only [Option.map_none, Option.getD_none, Option.isSome_none] at hlook
    have hlook2 := (hm2.kept (w' := w.alloc (.cells #[.int .i64 0, .slice none 0 0] 156)) (Below.heap_alloc _ _ _ hbl2)).look_ok Try.underlying55 (Try.zeroInt _) (x := (p : Int)) (fits_small (by omega) (by omega)) (.int .i64 (((c.tx t).recd p).getD 0)) _ (by unfold recV; cases (c.tx t).recd p <;> rfl) rfl
    unfold recV at hlook2
    cases hrec : (c.tx t).recd p with
    | some y =>
      rw [hrec] at hlook2
      simp only [Option.map_some, Option.getD_some, Option.isSome_some] at hlook2
      have hrt : recTx c t p = c.tx t := by unfold recTx; rw [if_neg (by rw [hrec]; simp)]
      rw [hrt, upd_id]
      clear h hm hm2 hown hrt hrec e1 e2 hr2 ho
      go_enter Try.func113, Try.ntmps113
      go_wp2
      go_end0
      exact ⟨m, rfl, (H.out.more (Nat.le_succ _)).next (by repeat (first | exact Below.refl _ _ | assumption | refine Below.drew ?_ | refine below_drewN ?_ _ | refine Below.allocs ?_ | refine Below.next ?_ (by assumption) | refine Below.setCell ?_ (by dsimp only; omega) _)), Moved.of_below (by repeat (first | exact Below.refl _ _ | assumption | refine Below.drew ?_ | refine below_drewN ?_ _ | refine Below.allocs ?_ | refine Below.next ?_ (by assumption) | refine Below.setCell ?_ (by dsimp only; omega) _))⟩
    | none =>
      rw [hrec] at hlook2
      simp only [Option.map_none, Option.getD_none, Option.isSome_none] at hlook2
      have hrt : recTx c t p = ⟨(c.tx t).isOpen, (c.tx t).saved, setAt (c.tx t).recd p (some (verOf c t p)), (c.tx t).own⟩ := by unfold recTx; rw [if_pos ⟨hown, hrec⟩]
      rw [hrt]
      obtain ⟨ver, hver⟩ : ∃ ver, verOf c t p = ver := ⟨_, rfl⟩
      rw [hver]
      have HVE := Lib.hide hver
      clear h hm hm2 hown hrt hrec e1 e2 hr2 ho hver
      go_enter Try.func113, Try.ntmps113
      go_wp2
      have hW : Mach (w.alloc (.cells #[.int .i64 0, .slice none 0 0] 156)).drew B mb k ρ c m := (H.out.alloc _).drew
      have mW : Moved ρ w ρ (w.alloc (.cells #[.int .i64 0, .slice none 0 0] 156)).drew := Moved.of_below (by repeat (first | exact Below.refl _ _ | assumption | refine Below.drew ?_ | refine below_drewN ?_ _ | refine Below.allocs ?_ | refine Below.next ?_ (by assumption) | refine Below.setCell ?_ (by dsimp only; omega) _))
      have rW := HM2.out.kept (w' := (w.alloc (.cells #[.int .i64 0, .slice none 0 0] 156)).drew) (Below.heap_alloc _ _ _ hbl2)
      have x0 := hW.blk.recd t ht
      rw [E2.out] at x0
      have HW := Lib.hide hW
      have MW := Lib.hide mW
      have RW := Lib.hide rW
      have hmb2 : mb ≠ b2 := fun e => by have := H.out.rmb; rw [e, HR2.out] at this; cases this
      clear hW mW rW hlook hlook2
      go_region_held3 (fun w' => w'.cell? ⟨mb, 34 + t * 11 + 9, none⟩ = some (.map (some b2)))
        (first | exact x0 | exact k0 | exact k1)
        (first
          | (go_at_call 121; refine (version_any B mb k ρ c m t p _ HW.out ht HO.out hp hn s0 s1).mono ?_; rintro e w2 ⟨rfl, hb2⟩; rw [HVE.out]; have k0 := (hb2.cell (p := ⟨mb, 34 + t * 11 + 9, none⟩) HW.out.blk.lt).trans x0; have HM3 := Lib.hide (HW.out.next hb2); have MV3 := Lib.hide (MW.out.next hb2); obtain ⟨w3, hrun3, hmap3, hg3⟩ := (RW.out.kept (hb2.block b2 RW.out.lt)).put Try.underlying55 (by unfold maxLen; omega) (x := (p : Int)) (fits_small (by omega) (by omega)) (.int .i64 ver); have k1 := (World.cell?_of_block (a := ⟨mb, 34 + t * 11 + 9, none⟩) (hg3.block mb HM3.out.blk.lt (fun e => hmb2 (Option.some.inj e)))).trans k0; have HMAP3 := Lib.hide hmap3; have HG3 := Lib.hide hg3; clear hmap3 hg3))
      go_wp2
      go_end0
      refine ⟨m, rfl, HM3.out.putRec ht E2.out hn2 HR2.out _ (by rw [recV_set]; exact HMAP3.out) HG3.out, MV3.out.trans (Moved.of_grown HG3.out (by rw [HR2.out]; simp))⟩
end Go.Proofs.Ytpdcaoagpjcgbab

