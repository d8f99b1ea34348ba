/-
  Plain facts: what Insert and Delete tell of a right tree, beside keys put and dropped.
  Plain facts on queues: what is done with a right queue comes to a right queue, and to which keys.
-/
import Derived.Test.YtpmknpdnhfnfcaaGreatDoorTwP
import Derived.Test.YtpmknpdnhfnfcaaGreatDoorPlA
import Derived.Test.YtpmknpdnhfnfcaaGreatDoorQuR
import Derived.Test.YtpmknpdnhfnfcaaGreatDoorQyA
namespace Go.Proofs.YtpmknpdnhfnfcaaGreatDoor
open Go.RowKit Go.Sort Ky Wd Tn Tr

theorem insK_split {m : Int} {k : K} : {l r : List K} → (∀ x ∈ l, ltK m k x = false) → (∀ x ∈ r, ltK m k x = true) → Ky.insK m k (l ++ r) = l ++ k :: r
  | [], [], _, _ => rfl
  | [], x :: r, _, hr => by show (if ltK m k x = true then _ else _) = _; rw [if_pos (hr x (by simp))]; rfl
  | x :: l, r, hl, hr => by
    show (if ltK m k x = true then k :: x :: (l ++ r) else x :: Ky.insK m k (l ++ r)) = _
    rw [hl x (by simp), if_neg (by decide), insK_split (fun y hy => hl y (by simp [hy])) hr]
    rfl
theorem mem_ids {t : T} {b : B} (hw : Whole t b) {z : Int} (hz : t.has z) : (t.nd z).inn = true ↔ idxK z b.keys < b.keys.length := by
  rw [idxK_mem, ← ids_keys]
  constructor
  · intro hi
    refine Classical.byContradiction fun hn => ?_
    have := hw.rest z hz hn
    rw [this] at hi
    cases hi
  · intro h
    exact (hw.sub.has z h).2
/-- What Delete tells, beside Drop. -/
theorem del_any {m : Int} {t : T} {b : B} {z : Int} (hw : Whole t b) (hr : RightB m b) (hz : t.has z) :
    ∃ td ed, Del m z t td ed ∧ ((ed = 0 ∧ dropE m b.keys z = 0 ∧ ∃ bd, Whole td bd ∧ RightB m bd ∧ dropL m b.keys z = bd.keys) ∨ (ed = 8 ∧ dropE m b.keys z = 8)) := by
  cases hi : (t.nd z).inn with
  | false =>
    have hn : ¬ idxK z b.keys < b.keys.length := fun h => by have := (mem_ids hw hz).2 h; rw [hi] at this; cases this
    exact ⟨_, _, .idle ⟨b, hw, hr⟩ hz hi, .inr ⟨rfl, (drop_none hr.2.1 hn).1⟩⟩
  | true =>
    have hn := (mem_ids hw hz).1 hi
    obtain ⟨td, bd, h1, h2, h3, l, v, r, k1, k2⟩ := del_all hw hr hz hi
    obtain ⟨e1, e2⟩ := drop_has hr.2.1 hn
    refine ⟨td, 0, .done ⟨b, hw, hr⟩ hz hi td h1, .inl ⟨rfl, e1, bd, h2, h3, ?_⟩⟩
    have hix : idxK z b.keys = l.length := by
      refine idxK_at (by rw [k1]; simp) (by rw [k1]; simp [List.getD]) (fun j hj e => ?_)
      have hok := okK_at hr.2.1 (i := j) (j := l.length) hj (by rw [k1]; simp)
      refine hok.2 (e.trans ?_)
      rw [k1]
      simp [List.getD]
    rw [e2, hix, k1, k2]
    simp
/-- What Insert tells, beside Put. -/
theorem ins_any {m : Int} {t : T} {b : B} {k : K} (hw : Whole t b) (hr : RightB m b) (hkin : Kin k) (hU : ∀ x ∈ b.keys, Kin x) (hk : t.has k.2) :
    ∃ ti ei, Ins m k t ti ei ∧ ((ei = 0 ∧ putE m b.keys k = 0 ∧ ∃ bi, Whole ti bi ∧ RightB m bi ∧ putL m b.keys k = bi.keys) ∨ (ei = 1 ∧ putE m b.keys k = 1)) := by
  cases hi : (t.nd k.2).inn with
  | true => exact ⟨_, _, .arg ⟨b, hw, hr⟩ (.inr hi), .inr ⟨rfl, (put_has hr.2.1 ((mem_ids hw hk).1 hi)).1⟩⟩
  | false =>
    have hn : ¬ idxK k.2 b.keys < b.keys.length := fun h => by have := (mem_ids hw hk).2 h; rw [hi] at this; cases this
    obtain ⟨n, n2, u, s, ti, bi, h1, h2, h3, h4, l, r, k1, k2, k3, k4⟩ := ins_all hw hr hkin hU hk hi
    obtain ⟨e1, e2⟩ := put_new hr.2.1 hn
    refine ⟨ti, 0, .done ⟨b, hw, hr⟩ hk hi n n2 u s ti h1 h2, .inl ⟨rfl, e1, bi, h3, h4, ?_⟩⟩
    rw [e2, k1, k2]
    exact insK_split k3 k4
theorem fill_len {n : Nat} {t t' : T} {u : Int} {s : Bool} (h : Fill n t u s t') : t'.ns.length = t.ns.length := by
  have far : ∀ {t t' : T} {p : Int} {s : Bool}, SetFar t p s t' → t'.ns.length = t.ns.length := fun ⟨v, f, _, _, _, _, _, _, e⟩ => by rw [e, turn_len, paint_len, paint_len, paint_len]
  induction h with
  | root n t s h0 => split <;> simp [paint_len]
  | redp n t u y s hu ey hy ry => exact paint_len _ _ _
  | turn n t t' u v s hu hk rk ev hv rv ht r2 r1 rest ih => rw [ih, turn_len, paint_len, paint_len]
  | settle n t t' u v s hu hk rk ev hv rv ol or rr hs =>
    obtain ⟨_, _, _, _, _, _, _, h | ⟨_, c, _, _, _, h⟩⟩ := hs
    · exact far h.2
    · rw [far h, turn_len, paint_len, paint_len]
  | up n t t' u v s hu hk rk ev hv rv ol or rr hp rest ih => rw [ih, paint_len]
theorem remove_len {t t' : T} {z : Int} (h : Remove t z t') : t'.ns.length = t.ns.length := by
  obtain ⟨_, _, t1, g, u, s, ho, ⟨_, rfl⟩ | ⟨_, n, hf⟩⟩ := h
  · rw [put_len, ho.len]
  · rw [fill_len hf, put_len, ho.len]
theorem Del.len {m z : Int} {t t' : T} (h : Del m z t t' 0) : t'.ns.length = t.ns.length := by
  cases h with
  | done _ _ _ _ hr => exact remove_len hr
theorem Ins.len {m : Int} {k : K} {t t' : T} (h : Ins m k t t' 0) : t'.ns.length = t.ns.length := by
  cases h with
  | done _ _ _ n n2 u s _ hd hm => rw [hm.len, hang_len, put_len]
end Go.Proofs.YtpmknpdnhfnfcaaGreatDoor

namespace Go.Proofs.YtpmknpdnhfnfcaaGreatDoor
open Wd Tn Ky Tr Wg Qu

theorem ins_q {m : Int} {t : T} {b : B} {k : K} (hw : Whole t b) (hr : RightB m b) (hk : Kin k) (hU : ∀ x ∈ b.keys, Kin x) (hh : t.has k.2) (hi : (t.nd k.2).inn = false) :
    ∃ t' b', Ins m k t t' 0 ∧ Whole t' b' ∧ RightB m b' ∧ b'.keys = insK m k b.keys ∧ t'.ns.length = t.ns.length := by
  have hn : ¬ idxK k.2 b.keys < b.keys.length := fun h => by have := (mem_ids hw hh).2 h; rw [hi] at this; cases this
  obtain ⟨ti, ei, h1, h2⟩ := ins_any hw hr hk hU hh
  rcases h2 with ⟨rfl, h3, bi, h4, h5, h6⟩ | ⟨-, h3⟩
  · exact ⟨ti, bi, h1, h4, h5, by rw [← h6, (put_new hr.2.1 hn).2], Ins.len h1⟩
  · rw [(put_new hr.2.1 hn).1] at h3; cases h3
theorem del_q {m : Int} {t : T} {b : B} {z : Int} (hw : Whole t b) (hr : RightB m b) (hh : t.has z) (hi : (t.nd z).inn = true) :
    ∃ t' b', Del m z t t' 0 ∧ Whole t' b' ∧ RightB m b' ∧ b'.keys = b.keys.take (idxK z b.keys) ++ b.keys.drop (idxK z b.keys + 1) ∧ idxK z b.keys < b.keys.length ∧ t'.ns.length = t.ns.length := by
  have hn := (mem_ids hw hh).1 hi
  obtain ⟨td, ed, h1, h2⟩ := del_any hw hr hh
  rcases h2 with ⟨rfl, h3, bi, h4, h5, h6⟩ | ⟨-, h3⟩
  · exact ⟨td, bi, h1, h4, h5, by rw [← h6, (drop_has hr.2.1 hn).2], hn, Del.len h1⟩
  · rw [(drop_has hr.2.1 hn).1] at h3; cases h3
theorem inn_iff {t : T} {b : B} (hw : Whole t b) {z : Int} (hz : t.has z) : (t.nd z).inn = true ↔ z ∈ b.keys.map (·.2) := by rw [mem_ids hw hz, idxK_mem]
theorem here_iff {q : Q} {b : B} (hw : Whole q.t b) {z : Int} (hz : q.t.has z) : q.here z = true ↔ (z = q.cur ∨ z ∈ b.keys.map (·.2)) := by
  unfold Q.here
  rw [Bool.or_eq_true, decide_eq_true_eq, inn_iff hw hz]
theorem key_has {t : T} {b : B} (hw : Whole t b) {k : K} (hk : k ∈ b.keys) : t.has k.2 ∧ (t.nd k.2).inn = true := by
  refine hw.sub.has k.2 ?_
  rw [ids_keys]
  exact List.mem_map.2 ⟨k, hk, rfl⟩
/-- A task's weight is right, by who runs and the keys of the tree. -/
def wK (cur : Int) (ids : List Int) (w : Int) (i : Int) : Prop := ((i = cur ∨ i ∈ ids) ∧ wOkN w) ∨ (¬ (i = cur ∨ i ∈ ids) ∧ w = 0)
theorem wAt_iff {q : Q} {b : B} (hw : Whole q.t b) {i : Nat} (hi : i < q.t.ns.length) : wAt q i ↔ wK q.cur (b.keys.map (·.2)) (q.ws.getD i 0) i := by
  have hh : q.t.has (i : Int) := ⟨by omega, by omega⟩
  have := here_iff (q := q) hw hh
  unfold wAt wK
  rw [← this]
  simp
theorem sum_set : (l : List Int) → (i : Nat) → (x : Int) → i < l.length → (l.set i x).sum = l.sum + (x - l.getD i 0)
  | a :: l, 0, x, _ => by simp only [List.set_cons_zero, List.sum_cons, List.getD_cons_zero]; omega
  | a :: l, i + 1, x, h => by
    have := sum_set l i x (by simpa using h)
    simp only [List.set_cons_succ, List.sum_cons, List.getD_cons_succ, this]; omega
theorem getD_set (l : List Int) (i j : Nat) (x : Int) (h : i < l.length) : (l.set i x).getD j 0 = if j = i then x else l.getD j 0 := by
  by_cases e : j = i
  · subst e; simp [List.getD, h]
  · rw [if_neg e]; simp [List.getD, Ne.symm e]
/-- What is right of a queue, in parts. -/
theorem rightA_of {q : Q} {b : B} (hw : Whole q.t b) (h1 : RightB q.mn b) (h2 : (q.cur = -1 ∧ q.v = 0) ∨ (q.t.has q.cur ∧ q.cur ∉ b.keys.map (·.2))) (h3 : q.ws.length = q.t.ns.length) (h4 : ∀ i : Nat, i < q.t.ns.length → wK q.cur (b.keys.map (·.2)) (q.ws.getD i 0) i) (h5 : q.ws.sum = q.load) (h6 : ∀ k ∈ b.keys ++ q.run, lagOk q.mn k) : RightA q b := by
  refine ⟨h1, h2.imp id (fun h => ⟨h.1, ?_⟩), ⟨h3, fun i hi => (wAt_iff hw (by omega)).2 (h4 i (by omega)), h5⟩, h6⟩
  cases hi : (q.t.nd q.cur).inn with
  | false => rfl
  | true => exact absurd ((inn_iff hw h.1).1 hi) h.2
theorem rightA_parts {q : Q} {b : B} (hw : Whole q.t b) (h : RightA q b) : ((q.cur = -1 ∧ q.v = 0) ∨ (q.t.has q.cur ∧ q.cur ∉ b.keys.map (·.2))) ∧ (∀ i : Nat, i < q.t.ns.length → wK q.cur (b.keys.map (·.2)) (q.ws.getD i 0) i) := by
  refine ⟨h.2.1.imp id (fun k => ⟨k.1, fun e => ?_⟩), fun i hi => (wAt_iff hw hi).1 (h.2.2.1.2.1 i (by have := h.2.2.1.1; omega))⟩
  have := (inn_iff hw k.1).2 e
  rw [k.2] at this; cases this

/-! ### Enter -/
theorem clampL (lag : Int) : -1048576 ≤ clampN lag (-1048576) mx ∧ clampN lag (-1048576) mx ≤ mx := ⟨clamp_ge _ _ _ (by unfold mx; omega), clamp_le _ _ _ (by unfold mx; omega)⟩
theorem enter_ex {q : Q} {b : B} {id x lag : Int} (hw : Whole q.t b) (hr : RightA q b) (hU : ∀ k ∈ b.keys, Kin k) (hid : q.t.has id) (hx : wOkN x) (hh : q.here id = false) :
    ∃ t' b', QEnter q id x lag { q.weigh id x with t := t' } 0 ∧ Whole t' b' ∧ RightA { q.weigh id x with t := t' } b' ∧ b'.keys = insK q.mn (atN q.mn (clampN lag (-1048576) mx), id) b.keys ∧ t'.ns.length = q.t.ns.length := by
  have hnh : ¬ (id = q.cur ∨ id ∈ b.keys.map (·.2)) := fun e => by have := (here_iff hw hid).2 e; rw [hh] at this; cases this
  have hi : (q.t.nd id).inn = false := by
    cases e : (q.t.nd id).inn with
    | false => rfl
    | true => exact absurd (.inr ((inn_iff hw hid).1 e)) hnh
  have hlen := hw.len
  have hk : Kin (atN q.mn (clampN lag (-1048576) mx), id) := ⟨U_at _ _, by have h1 := hid.1; have h2 := hid.2; unfold I; simp only; omega⟩
  obtain ⟨t', b', h1, h2, h3, h4, h5⟩ := ins_q hw hr.1 hk hU hid hi
  obtain ⟨p1, p2⟩ := rightA_parts hw hr
  have hmem : ∀ z, z ∈ b'.keys.map (·.2) ↔ (z = id ∨ z ∈ b.keys.map (·.2)) := fun z => by
    rw [h4, ((insK_perm q.mn _ b.keys).map (·.2)).mem_iff]
    simp
  have hl := clampL lag
  refine ⟨t', b', .done ⟨b, hw, hr⟩ hid hx hh t' h1, h2, rightA_of h2 h3 ?_ ?_ ?_ ?_ ?_, h4, h5⟩
  · refine p1.imp (fun k => k) (fun h => ⟨⟨h.1.1, by have := h.1.2; simp only [Q.weigh]; omega⟩, fun e => ?_⟩)
    rcases (hmem _).1 e with e | e
    · exact hnh (.inl e.symm)
    · exact h.2 e
  · show (q.ws.set id.toNat x).length = t'.ns.length
    rw [List.length_set, h5]; exact hr.2.2.1.1
  · intro i hi'
    have hi2 : i < q.t.ns.length := by rw [← h5]; exact hi'
    have h6 := p2 i hi2
    show wK q.cur _ ((q.ws.set id.toNat x).getD i 0) i
    rw [getD_set _ _ _ _ (by have := hr.2.2.1.1; have := hid.1; have := hid.2; omega)]
    by_cases e : i = id.toNat
    · rw [if_pos e]
      exact .inl ⟨.inr ((hmem _).2 (.inl (by have := hid.1; omega))), hx⟩
    · rw [if_neg e]
      have hne : ((i : Nat) : Int) ≠ id := by have := hid.1; omega
      rcases h6 with ⟨h6, h7⟩ | ⟨h6, h7⟩
      · exact .inl ⟨h6.imp (fun k => k) fun k => (hmem _).2 (.inr k), h7⟩
      · refine .inr ⟨fun k => h6 (k.imp (fun k => k) fun k => ?_), h7⟩
        rcases (hmem _).1 k with k | k
        · exact absurd k hne
        · exact k
  · show (q.ws.set id.toNat x).sum = q.load + (x - q.w id)
    rw [sum_set _ _ _ (by have := hr.2.2.1.1; have := hid.1; have := hid.2; omega), hr.2.2.1.2.2]; rfl
  · intro k hk'
    rcases List.mem_append.1 hk' with h | h
    · rw [h4] at h
      rcases List.mem_cons.1 ((insK_perm q.mn _ b.keys).mem_iff.1 h) with rfl | h
      · have e : lagN (atN q.mn (clampN lag (-1048576) mx)) q.mn = clampN lag (-1048576) mx := lag_at _ _ (by unfold I mx at *; omega)
        exact ⟨by show -mx ≤ lagN (atN q.mn (clampN lag (-1048576) mx)) q.mn; rw [e]; unfold mx at *; omega, by show lagN (atN q.mn (clampN lag (-1048576) mx)) q.mn ≤ mx; rw [e]; exact hl.2⟩
      · exact hr.2.2.2 k (List.mem_append.2 (.inl h))
    · exact hr.2.2.2 k (List.mem_append.2 (.inr h))

/-! ### Min is brought up -/
theorem up_shift {m : Int} {L : List K} (hL : ∀ k ∈ L, lagOk m k) : ∃ d, 0 ≤ d ∧ d ≤ mx ∧ (upM m L = m ∧ d = 0 ∨ (∃ x ∈ L, upM m L = x.1 ∧ d = lagN x.1 m)) ∧ ∀ k ∈ L, lagN k.1 (upM m L) = lagN k.1 m - d ∧ (d = 0 ∨ d ≤ lagN k.1 m) := by
  cases L with
  | nil => exact ⟨0, by omega, by unfold mx; omega, .inl ⟨rfl, rfl⟩, fun k hk => by cases hk⟩
  | cons a t =>
    have hx : fstK m a t ∈ a :: t := by
      rcases fstK_mem m a t with h | h
      · rw [h]; simp
      · simp [h]
    have hl : ∀ k ∈ a :: t, lagN (fstK m a t).1 m ≤ lagN k.1 m := fun k hk => by
      have h1 := fstK_least m a t
      have h2 : ltK m k (fstK m a t) = false := by
        rcases List.mem_cons.1 hk with rfl | hk
        · exact h1.1
        · exact h1.2 k hk
      rw [ltK_not] at h2
      omega
    have hu : upM m (a :: t) = lat m (fstK m a t).1 := by unfold upM firstK; rw [if_neg (by simp)]; rfl
    have hx2 := hL _ hx
    rw [hu]
    unfold lat
    rw [bef_lag]
    by_cases h0 : 0 < lagN (fstK m a t).1 m
    · rw [if_pos (by simpa using h0)]
      refine ⟨lagN (fstK m a t).1 m, by omega, hx2.2, .inr ⟨_, hx, rfl, rfl⟩, fun k hk => ⟨?_, .inr (hl k hk)⟩⟩
      have h1 := hL k hk
      have h2 := hl k hk
      unfold lagOk at h1 hx2
      unfold lagN M mx at *
      omega
    · rw [if_neg (by simpa using h0)]
      exact ⟨0, by omega, by unfold mx; omega, .inl ⟨rfl, rfl⟩, fun k hk => ⟨by omega, .inl rfl⟩⟩
theorem up_lag {m : Int} {L : List K} (hL : ∀ k ∈ L, lagOk m k) : ∀ k ∈ L, lagOk (upM m L) k := by
  obtain ⟨d, h0, h1, -, h2⟩ := up_shift hL
  intro k hk
  have h3 := h2 k hk
  have h4 := hL k hk
  unfold lagOk at *
  rw [h3.1]
  unfold mx at *
  omega
theorem up_lt {m : Int} {L : List K} (hL : ∀ k ∈ L, lagOk m k) {a b : K} (ha : a ∈ L) (hb : b ∈ L) : ltK (upM m L) a b = ltK m a b := by
  obtain ⟨d, -, -, -, h2⟩ := up_shift hL
  unfold ltK
  rw [(h2 a ha).1, (h2 b hb).1, decide_eq_decide]
  omega
theorem up_ok {m : Int} {L l : List K} (hL : ∀ k ∈ L, lagOk m k) (hl : ∀ k ∈ l, k ∈ L) (h : okK m l) : okK (upM m L) l := by
  unfold okK at *
  refine List.Pairwise.imp_of_mem ?_ h
  intro a b ha hb hab
  exact ⟨by rw [up_lt hL (hl a ha) (hl b hb)]; exact hab.1, hab.2⟩
theorem up_right {m : Int} {L : List K} {b : B} (hL : ∀ k ∈ L, lagOk m k) (hl : ∀ k ∈ b.keys, k ∈ L) (h : RightB m b) : RightB (upM m L) b := ⟨h.1, up_ok hL hl h.2.1, h.2.2⟩

/-! ### Put -/
theorem put_ex {q : Q} {b : B} (hw : Whole q.t b) (hr : RightA q b) (hU : ∀ k ∈ b.keys, Kin k) (hu : U q.v) (hc : q.cur ≠ -1) :
    ∃ t1 b1, Ins q.mn (q.v, q.cur) q.t t1 0 ∧ Whole t1 b1 ∧ RightA ({ q with t := t1 } : Q).stop b1 ∧ b1.keys = insK q.mn (q.v, q.cur) b.keys ∧ t1.ns.length = q.t.ns.length := by
  obtain ⟨p1, p2⟩ := rightA_parts hw hr
  obtain ⟨hcu, hcn⟩ := p1.resolve_left (fun h => hc h.1)
  have hi : (q.t.nd q.cur).inn = false := by
    cases e : (q.t.nd q.cur).inn with
    | false => rfl
    | true => exact absurd ((inn_iff hw hcu).1 e) hcn
  have hlen := hw.len
  have hk : Kin (q.v, q.cur) := ⟨hu, by have h1 := hcu.1; have h2 := hcu.2; unfold I; simp only; omega⟩
  obtain ⟨t', b', h1, h2, h3, h4, h5⟩ := ins_q hw hr.1 hk hU hcu hi
  have hmem : ∀ z, z ∈ b'.keys.map (·.2) ↔ (z = q.cur ∨ z ∈ b.keys.map (·.2)) := fun z => by
    rw [h4, ((insK_perm q.mn _ b.keys).map (·.2)).mem_iff]
    simp
  refine ⟨t', b', h1, h2, rightA_of h2 h3 (.inl ⟨rfl, rfl⟩) ?_ ?_ hr.2.2.1.2.2 ?_, h4, h5⟩
  · show q.ws.length = t'.ns.length
    rw [h5]; exact hr.2.2.1.1
  · intro i hi'
    have h6 := p2 i (by rw [← h5]; exact hi')
    show wK (-1) _ (q.ws.getD i 0) i
    rcases h6 with ⟨h6, h7⟩ | ⟨h6, h7⟩
    · exact .inl ⟨.inr ((hmem _).2 h6), h7⟩
    · refine .inr ⟨fun k => h6 ?_, h7⟩
      rcases k with k | k
      · omega
      · exact (hmem _).1 k
  · intro k hk'
    have : ({ q with t := t' } : Q).stop.run = [] := run_no rfl
    rw [this, List.append_nil] at hk'
    rw [h4] at hk'
    refine hr.2.2.2 k ?_
    rw [run_yes hc]
    rcases List.mem_cons.1 ((insK_perm q.mn _ b.keys).mem_iff.1 hk') with rfl | h
    · simp
    · simp [h]

/-! ### Taking the first one -/
theorem take_ex {q q1 : Q} {b : B} {x : K} {l : List K} (hw : Whole q1.t b) (hr : RightA q1 b) (hc : q1.cur = -1) (hx : b.keys = x :: l) (e1 : q1.mn = q.mn) (e2 : q1.ws = q.ws) (e3 : q1.load = q.load) :
    ∃ t' b', Del q1.mn x.2 q1.t t' 0 ∧ Whole t' b' ∧ b'.keys = l ∧ RightA (q.take t' x l) b' ∧ t'.ns.length = q1.t.ns.length := by
  obtain ⟨hxh, hxi⟩ := key_has hw (k := x) (by rw [hx]; simp)
  obtain ⟨t', b', h1, h2, h3, h4, h5, h6⟩ := del_q hw hr.1 hxh hxi
  have hix : idxK x.2 b.keys = 0 := idxK_at (by rw [hx]; simp) (by rw [hx]; simp) (fun j hj => absurd hj (Nat.not_lt_zero _))
  rw [hix, hx] at h4
  have hkl : b'.keys = l := by simpa using h4
  obtain ⟨p1, p2⟩ := rightA_parts hw hr
  have hlag : ∀ k ∈ l ++ [x], lagOk q.mn k := fun k hk => by
    rw [← e1]
    refine hr.2.2.2 k (List.mem_append.2 (.inl ?_))
    rw [hx]
    simpa [or_comm] using hk
  have hnd := okK_ids hr.1.2.1
  rw [hx] at hnd
  have hnx : x.2 ∉ l.map (·.2) := (List.nodup_cons.1 (by simpa using hnd)).1
  have hx1 : x.2 ≠ -1 := by have := hxh.1; omega
  refine ⟨t', b', h1, h2, hkl, rightA_of h2 ?_ (.inr ⟨⟨hxh.1, by have := hxh.2; show x.2 < t'.ns.length; omega⟩, by rw [hkl]; exact hnx⟩) ?_ ?_ ?_ ?_, h6⟩
  · show RightB (upM q.mn (l ++ [x])) b'
    refine up_right hlag (fun k hk => ?_) (by rw [← e1]; exact h3)
    rw [hkl] at hk
    simp [hk]
  · show q.ws.length = t'.ns.length
    rw [h6, ← e2]; exact hr.2.2.1.1
  · intro i hi'
    have h7 := p2 i (by rw [← h6]; exact hi')
    rw [hc, hx] at h7
    show wK x.2 _ (q.ws.getD i 0) i
    rw [hkl, ← e2]
    rcases h7 with ⟨h7, h8⟩ | ⟨h7, h8⟩
    · refine .inl ⟨?_, h8⟩
      rcases h7 with h7 | h7
      · omega
      · simpa using h7
    · exact .inr ⟨fun k => h7 (.inr (by simpa using k)), h8⟩
  · show q.ws.sum = q.load
    rw [← e2, ← e3]; exact hr.2.2.1.2.2
  · intro k hk
    have hrun : (q.take t' x l).run = [x] := run_yes (q := q.take t' x l) hx1
    rw [hrun, hkl] at hk
    exact up_lag hlag k hk
theorem pick_ex {q : Q} {b : B} (hw : Whole q.t b) (hr : RightA q b) (hU : ∀ k ∈ b.keys, Kin k) (hu : U q.v) (hne : b.keys ++ q.run ≠ []) :
    ∃ (x : K) (l : List K) (t' : T) (b' : B), QPick q (q.take t' x l) x.2 0 ∧ Whole t' b' ∧ b'.keys = l ∧ RightA (q.take t' x l) b' ∧ t'.ns.length = q.t.ns.length ∧ x :: l = (if q.cur = -1 then b.keys else insK q.mn (q.v, q.cur) b.keys) := by
  by_cases hc : q.cur = -1
  · obtain ⟨x, l, hx⟩ : ∃ x l, b.keys = x :: l := by
      rw [run_no hc, List.append_nil] at hne
      cases h : b.keys with
      | nil => exact absurd h hne
      | cons x l => exact ⟨x, l, rfl⟩
    obtain ⟨t', b', h1, h2, h3, h4, h5⟩ := take_ex (q := q) hw hr hc hx rfl rfl rfl
    refine ⟨x, l, t', b', ?_, h2, h3, h4, h5, by rw [if_pos hc, hx]⟩
    have := QPick.one ⟨b, hw, hr⟩ hc b hw x l hx t' h1 b' h2
    rw [h3] at this; exact this
  · obtain ⟨t1, b1, k1, k2, k3, k4, k5⟩ := put_ex hw hr hU hu hc
    obtain ⟨x, l, hx⟩ : ∃ x l, b1.keys = x :: l := by
      cases h : b1.keys with
      | nil => rw [k4] at h; have := insK_length q.mn (q.v, q.cur) b.keys; rw [h] at this; simp at this
      | cons x l => exact ⟨x, l, rfl⟩
    obtain ⟨t', b', h1, h2, h3, h4, h5⟩ := take_ex (q := q) (q1 := ({ q with t := t1 } : Q).stop) k2 k3 rfl hx rfl rfl rfl
    refine ⟨x, l, t', b', ?_, h2, h3, h4, h5.trans k5, by rw [if_neg hc, ← k4, hx]⟩
    have := QPick.two ⟨b, hw, hr⟩ hc t1 k1 b1 k2 x l hx t' h1 b' h2
    rw [h3] at this; exact this

/-! ### Tick -/
theorem tick_ex {q : Q} {b : B} (hw : Whole q.t b) (hr : RightA q b) {s : Int} (hs : I s) (hc : q.cur ≠ -1) : RightA (q.tick b.keys s) b := by
  obtain ⟨p1, p2⟩ := rightA_parts hw hr
  have hrun : (q.tick b.keys s).run = [(stepN q.v q.mn s, q.cur)] := run_yes (q := q.tick b.keys s) hc
  have hlv := hr.2.2.2 (q.v, q.cur) (by rw [run_yes hc]; simp)
  have hlag : ∀ k ∈ b.keys ++ [(stepN q.v q.mn s, q.cur)], lagOk q.mn k := fun k hk => by
    rcases List.mem_append.1 hk with h | h
    · exact hr.2.2.2 k (List.mem_append.2 (.inl h))
    · obtain rfl := List.mem_singleton.1 h
      unfold lagOk at *
      have h1 := lag_step_ge q.v q.mn s hs
      have h2 := lag_step_le q.v q.mn s hs
      refine ⟨?_, ?_⟩
      · show -mx ≤ lagN (stepN q.v q.mn s) q.mn
        have := hlv.1; simp only at this; omega
      · show lagN (stepN q.v q.mn s) q.mn ≤ mx
        rcases h2 with h2 | h2
        · exact h2
        · rw [h2]; exact hlv.2
  refine rightA_of hw (up_right hlag (fun k hk => List.mem_append.2 (.inl hk)) hr.1) (.inr (p1.resolve_left (fun h => hc h.1))) hr.2.2.1.1 p2 hr.2.2.1.2.2 ?_
  intro k hk
  rw [hrun] at hk
  exact up_lag hlag k hk
end Go.Proofs.YtpmknpdnhfnfcaaGreatDoor
