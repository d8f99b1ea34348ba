/-
  Plain facts: what Insert and Delete tell of a right tree, beside keys put and dropped.
-/
import Derived.Test.YtgjacmkedgbneaaTwX
namespace Go.Proofs.Ytgjacmkedgbneaa
open Go.RowKit Go.Sort Ky Wd Tn Tr

theorem insK_split {m : Int} {k : K} : {l r : List K} → (∀ x ∈ l, ltK m k x = false) → (∀ x ∈ r, ltK m k x = true) → Ky.insK m k (l ++ r) = l ++ k :: r
  | [], [], _, _ => rfl
  | [], x :: r, _, hr => by show (if ltK m k x = true then _ else _) = _; rw [if_pos (hr x (by simp))]; rfl
  | x :: l, r, hl, hr => by
    show (if ltK m k x = true then k :: x :: (l ++ r) else x :: Ky.insK m k (l ++ r)) = _
    rw [hl x (by simp), if_neg (by decide), insK_split (fun y hy => hl y (by simp [hy])) hr]
    rfl
theorem mem_ids {t : T} {b : B} (hw : Whole t b) {z : Int} (hz : t.has z) : (t.nd z).inn = true ↔ idxK z b.keys < b.keys.length := by
  rw [idxK_mem, ← ids_keys]
  constructor
  · intro hi
    refine Classical.byContradiction fun hn => ?_
    have := hw.rest z hz hn
    rw [this] at hi
    cases hi
  · intro h
    exact (hw.sub.has z h).2
/-- What Delete tells, beside Drop. -/
theorem del_any {m : Int} {t : T} {b : B} {z : Int} (hw : Whole t b) (hr : RightB m b) (hz : t.has z) :
    ∃ td ed, Del m z t td ed ∧ ((ed = 0 ∧ dropE m b.keys z = 0 ∧ ∃ bd, Whole td bd ∧ RightB m bd ∧ dropL m b.keys z = bd.keys) ∨ (ed = 8 ∧ dropE m b.keys z = 8)) := by
  cases hi : (t.nd z).inn with
  | false =>
    have hn : ¬ idxK z b.keys < b.keys.length := fun h => by have := (mem_ids hw hz).2 h; rw [hi] at this; cases this
    exact ⟨_, _, .idle ⟨b, hw, hr⟩ hz hi, .inr ⟨rfl, (drop_none hr.2.1 hn).1⟩⟩
  | true =>
    have hn := (mem_ids hw hz).1 hi
    obtain ⟨td, bd, h1, h2, h3, l, v, r, k1, k2⟩ := del_all hw hr hz hi
    obtain ⟨e1, e2⟩ := drop_has hr.2.1 hn
    refine ⟨td, 0, .done ⟨b, hw, hr⟩ hz hi td h1, .inl ⟨rfl, e1, bd, h2, h3, ?_⟩⟩
    have hix : idxK z b.keys = l.length := by
      refine idxK_at (by rw [k1]; simp) (by rw [k1]; simp [List.getD]) (fun j hj e => ?_)
      have hok := okK_at hr.2.1 (i := j) (j := l.length) hj (by rw [k1]; simp)
      refine hok.2 (e.trans ?_)
      rw [k1]
      simp [List.getD]
    rw [e2, hix, k1, k2]
    simp
/-- What Insert tells, beside Put. -/
theorem ins_any {m : Int} {t : T} {b : B} {k : K} (hw : Whole t b) (hr : RightB m b) (hkin : Kin k) (hU : ∀ x ∈ b.keys, Kin x) (hk : t.has k.2) :
    ∃ ti ei, Ins m k t ti ei ∧ ((ei = 0 ∧ putE m b.keys k = 0 ∧ ∃ bi, Whole ti bi ∧ RightB m bi ∧ putL m b.keys k = bi.keys) ∨ (ei = 1 ∧ putE m b.keys k = 1)) := by
  cases hi : (t.nd k.2).inn with
  | true => exact ⟨_, _, .arg ⟨b, hw, hr⟩ (.inr hi), .inr ⟨rfl, (put_has hr.2.1 ((mem_ids hw hk).1 hi)).1⟩⟩
  | false =>
    have hn : ¬ idxK k.2 b.keys < b.keys.length := fun h => by have := (mem_ids hw hk).2 h; rw [hi] at this; cases this
    obtain ⟨n, n2, u, s, ti, bi, h1, h2, h3, h4, l, r, k1, k2, k3, k4⟩ := ins_all hw hr hkin hU hk hi
    obtain ⟨e1, e2⟩ := put_new hr.2.1 hn
    refine ⟨ti, 0, .done ⟨b, hw, hr⟩ hk hi n n2 u s ti h1 h2, .inl ⟨rfl, e1, bi, h3, h4, ?_⟩⟩
    rw [e2, k1, k2]
    exact insK_split k3 k4
theorem fill_len {n : Nat} {t t' : T} {u : Int} {s : Bool} (h : Fill n t u s t') : t'.ns.length = t.ns.length := by
  have far : ∀ {t t' : T} {p : Int} {s : Bool}, SetFar t p s t' → t'.ns.length = t.ns.length := fun ⟨v, f, _, _, _, _, _, _, e⟩ => by rw [e, turn_len, paint_len, paint_len, paint_len]
  induction h with
  | root n t s h0 => split <;> simp [paint_len]
  | redp n t u y s hu ey hy ry => exact paint_len _ _ _
  | turn n t t' u v s hu hk rk ev hv rv ht r2 r1 rest ih => rw [ih, turn_len, paint_len, paint_len]
  | settle n t t' u v s hu hk rk ev hv rv ol or rr hs =>
    obtain ⟨_, _, _, _, _, _, _, h | ⟨_, c, _, _, _, h⟩⟩ := hs
    · exact far h.2
    · rw [far h, turn_len, paint_len, paint_len]
  | up n t t' u v s hu hk rk ev hv rv ol or rr hp rest ih => rw [ih, paint_len]
theorem remove_len {t t' : T} {z : Int} (h : Remove t z t') : t'.ns.length = t.ns.length := by
  obtain ⟨_, _, t1, g, u, s, ho, ⟨_, rfl⟩ | ⟨_, n, hf⟩⟩ := h
  · rw [put_len, ho.len]
  · rw [fill_len hf, put_len, ho.len]
theorem Del.len {m z : Int} {t t' : T} (h : Del m z t t' 0) : t'.ns.length = t.ns.length := by
  cases h with
  | done _ _ _ _ hr => exact remove_len hr
theorem Ins.len {m : Int} {k : K} {t t' : T} (h : Ins m k t t' 0) : t'.ns.length = t.ns.length := by
  cases h with
  | done _ _ _ n n2 u s _ hd hm => rw [hm.len, hang_len, put_len]
end Go.Proofs.Ytgjacmkedgbneaa
