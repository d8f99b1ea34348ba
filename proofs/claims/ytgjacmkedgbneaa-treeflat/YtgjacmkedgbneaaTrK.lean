/-
  Plain facts on trees: what Insert tells of a right tree is right, with one key more.
-/
import Derived.Test.YtgjacmkedgbneaaTrJ
namespace Go.Proofs.Ytgjacmkedgbneaa
namespace Tr
open Wd Tn Ky

def sd : List F → Bool
  | [] => false
  | f :: _ => f.s
def keysL : List F → List K
  | [] => []
  | f :: fs => keysL fs ++ if f.s then f.o.keys ++ [(f.v, f.i)] else []
def keysR : List F → List K
  | [] => []
  | f :: fs => (if f.s then [] else (f.v, f.i) :: f.o.keys) ++ keysR fs
theorem keys_all (fs : List F) : ∀ b : B, (plug b fs).keys = keysL fs ++ b.keys ++ keysR fs := by
  induction fs with
  | nil => intro b; simp [plug, keysL, keysR]
  | cons f fs ih =>
    intro b
    show (plug (f.put b) fs).keys = _
    rw [ih, F.put, keys_bn]
    cases hs : f.s <;> simp [keysL, keysR, hs]
theorem SubC.inn {t : T} : {fs : List F} → {x : Int} → SubC t fs x → ∀ i ∈ idsC fs, (t.nd i).inn = true
  | [], _, _, i, hi => by cases hi
  | f :: fs, x, h, i, hi => by
    simp only [idsC, List.mem_cons, List.mem_append] at hi
    rcases hi with rfl | hi | hi
    · rw [h.2.1]; rfl
    · exact (h.2.2.1.has i hi).2
    · exact SubC.inn h.2.2.2 i hi
/-- A node comes to a place where nothing stood. -/
theorem Z.ins {t : T} {fs : List F} {id : Int} (v : Int) (h : Z t .L fs) (hid : t.has id) (hn : id ∉ idsC fs) : Z ((t.put id (nNew v)).hang (upOf fs) (sd fs) id) (bn false id true v .L .L) fs := by
  have l0 : (t.put id (nNew v)).ns.length = t.ns.length := put_len _ _ _
  have l1 : ((t.put id (nNew v)).hang (upOf fs) (sd fs) id).ns.length = t.ns.length := (hang_len _ _ _ _).trans l0
  have hu := h.ctx.ok
  have hne : id ≠ upOf fs := fun e => (upOf_mem fs).elim (fun w => has_ne hid (e.trans w)) (fun w => hn (by rw [e]; exact w))
  have nd1 : ∀ {j : Int}, 0 ≤ j → ((t.put id (nNew v)).hang (upOf fs) (sd fs) id).nd j = _ := fun hj => nd_hang ((ok_len l0).2 hu) (.inr ((has_len l0).2 hid)) (sd fs) hj
  have e1 : ((t.put id (nNew v)).hang (upOf fs) (sd fs) id).nd id = nodeOf false true v (-1) (-1) (upOf fs) := by
    rw [nd1 hid.1, if_pos rfl, if_neg hne, nd_put_same hid]; rfl
  have e2 : ∀ j, 0 ≤ j → j ≠ id → j ≠ upOf fs → ((t.put id (nNew v)).hang (upOf fs) (sd fs) id).nd j = t.nd j := fun j hj q1 q2 => by
    rw [nd1 hj, if_neg q1, if_neg q2, nd_put hid _ hj, if_neg q1]
  have e3 : upOf fs ≠ -1 → ((t.put id (nNew v)).hang (upOf fs) (sd fs) id).nd (upOf fs) = (t.nd (upOf fs)).setKid (sd fs) id := fun q => by
    have h0 := (hu.resolve_left q).1
    rw [nd1 h0, if_neg (fun e => hne e.symm), if_pos rfl, nd_put hid _ h0, if_neg (fun e => hne e.symm)]
  have e4 : ((t.put id (nNew v)).hang (upOf fs) (sd fs) id).root = if upOf fs = -1 then id else t.root := by rw [root_hang]; rfl
  generalize (t.put id (nNew v)).hang (upOf fs) (sd fs) id = t' at l1 e1 e2 e3 e4
  have hd : (idsC fs).Nodup := by simpa [B.ids] using h.nod
  refine ⟨by rw [l1]; exact h.len, (Sub_bn ..).2 ⟨(has_len l1).2 hid, e1, trivial, trivial⟩, SubC.put l1 hd (fun j hj q => e2 j (h.ctx.has j hj).1 (fun e => hn (by rw [← e]; exact hj)) q) e4 (fun f gs e => ?_) h.ctx, ?_, fun j hj m1 m2 => ?_⟩
  · subst e
    exact e3 (has_ne h.ctx.1)
  · show ([] ++ id :: ([] : List Int) ++ idsC fs).Nodup
    exact List.nodup_cons.2 ⟨hn, hd⟩
  · have hj' := (has_len l1).1 hj
    have q1 : j ≠ id := fun e => m1 (by rw [e]; simp [bn, B.ids])
    rw [e2 j hj'.1 q1 (fun e => (upOf_mem fs).elim (fun w => has_ne hj' (e.trans w)) (fun w => m2 (by rw [e]; exact w)))]
    exact h.rest j hj' (by simp [B.ids]) m2

theorem down_all {m : Int} {k : K} {t : T} : (b : B) → ∀ {fs : List F} {n : Nat}, Z t b fs → okK m b.keys → (∀ x ∈ keysL fs, ltK m k x = false) → (∀ x ∈ keysR fs, ltK m k x = true) →
    Rb b n → RbC fs n → (b.isRed = true → topRed fs = false ∧ fs ≠ []) →
    ∃ (d : Nat) (fs' : List F), Down m k t d b.rid (upOf fs) (sd fs) (upOf fs') (sd fs') ∧ Z t .L fs' ∧ plug .L fs' = plug b fs ∧ RbC fs' 0 ∧ (∀ x ∈ keysL fs', ltK m k x = false) ∧ (∀ x ∈ keysR fs', ltK m k x = true)
  | .L, fs, n, h, _, hL, hR, hb, hc, _ => by
    have : n = 0 := hb
    subst this
    exact ⟨0, fs, .stop 0 _ _ h.ctx.ok, h, rfl, hc, hL, hR⟩
  | .N i c v kk, fs, n, h, hok, hL, hR, hb, hc, hcr => by
    obtain ⟨s, hs⟩ : ∃ s, (!(ltK m k (t.key i))) = s := ⟨_, rfl⟩
    have he := bn_eta s i c v kk
    have hkey : t.key i = (v, i) := by unfold T.key; rw [h.sub.2.1]
    have hi : t.has i := h.sub.1
    have hz : Z t (kk s) (⟨s, i, c, v, kk (!s)⟩ :: fs) := by
      rw [Z_step]
      show Z t (bn s i c v (kk s) (kk (!s))) fs
      rw [← he]; exact h
    have hkid : t.kid i s = (kk s).rid := (kid_frame hz).1
    rw [he] at hb
    have hrb : ∃ n', Rb (kk s) n' ∧ RbC (⟨s, i, c, v, kk (!s)⟩ :: fs) n' ∧ ((kk s).isRed = true → topRed (⟨s, i, c, v, kk (!s)⟩ :: fs) = false ∧ (⟨s, i, c, v, kk (!s)⟩ :: fs) ≠ []) := by
      cases c with
      | true =>
        obtain ⟨q1, q2, q3, q4⟩ := (Rb_red ..).1 hb
        exact ⟨n, q3, ⟨q4, fun _ => ⟨q2, (hcr rfl).1, (hcr rfl).2⟩, hc⟩, fun e => by rw [q1] at e; cases e⟩
      | false =>
        obtain ⟨n', rfl, q3, q4⟩ := (Rb_black ..).1 hb
        exact ⟨n', q3, ⟨q4, (fun e => by cases e), hc⟩, fun _ => ⟨rfl, by simp⟩⟩
    obtain ⟨n', r1, r2, r3⟩ := hrb
    have hok2 : okK m ((kk false).keys ++ (v, i) :: (kk true).keys) := hok
    unfold okK at hok2
    rw [List.pairwise_append] at hok2
    obtain ⟨o1, o2, o3⟩ := hok2
    obtain ⟨o4, o5⟩ := List.pairwise_cons.1 o2
    cases hsv : s with
    | false =>
      subst hsv
      have hlt : ltK m k (v, i) = true := by rw [← hkey]; simpa using hs
      obtain ⟨d, fs', a1, a2, a3, a4, a5, a6⟩ := down_all (kk false) hz o1 (fun x hx => hL x (by simpa [keysL] using hx)) (fun x hx => by
        simp only [keysR, Bool.false_eq_true, if_false, List.cons_append, List.mem_cons, List.mem_append] at hx
        rcases hx with rfl | hx | hx
        · exact hlt
        · exact lt_trans hlt (o4 x hx).1
        · exact hR x hx) r1 r2 r3
      refine ⟨d + 1, fs', .step d i (upOf fs) (upOf fs') (sd fs) (sd fs') hi ?_, a2, ?_, a4, a5, a6⟩
      · rw [hs, hkid]; exact a1
      · rw [a3]; show plug (bn false i c v (kk false) (kk (!false))) fs = _; rw [← he]
    | true =>
      subst hsv
      have hlt : ltK m k (v, i) = false := by rw [← hkey]; simpa using hs
      obtain ⟨d, fs', a1, a2, a3, a4, a5, a6⟩ := down_all (kk true) hz o5 (fun x hx => by
        simp only [keysL, if_true, List.mem_append, List.mem_cons, List.not_mem_nil, or_false] at hx
        rcases hx with hx | hx | rfl
        · exact hL x hx
        · cases hc' : ltK m k x with
          | false => rfl
          | true => rw [lt_trans hc' (o3 x hx (v, i) (by simp)).1] at hlt; cases hlt
        · exact hlt) (fun x hx => hR x (by simpa [keysR] using hx)) r1 r2 r3
      refine ⟨d + 1, fs', .step d i (upOf fs) (upOf fs') (sd fs) (sd fs') hi ?_, a2, ?_, a4, a5, a6⟩
      · rw [hs, hkid]; exact a1
      · rw [a3]; show plug (bn true i c v (kk true) (kk (!true))) fs = _; rw [← he]

theorem okK_ins {m : Int} {k : K} {l r : List K} (hok : okK m (l ++ r)) (hkin : Kin k) (hk : ∀ x ∈ l ++ r, Kin x ∧ x.2 ≠ k.2) (hl : ∀ x ∈ l, ltK m k x = false) (hr : ∀ x ∈ r, ltK m k x = true) : okK m (l ++ k :: r) := by
  unfold okK at *
  rw [List.pairwise_append] at hok ⊢
  obtain ⟨o1, o2, o3⟩ := hok
  refine ⟨o1, List.pairwise_cons.2 ⟨fun x hx => ⟨hr x hx, fun e => (hk x (by simp [hx])).2 e.symm⟩, o2⟩, fun a ha b hb => ?_⟩
  rcases List.mem_cons.1 hb with rfl | hb
  · refine ⟨?_, (hk a (by simp [ha])).2⟩
    cases hc : ltK m a b with
    | true => rfl
    | false => exact absurd (congrArg Prod.snd (lt_same hkin (hk a (by simp [ha])).1 (hl a ha) hc)).symm (hk a (by simp [ha])).2
  · exact o3 a ha b hb
theorem ids_keys : (b : B) → b.ids = b.keys.map (·.2)
  | .L => rfl
  | .N i c v k => by simp [B.ids, B.keys, ids_keys (k false), ids_keys (k true)]
/-- A right tree, and one key more. -/
theorem ins_all {m : Int} {k : K} {t : T} {b : B} (hw : Whole t b) (hr : RightB m b) (hkin : Kin k) (hU : ∀ x ∈ b.keys, Kin x) (hk : t.has k.2) (hi : (t.nd k.2).inn = false) :
    ∃ (n n2 : Nat) (u : Int) (s : Bool) (t' : T) (b' : B), Down m k t n t.root (-1) false u s ∧ Mend n2 ((t.put k.2 (nNew k.1)).hang u s k.2) k.2 t' ∧ Whole t' b' ∧ RightB m b' ∧
      ∃ l r, b.keys = l ++ r ∧ b'.keys = l ++ k :: r ∧ (∀ x ∈ l, ltK m k x = false) ∧ (∀ x ∈ r, ltK m k x = true) := by
  obtain ⟨r1, r2, r3⟩ := hr
  obtain ⟨N, hN⟩ := (plain_iff b).1.1 r3
  obtain ⟨d, fs, a1, a2, a3, a4, a5, a6⟩ := down_all (m := m) (k := k) b ((Z_whole t b).2 hw) r2 (fun x hx => by cases hx) (fun x hx => by cases hx) hN trivial (fun e => by rw [r1] at e; cases e)
  have hnid : k.2 ∉ idsC fs := fun e => by have := a2.ctx.inn k.2 e; rw [hi] at this; cases this
  have z := a2.ins k.1 hk hnid
  have hrb0 : Rb (bn false k.2 true k.1 .L .L) 0 := (Rb_red ..).2 ⟨rfl, rfl, rfl, rfl⟩
  obtain ⟨n2, t', b', m1, m2, m3, ⟨N', m4⟩, m5⟩ := mend_all fs.length (Nat.le_refl _) z rfl hrb0 a4
  have hkeys : b.keys = keysL fs ++ keysR fs := by
    have h1 := keys_all fs .L
    rw [a3] at h1
    simpa [plug, B.keys] using h1
  have hkeys' : b'.keys = keysL fs ++ k :: keysR fs := by
    rw [m5, keys_all]
    simp [keys_bn, B.keys]
  have hnk : ∀ x ∈ b.keys, x.2 ≠ k.2 := fun x hx e => by
    have hx2 : x.2 ∈ b.ids := by rw [ids_keys]; exact List.mem_map.2 ⟨x, hx, rfl⟩
    have := (hw.sub.has x.2 hx2).2
    rw [e, hi] at this
    cases this
  refine ⟨d, n2, upOf fs, sd fs, t', b', by rw [hw.root]; exact a1, m1, m2, ⟨m3, ?_, (plain_iff b').1.2 ⟨N', m4⟩⟩, keysL fs, keysR fs, hkeys, hkeys', a5, a6⟩
  rw [hkeys']
  exact okK_ins (by rw [← hkeys]; exact r2) hkin (fun x hx => by rw [← hkeys] at hx; exact ⟨hU x hx, hnk x hx⟩) a5 a6
end Tr
end Go.Proofs.Ytgjacmkedgbneaa
