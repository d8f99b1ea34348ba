/-
  Contract of queue's Enter.
  Contract of queue's New.
  Contract of queue's Leave, where it tells an error.
-/
import Derived.Test.YtpmknpdnhfnfcaaGreatDoorQyJ
import Derived.Test.YtpmknpdnhfnfcaaGreatDoorQyE
namespace Go.Proofs.YtpmknpdnhfnfcaaGreatDoor
open Go.RowKit Go.Sort Ky Wd Tn Tr Wg Qu

set_option maxRecDepth 100000 in
/-- why of four reasons just laid. -/
theorem why4 {X : World} {f0 f1 f2 f3 : Value} {E : Int} (k : Nat) (hk : k ≤ 4) (hbef : ∀ i, i < k → ∃ e, Rz X ([f0, f1, f2, f3].getD i .nilFunc) e false) (hat : (k < 4 ∧ Rz X ([f0, f1, f2, f3].getD k .nilFunc) E true) ∨ (k = 4 ∧ E = 0)) :
    Calls Tryz.prog 40 #[.slice (some ⟨X.heap.size, 0, none⟩) 4 4] (X.alloc (.cells #[f0, f1, f2, f3] 71)) fun e w' => e = .returned (.int .i64 E) ∧ Below X.heap.size X w' := by
  have hb := (Gr.alloc X (.cells #[f0, f1, f2, f3] 71)).below
  have hh : (X.alloc (.cells #[f0, f1, f2, f3] 71)).heap[X.heap.size]? = some (.cells #[f0, f1, f2, f3] 71) := heap_alloc_new X _
  refine (why_any (W := X.alloc (.cells #[f0, f1, f2, f3] 71)) (bs := X.heap.size) (m := 4) (fs := fun i => [f0, f1, f2, f3].getD i .nilFunc) ⟨by omega, by omega⟩ (by simp) (fun i hi => ?_) hk (fun i hi => (hbef i hi).imp fun e h => h.below hb) (hat.imp (fun h => ⟨h.1, h.2.below hb⟩) id)).mono fun e w' h => ⟨h.1, hb.trans (h.2.mono hb.size)⟩
  simp only [World.cell?, hh]
  rcases (show i = 0 ∨ i = 1 ∨ i = 2 ∨ i = 3 by omega) with rfl | rfl | rfl | rfl <;> rfl
set_option maxRecDepth 100000 in
theorem why3 {X : World} {f0 f1 f2 : Value} {E : Int} (k : Nat) (hk : k ≤ 3) (hbef : ∀ i, i < k → ∃ e, Rz X ([f0, f1, f2].getD i .nilFunc) e false) (hat : (k < 3 ∧ Rz X ([f0, f1, f2].getD k .nilFunc) E true) ∨ (k = 3 ∧ E = 0)) :
    Calls Tryz.prog 40 #[.slice (some ⟨X.heap.size, 0, none⟩) 3 3] (X.alloc (.cells #[f0, f1, f2] 71)) fun e w' => e = .returned (.int .i64 E) ∧ Below X.heap.size X w' := by
  have hb := (Gr.alloc X (.cells #[f0, f1, f2] 71)).below
  have hh : (X.alloc (.cells #[f0, f1, f2] 71)).heap[X.heap.size]? = some (.cells #[f0, f1, f2] 71) := heap_alloc_new X _
  refine (why_any (W := X.alloc (.cells #[f0, f1, f2] 71)) (bs := X.heap.size) (m := 3) (fs := fun i => [f0, f1, f2].getD i .nilFunc) ⟨by omega, by omega⟩ (by simp) (fun i hi => ?_) hk (fun i hi => (hbef i hi).imp fun e h => h.below hb) (hat.imp (fun h => ⟨h.1, h.2.below hb⟩) id)).mono fun e w' h => ⟨h.1, hb.trans (h.2.mono hb.size)⟩
  simp only [World.cell?, hh]
  rcases (show i = 0 ∨ i = 1 ∨ i = 2 by omega) with rfl | rfl | rfl <;> rfl
set_option maxRecDepth 100000 in
theorem why2 {X : World} {f0 f1 : Value} {E : Int} (k : Nat) (hk : k ≤ 2) (hbef : ∀ i, i < k → ∃ e, Rz X ([f0, f1].getD i .nilFunc) e false) (hat : (k < 2 ∧ Rz X ([f0, f1].getD k .nilFunc) E true) ∨ (k = 2 ∧ E = 0)) :
    Calls Tryz.prog 40 #[.slice (some ⟨X.heap.size, 0, none⟩) 2 2] (X.alloc (.cells #[f0, f1] 71)) fun e w' => e = .returned (.int .i64 E) ∧ Below X.heap.size X w' := by
  have hb := (Gr.alloc X (.cells #[f0, f1] 71)).below
  have hh : (X.alloc (.cells #[f0, f1] 71)).heap[X.heap.size]? = some (.cells #[f0, f1] 71) := heap_alloc_new X _
  refine (why_any (W := X.alloc (.cells #[f0, f1] 71)) (bs := X.heap.size) (m := 2) (fs := fun i => [f0, f1].getD i .nilFunc) ⟨by omega, by omega⟩ (by simp) (fun i hi => ?_) hk (fun i hi => (hbef i hi).imp fun e h => h.below hb) (hat.imp (fun h => ⟨h.1, h.2.below hb⟩) id)).mono fun e w' h => ⟨h.1, hb.trans (h.2.mono hb.size)⟩
  simp only [World.cell?, hh]
  rcases (show i = 0 ∨ i = 1 by omega) with rfl | rfl <;> rfl

/-- The value v is the queue q. -/
def Qr (w : World) (v : Value) (q : Q) : Prop := ∃ a2 c2 a3 c3, v = qv q (.slice a2 q.t.ns.length c2) (.slice a3 q.ws.length c3) ∧ Qd w q (.slice a2 q.t.ns.length c2) (.slice a3 q.ws.length c3)
theorem Qr.below {w w' : World} {v : Value} {q : Q} (h : Qr w v q) (hb : Below w.heap.size w w') : Qr w' v q := by
  obtain ⟨a2, c2, a3, c3, e, hd⟩ := h
  exact ⟨a2, c2, a3, c3, e, hd.below hb⟩
theorem Qd.zero (w : World) : Qd w qE (.slice none 0 0) (.slice none 0 0) := ⟨nil_nds w, ⟨none, 0, rfl, Nat.zero_le _, (by intro z hz; cases hz), fun h => absurd rfl h⟩, ⟨by decide, by decide⟩, ⟨by decide, by decide⟩, ⟨by decide, by decide⟩⟩
theorem Qr.zero (w : World) : Qr w (qv qE (.slice none 0 0) (.slice none 0 0)) qE := ⟨none, 0, none, 0, rfl, Qd.zero w⟩

theorem noFirst {X : World} {l : List Value} : ∀ i, i < 0 → ∃ e, Rz X (l.getD i .nilFunc) e false := fun _ hi => absurd hi (Nat.not_lt_zero _)
theorem one1 {X : World} {l : List Value} {e0 : Int} (h0 : Rz X (l.getD 0 .nilFunc) e0 false) : ∀ i, i < 1 → ∃ e, Rz X (l.getD i .nilFunc) e false := fun i hi => by
  obtain rfl : i = 0 := by omega
  exact ⟨_, h0⟩
theorem two2 {X : World} {l : List Value} {e0 e1 : Int} (h0 : Rz X (l.getD 0 .nilFunc) e0 false) (h1 : Rz X (l.getD 1 .nilFunc) e1 false) : ∀ i, i < 2 → ∃ e, Rz X (l.getD i .nilFunc) e false := fun i hi => by
  rcases (show i = 0 ∨ i = 1 by omega) with rfl | rfl
  · exact ⟨_, h0⟩
  · exact ⟨_, h1⟩
theorem three3 {X : World} {l : List Value} {e0 e1 e2 : Int} (h0 : Rz X (l.getD 0 .nilFunc) e0 false) (h1 : Rz X (l.getD 1 .nilFunc) e1 false) (h2 : Rz X (l.getD 2 .nilFunc) e2 false) : ∀ i, i < 3 → ∃ e, Rz X (l.getD i .nilFunc) e false := fun i hi => by
  rcases (show i = 0 ∨ i = 1 ∨ i = 2 by omega) with rfl | rfl | rfl
  · exact ⟨_, h0⟩
  · exact ⟨_, h1⟩
  · exact ⟨_, h2⟩
theorem four4 {X : World} {l : List Value} {e0 e1 e2 e3 : Int} (h0 : Rz X (l.getD 0 .nilFunc) e0 false) (h1 : Rz X (l.getD 1 .nilFunc) e1 false) (h2 : Rz X (l.getD 2 .nilFunc) e2 false) (h3 : Rz X (l.getD 3 .nilFunc) e3 false) : ∀ i, i < 4 → ∃ e, Rz X (l.getD i .nilFunc) e false := fun i hi => by
  rcases (show i = 0 ∨ i = 1 ∨ i = 2 ∨ i = 3 by omega) with rfl | rfl | rfl | rfl
  · exact ⟨_, h0⟩
  · exact ⟨_, h1⟩
  · exact ⟨_, h2⟩
  · exact ⟨_, h3⟩

set_option maxRecDepth 100000 in
/-- Why of Enter's four reasons. -/
theorem whyEnter {X : World} {q q' : Q} {id x lag e : Int} (hE : QEnter q id x lag q' e) {r : Bool} (hr : r = true ↔ RightQ q) {f0 f1 f2 f3 : Value}
    (h0 : Rz X f0 4 (!r)) (h1 : Rz X f1 1 (!decide (q.t.has id))) (h2 : Rz X f2 1 (!decide (wOkN x))) (h3 : q.t.has id → Rz X f3 9 (q.here id)) :
    Calls Tryz.prog 40 #[.slice (some ⟨X.heap.size, 0, none⟩) 4 4] (X.alloc (.cells #[f0, f1, f2, f3] 71)) fun en w' => en = .returned (.int .i64 e) ∧ Below X.heap.size X w' := by
  cases hE with
  | order h =>
    obtain rfl : r = false := by cases r with | false => rfl | true => exact absurd (hr.1 rfl) h
    exact why4 0 (by omega) noFirst (.inl ⟨by omega, h0⟩)
  | arg h ha =>
    obtain rfl : r = true := hr.2 h
    by_cases hi : q.t.has id
    · rw [decide_eq_true hi] at h1
      rw [decide_eq_false (ha.resolve_left (fun k => k hi))] at h2
      exact why4 2 (by omega) (two2 h0 h1) (.inl ⟨by omega, h2⟩)
    · rw [decide_eq_false hi] at h1
      exact why4 1 (by omega) (one1 h0) (.inl ⟨by omega, h1⟩)
  | busy h ha hw hh =>
    obtain rfl : r = true := hr.2 h
    rw [decide_eq_true ha] at h1
    rw [decide_eq_true hw] at h2
    have h3 := h3 ha
    rw [hh] at h3
    exact why4 3 (by omega) (three3 h0 h1 h2) (.inl ⟨by omega, h3⟩)
  | done h ha hw hh t' hI =>
    obtain rfl : r = true := hr.2 h
    rw [decide_eq_true ha] at h1
    rw [decide_eq_true hw] at h2
    have h3 := h3 ha
    rw [hh] at h3
    exact why4 4 (by omega) (four4 h0 h1 h2 h3) (.inr ⟨rfl, rfl⟩)
/-- What a right queue's weights are. -/
theorem right_w {q : Q} (h : RightQ q) {id : Int} (hid : q.t.has id) : q.ws.length = q.t.ns.length ∧ q.t.ns.length ≤ 64 ∧ 0 ≤ q.w id ∧ q.w id ≤ 88761 ∧ (q.here id = false → q.w id = 0) ∧ (q.here id = true → wOkN (q.w id)) := by
  obtain ⟨b, hb, -, -, hw, -⟩ := h
  have h1 := hw.1
  have h2 := hid.1
  have h3 := hid.2
  have h4 := hw.2.1 id.toNat (by omega)
  unfold wAt at h4
  rw [show ((id.toNat : Nat) : Int) = id by omega] at h4
  change (q.here id = true ∧ wOkN (q.w id)) ∨ (q.here id = false ∧ q.w id = 0) at h4
  refine ⟨h1, hb.len, ?_, ?_, ?_, ?_⟩
  · rcases h4 with h | h
    · have := h.2.1; omega
    · omega
  · rcases h4 with h | h
    · exact h.2.2
    · omega
  · intro k; rcases h4 with h | h
    · rw [k] at h; cases h.1
    · exact h.2
  · intro k; rcases h4 with h | h
    · exact h.2
    · rw [k] at h; cases h.1
theorem sum_bound : (l : List Int) → (∀ x ∈ l, 0 ≤ x ∧ x ≤ 88761) → 0 ≤ l.sum ∧ l.sum ≤ 88761 * l.length
  | [], _ => by simp
  | a :: l, h => by
    have h1 := h a (by simp)
    have h2 := sum_bound l (fun x hx => h x (by simp [hx]))
    simp only [List.sum_cons, List.length_cons]
    omega
theorem right_load {q : Q} (h : RightQ q) : 0 ≤ q.load ∧ q.load ≤ 5680704 := by
  obtain ⟨b, hb, -, -, hw, -⟩ := h
  have h1 := hw.1
  have h2 := hb.len
  have h3 := sum_bound q.ws (fun x hx => by
    obtain ⟨i, hi, rfl⟩ := List.mem_iff_getElem.1 hx
    have h4 := hw.2.1 i hi
    unfold wAt at h4
    rw [show q.ws.getD i 0 = q.ws[i] by simp [List.getD, hi]] at h4
    rcases h4 with h | h
    · have := h.2.1; have := h.2.2; omega
    · omega)
  rw [hw.2.2] at h3
  omega

theorem Own.off {w : World} {B : Nat} {e : TypeId} {v : Value} {l : List Int} (h : Own .i64 w B e v l) {p : Nat} (hp : p < B) : l ≠ [] → Aw p v := by
  intro hz a n c e
  rcases h.2 with ⟨rfl, h0⟩ | ⟨g, cap, cur, rfl, hg, -⟩
  · cases e
  · simp only [Value.slice.injEq, Option.some.injEq] at e
    rw [← e.1]; show g ≠ p; omega
/-- The zero queue stored over the one in a box. -/
def putE (w : World) (p : Nat) : World :=
  ((((((w.setCell ⟨p, 0, none⟩ (.int .i64 0)).setCell ⟨p, 1, none⟩ (.slice none 0 0)).setCell ⟨p, 2, none⟩ (.int .i64 0)).setCell ⟨p, 3, none⟩ (.int .u64 0)).setCell ⟨p, 4, none⟩ (.int .u64 0)).setCell ⟨p, 5, none⟩ (.int .i64 0)).setCell ⟨p, 6, none⟩ (.slice none 0 0)
/-- What a call tells beside an error. -/
theorem tellE {W w : World} {p : Nat} (hz : Qb w p qE (.slice none 0 0) (.slice none 0 0)) (hb : Below W.heap.size W w) (hp : W.heap.size ≤ p) :
    ((putE w p).cell? ⟨p, 0, none⟩ = some (.int .i64 0) ∧ (putE w p).cell? ⟨p, 1, none⟩ = some (.slice none 0 0) ∧ (putE w p).cell? ⟨p, 2, none⟩ = some (.int .i64 0) ∧ (putE w p).cell? ⟨p, 3, none⟩ = some (.int .u64 0) ∧ (putE w p).cell? ⟨p, 4, none⟩ = some (.int .u64 0) ∧ (putE w p).cell? ⟨p, 5, none⟩ = some (.int .i64 0) ∧ (putE w p).cell? ⟨p, 6, none⟩ = some (.slice none 0 0)) ∧ Below W.heap.size W (putE w p) := ⟨(hz.putQ qE (.slice none 0 0) (.slice none 0 0)).all, belowQ hb hp qE (.slice none 0 0) (.slice none 0 0)⟩

set_option maxRecDepth 100000 in
set_option maxHeartbeats 4000000 in
theorem Enter_q {q : Q} {nv wv : Value} {W : World} (hT : Tab W) (hQ : Qd W q nv wv) {id x lag : Int} {q' : Q} {e : Int} (hE : QEnter q id x lag q' e) :
    Calls Tryz.prog 17 #[qv q nv wv, .int .i64 id, .int .i64 x, .int .i64 lag] W fun en w' => (∃ v', en = .returned (.tuple #[v', .int .i64 e]) ∧ Qr w' v' q') ∧ Below W.heap.size W w' := by
  have HD := Lib.hid hQ
  obtain ⟨a, c, rfl, -, -⟩ := hQ.nds.len
  obtain ⟨a', c', rfl, -, -, -⟩ := hQ.ints
  have HW := Lib.hid (w2q_box W q (.slice a q.t.ns.length c) (.slice a' q.ws.length c'))
  obtain ⟨r, hr⟩ := right_bool q
  have HR0 : Hid (∀ X, Below W.heap.size W X → Calls Tryz.prog 41 #[qv q (.slice a q.t.ns.length c) (.slice a' q.ws.length c')] X fun en w' => (∃ b, en = .returned (.func (.func 90) #[] #[ptr b]) ∧ Rz w' (.func (.func 90) #[] #[ptr b]) 4 (!r)) ∧ Below X.heap.size X w') := Lib.hid (fun X hX => notRight_rz (hT.below hX) (hQ.below hX) hr)
  have HR1 : Hid (∀ X, Calls Tryz.prog 42 #[qv q (.slice a q.t.ns.length c) (.slice a' q.ws.length c'), .int .i64 id] X fun en w' => (∃ b c, en = .returned (.func (.func 91) #[] #[ptr b, ptr c]) ∧ (Rz w' (.func (.func 91) #[] #[ptr b, ptr c]) 1 (!decide (q.t.has id)))) ∧ Below X.heap.size X w') := Lib.hid (fun X => noTask_rz rfl id)
  have HR2 : Hid (∀ X, Below W.heap.size W X → Calls Tryz.prog 43 #[.int .i64 x] X fun en w' => (∃ b, en = .returned (.func (.func 93) #[] #[ptr b]) ∧ Rz w' (.func (.func 93) #[] #[ptr b]) 1 (!decide (wOkN x))) ∧ Below X.heap.size X w') := Lib.hid (fun X hX => noWeight_rz (hT.below hX) x)
  have HR3 : Hid (∀ X, Below W.heap.size W X → Calls Tryz.prog 44 #[qv q (.slice a q.t.ns.length c) (.slice a' q.ws.length c'), .int .i64 id] X fun en w' => (∃ b c, en = .returned (.func (.func 95) #[] #[ptr b, ptr c]) ∧ (q.t.has id → Rz w' (.func (.func 95) #[] #[ptr b, ptr c]) 9 (q.here id))) ∧ Below X.heap.size X w') := Lib.hid (fun X hX => busy_rz (hQ.nds.below hX) id)
  have HY : Hid (∀ X f0 f1 f2 f3, Rz X f0 4 (!r) → Rz X f1 1 (!decide (q.t.has id)) → Rz X f2 1 (!decide (wOkN x)) → (q.t.has id → Rz X f3 9 (q.here id)) → Calls Tryz.prog 40 #[.slice (some ⟨X.heap.size, 0, none⟩) 4 4] (X.alloc (.cells #[f0, f1, f2, f3] 71)) fun en w' => en = .returned (.int .i64 e) ∧ Below X.heap.size X w') := Lib.hid (fun X f0 f1 f2 f3 h0 h1 h2 h3 => whyEnter hE hr h0 h1 h2 h3)
  have HE := Lib.hid hE
  clear hT hQ hE hr
  unfold w2q qo at HW
  unfold qv at HR0 HR1 HR3
  unfold qv
  go_enter Tryz.func17, Tryz.ntmps17
  go_upto_region 1 with fail
  generalize hp2 : W.heap.size + 1 = p2 at HW ⊢
  generalize (W.alloc _).alloc _ = w2 at HW ⊢
  have hlt2 := HW.out.2.1.lt
  go_cut [10] (fun s10 wx => s10 = .int .i64 e ∧ Hid (Below w2.heap.size w2 wx))
  case first =>
    have HSX : Hid (∀ X, Below w2.heap.size w2 X → (X.cell? ⟨W.heap.size, 0, none⟩ = some (.int .i64 q.t.root) ∧ X.cell? ⟨W.heap.size, 1, none⟩ = some (.slice a q.t.ns.length c) ∧ X.cell? ⟨W.heap.size, 2, none⟩ = some (.int .i64 q.cur) ∧ X.cell? ⟨W.heap.size, 3, none⟩ = some (.int .u64 q.v) ∧ X.cell? ⟨W.heap.size, 4, none⟩ = some (.int .u64 q.mn) ∧ X.cell? ⟨W.heap.size, 5, none⟩ = some (.int .i64 q.load) ∧ X.cell? ⟨W.heap.size, 6, none⟩ = some (.slice a' q.ws.length c'))) := Lib.hid (fun X hX => (HW.out.1.below hX HW.out.1.lt).all)
    have HWX : Hid (∀ X, Below w2.heap.size w2 X → Below W.heap.size W X) := Lib.hid (fun X hX => HW.out.2.2.trans (hX.mono HW.out.2.2.size))
    obtain ⟨h0, h1, h2, h3, h4, h5, h6⟩ := HSX.out w2 (Below.refl _ _)
    have HZ : Hid (Below w2.heap.size w2 w2) := Lib.hid (Below.refl _ _)
    have HZD : Hid (Below w2.heap.size w2 w2.drew) := Lib.hid (Below.refl _ _).drew
    clear HD HE HW
    go_wp2_with fail
    go_region_held3 (fun X => X.cell? ⟨W.heap.size, 0, none⟩ = some (.int .i64 q.t.root) ∧ X.cell? ⟨W.heap.size, 1, none⟩ = some (.slice a q.t.ns.length c) ∧ X.cell? ⟨W.heap.size, 2, none⟩ = some (.int .i64 q.cur) ∧ X.cell? ⟨W.heap.size, 3, none⟩ = some (.int .u64 q.v) ∧ X.cell? ⟨W.heap.size, 4, none⟩ = some (.int .u64 q.mn) ∧ X.cell? ⟨W.heap.size, 5, none⟩ = some (.int .i64 q.load) ∧ X.cell? ⟨W.heap.size, 6, none⟩ = some (.slice a' q.ws.length c'))
      (first
        | with_reducible exact HSX.out _ HZ.out
        | with_reducible exact HSX.out _ HZD.out
        | with_reducible exact HSX.out _ HB3.out
        | with_reducible exact HSX.out _ HB4.out
        | with_reducible exact HSX.out _ HB5.out
        | with_reducible exact HSX.out _ HB6.out
        | with_reducible exact HSX.out _ HB6A.out
        | with_reducible exact HSX.out _ HB7.out
        | go_keep)
      (first
        | (go_at_call 41; refine (HR0.out _ (HWX.out _ HZD.out)).mono ?_; rintro e' w3 ⟨⟨b0, rfl, hz⟩, hb3⟩; have HB3 := Lib.hid (HZD.out.trans hb3); have HF0 := Lib.hid hz; clear hz hb3)
        | (go_at_call 42; refine (HR1.out _).mono ?_; rintro e' w4 ⟨⟨b1, c1, rfl, hz⟩, hb4⟩; have HB4 := Lib.hid (HB3.out.trans (hb4.mono HB3.out.size)); have HF1 := Lib.hid hz; have HF01 := Lib.hid (HF0.out.below hb4); clear hz hb4)
        | (go_at_call 43; refine (HR2.out _ (HWX.out _ HB4.out)).mono ?_; rintro e' w5 ⟨⟨b2, rfl, hz⟩, hb5⟩; have HB5 := Lib.hid (HB4.out.trans (hb5.mono HB4.out.size)); have HF2 := Lib.hid hz; have HF02 := Lib.hid (HF01.out.below hb5); have HF12 := Lib.hid (HF1.out.below hb5); clear hz hb5)
        | (go_at_call 44; refine (HR3.out _ (HWX.out _ HB5.out)).mono ?_; rintro e' w6 ⟨⟨b3, c3, rfl, hz⟩, hb6⟩; have HB6 := Lib.hid (HB5.out.trans (hb6.mono HB5.out.size)); have HC := Lib.hid (HY.out w6 _ _ _ _ (HF02.out.below hb6) (HF12.out.below hb6) (HF2.out.below hb6) hz); have HB6A := Lib.hid (HB6.out.alloc HB6.out.size (.cells #[.func (.func 90) #[] #[ptr b0], .func (.func 91) #[] #[ptr b1, ptr c1], .func (.func 93) #[] #[ptr b2], .func (.func 95) #[] #[ptr b3, ptr c3]] 71)); clear hz hb6)
        | (go_at_call 40; refine HC.out.mono ?_; rintro e' w7 ⟨rfl, hb7⟩; have HB7 := Lib.hid (HB6.out.trans (hb7.mono HB6.out.size)); clear hb7))
    all_goals
      go_wp2_with fail
      go_meet
      case rel => exact ⟨rfl, Lib.hid HB7.out⟩
  case rest =>
    obtain ⟨rfl, HC⟩ := hcut
    have HQC := Lib.hid (HW.out.1.below HC.out HW.out.1.lt)
    have HZC := Lib.hid (HW.out.2.1.below HC.out hlt2)
    have HBC := Lib.hid (HW.out.2.2.trans (HC.out.mono HW.out.2.2.size))
    have HLT : Hid (p2 < wc.heap.size) := Lib.hid (Nat.lt_of_lt_of_le hlt2 HC.out.size)
    clear HW HC HR0 HR1 HR2 HR3 HY hlt2
    obtain ⟨z0, z1, z2, z3, z4, z5, z6⟩ := HZC.out.all
    obtain ⟨y0, y1, y2, y3, y4, y5, y6⟩ := HZC.out.free
    have HEQ : Hid ((e ≠ 0 → q' = qE) ∧ (e = 0 → RightQ q ∧ q.t.has id ∧ wOkN x ∧ q.here id = false ∧ ∃ t', Ins q.mn (atN q.mn (clampN lag (-1048576) mx), id) q.t t' 0 ∧ q' = { q.weigh id x with t := t' })) := Lib.hid (by
      cases HE.out with
      | order h => exact ⟨fun _ => rfl, fun h => by cases h⟩
      | arg h ha => exact ⟨fun _ => rfl, fun h => by cases h⟩
      | busy h ha hw hh => exact ⟨fun _ => rfl, fun h => by cases h⟩
      | done h ha hw hh t' hI => exact ⟨fun h => absurd rfl h, fun _ => ⟨h, ha, hw, hh, t', hI, rfl⟩⟩)
    clear HE
    by_cases he : e = 0
    · subst he
      obtain ⟨hrq, hid, hwo, hh, t', hI, rfl⟩ := HEQ.out.2 rfl
      obtain ⟨hl1, hl2, hw0, hw1, hw2, -⟩ := right_w hrq hid
      have hld := right_load hrq
      have HI := Lib.hid hI
      have HID := Lib.hid hid
      have HWX := Lib.hid (And.intro (show 0 ≤ x ∧ x ≤ 88761 from ⟨by have := hwo.1; omega, hwo.2⟩) (And.intro (show 0 ≤ q.w id ∧ q.w id ≤ 88761 from ⟨hw0, hw1⟩) hld))
      have HLN := Lib.hid (And.intro hl1 hl2)
      have HIW : Hid (0 ≤ id ∧ id < q.ws.length) := Lib.hid ⟨hid.1, by have := hid.2; omega⟩
      have HKV : Hid (Kin (atN q.mn (clampN lag (-1048576) mx), id)) := Lib.hid ⟨U_at _ _, by have := hid.1; have := hid.2; unfold I; simp only; omega⟩
      clear hrq hid hwo hh hI hl1 hl2 hw0 hw1 hw2 hld HEQ
      have HCL : Hid (∀ Z, Calls Tryz.prog 46 #[.int .i64 lag, .int .i64 (-1048576), .int .i64 1125899906842624] Z fun e w' => e = .returned (.int .i64 (clampN lag (-1048576) mx)) ∧ ∃ k, w' = Z.drewN k) := Lib.hid (fun Z => (clamp_any lag (-1048576) 1125899906842624 Z).mono fun e w' h => ⟨h.1, 0, by rw [← h.2]; rfl⟩)
      have HAT : Hid (∀ Z, Calls Tryz.prog 45 #[.int .u64 q.mn, .int .i64 (clampN lag (-1048576) mx)] Z fun e w' => e = .returned (.int .u64 (atN q.mn (clampN lag (-1048576) mx))) ∧ ∃ k, w' = Z.drewN k) := Lib.hid (fun Z => (atT_any _ _ Z).mono fun e w' h => ⟨h.1, 0, by rw [← h.2]; rfl⟩)
      generalize clampN lag (-1048576) mx = cl at *
      generalize atN q.mn cl = kv at *
      obtain ⟨g0, g1, g2, g3, g4, g5, g6⟩ := HQC.out.all
      go_wp2_with fail
      go_quiet (first | (go_at_call 46; exact Calls.quiet_of (HCL.out _)) | (go_at_call 45; exact Calls.quiet_of (HAT.out _)))
      have HG3 := Lib.hid (Gr.drew wc nq)
      have HQ3 := Lib.hid (HQC.out.gr HG3.out)
      have HZ3 := Lib.hid (HZC.out.gr HG3.out)
      have HB3 := Lib.hid (HBC.out.trans (HG3.out.below.mono HBC.out.size))
      have HLT3 : Hid (p2 < (wc.drewN nq).heap.size) := Lib.hid (Nat.lt_of_lt_of_le HLT.out HG3.out.below.size)
      clear g0 g1 g2 g3 g4 g5 g6 z0 z1 z2 z3 z4 z5 z6 y0 y1 y2 y3 y4 y5 y6 HQC HZC HBC HLT HG3 HCL HAT
      generalize wc.drewN nq = w3 at HQ3 HZ3 HB3 HLT3 ⊢
      have HOW := Lib.hid (own_any (HD.out.below HB3.out) (by have := HLN.out; omega) (by have := HLN.out; omega))
      unfold qv at HOW
      obtain ⟨g0, g1, g2, g3, g4, g5, g6⟩ := HQ3.out.all
      go_wp2_with fail
      refine HOW.out.mono ?_
      rintro e' w4 ⟨⟨a4, c4, a5, c5, rfl, hw4⟩, hb4⟩
      have HQ4 := Lib.hid hw4
      have HB4 := Lib.hid hb4
      have HWE := Lib.hid (weighed_any hw4 hb4.size HIW.out HWX.out.1 HWX.out.2.1 HWX.out.2.2)
      unfold qv Q.weigh at HWE
      dsimp only at HWE
      clear hw4 hb4 g0 g1 g2 g3 g4 g5 g6 HOW
      go_wp2_with fail
      refine HWE.out.mono ?_
      rintro e' w5 ⟨rfl, hw5, hb5⟩
      have HQ5 := Lib.hid hw5
      have HB5 := Lib.hid (HB4.out.trans hb5)
      have HIN := Lib.hid (inserted_any (k := (kv, id)) (q := { q with load := q.load + (x - q.w id), ws := q.ws.set id.toNat x }) (a' := a5) (n' := q.ws.length) (c' := c5) hw5.nds HKV.out HI.out)
      unfold qv at HIN
      dsimp only at HIN
      clear hw5 hb5 HWE
      go_wp2_with fail
      refine HIN.out.mono ?_
      rintro e' w6 ⟨⟨a6, c6, rfl, hn6⟩, hb6⟩
      have HB6 := Lib.hid (HB5.out.trans (hb6.mono HB5.out.size))
      have HN6 := Lib.hid hn6
      have HO6 := Lib.hid (HQ5.out.own.below hb6)
      have HZ6 := Lib.hid (HZ3.out.below HB6.out HLT3.out)
      have HP : Hid (Qb (putQ w6 p2 { q.weigh id x with t := t' } (.slice a6 t'.ns.length c6) (.slice a5 q.ws.length c5)) p2 { q.weigh id x with t := t' } (.slice a6 t'.ns.length c6) (.slice a5 q.ws.length c5) ∧
          Below W.heap.size W (putQ w6 p2 { q.weigh id x with t := t' } (.slice a6 t'.ns.length c6) (.slice a5 q.ws.length c5)) ∧
          Qr (putQ w6 p2 { q.weigh id x with t := t' } (.slice a6 t'.ns.length c6) (.slice a5 q.ws.length c5)) (qv { q.weigh id x with t := t' } (.slice a6 t'.ns.length c6) (.slice a5 q.ws.length c5)) { q.weigh id x with t := t' }) := Lib.hid (by
        have hz := HZ6.out
        refine ⟨hz.putQ _ _ _, belowQ (HB3.out.trans (HB6.out.mono HB3.out.size)) (by omega) _ _ _, a6, c6, a5, c5, ?_, ?_⟩
        · show _ = qv _ _ (.slice a5 (q.ws.set id.toNat x).length c5)
          rw [List.length_set]
        · show Qd _ _ _ (.slice a5 (q.ws.set id.toNat x).length c5)
          rw [List.length_set]
          exact ⟨hn6.putQ (hn6.off hz) _ _ _, (HO6.out.ints HQ5.out.wf).putQ (HO6.out.off HLT3.out) _ _ _, HQ5.out.uv, HQ5.out.um, HQ5.out.ic⟩)
      unfold putQ Q.weigh at HP
      dsimp only at HP
      clear hn6 hb6 HIN HQ5 HB4 HB5 HQ4
      obtain ⟨z0, z1, z2, z3, z4, z5, z6⟩ := HZ6.out.all
      obtain ⟨y0, y1, y2, y3, y4, y5, y6⟩ := HZ6.out.free
      clear HZ6 HO6 HN6 HB6 HQ3 HZ3 HB3 HLT3 HD
      generalize hld : q.load + (x - q.w id) = ld at HP ⊢
      have HLD := Lib.hid hld
      clear hld
      go_wp2
      obtain ⟨s0, s1, s2, s3, s4, s5, s6⟩ := HP.out.1.res
      exact bodyPost_ret (v := .tuple #[.agg #[.int .i64 t'.root, .slice a6 t'.ns.length c6, .int .i64 q.cur, .int .u64 q.v, .int .u64 q.mn, .int .i64 ld, .slice a5 q.ws.length c5], .int .i64 0]) (by simp [results, Tryz.results17, go_sem, s0, s1, s2, s3, s4, s5, s6]) rfl ⟨⟨_, rfl, by have h := HP.out.2.2; rw [← HLD.out] at h ⊢; exact h⟩, HP.out.2.1⟩
    · have hne : (e != 0) = true := by simpa using he
      obtain rfl := HEQ.out.1 he
      have HP := Lib.hid (tellE HZC.out HBC.out (by omega))
      unfold putE at HP
      clear he HEQ HQC HZC HBC HD
      go_wp2
      obtain ⟨s0, s1, s2, s3, s4, s5, s6⟩ := HP.out.1
      exact bodyPost_ret (v := .tuple #[.agg #[.int .i64 0, .slice none 0 0, .int .i64 0, .int .u64 0, .int .u64 0, .int .i64 0, .slice none 0 0], .int .i64 e]) (by simp [results, Tryz.results17, go_sem, s0, s1, s2, s3, s4, s5, s6]) rfl ⟨⟨_, rfl, Qr.zero _⟩, HP.out.2⟩
end Go.Proofs.YtpmknpdnhfnfcaaGreatDoor

namespace Go.Proofs.YtpmknpdnhfnfcaaGreatDoor
open Go.RowKit Go.Sort Ky Wd Tn Tr Wg Qu

/-- What New tells. -/
def newQ (n mn : Int) : Q := if 0 ≤ n ∧ n ≤ 64 then ⟨newT n, -1, 0, mn, 0, List.replicate n.toNat 0⟩ else qE

set_option maxRecDepth 100000 in
set_option maxHeartbeats 4000000 in
theorem New_q (n mn : Int) (hm : U mn) (W : World) :
    Calls Tryz.prog 12 #[.int .i64 n, .int .u64 mn] W fun en w' => (∃ v', en = .returned (.tuple #[v', .int .i64 (newE n)]) ∧ Qr w' v' (newQ n mn)) ∧ Below W.heap.size W w' := by
  have HZ := Lib.hid (Qb.zero W)
  have HB := Lib.hid (Gr.alloc W (.cells #[.int .i64 0, .slice none 0 0, .int .i64 0, .int .u64 0, .int .u64 0, .int .i64 0, .slice none 0 0] 28)).below
  have HNW : Hid (∀ X, Calls Tryz.prog 36 #[.int .i64 n] X fun en w' => (∃ a c, en = .returned (.tuple #[.agg #[.int .i64 (newT n).root, .slice a (newT n).ns.length c], .int .i64 (newE n)]) ∧ Nds w' (.slice a (newT n).ns.length c) (newT n).ns) ∧ Below X.heap.size X w') := Lib.hid (fun X => (New_at n X).mono fun en w' h => by
    obtain ⟨⟨v', e, hn⟩, hb⟩ := h
    obtain ⟨a, c, rfl, -, -⟩ := hn.len
    exact ⟨⟨a, c, e, hn⟩, hb⟩)
  by_cases hn : 0 ≤ n ∧ n ≤ 64
  · obtain ⟨k, rfl⟩ : ∃ k : Nat, n = k := ⟨n.toNat, by omega⟩
    have HQ : Hid (newQ k mn = ⟨⟨-1, List.replicate k nE⟩, -1, 0, mn, 0, List.replicate k 0⟩ ∧ newE k = 0) := Lib.hid (by unfold newQ newT newE; rw [if_pos hn, if_pos hn, if_pos hn]; exact ⟨by simp, rfl⟩)
    have ET : newT k = ⟨-1, List.replicate k nE⟩ ∧ newE k = 0 := by unfold newT newE; rw [if_pos hn, if_pos hn]; exact ⟨by simp, rfl⟩
    rw [ET.1, ET.2] at HNW
    change Hid (∀ X, Calls Tryz.prog 36 #[.int .i64 k] X fun en w' => (∃ a c, en = .returned (.tuple #[.agg #[.int .i64 (-1), .slice a (List.replicate k nE).length c], .int .i64 0]) ∧ Nds w' (.slice a (List.replicate k nE).length c) (List.replicate k nE)) ∧ Below X.heap.size X w') at HNW
    rw [List.length_replicate] at HNW
    rw [HQ.out.1, HQ.out.2]
    have hk : k ≤ 64 := by omega
    obtain ⟨i, hi, hz, hs1, hs2⟩ := info_parts info_int64
    have hmk : ∀ w : World, (Instr.makeSlice 26 (.int .i64 k) (.int .i64 k)).run Tryz.prog w = .ok (.slice (some ⟨w.heap.size, 0, none⟩) k k) (w.alloc (.cells (Array.replicate k (Value.int .i64 0)) 3)) := fun w => by
      have := run_make w 26 3 i _ Tryz.underlying26 hi hz .i64 .i64 k k (by omega) (by omega) (by rw [hs2]; omega) (by omega)
      rw [hs1, Int.toNat_natCast, Nat.mul_one] at this
      have e : madeCells (Value.cells (.int .i64 0)) k = (Array.replicate k (Value.int .i64 0)) := by
        have h := toList_madeCells_one (.int .i64 0) k
        exact Array.ext' (h.trans (by simp))
      rw [e] at this
      exact this
    have hk0 : (0 : Int) ≤ k := by omega
    have hk64 : (k : Int) ≤ 64 := by omega
    have HM := Lib.hid hm
    clear hn hi hz hs1 hs2 i ET hm
    go_enter Tryz.func12, Tryz.ntmps12
    go_upto_region 1 with fail
    generalize W.alloc _ = w1 at HZ HB ⊢
    go_wp2_with fail
    refine (HNW.out w1).mono ?_
    rintro e' w2 ⟨⟨a, c, rfl, hn2⟩, hb2⟩
    have HN2 := Lib.hid hn2
    have HZ2 := Lib.hid (HZ.out.below hb2 HZ.out.lt)
    have HB2 := Lib.hid (HB.out.trans (hb2.mono HB.out.size))
    clear hn2 hb2 HZ HB HNW
    go_upto_region 4 with fail
    have HA3 := Lib.hid ((Below.refl w2.heap.size w2).alloc (Nat.le_refl _) (.cells #[.int .i64 (-1), .slice a k c] 24))
    have HT3 := Lib.hid (Tb.new w2 (-1) (.slice a k c) 24)
    have HN3 := Lib.hid (HN2.out.below HA3.out)
    have HZ3 := Lib.hid (HZ2.out.below HA3.out HZ2.out.lt)
    have HB3 := Lib.hid (HB2.out.trans (HA3.out.mono HB2.out.size))
    clear HN2 HZ2 HB2 HA3
    generalize w2.heap.size = qt at HT3 ⊢
    generalize w2.alloc (.cells #[.int .i64 (-1), .slice a k c] 24) = w3 at HT3 HN3 HZ3 HB3 ⊢
    have HA4 := Lib.hid ((Below.refl w3.heap.size w3).alloc (Nat.le_refl _) (.cells (Array.replicate k (Value.int .i64 0)) 3))
    obtain ⟨t0, t1, -, -⟩ := HT3.out.all
    obtain ⟨t2, t3, -, -⟩ := (HT3.out.below HA4.out HT3.out.lt).all
    obtain ⟨z0, z1, z2, z3, z4, z5, z6⟩ := (HZ3.out.below HA4.out HZ3.out.lt).all
    obtain ⟨y0, y1, y2, y3, y4, y5, y6⟩ := (HZ3.out.below HA4.out HZ3.out.lt).free
    have HP : Hid (Qb (putQ (w3.alloc (.cells (Array.replicate k (Value.int .i64 0)) 3)) W.heap.size (⟨⟨-1, List.replicate k nE⟩, -1, 0, mn, 0, List.replicate k 0⟩ : Q) (.slice a k c) (.slice (some ⟨w3.heap.size, 0, none⟩) k k)) W.heap.size ⟨⟨-1, List.replicate k nE⟩, -1, 0, mn, 0, List.replicate k 0⟩ (.slice a k c) (.slice (some ⟨w3.heap.size, 0, none⟩) k k) ∧ Below W.heap.size W (putQ (w3.alloc (.cells (Array.replicate k (Value.int .i64 0)) 3)) W.heap.size (⟨⟨-1, List.replicate k nE⟩, -1, 0, mn, 0, List.replicate k 0⟩ : Q) (.slice a k c) (.slice (some ⟨w3.heap.size, 0, none⟩) k k)) ∧ Qr (putQ (w3.alloc (.cells (Array.replicate k (Value.int .i64 0)) 3)) W.heap.size (⟨⟨-1, List.replicate k nE⟩, -1, 0, mn, 0, List.replicate k 0⟩ : Q) (.slice a k c) (.slice (some ⟨w3.heap.size, 0, none⟩) k k)) (qv ⟨⟨-1, List.replicate k nE⟩, -1, 0, mn, 0, List.replicate k 0⟩ (.slice a k c) (.slice (some ⟨w3.heap.size, 0, none⟩) k k)) ⟨⟨-1, List.replicate k nE⟩, -1, 0, mn, 0, List.replicate k 0⟩) := Lib.hid (by
      have hz := HZ3.out.below HA4.out HZ3.out.lt
      have hn := HN3.out.below HA4.out
      have ho : Own .i64 (w3.alloc (.cells (Array.replicate k (Value.int .i64 0)) 3)) w3.heap.size 3 (.slice (some ⟨w3.heap.size, 0, none⟩) k k) (List.replicate k 0) := by
        have := World.ownsRow_lit (base := w3.heap.size) (e := 3) (size := 1) w3 (Array.replicate k (Value.int .i64 0)) k (Nat.le_refl _) (by unfold maxLen; omega) (by simp)
        unfold Own
        simpa using this
      refine ⟨hz.putQ _ _ _, belowQ (HB3.out.trans (HA4.out.mono HB3.out.size)) (Nat.le_refl _) _ _ _, a, c, some ⟨w3.heap.size, 0, none⟩, k, ?_, ?_⟩
      · show _ = qv _ (.slice a (List.replicate k nE).length c) (.slice _ (List.replicate k (0 : Int)).length k)
        rw [List.length_replicate, List.length_replicate]
      · show Qd _ _ (.slice a (List.replicate k nE).length c) (.slice _ (List.replicate k (0 : Int)).length k)
        rw [List.length_replicate, List.length_replicate]
        refine ⟨hn.putQ (hn.off hz) _ _ _, (ho.ints (fun z hz => ?_)).putQ (ho.off HZ3.out.lt) _ _ _, (show U 0 from ⟨by decide, by decide⟩), HM.out, (show I (-1) from ⟨by decide, by decide⟩)⟩
        obtain ⟨-, rfl⟩ := List.mem_replicate.1 hz
        exact i64_wf (by omega))
    unfold putQ at HP
    dsimp only at HP
    go_region
    clear HT3 HN3 HZ3 HB3 HA4 t0 t1 t2 t3 z0 z1 z2 z3 z4 z5 z6 y0 y1 y2 y3 y4 y5 y6 hmk
    go_wp2
    obtain ⟨s0, s1, s2, s3, s4, s5, s6⟩ := HP.out.1.res
    exact bodyPost_ret (v := .tuple #[.agg #[.int .i64 (-1), .slice a k c, .int .i64 (-1), .int .u64 0, .int .u64 mn, .int .i64 0, .slice (some ⟨w3.heap.size, 0, none⟩) k k], .int .i64 0]) (by simp [results, Tryz.results12, go_sem, s0, s1, s2, s3, s4, s5, s6]) rfl ⟨⟨_, rfl, HP.out.2.2.below (Below.refl _ _).drew⟩, HP.out.2.1.drew⟩
  · have HQ : Hid (newQ n mn = qE ∧ newE n = 1) := Lib.hid (by unfold newQ newE; rw [if_neg hn, if_neg hn]; exact ⟨rfl, rfl⟩)
    have ET : newT n = ⟨0, []⟩ ∧ newE n = 1 := by unfold newT newE; rw [if_neg hn, if_neg hn]; exact ⟨rfl, rfl⟩
    rw [ET.1, ET.2] at HNW
    change Hid (∀ X, Calls Tryz.prog 36 #[.int .i64 n] X fun en w' => (∃ a c, en = .returned (.tuple #[.agg #[.int .i64 0, .slice a 0 c], .int .i64 1]) ∧ Nds w' (.slice a 0 c) []) ∧ Below X.heap.size X w') at HNW
    rw [HQ.out.1, HQ.out.2]
    clear hn ET HQ hm
    go_enter Tryz.func12, Tryz.ntmps12
    go_upto_region 1 with fail
    generalize W.alloc _ = w1 at HZ HB ⊢
    go_wp2_with fail
    refine (HNW.out w1).mono ?_
    rintro e' w2 ⟨⟨a, c, rfl, hn2⟩, hb2⟩
    have HZ2 := Lib.hid (HZ.out.below hb2 HZ.out.lt)
    have HB2 := Lib.hid (HB.out.trans (hb2.mono HB.out.size))
    clear hn2 hb2 HZ HB HNW
    have HA3 := Lib.hid ((Below.refl w2.heap.size w2).alloc (Nat.le_refl _) (.cells #[.int .i64 0, .slice a 0 c] 24))
    have HZ3 := Lib.hid (HZ2.out.below HA3.out HZ2.out.lt)
    have HB3 := Lib.hid (HB2.out.trans (HA3.out.mono HB2.out.size))
    go_upto_region 2 with fail
    clear HZ2 HB2 HA3
    generalize w2.alloc (.cells #[.int .i64 0, .slice a 0 c] 24) = w3 at HZ3 HB3 ⊢
    obtain ⟨z0, z1, z2, z3, z4, z5, z6⟩ := HZ3.out.all
    obtain ⟨y0, y1, y2, y3, y4, y5, y6⟩ := HZ3.out.free
    have HP := Lib.hid (tellE HZ3.out HB3.out (Nat.le_refl _))
    unfold putE at HP
    clear HZ3 HB3
    go_wp2
    obtain ⟨s0, s1, s2, s3, s4, s5, s6⟩ := HP.out.1
    exact bodyPost_ret (v := .tuple #[.agg #[.int .i64 0, .slice none 0 0, .int .i64 0, .int .u64 0, .int .u64 0, .int .i64 0, .slice none 0 0], .int .i64 1]) (by simp [results, Tryz.results12, go_sem, s0, s1, s2, s3, s4, s5, s6]) rfl ⟨⟨_, rfl, Qr.zero _⟩, HP.out.2⟩
end Go.Proofs.YtpmknpdnhfnfcaaGreatDoor

namespace Go.Proofs.YtpmknpdnhfnfcaaGreatDoor
open Go.RowKit Go.Sort Ky Wd Tn Tr Wg Qu

set_option maxRecDepth 100000 in
theorem whyLeave {X : World} {q q' : Q} {id lag e : Int} (hE : QLeave q id q' lag e) {r : Bool} (hr : r = true ↔ RightQ q) {f0 f1 f2 : Value}
    (h0 : Rz X f0 4 (!r)) (h1 : Rz X f1 1 (!decide (q.t.has id))) (h2 : q.t.has id → Rz X f2 8 (!q.here id)) :
    Calls Tryz.prog 40 #[.slice (some ⟨X.heap.size, 0, none⟩) 3 3] (X.alloc (.cells #[f0, f1, f2] 71)) fun en w' => en = .returned (.int .i64 e) ∧ Below X.heap.size X w' := by
  cases hE with
  | order h =>
    obtain rfl : r = false := by cases r with | false => rfl | true => exact absurd (hr.1 rfl) h
    exact why3 0 (by omega) noFirst (.inl ⟨by omega, h0⟩)
  | arg h ha =>
    obtain rfl : r = true := hr.2 h
    rw [decide_eq_false ha] at h1
    exact why3 1 (by omega) (one1 h0) (.inl ⟨by omega, h1⟩)
  | idle h ha hh =>
    obtain rfl : r = true := hr.2 h
    rw [decide_eq_true ha] at h1
    have h2 := h2 ha
    rw [hh] at h2
    exact why3 2 (by omega) (two2 h0 h1) (.inl ⟨by omega, h2⟩)
  | cur h ha hc =>
    obtain rfl : r = true := hr.2 h
    rw [decide_eq_true ha] at h1
    have h2 := h2 ha
    rw [show q.here id = true by unfold Q.here; simp [hc]] at h2
    exact why3 3 (by omega) (three3 h0 h1 h2) (.inr ⟨rfl, rfl⟩)
  | tree h ha hc hi t' hD =>
    obtain rfl : r = true := hr.2 h
    rw [decide_eq_true ha] at h1
    have h2 := h2 ha
    rw [show q.here id = true by unfold Q.here; simp [hi]] at h2
    exact why3 3 (by omega) (three3 h0 h1 h2) (.inr ⟨rfl, rfl⟩)

set_option maxRecDepth 100000 in
set_option maxHeartbeats 8000000 in
theorem Leave_no {q : Q} {nv wv : Value} {W : World} (hT : Tab W) (hQ : Qd W q nv wv) {id : Int} {q' : Q} {lag : Int} {e : Int} (hE : QLeave q id q' lag e) (hne0 : e ≠ 0) :
    Calls Tryz.prog 18 #[qv q nv wv, .int .i64 id] W fun en w' => (∃ v', en = .returned (.tuple #[v', .int .i64 lag, .int .i64 e]) ∧ Qr w' v' q') ∧ Below W.heap.size W w' := by
  have HD := Lib.hid hQ
  obtain ⟨a, c, rfl, -, -⟩ := hQ.nds.len
  obtain ⟨a', c', rfl, -, -, -⟩ := hQ.ints
  have HW := Lib.hid (w2q_box W q (.slice a q.t.ns.length c) (.slice a' q.ws.length c'))
  obtain ⟨r, hr⟩ := right_bool q
  have HR0 : Hid (∀ X, Below W.heap.size W X → Calls Tryz.prog 41 #[qv q (.slice a q.t.ns.length c) (.slice a' q.ws.length c')] X fun en w' => (∃ b, en = .returned (.func (.func 90) #[] #[ptr b]) ∧ Rz w' (.func (.func 90) #[] #[ptr b]) 4 (!r)) ∧ Below X.heap.size X w') := Lib.hid (fun X hX => notRight_rz (hT.below hX) (hQ.below hX) hr)
  have HR1 : Hid (∀ X, Calls Tryz.prog 42 #[qv q (.slice a q.t.ns.length c) (.slice a' q.ws.length c'), .int .i64 id] X fun en w' => (∃ b c, en = .returned (.func (.func 91) #[] #[ptr b, ptr c]) ∧ (Rz w' (.func (.func 91) #[] #[ptr b, ptr c]) 1 (!decide (q.t.has id)))) ∧ Below X.heap.size X w') := Lib.hid (fun X => noTask_rz rfl id)
  have HR2 : Hid (∀ X, Below W.heap.size W X → Calls Tryz.prog 50 #[qv q (.slice a q.t.ns.length c) (.slice a' q.ws.length c'), .int .i64 id] X fun en w' => (∃ b c, en = .returned (.func (.func 101) #[] #[ptr b, ptr c]) ∧ (q.t.has id → Rz w' (.func (.func 101) #[] #[ptr b, ptr c]) 8 (!q.here id))) ∧ Below X.heap.size X w') := Lib.hid (fun X hX => away_rz (hQ.nds.below hX) id)
  have HY : Hid (∀ X f0 f1 f2, Rz X f0 4 (!r) → Rz X f1 1 (!decide (q.t.has id)) → (q.t.has id → Rz X f2 8 (!q.here id)) → Calls Tryz.prog 40 #[.slice (some ⟨X.heap.size, 0, none⟩) 3 3] (X.alloc (.cells #[f0, f1, f2] 71)) fun en w' => en = .returned (.int .i64 e) ∧ Below X.heap.size X w') := Lib.hid (fun X f0 f1 f2 h0 h1 h2 => whyLeave hE hr h0 h1 h2)
  have HE := Lib.hid hE
  have HN0 := Lib.hid hne0
  clear hT hQ hE hr hne0
  unfold w2q qo at HW
  unfold qv at HR0 HR1 HR2
  unfold qv
  go_enter Tryz.func18, Tryz.ntmps18
  go_upto_region 1 with fail
  generalize hp2 : W.heap.size + 1 = p2 at HW ⊢
  generalize (W.alloc _).alloc _ = w2 at HW ⊢
  have hlt2 := HW.out.2.1.lt
  go_cut [7] (fun s5 wx => s5 = .int .i64 e ∧ Hid (Below w2.heap.size w2 wx))
  case first =>
    have HSX : Hid (∀ X, Below w2.heap.size w2 X → (X.cell? ⟨W.heap.size, 0, none⟩ = some (.int .i64 q.t.root) ∧ X.cell? ⟨W.heap.size, 1, none⟩ = some (.slice a q.t.ns.length c) ∧ X.cell? ⟨W.heap.size, 2, none⟩ = some (.int .i64 q.cur) ∧ X.cell? ⟨W.heap.size, 3, none⟩ = some (.int .u64 q.v) ∧ X.cell? ⟨W.heap.size, 4, none⟩ = some (.int .u64 q.mn) ∧ X.cell? ⟨W.heap.size, 5, none⟩ = some (.int .i64 q.load) ∧ X.cell? ⟨W.heap.size, 6, none⟩ = some (.slice a' q.ws.length c'))) := Lib.hid (fun X hX => (HW.out.1.below hX HW.out.1.lt).all)
    have HWX : Hid (∀ X, Below w2.heap.size w2 X → Below W.heap.size W X) := Lib.hid (fun X hX => HW.out.2.2.trans (hX.mono HW.out.2.2.size))
    obtain ⟨h0, h1, h2, h3, h4, h5, h6⟩ := HSX.out w2 (Below.refl _ _)
    have HZ : Hid (Below w2.heap.size w2 w2) := Lib.hid (Below.refl _ _)
    have HZD : Hid (Below w2.heap.size w2 w2.drew) := Lib.hid (Below.refl _ _).drew
    clear HD HE HW
    go_wp2_with fail
    go_region_held3 (fun X => (X.cell? ⟨W.heap.size, 0, none⟩ = some (.int .i64 q.t.root) ∧ X.cell? ⟨W.heap.size, 1, none⟩ = some (.slice a q.t.ns.length c) ∧ X.cell? ⟨W.heap.size, 2, none⟩ = some (.int .i64 q.cur) ∧ X.cell? ⟨W.heap.size, 3, none⟩ = some (.int .u64 q.v) ∧ X.cell? ⟨W.heap.size, 4, none⟩ = some (.int .u64 q.mn) ∧ X.cell? ⟨W.heap.size, 5, none⟩ = some (.int .i64 q.load) ∧ X.cell? ⟨W.heap.size, 6, none⟩ = some (.slice a' q.ws.length c')))
      (first
        | with_reducible exact HSX.out _ HZ.out
        | with_reducible exact HSX.out _ HZD.out
        | with_reducible exact HSX.out _ HB3.out
        | with_reducible exact HSX.out _ HB4.out
        | with_reducible exact HSX.out _ HB6.out
        | with_reducible exact HSX.out _ HB6A.out
        | with_reducible exact HSX.out _ HB7.out
        | go_keep)
      (first
        | (go_at_call 41; refine (HR0.out _ (HWX.out _ HZD.out)).mono ?_; rintro e' w3 ⟨⟨b0, rfl, hz⟩, hb3⟩; have HB3 := Lib.hid (HZD.out.trans hb3); have HF0 := Lib.hid hz; clear hz hb3)
        | (go_at_call 42; refine (HR1.out _).mono ?_; rintro e' w4 ⟨⟨b1, c1, rfl, hz⟩, hb4⟩; have HB4 := Lib.hid (HB3.out.trans (hb4.mono HB3.out.size)); have HF1 := Lib.hid hz; have HF01 := Lib.hid (HF0.out.below hb4); clear hz hb4)
        | (go_at_call 50; refine (HR2.out _ (HWX.out _ HB4.out)).mono ?_; rintro e' w6 ⟨⟨b3, c3, rfl, hz⟩, hb6⟩; have HB6 := Lib.hid (HB4.out.trans (hb6.mono HB4.out.size)); have HC := Lib.hid (HY.out w6 _ _ _ (HF01.out.below hb6) (HF1.out.below hb6) hz); have HB6A := Lib.hid (HB6.out.alloc HB6.out.size (.cells #[.func (.func 90) #[] #[ptr b0], .func (.func 91) #[] #[ptr b1, ptr c1], .func (.func 101) #[] #[ptr b3, ptr c3]] 71)); clear hz hb6)
        | (go_at_call 40; refine HC.out.mono ?_; rintro e' w7 ⟨rfl, hb7⟩; have HB7 := Lib.hid (HB6.out.trans (hb7.mono HB6.out.size)); clear hb7))
    all_goals
      go_wp2_with fail
      go_meet
      case rel => exact ⟨rfl, Lib.hid HB7.out⟩
  case rest =>
    obtain ⟨rfl, HC⟩ := hcut
    obtain ⟨w3, rfl⟩ : ∃ w3, w3 = wc := ⟨_, rfl⟩
    have HQC := Lib.hid (HW.out.1.below HC.out HW.out.1.lt)
    have HZC := Lib.hid (HW.out.2.1.below HC.out hlt2)
    have HBC := Lib.hid (HW.out.2.2.trans (HC.out.mono HW.out.2.2.size))
    have HLT : Hid (p2 < w3.heap.size) := Lib.hid (Nat.lt_of_lt_of_le hlt2 HC.out.size)
    clear HW HC HR0 HR1 HR2 HY hlt2
    have hne0 := HN0.out
    have HEQ : Hid (q' = qE ∧ lag = 0) := Lib.hid (by
      cases HE.out with
      | order h => exact ⟨rfl, rfl⟩
      | arg h ha => exact ⟨rfl, rfl⟩
      | idle h ha hh => exact ⟨rfl, rfl⟩
      | cur h ha hc => exact absurd rfl hne0
      | tree h ha hc hi t' hD => exact absurd rfl hne0)
    clear HE
    by_cases he : e = 0
    · exact absurd he hne0
    · have hne : (e != 0) = true := by simpa using he
      obtain ⟨rfl, rfl⟩ := HEQ.out
      obtain ⟨z0, z1, z2, z3, z4, z5, z6⟩ := HZC.out.all
      obtain ⟨y0, y1, y2, y3, y4, y5, y6⟩ := HZC.out.free
      have HP := Lib.hid (tellE HZC.out HBC.out (by omega))
      unfold putE at HP
      clear he hne0 HEQ HQC HZC HBC HD
      go_wp2
      obtain ⟨s0, s1, s2, s3, s4, s5, s6⟩ := HP.out.1
      exact bodyPost_ret (v := .tuple #[.agg #[.int .i64 0, .slice none 0 0, .int .i64 0, .int .u64 0, .int .u64 0, .int .i64 0, .slice none 0 0], .int .i64 0, .int .i64 e]) (by simp [results, Tryz.results18, go_sem, s0, s1, s2, s3, s4, s5, s6]) rfl ⟨⟨_, rfl, Qr.zero _⟩, HP.out.2⟩
end Go.Proofs.YtpmknpdnhfnfcaaGreatDoor
