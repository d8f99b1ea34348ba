/-
  Plain facts: what the laws' awake comes to.
-/
import Derived.Test.YtpmknpdnhfnfcaaGreatDoorQyT
import Derived.Test.YtpmknpdnhfnfcaaGreatDoorQyL
import Derived.Test.YtpmknpdnhfnfcaaGreatDoorQuO
namespace Go.Proofs.YtpmknpdnhfnfcaaGreatDoor
open Wd Tn Ky Tr Wg Qu

def mA : Int := 18446744073709551613
theorem whole_new (k : Nat) (hk : k ≤ 64) : Whole ⟨-1, List.replicate k nE⟩ .L := ⟨by simpa using hk, rfl, trivial, List.nodup_nil, fun i _ _ => by unfold T.nd; rw [List.getD, List.getElem?_replicate]; split <;> rfl⟩
theorem right_new (k : Nat) (m : Int) : RightA ⟨⟨-1, List.replicate k nE⟩, -1, 0, m, 0, List.replicate k 0⟩ .L := by
  refine ⟨⟨rfl, List.Pairwise.nil, rfl⟩, .inl ⟨rfl, rfl⟩, ⟨by simp, fun i hi => .inr ⟨?_, ?_⟩, ?_⟩, fun k hk => by cases hk⟩
  · unfold Q.here T.nd
    simp only [List.getD, List.getElem?_replicate]
    have : ¬ ((i : Int) = -1) := by omega
    simp only [this, decide_false, Bool.false_or]
    split <;> rfl
  · simp only [List.getD, List.getElem?_replicate]
    split <;> rfl
  · induction k with
    | zero => rfl
    | succ k ih => simp [List.replicate_succ]
theorem newQ_ok (k : Nat) (hk : k ≤ 64) (m : Int) : newQ k m = ⟨⟨-1, List.replicate k nE⟩, -1, 0, m, 0, List.replicate k 0⟩ := by
  unfold newQ newT
  rw [if_pos ⟨by omega, by omega⟩, if_pos ⟨by omega, by omega⟩]
  simp
theorem here_no {q : Q} {b : B} (hw : Whole q.t b) {z : Int} (hz : q.t.has z) (h : ¬ (z = q.cur ∨ z ∈ b.keys.map (·.2))) : q.here z = false := by
  cases e : q.here z with
  | false => rfl
  | true => exact absurd ((here_iff hw hz).1 e) h
theorem awake_ex : ∃ (qa qb qc qd qx : Q), QEnter (newQ 5 mA) 3 1024 0 qa 0 ∧ QEnter qa 1 1024 0 qb 0 ∧ QPick qb qc 1 0 ∧ qc.cur = 1 ∧ QTick qc 5 qd true 0 ∧ qd.v = 2 ∧ QPick qd qx 3 0 ∧ QEnter qx 3 1024 0 qE 9 ∧ QLeave qx 0 qE 0 8 ∧ qx.load = 2048 ∧ (∃ l, IsKeys qx l ∧ l.length = 2) ∧ RightQ qx := by
  have hw0 := whole_new 5 (by omega)
  have hr0 := right_new 5 mA
  have e0 : newQ 5 mA = ⟨⟨-1, List.replicate 5 nE⟩, -1, 0, mA, 0, List.replicate 5 0⟩ := newQ_ok 5 (by omega) mA
  rw [e0]
  generalize hq0 : (⟨⟨-1, List.replicate 5 nE⟩, -1, 0, mA, 0, List.replicate 5 0⟩ : Q) = q0 at *
  have c0 : q0.cur = -1 ∧ q0.mn = mA ∧ q0.load = 0 ∧ q0.ws = [0, 0, 0, 0, 0] ∧ q0.t.ns.length = 5 := by rw [← hq0]; exact ⟨rfl, rfl, rfl, rfl, rfl⟩
  have hw0' : Whole q0.t .L := by rw [← hq0]; exact hw0
  clear hq0 e0 hw0
  obtain ⟨ta, ba, ea, wa, ra, ka, la⟩ := enter_ex (id := 3) (x := 1024) (lag := 0) hw0' hr0 (fun k hk => by cases hk) ⟨by omega, by rw [c0.2.2.2.2]; omega⟩ ⟨by omega, by omega⟩ (here_no hw0' ⟨by omega, by rw [c0.2.2.2.2]; omega⟩ (by rw [c0.1]; decide))
  rw [c0.2.1] at ka
  have ka' : ba.keys = [(mA, 3)] := ka.trans (by decide +kernel)
  generalize hqa : ({ q0.weigh 3 1024 with t := ta } : Q) = qa at *
  have ca : qa.cur = -1 ∧ qa.mn = mA ∧ qa.load = 1024 ∧ qa.ws = [0, 0, 0, 1024, 0] ∧ qa.t.ns.length = 5 := by
    rw [← hqa]
    refine ⟨c0.1, c0.2.1, ?_, ?_, la.trans c0.2.2.2.2⟩
    · simp only [Q.weigh, Q.w, c0.2.2.1, c0.2.2.2.1]; rfl
    · simp only [Q.weigh, c0.2.2.2.1]; rfl
  have wa' : Whole qa.t ba := by rw [← hqa]; exact wa
  have hkA : Kin (mA, 3) := ⟨⟨by decide, by decide⟩, ⟨by decide, by decide⟩⟩
  have hkB : Kin (mA, 1) := ⟨⟨by decide, by decide⟩, ⟨by decide, by decide⟩⟩
  clear hqa wa
  obtain ⟨tb, bb, eb, wb, rb, kb, lb⟩ := enter_ex (id := 1) (x := 1024) (lag := 0) wa' ra (fun k hk => by rw [ka'] at hk; obtain rfl := List.mem_singleton.1 hk; exact hkA) ⟨by omega, by rw [ca.2.2.2.2]; omega⟩ ⟨by omega, by omega⟩ (here_no wa' ⟨by omega, by rw [ca.2.2.2.2]; omega⟩ (by rw [ca.1, ka']; decide))
  rw [ca.2.1, ka'] at kb
  have kb' : bb.keys = [(mA, 1), (mA, 3)] := kb.trans (by decide +kernel)
  generalize hqb : ({ qa.weigh 1 1024 with t := tb } : Q) = qb at *
  have cb : qb.cur = -1 ∧ qb.mn = mA ∧ qb.load = 2048 ∧ qb.ws = [0, 1024, 0, 1024, 0] ∧ qb.t.ns.length = 5 := by
    rw [← hqb]
    refine ⟨ca.1, ca.2.1, ?_, ?_, lb.trans ca.2.2.2.2⟩
    · simp only [Q.weigh, Q.w, ca.2.2.1, ca.2.2.2.1]; rfl
    · simp only [Q.weigh, ca.2.2.2.1]; rfl
  have wb' : Whole qb.t bb := by rw [← hqb]; exact wb
  clear hqb wb
  obtain ⟨xc, lc, tc, bc, ec, wc, kc, rc, nc, oc⟩ := pick_ex wb' rb (fun k hk => by rw [kb'] at hk; simp only [List.mem_cons, List.not_mem_nil, or_false] at hk; rcases hk with rfl | rfl; exact hkB; exact hkA) (by rcases rb.2.1 with h | h; rw [h.2]; exact ⟨by decide, by decide⟩; exact absurd h.1.1 (by rw [cb.1]; decide)) (by rw [kb']; simp)
  rw [if_pos cb.1, kb'] at oc
  obtain ⟨rfl, rfl⟩ := List.cons.inj oc
  generalize hqc : qb.take tc (mA, 1) [(mA, 3)] = qc at *
  have cc : qc.cur = 1 ∧ qc.v = mA ∧ qc.mn = mA ∧ qc.load = 2048 ∧ qc.ws = [0, 1024, 0, 1024, 0] ∧ qc.t.ns.length = 5 := by
    rw [← hqc]
    refine ⟨rfl, rfl, ?_, cb.2.2.1, cb.2.2.2.1, nc.trans cb.2.2.2.2⟩
    show upM qb.mn ([((mA, 3) : K)] ++ [(mA, 1)]) = mA
    rw [cb.2.1]; decide +kernel
  have wc' : Whole qc.t bc := by rw [← hqc]; exact wc
  clear hqc wc
  have hd5 : dlt 5 (qc.w qc.cur) = 5 := by
    have : qc.w qc.cur = 1024 := by unfold Q.w; rw [cc.1, cc.2.2.2.2.1]; rfl
    rw [this, dlt_eq 5 1024 (by omega) (by omega) (by omega) (by omega)]; decide
  have rd := tick_ex (s := 5) wc' rc ⟨by decide, by decide⟩ (by rw [cc.1]; decide)
  have ed : QTick qc 5 (qc.tick bc.keys 5) true 0 := by
    have := QTick.done (q := qc) (d := 5) ⟨bc, wc', rc⟩ ⟨by omega, by omega⟩ (by rw [cc.1]; decide) bc wc'
    rw [hd5] at this
    have e : (!bc.keys.isEmpty && ltK (qc.tick bc.keys 5).mn (bc.keys.headD (0, 0)) (stepN qc.v qc.mn 5, qc.cur)) = true := by
      unfold Q.tick
      rw [kc, cc.1, cc.2.1, cc.2.2.1]; dsimp only; decide +kernel
    rw [e] at this; exact this
  generalize hqd : qc.tick bc.keys 5 = qd at *
  have cd : qd.cur = 1 ∧ qd.v = 2 ∧ qd.mn = mA ∧ qd.load = 2048 ∧ qd.ws = [0, 1024, 0, 1024, 0] ∧ qd.t.ns.length = 5 := by
    rw [← hqd]
    refine ⟨cc.1, ?_, ?_, cc.2.2.2.1, cc.2.2.2.2.1, cc.2.2.2.2.2⟩
    · show stepN qc.v qc.mn 5 = 2
      rw [cc.2.1, cc.2.2.1]; decide +kernel
    · show upM qc.mn _ = _
      rw [kc, cc.1, cc.2.1, cc.2.2.1]; decide +kernel
  have wd : Whole qd.t bc := by rw [← hqd]; exact wc'
  clear hqd
  obtain ⟨xx, lx, tx, bx, ex, wx, kx, rx, nx, ox⟩ := pick_ex wd rd (fun k hk => by rw [kc] at hk; obtain rfl := List.mem_singleton.1 hk; exact hkA) (by rw [cd.2.1]; exact ⟨by decide, by decide⟩) (by rw [kc]; simp)
  rw [if_neg (by rw [cd.1]; decide), kc, cd.1, cd.2.1, cd.2.2.1] at ox
  obtain ⟨rfl, rfl⟩ : xx = (mA, 3) ∧ lx = [(2, 1)] := List.cons.inj (ox.trans (by decide +kernel))
  generalize hqx : qd.take tx (mA, 3) [(2, 1)] = qx at *
  have cx : qx.cur = 3 ∧ qx.load = 2048 ∧ qx.t.ns.length = 5 := by
    rw [← hqx]
    exact ⟨rfl, cd.2.2.2.1, nx.trans cd.2.2.2.2.2⟩
  have wx' : Whole qx.t bx := by rw [← hqx]; exact wx
  clear hqx wx
  have h3 : qx.t.has 3 := ⟨by omega, by rw [cx.2.2]; omega⟩
  have h0 : qx.t.has 0 := ⟨by omega, by rw [cx.2.2]; omega⟩
  refine ⟨qa, qb, qc, qd, qx, ea, eb, ec, cc.1, ed, cd.2.1, ex, .busy ⟨bx, wx', rx⟩ h3 ⟨by omega, by omega⟩ (by unfold Q.here; rw [cx.1]; simp), .idle ⟨bx, wx', rx⟩ h0 (here_no wx' h0 (by rw [cx.1, kx]; decide)), cx.2.1, ⟨_, .inl ⟨bx, wx', rx, rfl⟩, ?_⟩, ⟨bx, wx', rx⟩⟩
  rw [srtK_length, run_yes (by rw [cx.1]; decide), kx]
  rfl
end Go.Proofs.YtpmknpdnhfnfcaaGreatDoor
