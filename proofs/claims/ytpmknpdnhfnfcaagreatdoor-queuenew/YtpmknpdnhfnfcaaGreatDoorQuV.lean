/-
  Contract of the laws' awake.
-/
import Derived.Test.YtpmknpdnhfnfcaaGreatDoorQuU
import Derived.Test.YtpmknpdnhfnfcaaGreatDoorQyL
namespace Go.Proofs.YtpmknpdnhfnfcaaGreatDoor
open Go.RowKit Go.Sort Ky Wd Tn Tr Wg Qu

/-- A queue told, written out. -/
abbrev qa7 (q : Q) (a : Option Addr) (c : Nat) (d : Option Addr) (e : Nat) : Value := .agg #[.int .i64 q.t.root, .slice a q.t.ns.length c, .int .i64 q.cur, .int .u64 q.v, .int .u64 q.mn, .int .i64 q.load, .slice d q.ws.length e]
set_option maxRecDepth 100000 in
theorem New_s4 (n mn : Int) (hm : U mn) (q : Q) (e0 : Int) (hq : newQ n mn = q) (he : newE n = e0) (W : World) :
    Calls Tryz.prog 12 #[.int .i64 n, .int .u64 mn] W fun en w' => (∃ a c d e, en = .returned (.tuple #[.agg #[.int .i64 q.t.root, .slice a q.t.ns.length c, .int .i64 q.cur, .int .u64 q.v, .int .u64 q.mn, .int .i64 q.load, .slice d q.ws.length e], .int .i64 e0]) ∧ Qd w' q (.slice a q.t.ns.length c) (.slice d q.ws.length e)) ∧ Below W.heap.size W w' := by
  subst hq he
  refine (New_q n mn hm W).mono ?_
  rintro en w' ⟨⟨v', rfl, a, c, d, e, rfl, hd⟩, hb⟩
  exact ⟨⟨a, c, d, e, rfl, hd⟩, hb⟩
set_option maxRecDepth 100000 in
theorem Enter_s4 {q : Q} {a d : Option Addr} {n c m e : Nat} {W : World} (hT : Tab W) (hQ : Qd W q (.slice a n c) (.slice d m e)) {id x lag : Int} {q' : Q} {er : Int} (hE : QEnter q id x lag q' er) :
    Calls Tryz.prog 17 #[.agg #[.int .i64 q.t.root, .slice a n c, .int .i64 q.cur, .int .u64 q.v, .int .u64 q.mn, .int .i64 q.load, .slice d m e], .int .i64 id, .int .i64 x, .int .i64 lag] W fun en w' => (∃ a c d e, en = .returned (.tuple #[.agg #[.int .i64 q'.t.root, .slice a q'.t.ns.length c, .int .i64 q'.cur, .int .u64 q'.v, .int .u64 q'.mn, .int .i64 q'.load, .slice d q'.ws.length e], .int .i64 er]) ∧ Qd w' q' (.slice a q'.t.ns.length c) (.slice d q'.ws.length e)) ∧ Below W.heap.size W w' := by
  refine (Enter_q hT hQ hE).mono ?_
  rintro en w' ⟨⟨v', rfl, a, c, d, e, rfl, hd⟩, hb⟩
  exact ⟨⟨a, c, d, e, rfl, hd⟩, hb⟩
set_option maxRecDepth 100000 in
theorem Pick_s4 {q : Q} {a d : Option Addr} {n c m e : Nat} {W : World} (hT : Tab W) (hQ : Qd W q (.slice a n c) (.slice d m e)) {q' : Q} {z er : Int} (hE : QPick q q' z er) :
    Calls Tryz.prog 20 #[.agg #[.int .i64 q.t.root, .slice a n c, .int .i64 q.cur, .int .u64 q.v, .int .u64 q.mn, .int .i64 q.load, .slice d m e]] W fun en w' => (∃ a c d e, en = .returned (.tuple #[.agg #[.int .i64 q'.t.root, .slice a q'.t.ns.length c, .int .i64 q'.cur, .int .u64 q'.v, .int .u64 q'.mn, .int .i64 q'.load, .slice d q'.ws.length e], .int .i64 z, .int .i64 er]) ∧ Qd w' q' (.slice a q'.t.ns.length c) (.slice d q'.ws.length e)) ∧ Below W.heap.size W w' := by
  refine (Pick_q hT hQ hE).mono ?_
  rintro en w' ⟨⟨v', rfl, a, c, d, e, rfl, hd⟩, hb⟩
  exact ⟨⟨a, c, d, e, rfl, hd⟩, hb⟩
set_option maxRecDepth 100000 in
theorem Tick_s4 {q : Q} {a d : Option Addr} {n c m e : Nat} {W : World} (hT : Tab W) (hQ : Qd W q (.slice a n c) (.slice d m e)) {s : Int} {q' : Q} {z : Bool} {er : Int} (hE : QTick q s q' z er) :
    Calls Tryz.prog 21 #[.agg #[.int .i64 q.t.root, .slice a n c, .int .i64 q.cur, .int .u64 q.v, .int .u64 q.mn, .int .i64 q.load, .slice d m e], .int .i64 s] W fun en w' => (∃ a c d e, en = .returned (.tuple #[.agg #[.int .i64 q'.t.root, .slice a q'.t.ns.length c, .int .i64 q'.cur, .int .u64 q'.v, .int .u64 q'.mn, .int .i64 q'.load, .slice d q'.ws.length e], .bool z, .int .i64 er]) ∧ Qd w' q' (.slice a q'.t.ns.length c) (.slice d q'.ws.length e)) ∧ Below W.heap.size W w' := by
  refine (Tick_q hT hQ hE).mono ?_
  rintro en w' ⟨⟨v', rfl, a, c, d, e, rfl, hd⟩, hb⟩
  exact ⟨⟨a, c, d, e, rfl, hd⟩, hb⟩
set_option maxRecDepth 100000 in
theorem Leave_s4 {q : Q} {a d : Option Addr} {n c m e : Nat} {W : World} (hT : Tab W) (hQ : Qd W q (.slice a n c) (.slice d m e)) {id : Int} {q' : Q} {z er : Int} (hE : QLeave q id q' z er) (hne : er ≠ 0) :
    Calls Tryz.prog 18 #[.agg #[.int .i64 q.t.root, .slice a n c, .int .i64 q.cur, .int .u64 q.v, .int .u64 q.mn, .int .i64 q.load, .slice d m e], .int .i64 id] W fun en w' => (∃ a c d e, en = .returned (.tuple #[.agg #[.int .i64 q'.t.root, .slice a q'.t.ns.length c, .int .i64 q'.cur, .int .u64 q'.v, .int .u64 q'.mn, .int .i64 q'.load, .slice d q'.ws.length e], .int .i64 z, .int .i64 er]) ∧ Qd w' q' (.slice a q'.t.ns.length c) (.slice d q'.ws.length e)) ∧ Below W.heap.size W w' := by
  refine (Leave_no hT hQ hE hne).mono ?_
  rintro en w' ⟨⟨v', rfl, a, c, d, e, rfl, hd⟩, hb⟩
  exact ⟨⟨a, c, d, e, rfl, hd⟩, hb⟩
/-- A queue in a box, and what lies behind it. -/
structure Bx7 (w : World) (p : Nat) (q : Q) (a : Option Addr) (c : Nat) (d : Option Addr) (e : Nat) : Prop where
  qb : Qb w p q (.slice a q.t.ns.length c) (.slice d q.ws.length e)
  qd : Qd w q (.slice a q.t.ns.length c) (.slice d q.ws.length e)
theorem Bx7.below {w w' : World} {p : Nat} {q : Q} {a d : Option Addr} {c e : Nat} (h : Bx7 w p q a c d e) (hb : Below w.heap.size w w') : Bx7 w' p q a c d e := ⟨h.qb.below hb h.qb.lt, h.qd.below hb⟩
theorem Bx7.new {w : World} {q : Q} {a d : Option Addr} {c e : Nat} (h : Qd w q (.slice a q.t.ns.length c) (.slice d q.ws.length e)) : Bx7 (w.alloc (.cells #[.int .i64 q.t.root, .slice a q.t.ns.length c, .int .i64 q.cur, .int .u64 q.v, .int .u64 q.mn, .int .i64 q.load, .slice d q.ws.length e] 28)) w.heap.size q a c d e := ⟨Qb.new w q _ _, h.below (Gr.alloc _ _).below⟩

set_option maxRecDepth 100000 in
set_option maxHeartbeats 8000000 in
theorem awake_q (W : World) (hT : Tab W) : Calls Tryz.prog 10 #[] W fun e w' => e = .returned (.bool true) ∧ Below W.heap.size W w' := by
  obtain ⟨qa, qb, qc, qd, qx, ea, eb, ec, cc, ed, cd, ex, ebu, eid, cl, ⟨lk, hk, hkl⟩, hrx⟩ := awake_ex
  obtain ⟨q0, hq0⟩ : ∃ q0, newQ 5 mA = q0 := ⟨_, rfl⟩
  obtain ⟨qz, hqz⟩ : ∃ qz, qE = qz := ⟨_, rfl⟩
  rw [hq0] at ea
  rw [hqz] at ebu eid
  have HT := Lib.hid hT
  have HE0 := Lib.hid ea
  have HE1 := Lib.hid eb
  have HE2 := Lib.hid ec
  have HE3 := Lib.hid ed
  have HE4 := Lib.hid ex
  have HE5 := Lib.hid ebu
  have HE6 := Lib.hid eid
  have HFC := Lib.hid (And.intro cc (And.intro cd cl))
  have HKS := Lib.hid hk
  have HKL := Lib.hid hkl
  have HRX := Lib.hid hrx
  have HC := Lib.hid (New_s4 5 mA ⟨by decide, by decide⟩ q0 0 hq0 rfl W)
  unfold mA at HC
  clear ea eb ec ed ex ebu eid cc cd cl hk hkl hrx hT hq0 hqz
  go_enter Tryz.func10, Tryz.ntmps10
  go_wp2_with fail
  refine HC.out.mono ?_
  rintro e' u0 ⟨⟨a0, c0, d0, e0, rfl, hd⟩, hb⟩
  have HN := Lib.hid (Bx7.new hd)
  have HA := Lib.hid (hb.alloc hb.size (.cells #[.int .i64 q0.t.root, .slice a0 q0.t.ns.length c0, .int .i64 q0.cur, .int .u64 q0.v, .int .u64 q0.mn, .int .i64 q0.load, .slice d0 q0.ws.length e0] 28))
  have HB' := Lib.hid (HA.out)
  clear hd hb HC HA
  go_upto_region 2 with fail
  generalize u0.heap.size = p0 at HN ⊢
  generalize u0.alloc (.cells #[.int .i64 q0.t.root, .slice a0 q0.t.ns.length c0, .int .i64 q0.cur, .int .u64 q0.v, .int .u64 q0.mn, .int .i64 q0.load, .slice d0 q0.ws.length e0] 28) = w0 at HN HB'  ⊢
  have HB := HB'
  have HL0 := HN
  clear HB' HN
  obtain ⟨g0, g1, g2, g3, g4, g5, g6⟩ := HL0.out.qb.all
  have HC := Lib.hid (Enter_s4 (HT.out.below HB.out) HL0.out.qd HE0.out)
  go_wp2_with fail
  refine HC.out.mono ?_
  rintro e' u1 ⟨⟨a1, c1, d1, e1, rfl, hd⟩, hb⟩
  have HN := Lib.hid (Bx7.new hd)
  have HA := Lib.hid (hb.alloc hb.size (.cells #[.int .i64 qa.t.root, .slice a1 qa.t.ns.length c1, .int .i64 qa.cur, .int .u64 qa.v, .int .u64 qa.mn, .int .i64 qa.load, .slice d1 qa.ws.length e1] 28))
  have HL0' := Lib.hid (HL0.out.below HA.out)
  have HB' := Lib.hid (HB.out.trans (HA.out.mono HB.out.size))
  clear hd hb HC HA HB HL0
  clear g0 g1 g2 g3 g4 g5 g6
  go_upto_region 3 with fail
  generalize u1.heap.size = p1 at HN ⊢
  generalize u1.alloc (.cells #[.int .i64 qa.t.root, .slice a1 qa.t.ns.length c1, .int .i64 qa.cur, .int .u64 qa.v, .int .u64 qa.mn, .int .i64 qa.load, .slice d1 qa.ws.length e1] 28) = w1 at HN HB' HL0' ⊢
  have HB := HB'
  have HL1 := HN
  have HL0 := HL0'
  clear HB' HN HL0'
  clear HL0
  obtain ⟨g0, g1, g2, g3, g4, g5, g6⟩ := HL1.out.qb.all
  have HC := Lib.hid (Enter_s4 (HT.out.below HB.out) HL1.out.qd HE1.out)
  go_wp2_with fail
  refine HC.out.mono ?_
  rintro e' u2 ⟨⟨a2, c2, d2, e2, rfl, hd⟩, hb⟩
  have HN := Lib.hid (Bx7.new hd)
  have HA := Lib.hid (hb.alloc hb.size (.cells #[.int .i64 qb.t.root, .slice a2 qb.t.ns.length c2, .int .i64 qb.cur, .int .u64 qb.v, .int .u64 qb.mn, .int .i64 qb.load, .slice d2 qb.ws.length e2] 28))
  have HL1' := Lib.hid (HL1.out.below HA.out)
  have HB' := Lib.hid (HB.out.trans (HA.out.mono HB.out.size))
  clear hd hb HC HA HB HL1
  clear g0 g1 g2 g3 g4 g5 g6
  go_upto_region 4 with fail
  generalize u2.heap.size = p2 at HN ⊢
  generalize u2.alloc (.cells #[.int .i64 qb.t.root, .slice a2 qb.t.ns.length c2, .int .i64 qb.cur, .int .u64 qb.v, .int .u64 qb.mn, .int .i64 qb.load, .slice d2 qb.ws.length e2] 28) = w2 at HN HB' HL1' ⊢
  have HB := HB'
  have HL2 := HN
  have HL1 := HL1'
  clear HB' HN HL1'
  clear HL1
  obtain ⟨g0, g1, g2, g3, g4, g5, g6⟩ := HL2.out.qb.all
  have HC := Lib.hid (Pick_s4 (HT.out.below HB.out) HL2.out.qd HE2.out)
  go_wp2_with fail
  refine HC.out.mono ?_
  rintro e' u3 ⟨⟨a3, c3, d3, e3, rfl, hd⟩, hb⟩
  have HN := Lib.hid (Bx7.new hd)
  have HA := Lib.hid (hb.alloc hb.size (.cells #[.int .i64 qc.t.root, .slice a3 qc.t.ns.length c3, .int .i64 qc.cur, .int .u64 qc.v, .int .u64 qc.mn, .int .i64 qc.load, .slice d3 qc.ws.length e3] 28))
  have HL2' := Lib.hid (HL2.out.below HA.out)
  have HB' := Lib.hid (HB.out.trans (HA.out.mono HB.out.size))
  clear hd hb HC HA HB HL2
  clear g0 g1 g2 g3 g4 g5 g6
  go_upto_region 5 with fail
  generalize u3.heap.size = p3 at HN ⊢
  generalize u3.alloc (.cells #[.int .i64 qc.t.root, .slice a3 qc.t.ns.length c3, .int .i64 qc.cur, .int .u64 qc.v, .int .u64 qc.mn, .int .i64 qc.load, .slice d3 qc.ws.length e3] 28) = w3 at HN HB' HL2' ⊢
  have HB := HB'
  have HL3 := HN
  have HL2 := HL2'
  clear HB' HN HL2'
  clear HL2
  obtain ⟨g0, g1, g2, g3, g4, g5, g6⟩ := HL3.out.qb.all
  have HC := Lib.hid (Tick_s4 (HT.out.below HB.out) HL3.out.qd HE3.out)
  go_wp2_with fail
  refine HC.out.mono ?_
  rintro e' u4 ⟨⟨a4, c4, d4, e4, rfl, hd⟩, hb⟩
  have HN := Lib.hid (Bx7.new hd)
  have HA := Lib.hid (hb.alloc hb.size (.cells #[.int .i64 qd.t.root, .slice a4 qd.t.ns.length c4, .int .i64 qd.cur, .int .u64 qd.v, .int .u64 qd.mn, .int .i64 qd.load, .slice d4 qd.ws.length e4] 28))
  have HL3' := Lib.hid (HL3.out.below HA.out)
  have HB' := Lib.hid (HB.out.trans (HA.out.mono HB.out.size))
  clear hd hb HC HA HB HL3
  clear g0 g1 g2 g3 g4 g5 g6
  go_upto_region 6 with fail
  generalize u4.heap.size = p4 at HN ⊢
  generalize u4.alloc (.cells #[.int .i64 qd.t.root, .slice a4 qd.t.ns.length c4, .int .i64 qd.cur, .int .u64 qd.v, .int .u64 qd.mn, .int .i64 qd.load, .slice d4 qd.ws.length e4] 28) = w4 at HN HB' HL3' ⊢
  have HB := HB'
  have HL4 := HN
  have HL3 := HL3'
  clear HB' HN HL3'
  obtain ⟨g0, g1, g2, g3, g4, g5, g6⟩ := HL4.out.qb.all
  have HC := Lib.hid (Pick_s4 (HT.out.below HB.out) HL4.out.qd HE4.out)
  go_wp2_with fail
  refine HC.out.mono ?_
  rintro e' u5 ⟨⟨a5, c5, d5, e5, rfl, hd⟩, hb⟩
  have HN := Lib.hid (Bx7.new hd)
  have HA := Lib.hid (hb.alloc hb.size (.cells #[.int .i64 qx.t.root, .slice a5 qx.t.ns.length c5, .int .i64 qx.cur, .int .u64 qx.v, .int .u64 qx.mn, .int .i64 qx.load, .slice d5 qx.ws.length e5] 28))
  have HL3' := Lib.hid (HL3.out.below HA.out)
  have HL4' := Lib.hid (HL4.out.below HA.out)
  have HB' := Lib.hid (HB.out.trans (HA.out.mono HB.out.size))
  clear hd hb HC HA HB HL3 HL4
  clear g0 g1 g2 g3 g4 g5 g6
  go_upto_region 7 with fail
  generalize u5.heap.size = p5 at HN ⊢
  generalize u5.alloc (.cells #[.int .i64 qx.t.root, .slice a5 qx.t.ns.length c5, .int .i64 qx.cur, .int .u64 qx.v, .int .u64 qx.mn, .int .i64 qx.load, .slice d5 qx.ws.length e5] 28) = w5 at HN HB' HL3' HL4' ⊢
  have HB := HB'
  have HL5 := HN
  have HL3 := HL3'
  have HL4 := HL4'
  clear HB' HN HL3' HL4'
  obtain ⟨g0, g1, g2, g3, g4, g5, g6⟩ := HL5.out.qb.all
  have HC := Lib.hid (Enter_s4 (HT.out.below HB.out) HL5.out.qd HE5.out)
  go_wp2_with fail
  refine HC.out.mono ?_
  rintro e' u6 ⟨⟨a6, c6, d6, e6, rfl, hd⟩, hb⟩
  have HN := Lib.hid (Bx7.new hd)
  have HA := Lib.hid (hb.alloc hb.size (.cells #[.int .i64 qz.t.root, .slice a6 qz.t.ns.length c6, .int .i64 qz.cur, .int .u64 qz.v, .int .u64 qz.mn, .int .i64 qz.load, .slice d6 qz.ws.length e6] 28))
  have HL3' := Lib.hid (HL3.out.below HA.out)
  have HL4' := Lib.hid (HL4.out.below HA.out)
  have HL5' := Lib.hid (HL5.out.below HA.out)
  have HB' := Lib.hid (HB.out.trans (HA.out.mono HB.out.size))
  clear hd hb HC HA HB HL3 HL4 HL5
  clear g0 g1 g2 g3 g4 g5 g6
  go_upto_region 8 with fail
  generalize u6.heap.size = p6 at HN ⊢
  generalize u6.alloc (.cells #[.int .i64 qz.t.root, .slice a6 qz.t.ns.length c6, .int .i64 qz.cur, .int .u64 qz.v, .int .u64 qz.mn, .int .i64 qz.load, .slice d6 qz.ws.length e6] 28) = w6 at HN HB' HL3' HL4' HL5' ⊢
  have HB := HB'
  have HL6 := HN
  have HL3 := HL3'
  have HL4 := HL4'
  have HL5 := HL5'
  clear HB' HN HL3' HL4' HL5'
  clear HL6
  obtain ⟨g0, g1, g2, g3, g4, g5, g6⟩ := HL5.out.qb.all
  have HC := Lib.hid (Leave_s4 (HT.out.below HB.out) HL5.out.qd HE6.out (by decide))
  go_wp2_with fail
  refine HC.out.mono ?_
  rintro e' u7 ⟨⟨a7, c7, d7, e7, rfl, hd⟩, hb⟩
  have HN := Lib.hid (Bx7.new hd)
  have HA := Lib.hid (hb.alloc hb.size (.cells #[.int .i64 qz.t.root, .slice a7 qz.t.ns.length c7, .int .i64 qz.cur, .int .u64 qz.v, .int .u64 qz.mn, .int .i64 qz.load, .slice d7 qz.ws.length e7] 28))
  have HL3' := Lib.hid (HL3.out.below HA.out)
  have HL4' := Lib.hid (HL4.out.below HA.out)
  have HL5' := Lib.hid (HL5.out.below HA.out)
  have HB' := Lib.hid (HB.out.trans (HA.out.mono HB.out.size))
  clear hd hb HC HA HB HL3 HL4 HL5
  clear g0 g1 g2 g3 g4 g5 g6
  go_upto_region 9 with fail
  generalize u7.heap.size = p7 at HN ⊢
  generalize u7.alloc (.cells #[.int .i64 qz.t.root, .slice a7 qz.t.ns.length c7, .int .i64 qz.cur, .int .u64 qz.v, .int .u64 qz.mn, .int .i64 qz.load, .slice d7 qz.ws.length e7] 28) = w7 at HN HB' HL3' HL4' HL5' ⊢
  have HB := HB'
  have HL7 := HN
  have HL3 := HL3'
  have HL4 := HL4'
  have HL5 := HL5'
  clear HB' HN HL3' HL4' HL5'
  clear HL7
  obtain ⟨f0, f1, f2, f3, f4, f5, f6⟩ := HL3.out.qb.all
  obtain ⟨k0, k1, k2, k3, k4, k5, k6⟩ := HL4.out.qb.all
  obtain ⟨g0, g1, g2, g3, g4, g5, g6⟩ := HL5.out.qb.all
  have m2 := f2
  have m3 := k3
  have m5 := g5
  rw [HFC.out.1] at m2
  rw [HFC.out.2.1] at m3
  clear f0 f1 f2 f3 f4 f5 f6 k0 k1 k2 k3 k4 k5 k6
  have HC := Lib.hid (Keys_q (HT.out.below HB.out) HL5.out.qd HKS.out)
  unfold qv at HC
  have hl : (qx.load == 2048) = true := by rw [HFC.out.2.2]; rfl
  go_wp2_with fail
  refine HC.out.mono ?_
  rintro e' u8 ⟨⟨vs, rfl, hk⟩, hb⟩
  obtain ⟨ak, ck, rfl, -, -, -⟩ := hk
  rw [HKL.out]
  have HL5' := Lib.hid (HL5.out.below hb)
  have HB' := Lib.hid (HB.out.trans (hb.mono HB.out.size))
  clear hb HC HL5 HB HL3 HL4 m2 m3 m5 g0 g1 g2 g3 g4 g5 g6
  obtain ⟨g0, g1, g2, g3, g4, g5, g6⟩ := HL5'.out.qb.all
  have HC := Lib.hid (Right_q (HT.out.below HB'.out) HL5'.out.qd true ⟨fun _ => HRX.out, fun _ => rfl⟩)
  unfold qv at HC
  go_wp2_with fail
  refine HC.out.mono ?_
  rintro e' u9 ⟨rfl, hb⟩
  have HB := Lib.hid (HB'.out.trans (hb.mono HB'.out.size))
  clear hb HC g0 g1 g2 g3 g4 g5 g6
  go_wp2
  go_ret
  exact ⟨rfl, HB.out⟩
end Go.Proofs.YtpmknpdnhfnfcaaGreatDoor
