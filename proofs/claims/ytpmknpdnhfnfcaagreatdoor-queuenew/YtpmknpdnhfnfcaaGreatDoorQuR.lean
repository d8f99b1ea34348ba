/-
  Plain facts on queues: what each call of layer 12 tells, as a relation.
-/
import Derived.Test.YtpmknpdnhfnfcaaGreatDoorTwP
import Derived.Test.YtpmknpdnhfnfcaaGreatDoorPlA
namespace Go.Proofs.YtpmknpdnhfnfcaaGreatDoor
namespace Qu
open Wd Tn Ky Tr Wg

inductive QEnter (q : Q) (id w lag : Int) : Q → Int → Prop
  | order (h : ¬ RightQ q) : QEnter q id w lag qE 4
  | arg (h : RightQ q) (ha : ¬ q.t.has id ∨ ¬ wOkN w) : QEnter q id w lag qE 1
  | busy (h : RightQ q) (ha : q.t.has id) (hw : wOkN w) (hh : q.here id = true) : QEnter q id w lag qE 9
  | done (h : RightQ q) (ha : q.t.has id) (hw : wOkN w) (hh : q.here id = false) (t' : T) (hI : Ins q.mn (atN q.mn (clampN lag (-1048576) mx), id) q.t t' 0) : QEnter q id w lag { q.weigh id w with t := t' } 0
inductive QLeave (q : Q) (id : Int) : Q → Int → Int → Prop
  | order (h : ¬ RightQ q) : QLeave q id qE 0 4
  | arg (h : RightQ q) (ha : ¬ q.t.has id) : QLeave q id qE 0 1
  | idle (h : RightQ q) (ha : q.t.has id) (hh : q.here id = false) : QLeave q id qE 0 8
  | cur (h : RightQ q) (ha : q.t.has id) (hc : id = q.cur) : QLeave q id (q.weigh id 0).stop (lagN q.v q.mn) 0
  | tree (h : RightQ q) (ha : q.t.has id) (hc : id ≠ q.cur) (hi : (q.t.nd id).inn = true) (t' : T) (hD : Del q.mn id q.t t' 0) : QLeave q id { q.weigh id 0 with t := t' } (lagN (q.t.nd id).v q.mn) 0
inductive QPut (q : Q) : Q → Int → Int → Prop
  | order (h : ¬ RightQ q) : QPut q qE 0 4
  | idle (h : RightQ q) (hc : q.cur = -1) : QPut q qE 0 8
  | done (h : RightQ q) (hc : q.cur ≠ -1) (t' : T) (hI : Ins q.mn (q.v, q.cur) q.t t' 0) : QPut q { q with t := t' }.stop q.cur 0
inductive QPick (q : Q) : Q → Int → Int → Prop
  | order (h : ¬ RightQ q) : QPick q qE 0 4
  | idle (h : RightQ q) (hc : q.cur = -1) (hb : Whole q.t .L) : QPick q qE 0 8
  | one (h : RightQ q) (hc : q.cur = -1) (b : B) (hb : Whole q.t b) (x : K) (l : List K) (hx : b.keys = x :: l) (t' : T) (hD : Del q.mn x.2 q.t t' 0) (b' : B) (hb' : Whole t' b') : QPick q (q.take t' x b'.keys) x.2 0
  | two (h : RightQ q) (hc : q.cur ≠ -1) (t1 : T) (hI : Ins q.mn (q.v, q.cur) q.t t1 0) (b : B) (hb : Whole t1 b) (x : K) (l : List K) (hx : b.keys = x :: l) (t' : T) (hD : Del q.mn x.2 t1 t' 0) (b' : B) (hb' : Whole t' b') : QPick q (q.take t' x b'.keys) x.2 0
inductive QTick (q : Q) (d : Int) : Q → Bool → Int → Prop
  | order (h : ¬ RightQ q) : QTick q d qE false 4
  | arg (h : RightQ q) (hd : ¬ (0 ≤ d ∧ d ≤ 1099511627776)) : QTick q d qE false 1
  | idle (h : RightQ q) (hd : 0 ≤ d ∧ d ≤ 1099511627776) (hc : q.cur = -1) : QTick q d qE false 8
  | done (h : RightQ q) (hd : 0 ≤ d ∧ d ≤ 1099511627776) (hc : q.cur ≠ -1) (b : B) (hb : Whole q.t b) : QTick q d (q.tick b.keys (dlt d (q.w q.cur)))
      (!b.keys.isEmpty && ltK (q.tick b.keys (dlt d (q.w q.cur))).mn (b.keys.headD (0, 0)) (stepN q.v q.mn (dlt d (q.w q.cur)), q.cur)) 0
inductive QWeigh (q : Q) (id w : Int) : Q → Int → Prop
  | order (h : ¬ RightQ q) : QWeigh q id w qE 4
  | arg (h : RightQ q) (ha : ¬ q.t.has id ∨ ¬ wOkN w) : QWeigh q id w qE 1
  | idle (h : RightQ q) (ha : q.t.has id) (hw : wOkN w) (hh : q.here id = false) : QWeigh q id w qE 8
  | done (h : RightQ q) (ha : q.t.has id) (hw : wOkN w) (hh : q.here id = true) : QWeigh q id w (q.weigh id w) 0
end Qu
end Go.Proofs.YtpmknpdnhfnfcaaGreatDoor
