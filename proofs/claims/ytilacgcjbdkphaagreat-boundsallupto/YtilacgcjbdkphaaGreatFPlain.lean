/- Forests as plain data, and what is right of a node by itself: no program in this text. -/
import Derived.WalkKit
namespace Go.Proofs.YtilacgcjbdkphaaGreat
open Go.RowKit

/-- An attribute. -/
structure AttrD where
  space : ByteArray
  pre : ByteArray
  loc : ByteArray
  val : ByteArray
/-- A node. -/
structure NodeD where
  kind : Nat
  space : ByteArray
  pre : ByteArray
  loc : ByteArray
  pub : ByteArray
  sys : ByteArray
  data : List Nat
  attrs : List AttrD
  parent : Int
  kids : List Int
  doc : Int
  host : Int
  shadow : Int
  mode : Nat
  manual : Bool
  html : Bool

def hasDataK (k : Nat) : Bool := k == 3 || k == 4 || k == 7 || k == 8
def mayBeTopK (k : Nat) : Bool := k == 9 || k == 11 || k == 12
def mayBeWithinK (k : Nat) : Bool := k == 1 || hasDataK k
def mayHangK (k : Nat) : Bool := mayBeWithinK k || k == 10
def knownK (k : Nat) : Bool := mayHangK k || mayBeTopK k
def hasKidsK (k : Nat) : Bool := k == 1 || mayBeTopK k
def hasLocalK (k : Nat) : Bool := k == 1 || k == 10 || k == 7

theorem beq_cast (x n : Nat) : ((x : Int) == (n : Int)) = (x == n) := by
  by_cases h : x = n
  · subst h; simp
  · have h' : ¬ (x : Int) = (n : Int) := by omega
    rw [beq_eq_false_iff_ne.2 h, beq_eq_false_iff_ne.2 h']

/-- Is a text empty? -/
def noneS (s : ByteArray) : Bool := s.data.toList == []
/-- Is a name one? -/
def goodNameD (sp p l : ByteArray) : Bool := !noneS l && (noneS p || !noneS sp) && (decide (sp.size ≤ 1024) && (decide (p.size ≤ 1024) && decide (l.size ≤ 1024)))
/-- Where the attribute of a namespace and a local name stands. -/
def attrAtD (l : List AttrD) (sp lo : ByteArray) : Option Nat := l.findIdx? fun a => a.space.data.toList == sp.data.toList && a.loc.data.toList == lo.data.toList
def attrOkD (l : List AttrD) (i : Nat) (a : AttrD) : Bool := goodNameD a.space a.pre a.loc && decide (a.val.size ≤ 4096) && (attrAtD (l.take i) a.space a.loc).isNone
def rightAttrsD (l : List AttrD) : Bool := decide (l.length ≤ 64) && (List.range l.length).all fun i => match l[i]? with
  | some a => attrOkD l i a
  | none => true
def bareD (n : NodeD) : Bool :=
  !(!(n.kind == 1) && !((noneS n.space && noneS n.pre) && n.attrs.length == 0 && n.shadow == 0)) &&
  !(!(n.kind == 10) && !(noneS n.pub && noneS n.sys)) &&
  !(!(n.kind == 12) && (!(n.host == 0) || !(n.mode == 0) || n.manual)) &&
  !(!(n.kind == 9) && n.html) &&
  !(!hasLocalK n.kind && !noneS n.loc) &&
  !(!hasDataK n.kind && decide (0 < n.data.length)) &&
  !(!hasKidsK n.kind && decide (0 < n.kids.length)) &&
  !(!mayHangK n.kind && !(n.parent == 0))
def rightNameD (n : NodeD) : Bool := !hasLocalK n.kind || goodNameD n.space n.pre n.loc
def rightModeD (n : NodeD) : Bool := !(n.kind == 12) || n.mode == 1 || n.mode == 2
def wellMadeD (n : NodeD) : Bool := knownK n.kind && bareD n && rightNameD n && rightAttrsD n.attrs && (decide (n.pub.size ≤ 1024) && decide (n.sys.size ≤ 1024)) && decide (n.data.length ≤ 16384) && rightModeD n
end Go.Proofs.YtilacgcjbdkphaaGreat
