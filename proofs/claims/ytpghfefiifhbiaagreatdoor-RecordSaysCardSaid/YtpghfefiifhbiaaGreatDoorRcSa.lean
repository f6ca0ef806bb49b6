/-
  What RecordSays holds in memory; its contracts over it.
-/
import Derived.Test.YtpghfefiifhbiaaGreatDoorRcCl
import Derived.Test.YtpghfefiifhbiaaGreatDoorRcO
import Derived.Test.YtpghfefiifhbiaaGreatDoorRcOr
import Derived.Test.YtpghfefiifhbiaaGreatDoorRcN
import Derived.Test.YtpghfefiifhbiaaGreatDoorRcTx
import Derived.Test.YtpghfefiifhbiaaGreatDoorRcRi
import Derived.Test.YtpghfefiifhbiaaGreatDoorLgp
import Derived.Test.YtpghfefiifhbiaaGreatDoorLight
namespace Go.Proofs.YtpghfefiifhbiaaGreatDoor
open Go.RowKit Go.Sort

theorem RcV.below {w w' : World} {v : Value} {r : Rcd} (h : RcV w v r) (hb : Below w.heap.size w w') : RcV w' v r := by
  obtain ⟨A0, n0, c0, A1, n1, c1, A2, n2, c2, e, h0, h1, h2⟩ := h
  exact ⟨A0, n0, c0, A1, n1, c1, A2, n2, c2, e, h0.belowS hb, h1.belowS hb, h2.belowS hb⟩
theorem dec3 (r r' : Rcd) : (decide (r.1 = r'.1) && decide (r.2.1 = r'.2.1) && decide (r.2.2 = r'.2.2)) = decide (r = r') := by
  obtain ⟨a, b, c⟩ := r
  obtain ⟨a', b', c'⟩ := r'
  simp [Prod.ext_iff, Bool.and_assoc]
def BoP (b : Bool) (w : World) (e : Ending) (w' : World) : Prop := e = .returned (.bool b) ∧ Below w.heap.size w w'
theorem sameR_V {w : World} {v v' : Value} {r r' : Rcd} (h : RcV w v r) (h' : RcV w v' r') : Calls Tryz.prog 8 #[v, v'] w (BoP (decide (r = r')) w) := by
  obtain ⟨A0, n0, c0, A1, n1, c1, A2, n2, c2, rfl, h0, h1, h2⟩ := h
  obtain ⟨B0, m0, d0, B1, m1, d1, B2, m2, d2, rfl, k0, k1, k2⟩ := h'
  rw [← dec3]
  exact sameR_gen _ _ _ _ _ _ _ _ _ _ _ _ _ _ _ _ _ _ _ _ _ _ _ _ w h0 h1 h2 k0 k1 k2
theorem recSame_V {w : World} {v v' : Value} {r r' : Rcd} (h : RcV w v r) (h' : RcV w v' r') : Calls Tryz.prog 11 #[v, v'] w (BoP (decide (r = r')) w) := by
  obtain ⟨A0, n0, c0, A1, n1, c1, A2, n2, c2, rfl, h0, h1, h2⟩ := h
  obtain ⟨B0, m0, d0, B1, m1, d1, B2, m2, d2, rfl, k0, k1, k2⟩ := h'
  rw [← dec3]
  exact recSame_any _ _ _ _ _ _ _ _ _ _ _ _ _ _ _ _ _ _ _ _ _ _ _ _ w h0 h1 h2 k0 k1 k2

/-- The arguments. -/
structure Rsx where
  (At An Ac AL AO A0 A1 A2 B0 B1 B2 : Option Addr)
  (nt ct nn cn nc cc nL cL nO cO n0 c0 n1 c1 n2 c2 m0 e0 m1 e1 m2 e2 : Nat)
  ph : Bool
  (tg nd cm : List ByteArray)
  (l out : List F)
  (a b : Rcd)
def Rsx.gv (d : Rsx) : Array Value := #[.slice d.At d.nt d.ct, .slice d.An d.nn d.cn, .slice d.Ac d.nc d.cc, .bool d.ph]
def Rsx.av (d : Rsx) : Array Value := #[.slice d.A0 d.n0 d.c0, .slice d.A1 d.n1 d.c1, .slice d.A2 d.n2 d.c2]
def Rsx.bv (d : Rsx) : Array Value := #[.slice d.B0 d.m0 d.e0, .slice d.B1 d.m1 d.e1, .slice d.B2 d.m2 d.e2]
structure RsR (d : Rsx) (W : World) : Prop where
  tg : RdS W W.heap.size d.At d.nt d.ct d.tg
  nd : RdS W W.heap.size d.An d.nn d.cn d.nd
  cm : RdS W W.heap.size d.Ac d.nc d.cc d.cm
  l : RdF W W.heap.size d.AL d.nL d.cL d.l
  out : RdF W W.heap.size d.AO d.nO d.cO d.out
  a0 : RdS W W.heap.size d.A0 d.n0 d.c0 d.a.1
  a1 : RdF W W.heap.size d.A1 d.n1 d.c1 d.a.2.1
  a2 : RdF W W.heap.size d.A2 d.n2 d.c2 d.a.2.2
  b0 : RdS W W.heap.size d.B0 d.m0 d.e0 d.b.1
  b1 : RdF W W.heap.size d.B1 d.m1 d.e1 d.b.2.1
  b2 : RdF W W.heap.size d.B2 d.m2 d.e2 d.b.2.2
  env : Env W
theorem RsR.below {d : Rsx} {W W' : World} (h : RsR d W) (hb : Below W.heap.size W W') : RsR d W' :=
  ⟨h.tg.belowS hb, h.nd.belowS hb, h.cm.belowS hb, h.l.belowS hb, h.out.belowS hb, h.a0.belowS hb, h.a1.belowS hb, h.a2.belowS hb, h.b0.belowS hb, h.b1.belowS hb, h.b2.belowS hb, h.env.below hb⟩
structure RsW (d : Rsx) (n : Nat) (W : World) : Prop extends RsR d W where
  g : Blk W n tGr d.gv
  ab : Blk W (n + 1) tRec d.av
  bb : Blk W (n + 2) tRec d.bv
theorem RsW.below {d : Rsx} {n : Nat} {W W' : World} (h : RsW d n W) (hb : Below W.heap.size W W') : RsW d n W' :=
  { h.toRsR.below hb with g := (hb.block _ h.g.lt).trans h.g, ab := (hb.block _ h.ab.lt).trans h.ab, bb := (hb.block _ h.bb.lt).trans h.bb }
theorem RsW.drewN {d : Rsx} {n : Nat} {W : World} (h : RsW d n W) (q : Nat) : RsW d n (W.drewN q) := h.below (below_drews' W q)
theorem RsW.start {d : Rsx} {w : World} (h : RsR d w) : RsW d w.heap.size (((w.alloc (.cells d.gv tGr)).alloc (.cells d.av tRec)).alloc (.cells d.bv tRec)) := by
  have hb : Below w.heap.size w (((w.alloc (.cells d.gv tGr)).alloc (.cells d.av tRec)).alloc (.cells d.bv tRec)) := (((Below.refl _ w).alloc (Nat.le_refl _) _).alloc (by simp) _).alloc (by simp; omega) _
  have s1 : (w.alloc (.cells d.gv tGr)).heap.size = w.heap.size + 1 := by simp
  have s2 : ((w.alloc (.cells d.gv tGr)).alloc (.cells d.av tRec)).heap.size = w.heap.size + 2 := by simp
  have p1 := (Blk.new (w.alloc (.cells d.gv tGr)) tRec d.av).alloc (.cells d.bv tRec)
  have p2 := Blk.new ((w.alloc (.cells d.gv tGr)).alloc (.cells d.av tRec)) tRec d.bv
  rw [s1] at p1
  rw [s2] at p2
  exact { h.below hb with g := ((Blk.new w tGr d.gv).alloc _).alloc _, ab := p1, bb := p2 }
theorem RsR.ra {d : Rsx} {W : World} (h : RsR d W) : RcV W (.agg #[.slice d.A0 d.n0 d.c0, .slice d.A1 d.n1 d.c1, .slice d.A2 d.n2 d.c2]) d.a := ⟨_, _, _, _, _, _, _, _, _, rfl, h.a0, h.a1, h.a2⟩
theorem RsR.rb {d : Rsx} {W : World} (h : RsR d W) : RcV W (.agg #[.slice d.B0 d.m0 d.e0, .slice d.B1 d.m1 d.e1, .slice d.B2 d.m2 d.e2]) d.b := ⟨_, _, _, _, _, _, _, _, _, rfl, h.b0, h.b1, h.b2⟩
/-- What is light. -/
structure Rsl (d : Rsx) : Prop where
  nd : ShortT d.nd 5 20
  cm : ShortT d.cm 5 100
  l : Lit d.l
  out : Lit d.out
  a : LitR d.a.1 d.a.2.1 d.a.2.2
theorem RsR.of {d : Rsx} {W : World} (h : RsR d W) (s : Rsl d) : Calls Tryz.prog 9 #[.agg #[.slice d.At d.nt d.ct, .slice d.An d.nn d.cn, .slice d.Ac d.nc d.cc, .bool d.ph], .slice d.AL d.nL d.cL, .slice d.AO d.nO d.cO] W (OfP (d.cm, ndR d.l d.nd, d.out) W) :=
  recOf_any _ _ _ _ _ _ _ _ _ _ _ _ _ _ _ _ d.tg d.nd d.cm d.l d.out W h.nd h.cm h.l h.out s.l.2.1 (by have := h.nd.1; have := s.nd.1; omega) (by have := h.cm.1; have := s.cm.1; omega) (by have := h.l.1; have := s.l.1; omega) (by have := h.out.1; have := s.out.1; omega)
theorem RsR.rof {d : Rsx} {W : World} (h : RsR d W) (s : Rsl d) : Calls Tryz.prog 10 #[.agg #[.slice d.At d.nt d.ct, .slice d.An d.nn d.cn, .slice d.Ac d.nc d.cc, .bool d.ph], .slice d.AL d.nL d.cL, .slice d.AO d.nO d.cO] W (OfP (d.cm, ndR d.l d.nd, d.out) W) :=
  refOf_any _ _ _ _ _ _ _ _ _ _ _ _ _ _ _ _ d.nd d.cm d.l d.out W h.nd h.cm h.l h.out (by have := h.nd.1; have := s.nd.1; omega) (by have := h.l.1; have := s.l.1; omega)
def StrP (x : ByteArray) (w : World) (e : Ending) (w' : World) : Prop := e = .returned (.string x) ∧ Below w.heap.size w w'
theorem Rsl.shr {d : Rsx} (s : Rsl d) : ShrtT d.a.1 ∧ Shrt d.a.2.1 ∧ Shrt d.a.2.2 := by
  obtain ⟨h0, h1, h2, h3, h4⟩ := s.a
  exact ⟨⟨by have := h0.1; omega, fun x hx => by have := h0.2 x hx; omega⟩, ⟨by omega, fun f hf => by have := h3 f hf; omega⟩, ⟨by omega, fun f hf => by have := h4 f hf; omega⟩⟩
theorem RsR.text {d : Rsx} {W : World} (h : RsR d W) (s : Rsl d) : Calls Tryz.prog 12 #[.agg #[.slice d.A0 d.n0 d.c0, .slice d.A1 d.n1 d.c1, .slice d.A2 d.n2 d.c2]] W (StrP (ba (recL d.a)) W) :=
  text_any _ _ _ _ _ _ _ _ _ d.a.1 d.a.2.1 d.a.2.2 W h.env h.a0 h.a1 h.a2 s.shr.1 s.shr.2.1 s.shr.2.2
theorem RsR.rtext {d : Rsx} {W : World} (h : RsR d W) (s : Rsl d) : Calls Tryz.prog 13 #[.agg #[.slice d.A0 d.n0 d.c0, .slice d.A1 d.n1 d.c1, .slice d.A2 d.n2 d.c2]] W (StrP (ba (recL d.a)) W) :=
  refText_any _ _ _ _ _ _ _ _ _ d.a.1 d.a.2.1 d.a.2.2 W h.a0 h.a1 h.a2 s.shr.1 s.shr.2.1 s.shr.2.2
theorem RsW.ten {d : Rsx} {n : Nat} {W : World} (h : RsW d n W) : W.cell? ⟨n, 0, none⟩ = some (.slice d.At d.nt d.ct) ∧ W.cell? ⟨n, 1, none⟩ = some (.slice d.An d.nn d.cn) ∧ W.cell? ⟨n, 2, none⟩ = some (.slice d.Ac d.nc d.cc) ∧ W.cell? ⟨n, 3, none⟩ = some (.bool d.ph) ∧
    W.cell? ⟨n + 1, 0, none⟩ = some (.slice d.A0 d.n0 d.c0) ∧ W.cell? ⟨n + 1, 1, none⟩ = some (.slice d.A1 d.n1 d.c1) ∧ W.cell? ⟨n + 1, 2, none⟩ = some (.slice d.A2 d.n2 d.c2) ∧
    W.cell? ⟨n + 2, 0, none⟩ = some (.slice d.B0 d.m0 d.e0) ∧ W.cell? ⟨n + 2, 1, none⟩ = some (.slice d.B1 d.m1 d.e1) ∧ W.cell? ⟨n + 2, 2, none⟩ = some (.slice d.B2 d.m2 d.e2) :=
  ⟨h.g.cell 0, h.g.cell 1, h.g.cell 2, h.g.cell 3, h.ab.cell 0, h.ab.cell 1, h.ab.cell 2, h.bb.cell 0, h.bb.cell 1, h.bb.cell 2⟩
end Go.Proofs.YtpghfefiifhbiaaGreatDoor
