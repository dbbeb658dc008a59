/- Texts of this claim, joined and laid tight: part 3 of 6. No condition. -/
import Derived.Test.YtebgngofnmcklaaGreatJApply2
import Derived.Shelf.Strconv.Clone
namespace Go.Proofs.YtebgngofnmcklaaGreat
set_option linter.unusedVariables false
set_option maxRecDepth 100000
set_option maxHeartbeats 8000000
section
open Go.RowKit
variable{a:Act}{K:Act → World → Prop}{af:Array Edge}{ops:Array Oper}{Q:Exit → Act → World → Prop}{pos:String}{T:q0e}{ty:TypeId}
def y0A(T:q0e):List Value:=(T.counts++T.colors).map z0C
def u0b(T:q0e):Value:= .agg (y0A T).toArray
theorem x1n(h:q0I T):∃a0 a1 a2 a3 a4 a5 a6 a7 b0 b1 b2 b3 b4 b5 b6 b7:Int,T=⟨[a0,a1,a2,a3,a4,a5,a6,a7],[b0,b1,b2,b3,b4,b5,b6,b7]⟩:=by
 obtain⟨xs,ys⟩:=T;obtain⟨h1,h2⟩:=h
 match xs,h1,ys,h2 with
 |[a0,a1,a2,a3,a4,a5,a6,a7],_,[b0,b1,b2,b3,b4,b5,b6,b7],_=>exact⟨_,_,_,_,_,_,_,_,_,_,_,_,_,_,_,_,rfl⟩
def Arr(X:World)(g:Nat)(T:q0e):Prop:=X.heap[g]? =some (.cells (y0A T).toArray 156 (0,0))
theorem Arr.new(w:World)(T:q0e):Arr (w.alloc (.cells (y0A T).toArray 156)) w.heap.size T:=heap_alloc_new w _
theorem Arr.lt{X:World}{g:Nat}(h:Arr X g T):g<X.heap.size:=(Array.getElem?_eq_some_iff.1 h).1
theorem Arr.later{X Y:World}{g:Nat}(h:Arr X g T)(hb:Below X.heap.size X Y):Arr Y g T:=(hb.block g h.lt).trans h
theorem Arr.same{X Y:World}{g:Nat}(h:Arr X g T)(hs:Y.heap[g]? =X.heap[g]?):Arr Y g T:=hs.trans h
theorem Arr.cell{X:World}{g:Nat}(h:Arr X g T)(k:Nat):X.cell? ⟨g,k,none⟩=(y0A T)[k]?:=by have h' :X.heap[g]? =some (.cells (y0A T).toArray 156 (0,0)):=h;simp[World.cell?,h']
theorem Arr.frozen{X:World}{g:Nat}(h:Arr X g T)(k:Nat):X.frozen? ⟨g,k,none⟩=false:=by have h' :X.heap[g]? =some (.cells (y0A T).toArray 156 (0,0)):=h;simp[World.frozen?,h']
theorem Arr.count{X:World}{g:Nat}(h:Arr X g T)(h8:q0I T)(k:Nat)(hk:k<8):X.cell? ⟨g,k,none⟩=some (.int .i64 (cnt T k)):=by
 rw[h.cell k];unfold y0A cnt;have hl:k<T.counts.length:=by have:=h8.1;omega
 rw[List.getElem?_map,List.getElem?_append_left hl,List.getElem?_eq_getElem hl,List.getD_eq_getElem?_getD,List.getElem?_eq_getElem hl];rfl
theorem Arr.color{X:World}{g:Nat}(h:Arr X g T)(h8:q0I T)(k:Nat)(hk:k<8):X.cell? ⟨g,8+k,none⟩=some (.int .i64 (col T k)):=by
 rw[h.cell (8+k)];unfold y0A col;have hl:k<T.colors.length:=by have:=h8.2;omega
 rw[List.getElem?_map,List.getElem?_append_right (by have:=h8.1;omega),show 8+k - T.counts.length=k from by have:=h8.1;omega,List.getElem?_eq_getElem hl,List.getD_eq_getElem?_getD,List.getElem?_eq_getElem hl];rfl
theorem Arr.setCount{X:World}{g:Nat}(h:Arr X g T)(h8:q0I T)(k:Nat)(hk:k<8)(z:Int):Arr (X.setCell ⟨g,k,none⟩ (.int .i64 z)) g ⟨T.counts.set k z,T.colors⟩:=by
 have e:=heap_setCell_same X g k _ _ (.int .i64 z) h
 have e2:((y0A T).toArray.setIfInBounds k (.int .i64 z))=(y0A ⟨T.counts.set k z,T.colors⟩).toArray:=by unfold y0A;rw[List.setIfInBounds_toArray];simp only[List.map_append,List.map_set,z0C];rw[List.set_append_left _ _ (by have:=h8.1;simpa using by omega)]
 rw[e2]at e;exact e
theorem Arr.setColor{X:World}{g:Nat}(h:Arr X g T)(h8:q0I T)(k:Nat)(hk:k<8)(z:Int):Arr (X.setCell ⟨g,8+k,none⟩ (.int .i64 z)) g ⟨T.counts,T.colors.set k z⟩:=by
 have e:=heap_setCell_same X g (8+k) _ _ (.int .i64 z) h
 have e2:((y0A T).toArray.setIfInBounds (8+k) (.int .i64 z))=(y0A ⟨T.counts,T.colors.set k z⟩).toArray:=by unfold y0A;rw[List.setIfInBounds_toArray];simp only[List.map_append,List.map_set,z0C];rw[List.set_append_right _ _ (by have:=h8.1;simpa using by omega),List.length_map,show 8+k - T.counts.length=k from by have:=h8.1;omega]
 rw[e2]at e;exact e
def trD(a0 a1 a2 a3 a4 a5 a6 a7 b0 b1 b2 b3 b4 b5 b6 b7:Int):q0e:=⟨[a0,a1,a2,a3,a4,a5,a6,a7],[b0,b1,b2,b3,b4,b5,b6,b7]⟩
theorem v0D(h:q0I T):∃a0 a1 a2 a3 a4 a5 a6 a7 b0 b1 b2 b3 b4 b5 b6 b7:Int,T=trD a0 a1 a2 a3 a4 a5 a6 a7 b0 b1 b2 b3 b4 b5 b6 b7:=by obtain⟨a0,a1,a2,a3,a4,a5,a6,a7,b0,b1,b2,b3,b4,b5,b6,b7,e⟩:=x1n h;exact⟨a0,a1,a2,a3,a4,a5,a6,a7,b0,b1,b2,b3,b4,b5,b6,b7,e⟩
theorem u0O(a0 a1 a2 a3 a4 a5 a6 a7 b0 b1 b2 b3 b4 b5 b6 b7:Int):u0b (trD a0 a1 a2 a3 a4 a5 a6 a7 b0 b1 b2 b3 b4 b5 b6 b7)= .agg #[.int .i64 a0,.int .i64 a1,.int .i64 a2,.int .i64 a3,.int .i64 a4,.int .i64 a5,.int .i64 a6,.int .i64 a7,.int .i64 b0,.int .i64 b1,.int .i64 b2,.int .i64 b3,.int .i64 b4,.int .i64 b5,.int .i64 b6,.int .i64 b7]:=rfl
def j0M(X:World)(g:Nat)(a0 a1 a2 a3 a4 a5 a6 a7 b0 b1 b2 b3 b4 b5 b6 b7:Int):World:=((((((((((((((((X.setCell ⟨g,0,none⟩ (.int .i64 a0)).setCell ⟨g,1,none⟩ (.int .i64 a1)).setCell ⟨g,2,none⟩ (.int .i64 a2)).setCell ⟨g,3,none⟩ (.int .i64 a3)).setCell ⟨g,4,none⟩ (.int .i64 a4)).setCell ⟨g,5,none⟩ (.int .i64 a5)).setCell ⟨g,6,none⟩ (.int .i64 a6)).setCell ⟨g,7,none⟩ (.int .i64 a7)).setCell ⟨g,8,none⟩ (.int .i64 b0)).setCell ⟨g,9,none⟩ (.int .i64 b1)).setCell ⟨g,10,none⟩ (.int .i64 b2)).setCell ⟨g,11,none⟩ (.int .i64 b3)).setCell ⟨g,12,none⟩ (.int .i64 b4)).setCell ⟨g,13,none⟩ (.int .i64 b5)).setCell ⟨g,14,none⟩ (.int .i64 b6)).setCell ⟨g,15,none⟩ (.int .i64 b7))
theorem z4r(X:World)(g:Nat)(a0 a1 a2 a3 a4 a5 a6 a7 b0 b1 b2 b3 b4 b5 b6 b7:Int):(j0M X g a0 a1 a2 a3 a4 a5 a6 a7 b0 b1 b2 b3 b4 b5 b6 b7).heap.size=X.heap.size:=by
 have e:∀(Y:World)(p:Addr)(u:Value),(Y.setCell p u).heap.size=Y.heap.size:=λY p u=>by simp[World.setCell]
 unfold j0M;iterate 16 rw[e]
theorem q2n(X:World)(g:Nat)(a0 a1 a2 a3 a4 a5 a6 a7 b0 b1 b2 b3 b4 b5 b6 b7:Int)(i:Nat)(h:i≠g):(j0M X g a0 a1 a2 a3 a4 a5 a6 a7 b0 b1 b2 b3 b4 b5 b6 b7).heap[i]? =X.heap[i]?:=by have e:∀(Y:World)(k:Nat)(u:Value),(Y.setCell ⟨g,k,none⟩ u).heap[i]? =Y.heap[i]?:=λY k u=>heap_setCell_other _ _ _ _ (by exact h);unfold j0M;iterate 16 rw[e]
theorem x1b{X:World}{g:Nat}(h:Arr X g T)(h8:q0I T)(a0 a1 a2 a3 a4 a5 a6 a7 b0 b1 b2 b3 b4 b5 b6 b7:Int):Arr (j0M X g a0 a1 a2 a3 a4 a5 a6 a7 b0 b1 b2 b3 b4 b5 b6 b7) g (trD a0 a1 a2 a3 a4 a5 a6 a7 b0 b1 b2 b3 b4 b5 b6 b7):=by obtain⟨c0,c1,c2,c3,c4,c5,c6,c7,d0,d1,d2,d3,d4,d5,d6,d7,rfl⟩:=x1n h8;have h0:Arr X g ⟨[c0,c1,c2,c3,c4,c5,c6,c7],[d0,d1,d2,d3,d4,d5,d6,d7]⟩:=h;have h1:Arr _ g ⟨[a0,c1,c2,c3,c4,c5,c6,c7],[d0,d1,d2,d3,d4,d5,d6,d7]⟩:=h0.setCount ⟨rfl,rfl⟩ 0 (by omega) a0;have h2:Arr _ g ⟨[a0,a1,c2,c3,c4,c5,c6,c7],[d0,d1,d2,d3,d4,d5,d6,d7]⟩:=h1.setCount ⟨rfl,rfl⟩ 1 (by omega) a1;have h3:Arr _ g ⟨[a0,a1,a2,c3,c4,c5,c6,c7],[d0,d1,d2,d3,d4,d5,d6,d7]⟩:=h2.setCount ⟨rfl,rfl⟩ 2 (by omega) a2;have h4:Arr _ g ⟨[a0,a1,a2,a3,c4,c5,c6,c7],[d0,d1,d2,d3,d4,d5,d6,d7]⟩:=h3.setCount ⟨rfl,rfl⟩ 3 (by omega) a3;have h5:Arr _ g ⟨[a0,a1,a2,a3,a4,c5,c6,c7],[d0,d1,d2,d3,d4,d5,d6,d7]⟩:=h4.setCount ⟨rfl,rfl⟩ 4 (by omega) a4;have h6:Arr _ g ⟨[a0,a1,a2,a3,a4,a5,c6,c7],[d0,d1,d2,d3,d4,d5,d6,d7]⟩:=h5.setCount ⟨rfl,rfl⟩ 5 (by omega) a5;have h7:Arr _ g ⟨[a0,a1,a2,a3,a4,a5,a6,c7],[d0,d1,d2,d3,d4,d5,d6,d7]⟩:=h6.setCount ⟨rfl,rfl⟩ 6 (by omega) a6;have h8:Arr _ g ⟨[a0,a1,a2,a3,a4,a5,a6,a7],[d0,d1,d2,d3,d4,d5,d6,d7]⟩:=h7.setCount ⟨rfl,rfl⟩ 7 (by omega) a7;have h9:Arr _ g ⟨[a0,a1,a2,a3,a4,a5,a6,a7],[b0,d1,d2,d3,d4,d5,d6,d7]⟩:=h8.setColor ⟨rfl,rfl⟩ 0 (by omega) b0;have h10:Arr _ g ⟨[a0,a1,a2,a3,a4,a5,a6,a7],[b0,b1,d2,d3,d4,d5,d6,d7]⟩:=h9.setColor ⟨rfl,rfl⟩ 1 (by omega) b1;have h11:Arr _ g ⟨[a0,a1,a2,a3,a4,a5,a6,a7],[b0,b1,b2,d3,d4,d5,d6,d7]⟩:=h10.setColor ⟨rfl,rfl⟩ 2 (by omega) b2;have h12:Arr _ g ⟨[a0,a1,a2,a3,a4,a5,a6,a7],[b0,b1,b2,b3,d4,d5,d6,d7]⟩:=h11.setColor ⟨rfl,rfl⟩ 3 (by omega) b3;have h13:Arr _ g ⟨[a0,a1,a2,a3,a4,a5,a6,a7],[b0,b1,b2,b3,b4,d5,d6,d7]⟩:=h12.setColor ⟨rfl,rfl⟩ 4 (by omega) b4;have h14:Arr _ g ⟨[a0,a1,a2,a3,a4,a5,a6,a7],[b0,b1,b2,b3,b4,b5,d6,d7]⟩:=h13.setColor ⟨rfl,rfl⟩ 5 (by omega) b5;have h15:Arr _ g ⟨[a0,a1,a2,a3,a4,a5,a6,a7],[b0,b1,b2,b3,b4,b5,b6,d7]⟩:=h14.setColor ⟨rfl,rfl⟩ 6 (by omega) b6;have h16:Arr _ g ⟨[a0,a1,a2,a3,a4,a5,a6,a7],[b0,b1,b2,b3,b4,b5,b6,b7]⟩:=h15.setColor ⟨rfl,rfl⟩ 7 (by omega) b7;exact h16
theorem q1D{n:Nat}{w X:World}{g:Nat}(a0 a1 a2 a3 a4 a5 a6 a7 b0 b1 b2 b3 b4 b5 b6 b7:Int)(h:Below n w X)(hg:n<=g):Below n w (j0M X g a0 a1 a2 a3 a4 a5 a6 a7 b0 b1 b2 b3 b4 b5 b6 b7):=by
 have e:∀(Y:World)(k:Nat)(u:Value),Below n w Y->Below n w (Y.setCell ⟨g,k,none⟩ u):=λY k u hY=>hY.setCell (p:=⟨g,k,none⟩) hg u;unfold j0M;iterate 16 apply e
 exact h
theorem Arr.all{X:World}{g:Nat}{a0 a1 a2 a3 a4 a5 a6 a7 b0 b1 b2 b3 b4 b5 b6 b7:Int}(h:Arr X g (trD a0 a1 a2 a3 a4 a5 a6 a7 b0 b1 b2 b3 b4 b5 b6 b7)):X.cell? ⟨g,0,none⟩=some (.int .i64 a0)/\X.cell? ⟨g,1,none⟩=some (.int .i64 a1)/\X.cell? ⟨g,2,none⟩=some (.int .i64 a2)/\X.cell? ⟨g,3,none⟩=some (.int .i64 a3)/\X.cell? ⟨g,4,none⟩=some (.int .i64 a4)/\X.cell? ⟨g,5,none⟩=some (.int .i64 a5)/\X.cell? ⟨g,6,none⟩=some (.int .i64 a6)/\X.cell? ⟨g,7,none⟩=some (.int .i64 a7)/\X.cell? ⟨g,8,none⟩=some (.int .i64 b0)/\X.cell? ⟨g,9,none⟩=some (.int .i64 b1)/\X.cell? ⟨g,10,none⟩=some (.int .i64 b2)/\X.cell? ⟨g,11,none⟩=some (.int .i64 b3)/\X.cell? ⟨g,12,none⟩=some (.int .i64 b4)/\X.cell? ⟨g,13,none⟩=some (.int .i64 b5)/\X.cell? ⟨g,14,none⟩=some (.int .i64 b6)/\X.cell? ⟨g,15,none⟩=some (.int .i64 b7):=by
 have q:∀k,X.cell? ⟨g,k,none⟩=(#[.int .i64 a0,.int .i64 a1,.int .i64 a2,.int .i64 a3,.int .i64 a4,.int .i64 a5,.int .i64 a6,.int .i64 a7,.int .i64 b0,.int .i64 b1,.int .i64 b2,.int .i64 b3,.int .i64 b4,.int .i64 b5,.int .i64 b6,.int .i64 b7]:Array Value)[k]?:=λk=>by
  have h' :X.heap[g]? =some (.cells #[.int .i64 a0,.int .i64 a1,.int .i64 a2,.int .i64 a3,.int .i64 a4,.int .i64 a5,.int .i64 a6,.int .i64 a7,.int .i64 b0,.int .i64 b1,.int .i64 b2,.int .i64 b3,.int .i64 b4,.int .i64 b5,.int .i64 b6,.int .i64 b7] 156 (0,0)):=h;simp[World.cell?,h']
 exact⟨q 0,q 1,q 2,q 3,q 4,q 5,q 6,q 7,q 8,q 9,q 10,q 11,q 12,q 13,q 14,q 15⟩
theorem j4W{t i:Tmp}{X:World}{g:Nat}{a0 a1 a2 a3 a4 a5 a6 a7 b0 b1 b2 b3 b4 b5 b6 b7:Int}(h1:a.eval (.tmp i)= .pointer (some ⟨g,0,none⟩))(hA:Arr X g (trD a0 a1 a2 a3 a4 a5 a6 a7 b0 b1 b2 b3 b4 b5 b6 b7))(hK:K (a.put (some t) (.agg #[.int .i64 a0,.int .i64 a1,.int .i64 a2,.int .i64 a3,.int .i64 a4,.int .i64 a5,.int .i64 a6,.int .i64 a7,.int .i64 b0,.int .i64 b1,.int .i64 b2,.int .i64 b3,.int .i64 b4,.int .i64 b5,.int .i64 b6,.int .i64 b7])) X):
 Oper.wp Tryz.prog ⟨some t,.load 156 (.tmp i),ty,pos,af,none⟩ a X K Q:=by
 have e1:=q0x h1;obtain⟨f0_,f1_,f2_,f3_,f4_,f5_,f6_,f7_,f8_,f9_,f10_,f11_,f12_,f13_,f14_,f15_⟩:=hA.all;go_simp;exact hK
theorem q3O{i j:Tmp}{X:World}{g:Nat}{a0 a1 a2 a3 a4 a5 a6 a7 b0 b1 b2 b3 b4 b5 b6 b7:Int}(h1:a.eval (.tmp i)= .pointer (some ⟨g,0,none⟩))(h2:a.eval (.tmp j)= .agg #[.int .i64 a0,.int .i64 a1,.int .i64 a2,.int .i64 a3,.int .i64 a4,.int .i64 a5,.int .i64 a6,.int .i64 a7,.int .i64 b0,.int .i64 b1,.int .i64 b2,.int .i64 b3,.int .i64 b4,.int .i64 b5,.int .i64 b6,.int .i64 b7])(hA:Arr X g T)(h8:q0I T)(hK:K a (j0M X g a0 a1 a2 a3 a4 a5 a6 a7 b0 b1 b2 b3 b4 b5 b6 b7)):
 Oper.wp Tryz.prog ⟨none,.store 156 (.tmp i) (.tmp j),ty,pos,af,none⟩ a X K Q:=by
 have e1:=q0x h1;have e2:=q0x h2;obtain⟨p0,p1,p2,p3,p4,p5,p6,p7,p8,p9,p10,p11,p12,p13,p14,p15,rfl⟩:=v0D h8;obtain⟨f0_,f1_,f2_,f3_,f4_,f5_,f6_,f7_,f8_,f9_,f10_,f11_,f12_,f13_,f14_,f15_⟩:=hA.all;have z0_:=hA.frozen 0;have z1_:=hA.frozen 1;have z2_:=hA.frozen 2;have z3_:=hA.frozen 3;have z4_:=hA.frozen 4;have z5_:=hA.frozen 5;have z6_:=hA.frozen 6;have z7_:=hA.frozen 7;have z8_:=hA.frozen 8;have z9_:=hA.frozen 9;have z10_:=hA.frozen 10;have z11_:=hA.frozen 11;have z12_:=hA.frozen 12;have z13_:=hA.frozen 13;have z14_:=hA.frozen 14;have z15_:=hA.frozen 15;unfold j0M at hK;clear h8 hA;go_simp;exact hK
theorem x1V{rest:List Oper}{t i:Tmp}{ty:TypeId}{pos:String}{af:Array Edge}{X:World}{g:Nat}{a0 a1 a2 a3 a4 a5 a6 a7 b0 b1 b2 b3 b4 b5 b6 b7:Int}(h1:a.eval (.tmp i)= .pointer (some ⟨g,0,none⟩))(hA:Arr X g (trD a0 a1 a2 a3 a4 a5 a6 a7 b0 b1 b2 b3 b4 b5 b6 b7))(h:wpList Tryz.prog ops Q rest (a.put (some t) (.agg #[.int .i64 a0,.int .i64 a1,.int .i64 a2,.int .i64 a3,.int .i64 a4,.int .i64 a5,.int .i64 a6,.int .i64 a7,.int .i64 b0,.int .i64 b1,.int .i64 b2,.int .i64 b3,.int .i64 b4,.int .i64 b5,.int .i64 b6,.int .i64 b7])) X):
 wpList Tryz.prog ops Q (⟨some t,.load 156 (.tmp i),ty,pos,af,none⟩::rest) a X:=wpList_plain rfl λK hK=>j4W h1 hA (hK _ _ h)
theorem u0C{rest:List Oper}{i j:Tmp}{ty:TypeId}{pos:String}{af:Array Edge}{X:World}{g:Nat}{a0 a1 a2 a3 a4 a5 a6 a7 b0 b1 b2 b3 b4 b5 b6 b7:Int}(h1:a.eval (.tmp i)= .pointer (some ⟨g,0,none⟩))(h2:a.eval (.tmp j)= .agg #[.int .i64 a0,.int .i64 a1,.int .i64 a2,.int .i64 a3,.int .i64 a4,.int .i64 a5,.int .i64 a6,.int .i64 a7,.int .i64 b0,.int .i64 b1,.int .i64 b2,.int .i64 b3,.int .i64 b4,.int .i64 b5,.int .i64 b6,.int .i64 b7])(hA:Arr X g T)(h8:q0I T)(h:wpList Tryz.prog ops Q rest a (j0M X g a0 a1 a2 a3 a4 a5 a6 a7 b0 b1 b2 b3 b4 b5 b6 b7)):
 wpList Tryz.prog ops Q (⟨none,.store 156 (.tmp i) (.tmp j),ty,pos,af,none⟩::rest) a X:=wpList_plain rfl λK hK=>q3O h1 h2 hA h8 (hK _ _ h)
end
section
open Go.RowKit
variable{H:q0a}{T T0:q0e}
theorem u1m(v:Value)(H:q0a)(c d:Int)(T:q0e)(k:Nat)(w:World)(h8:q0I T)(hk:k<8)(hc:col T k=c)(h:RdH w v H):
 Calls Tryz.prog 142 #[u0b T,v,.int .i64 (k:Int),.int .i64 c,.int .i64 d] w λe w' =>e= .returned (u0b T)/\Below w.heap.size w w' :=by
 obtain⟨ao,co,aw,cw,ab,cb,sa,sc,rfl,-,-,-,-⟩:=h;obtain⟨a0,a1,a2,a3,a4,a5,a6,a7,b0,b1,b2,b3,b4,b5,b6,b7,rfl⟩:=v0D h8;obtain⟨W,hW⟩:∃W,W=((w.alloc (.cells #[.int .i64 a0,.int .i64 a1,.int .i64 a2,.int .i64 a3,.int .i64 a4,.int .i64 a5,.int .i64 a6,.int .i64 a7,.int .i64 b0,.int .i64 b1,.int .i64 b2,.int .i64 b3,.int .i64 b4,.int .i64 b5,.int .i64 b6,.int .i64 b7] 156)).alloc (.cells #[.slice ao H.objs.length co,.slice aw H.weaks.length cw,.slice ab H.buffer.length cb,.slice sa H.sites.length sc] 35)).alloc (.cells #[.int .i64 0,.int .i64 0,.int .i64 0,.int .i64 0,.int .i64 0,.int .i64 0,.int .i64 0,.int .i64 0,.int .i64 0,.int .i64 0,.int .i64 0,.int .i64 0,.int .i64 0,.int .i64 0,.int .i64 0,.int .i64 0] 156):=⟨_,rfl⟩
 have A0:Arr W w.heap.size (trD a0 a1 a2 a3 a4 a5 a6 a7 b0 b1 b2 b3 b4 b5 b6 b7):=by have f:=Arr.new w (trD a0 a1 a2 a3 a4 a5 a6 a7 b0 b1 b2 b3 b4 b5 b6 b7);have f2:=f.later (bl1 (.cells #[.slice ao H.objs.length co,.slice aw H.weaks.length cw,.slice ab H.buffer.length cb,.slice sa H.sites.length sc] 35));have f3:=f2.later (bl1 (.cells #[.int .i64 0,.int .i64 0,.int .i64 0,.int .i64 0,.int .i64 0,.int .i64 0,.int .i64 0,.int .i64 0,.int .i64 0,.int .i64 0,.int .i64 0,.int .i64 0,.int .i64 0,.int .i64 0,.int .i64 0,.int .i64 0] 156));rw[hW];exact f3
 have ck:=A0.color h8 k hk;rw[hc]at ck;rw[hW]at ck;have hk8:(k:Int)<8:=by omega
 clear A0 hc hW;rw[u0O];go_enter Tryz.func142,Tryz.ntmps142;go_wp2;refine bodyPost_ret (v:= .agg #[.int .i64 a0,.int .i64 a1,.int .i64 a2,.int .i64 a3,.int .i64 a4,.int .i64 a5,.int .i64 a6,.int .i64 a7,.int .i64 b0,.int .i64 b1,.int .i64 b2,.int .i64 b3,.int .i64 b4,.int .i64 b5,.int .i64 b6,.int .i64 b7]) (by simp[results,Tryz.results142,go_sem, *]) rfl ⟨rfl,?_⟩;exact((bl1 _).alloc (by simp) _).alloc (by simp;omega) _
theorem v3y{c:Int}{T' :q0e}(h8:q0I T)(h8' :q0I T')(h:∀j,j<8->col T' j≠c->col T j≠c):x0A c T'.colors<=x0A c T.colors:=by
 obtain⟨a0,a1,a2,a3,a4,a5,a6,a7,b0,b1,b2,b3,b4,b5,b6,b7,rfl⟩:=x1n h8;obtain⟨x0,x1,x2,x3,x4,x5,x6,x7,y0,y1,y2,y3,y4,y5,y6,y7,rfl⟩:=x1n h8';have e0:=h 0 (by omega);have e1:=h 1 (by omega);have e2:=h 2 (by omega);have e3:=h 3 (by omega);have e4:=h 4 (by omega);have e5:=h 5 (by omega);have e6:=h 6 (by omega);have e7:=h 7 (by omega);simp only[col,List.getD_cons_zero,List.getD_cons_succ]at e0 e1 e2 e3 e4 e5 e6 e7
 have one:∀x y:Int,(y≠c->x≠c)->(if(!decide (y=c))=true then 1 else 0)<=(if(!decide (x=c))=true then 1 else 0):=λx y hxy=>by
  by_cases hy:y=c
  ·simp[hy]
  ·simp[hy,hxy hy]
 have g0:=one _ _ e0;have g1:=one _ _ e1;have g2:=one _ _ e2;have g3:=one _ _ e3;have g4:=one _ _ e4;have g5:=one _ _ e5;have g6:=one _ _ e6;have g7:=one _ _ e7;simp only[x0A,List.countP_cons,List.countP_nil];omega
theorem y3L{d c:Int}{T' :q0e}{R:Nat->Prop}{C C' :List Nat}{M M' :List Int}(h:x0e d c H T0 R T C M)(h' :x0e d c H T0 R T' C' M')(hC:∀x∈C,x∈C'):x0A c T'.colors<=x0A c T.colors:=
 v3y h.pt.e h'.pt.e (λj hj hne=>by
  rw[h'.pt.col j hj]at hne;rw[h.pt.col j hj];by_cases hm:j∈C
  ·rw[if_pos (hC j hm)]at hne;exact absurd rfl hne
  ·rw[if_neg hm];by_cases hm' :j∈C'
   ·rw[if_pos hm']at hne;exact absurd rfl hne
   ·rw[if_neg hm']at hne;exact hne)
structure PF(w wr:World)(x0 x1 x2 x3:Value)(T:q0e)(vk:Value)(ks:List Int):Prop where
 bel:Below w.heap.size w wr
 arr:Arr wr w.heap.size T
 heap:q0d wr (w.heap.size+1) x0 x1 x2 x3
 res:Arr wr (w.heap.size+2) (trD 0 0 0 0 0 0 0 0 0 0 0 0 0 0 0 0)
 kids:q0i wr (w.heap.size+3) vk ks
theorem PF.later{w wr X:World}{x0 x1 x2 x3:Value}{vk:Value}{ks:List Int}(h:PF w wr x0 x1 x2 x3 T vk ks)(hb:Below wr.heap.size wr X):PF w X x0 x1 x2 x3 T vk ks:=
 ⟨h.bel.trans (hb.mono h.bel.size),h.arr.later hb,h.heap.later hb,h.res.later hb,q0o h.kids hb⟩
theorem PF.turn{w wr X:World}{x0 x1 x2 x3:Value}{T' :q0e}{vk:Value}{ks:List Int}(h:PF w wr x0 x1 x2 x3 T vk ks)(hb:Below w.heap.size w X)(ho:∀i,i≠w.heap.size->X.heap[i]? =wr.heap[i]?)(ha:Arr X w.heap.size T'):PF w X x0 x1 x2 x3 T' vk ks:=
 ⟨hb,ha,h.heap.same (ho _ (by omega)),h.res.same (ho _ (by omega)),q0v h.kids (λg hg=>ho g (by have:=(q0n h.kids g hg).1;omega))⟩
theorem z3D(v:Value)(H:q0a)(c d:Int)(hs:q0h H)(h8:H.objs.length=8)(hf:∀o∈H.objs,∀z∈o.field,q0w z)(T0:q0e)(R:Nat->Prop)(hR:y2e c H T0 R):
 ∀(n:Nat)(T:q0e)(C:List Nat)(M:List Int)(k:Nat)(w:World),x0A c T.colors<=n->x0e d c H T0 R T C M->k<8->(col T0 k≠c->R k)->RdH w v H->
  Calls Tryz.prog 142 #[u0b T,v,.int .i64 (k:Int),.int .i64 c,.int .i64 d] w λe w' =>∃T',e= .returned (u0b T')/\j1E d c H T0 R C M k T' /\Below w.heap.size w w' :=by
 intro n
 induction n with
 |zero=>
  intro T C M k w hn hd hk hRk h
  have hc:col T k=c:=Decidable.byContradiction λhne=>by
   have hl:k<T.colors.length:=by have:=hd.pt.e.2;omega
   unfold col at hne;rw[List.getD_eq_getElem?_getD,List.getElem?_eq_getElem hl,Option.getD_some]at hne;have:=z2q c T.colors k hl hne;omega
  refine(u1m v H c d T k w hd.pt.e hk hc h).mono ?_;rintro e w' ⟨rfl,hb⟩;exact⟨T,rfl,v2P hd hk hc,hb⟩
 |succ n ih=>
  intro T C M k w hn hd hk hRk h;by_cases hc:col T k=c
  ·refine(u1m v H c d T k w hd.pt.e hk hc h).mono ?_;rintro e w' ⟨rfl,hb⟩;exact⟨T,rfl,v2P hd hk hc,hb⟩
  have HR1:Hid (∀X,Below w.heap.size w X->RdH X v H):=λX hX=>q0s h hX;have HST:Hid (q2V d c H T0 R C M k 0 ⟨T.counts,T.colors.set k c⟩):=j3n hd hk hRk hc;have HE1:Hid (q0I ⟨T.counts,T.colors.set k c⟩):=⟨hd.pt.e.1,by simpa using hd.pt.e.2⟩
  have HO1:Hid (x0A c (q0e.mk T.counts (T.colors.set k c)).colors<=n):=by
   have hl:k<T.colors.length:=by have:=hd.pt.e.2;omega
   have hne:=hc;unfold col at hne;rw[List.getD_eq_getElem?_getD,List.getElem?_eq_getElem hl,Option.getD_some]at hne;have:=z2q c T.colors k hl hne;show x0A c (T.colors.set k c)<=n;omega
  have hk2:k<H.objs.length:=by omega
  have CK:Hid (∀X,Below w.heap.size w X->_):=λX hX=>v2D v H k X (HR1.out X hX) hs hk2 (hf _ (List.getElem_mem hk2));rw[<-y1W H k hk2]at CK;have hkl:=x2z H (k:Int) hs;have HIH:Hid (∀(T:q0e)(C:List Nat)(M:List Int)(j:Nat)(w' :World),x0A c T.colors<=n->x0e d c H T0 R T C M->j<8->(col T0 j≠c->R j)->Below w.heap.size w w' ->_):=λT C M j w' h1 h2 h3 h4 h5=>ih T C M j w' h1 h2 h3 h4 (HR1.out w' h5);have e8:=hd.pt.e;obtain⟨ao,co,aw,cw,ab,cb,sa,sc,rfl,-,-,-,-⟩:=h;obtain⟨a0,a1,a2,a3,a4,a5,a6,a7,b0,b1,b2,b3,b4,b5,b6,b7,rfl⟩:=v0D e8;rw[h8]at CK HIH HR1 ⊢;generalize H.weaks.length=nw at*;generalize H.buffer.length=nb at*;generalize H.sites.length=ns at*;obtain⟨W,hW⟩:∃W,W=((w.alloc (.cells #[.int .i64 a0,.int .i64 a1,.int .i64 a2,.int .i64 a3,.int .i64 a4,.int .i64 a5,.int .i64 a6,.int .i64 a7,.int .i64 b0,.int .i64 b1,.int .i64 b2,.int .i64 b3,.int .i64 b4,.int .i64 b5,.int .i64 b6,.int .i64 b7] 156)).alloc (.cells #[.slice ao 8 co,.slice aw nw cw,.slice ab nb cb,.slice sa ns sc] 35)).alloc (.cells #[.int .i64 0,.int .i64 0,.int .i64 0,.int .i64 0,.int .i64 0,.int .i64 0,.int .i64 0,.int .i64 0,.int .i64 0,.int .i64 0,.int .i64 0,.int .i64 0,.int .i64 0,.int .i64 0,.int .i64 0,.int .i64 0] 156):=⟨_,rfl⟩;have BW:Below w.heap.size w W:=by rw[hW];exact((bl1 _).alloc (by simp) _).alloc (by simp;omega) _
  have sW:W.heap.size=w.heap.size+3:=by rw[hW];simp
  have A0:Arr W w.heap.size (trD a0 a1 a2 a3 a4 a5 a6 a7 b0 b1 b2 b3 b4 b5 b6 b7):=by have f:=Arr.new w (trD a0 a1 a2 a3 a4 a5 a6 a7 b0 b1 b2 b3 b4 b5 b6 b7);have f2:=f.later (bl1 (.cells #[.slice ao 8 co,.slice aw nw cw,.slice ab nb cb,.slice sa ns sc] 35));have f3:=f2.later (bl1 (.cells #[.int .i64 0,.int .i64 0,.int .i64 0,.int .i64 0,.int .i64 0,.int .i64 0,.int .i64 0,.int .i64 0,.int .i64 0,.int .i64 0,.int .i64 0,.int .i64 0,.int .i64 0,.int .i64 0,.int .i64 0,.int .i64 0] 156));rw[hW];exact f3
  have F0:q0d W (w.heap.size+1) (.slice ao 8 co) (.slice aw nw cw) (.slice ab nb cb) (.slice sa ns sc):=by have f:=q0d.new (w.alloc (.cells #[.int .i64 a0,.int .i64 a1,.int .i64 a2,.int .i64 a3,.int .i64 a4,.int .i64 a5,.int .i64 a6,.int .i64 a7,.int .i64 b0,.int .i64 b1,.int .i64 b2,.int .i64 b3,.int .i64 b4,.int .i64 b5,.int .i64 b6,.int .i64 b7] 156)) (.slice ao 8 co) (.slice aw nw cw) (.slice ab nb cb) (.slice sa ns sc);have f3:=f.later (bl1 (.cells #[.int .i64 0,.int .i64 0,.int .i64 0,.int .i64 0,.int .i64 0,.int .i64 0,.int .i64 0,.int .i64 0,.int .i64 0,.int .i64 0,.int .i64 0,.int .i64 0,.int .i64 0,.int .i64 0,.int .i64 0,.int .i64 0] 156));rw[hW];simpa using f3
  have Z0:Arr W (w.heap.size+2) (trD 0 0 0 0 0 0 0 0 0 0 0 0 0 0 0 0):=by
   have f:=Arr.new ((w.alloc (.cells #[.int .i64 a0,.int .i64 a1,.int .i64 a2,.int .i64 a3,.int .i64 a4,.int .i64 a5,.int .i64 a6,.int .i64 a7,.int .i64 b0,.int .i64 b1,.int .i64 b2,.int .i64 b3,.int .i64 b4,.int .i64 b5,.int .i64 b6,.int .i64 b7] 156)).alloc (.cells #[.slice ao 8 co,.slice aw nw cw,.slice ab nb cb,.slice sa ns sc] 35)) (trD 0 0 0 0 0 0 0 0 0 0 0 0 0 0 0 0);have f2:Arr W ((w.alloc (.cells #[.int .i64 a0,.int .i64 a1,.int .i64 a2,.int .i64 a3,.int .i64 a4,.int .i64 a5,.int .i64 a6,.int .i64 a7,.int .i64 b0,.int .i64 b1,.int .i64 b2,.int .i64 b3,.int .i64 b4,.int .i64 b5,.int .i64 b6,.int .i64 b7] 156)).alloc (.cells #[.slice ao 8 co,.slice aw nw cw,.slice ab nb cb,.slice sa ns sc] 35)).heap.size (trD 0 0 0 0 0 0 0 0 0 0 0 0 0 0 0 0):=by rw[hW];exact f
   simpa using f2
  have ck:=A0.color e8 k hk;have fk:=A0.frozen (8+k);obtain⟨W1,hW1⟩:∃W1,W1=((w.alloc (.cells ([.int .i64 a0,.int .i64 a1,.int .i64 a2,.int .i64 a3,.int .i64 a4,.int .i64 a5,.int .i64 a6,.int .i64 a7,.int .i64 b0,.int .i64 b1,.int .i64 b2,.int .i64 b3,.int .i64 b4,.int .i64 b5,.int .i64 b6,.int .i64 b7].set (8+k) (.int .i64 c)).toArray 156)).alloc (.cells #[.slice ao 8 co,.slice aw nw cw,.slice ab nb cb,.slice sa ns sc] 35)).alloc (.cells #[.int .i64 0,.int .i64 0,.int .i64 0,.int .i64 0,.int .i64 0,.int .i64 0,.int .i64 0,.int .i64 0,.int .i64 0,.int .i64 0,.int .i64 0,.int .i64 0,.int .i64 0,.int .i64 0,.int .i64 0,.int .i64 0] 156):=⟨_,rfl⟩;have B1:Below w.heap.size w W1:=by rw[hW1];exact((bl1 _).alloc (by simp) _).alloc (by simp;omega) _
  have s1:W1.heap.size=w.heap.size+3:=by rw[hW1];simp
  have ec:[.int .i64 a0,.int .i64 a1,.int .i64 a2,.int .i64 a3,.int .i64 a4,.int .i64 a5,.int .i64 a6,.int .i64 a7,.int .i64 b0,.int .i64 b1,.int .i64 b2,.int .i64 b3,.int .i64 b4,.int .i64 b5,.int .i64 b6,.int .i64 b7].set (8+k) (.int .i64 c)=y0A ⟨(trD a0 a1 a2 a3 a4 a5 a6 a7 b0 b1 b2 b3 b4 b5 b6 b7).counts,(trD a0 a1 a2 a3 a4 a5 a6 a7 b0 b1 b2 b3 b4 b5 b6 b7).colors.set k c⟩:=by unfold y0A;simp only[List.map_append,List.map_set];show(List.map z0C (trD a0 a1 a2 a3 a4 a5 a6 a7 b0 b1 b2 b3 b4 b5 b6 b7).counts++List.map z0C (trD a0 a1 a2 a3 a4 a5 a6 a7 b0 b1 b2 b3 b4 b5 b6 b7).colors).set (8+k) (z0C c)=_;rw[List.set_append_right _ _ (by simp[trD]),show 8+k - (List.map z0C (trD a0 a1 a2 a3 a4 a5 a6 a7 b0 b1 b2 b3 b4 b5 b6 b7).counts).length=k from by simp[trD]]
  have A1:Arr W1 w.heap.size ⟨(trD a0 a1 a2 a3 a4 a5 a6 a7 b0 b1 b2 b3 b4 b5 b6 b7).counts,(trD a0 a1 a2 a3 a4 a5 a6 a7 b0 b1 b2 b3 b4 b5 b6 b7).colors.set k c⟩:=by rw[ec]at hW1;have f:=Arr.new w ⟨(trD a0 a1 a2 a3 a4 a5 a6 a7 b0 b1 b2 b3 b4 b5 b6 b7).counts,(trD a0 a1 a2 a3 a4 a5 a6 a7 b0 b1 b2 b3 b4 b5 b6 b7).colors.set k c⟩;have f2:=f.later (bl1 (.cells #[.slice ao 8 co,.slice aw nw cw,.slice ab nb cb,.slice sa ns sc] 35));have f3:=f2.later (bl1 (.cells #[.int .i64 0,.int .i64 0,.int .i64 0,.int .i64 0,.int .i64 0,.int .i64 0,.int .i64 0,.int .i64 0,.int .i64 0,.int .i64 0,.int .i64 0,.int .i64 0,.int .i64 0,.int .i64 0,.int .i64 0,.int .i64 0] 156));rw[hW1];exact f3
  have F1:q0d W1 (w.heap.size+1) (.slice ao 8 co) (.slice aw nw cw) (.slice ab nb cb) (.slice sa ns sc):=by have f:=q0d.new (w.alloc (.cells ([.int .i64 a0,.int .i64 a1,.int .i64 a2,.int .i64 a3,.int .i64 a4,.int .i64 a5,.int .i64 a6,.int .i64 a7,.int .i64 b0,.int .i64 b1,.int .i64 b2,.int .i64 b3,.int .i64 b4,.int .i64 b5,.int .i64 b6,.int .i64 b7].set (8+k) (.int .i64 c)).toArray 156)) (.slice ao 8 co) (.slice aw nw cw) (.slice ab nb cb) (.slice sa ns sc);have f3:=f.later (bl1 (.cells #[.int .i64 0,.int .i64 0,.int .i64 0,.int .i64 0,.int .i64 0,.int .i64 0,.int .i64 0,.int .i64 0,.int .i64 0,.int .i64 0,.int .i64 0,.int .i64 0,.int .i64 0,.int .i64 0,.int .i64 0,.int .i64 0] 156));rw[hW1];simpa using f3
  have Z1:Arr W1 (w.heap.size+2) (trD 0 0 0 0 0 0 0 0 0 0 0 0 0 0 0 0):=by
   have f:=Arr.new ((w.alloc (.cells ([.int .i64 a0,.int .i64 a1,.int .i64 a2,.int .i64 a3,.int .i64 a4,.int .i64 a5,.int .i64 a6,.int .i64 a7,.int .i64 b0,.int .i64 b1,.int .i64 b2,.int .i64 b3,.int .i64 b4,.int .i64 b5,.int .i64 b6,.int .i64 b7].set (8+k) (.int .i64 c)).toArray 156)).alloc (.cells #[.slice ao 8 co,.slice aw nw cw,.slice ab nb cb,.slice sa ns sc] 35)) (trD 0 0 0 0 0 0 0 0 0 0 0 0 0 0 0 0);have f2:Arr W1 ((w.alloc (.cells ([.int .i64 a0,.int .i64 a1,.int .i64 a2,.int .i64 a3,.int .i64 a4,.int .i64 a5,.int .i64 a6,.int .i64 a7,.int .i64 b0,.int .i64 b1,.int .i64 b2,.int .i64 b3,.int .i64 b4,.int .i64 b5,.int .i64 b6,.int .i64 b7].set (8+k) (.int .i64 c)).toArray 156)).alloc (.cells #[.slice ao 8 co,.slice aw nw cw,.slice ab nb cb,.slice sa ns sc] 35)).heap.size (trD 0 0 0 0 0 0 0 0 0 0 0 0 0 0 0 0):=by rw[hW1];exact f
   simpa using f2
  have HP1:Hid (∀X vk ks,Below W1.heap.size W1 X->q0i X (w.heap.size+3) vk ks->PF w X (.slice ao 8 co) (.slice aw nw cw) (.slice ab nb cb) (.slice sa ns sc) ⟨(trD a0 a1 a2 a3 a4 a5 a6 a7 b0 b1 b2 b3 b4 b5 b6 b7).counts,(trD a0 a1 a2 a3 a4 a5 a6 a7 b0 b1 b2 b3 b4 b5 b6 b7).colors.set k c⟩ vk ks):=λX vk ks hX ho=>⟨B1.trans (hX.mono B1.size),A1.later hX,F1.later hX,Z1.later hX,ho⟩
  have hk8:(k:Int)<8:=by omega
  clear A1 F1 Z1 ec;generalize (⟨(trD a0 a1 a2 a3 a4 a5 a6 a7 b0 b1 b2 b3 b4 b5 b6 b7).counts,(trD a0 a1 a2 a3 a4 a5 a6 a7 b0 b1 b2 b3 b4 b5 b6 b7).colors.set k c⟩:q0e)=T1 at HP1 HST HE1 HO1;generalize col (trD a0 a1 a2 a3 a4 a5 a6 a7 b0 b1 b2 b3 b4 b5 b6 b7) k=q at*;rw[hW]at ck fk;clear A0 F0 Z0 hd hRk e8 hW BW sW;rw[u0O];obtain⟨L,hL⟩:∃L,(q0P H (k:Int)).length=L:=⟨_,rfl⟩;have HL:Hid ((q0P H (k:Int)).length=L):=hL;rw[hL]at hkl;clear hL;have Hs1:Hid (W1.heap.size=w.heap.size+3):=s1;go_enter Tryz.func142,Tryz.ntmps142;go_wp2_with fail
  rw[<-hW1];clear hW1 ck fk s1;refine(CK.out _ B1).mono ?_;rintro e w2 ⟨vk,rfl,O2,b2⟩;rw[Hs1.out]at O2;obtain⟨ka,kc,hvk,-⟩:=q0Y O2;rw[HL.out]at hvk;subst hvk;have HPF:Hid (PF w w2 (.slice ao 8 co) (.slice aw nw cw) (.slice ab nb cb) (.slice sa ns sc) T1 (.slice ka L kc) (q0P H (k:Int))):=HP1.out _ _ _ b2 O2;clear b2 O2 CK HP1 B1;go_wp2;go_loopw[28] (λi wr=>∃(j:Nat)(T2:q0e),i= .int .i64 (j:Int)/\j<=L/\Hid (PF w wr (.slice ao 8 co) (.slice aw nw cw) (.slice ab nb cb) (.slice sa ns sc) T2 (.slice ka L kc) (q0P H (k:Int)))/\Hid (q2V d c H T0 R C M k j T2)/\Hid (x0A c T2.colors<=n)) (λi _=>L - (intOf i).toNat)
  case atStart=>exact⟨0,T1,rfl,by omega,HPF,HST,HO1⟩
  case round=>
   clear HPF HST HO1 HE1;obtain⟨j,T2,rfl,hjL,HP,HM,HO⟩:=hrel;by_cases hlt:j<L
   ·have hj2:j<(q0P H (k:Int)).length:=by have:=HL.out;omega
    obtain⟨z,hz⟩:∃z,(q0P H (k:Int))[j]=z:=⟨_,rfl⟩;obtain⟨C2,hD,hsh,hks,hRz,hz7⟩:=j3m hR HM.out hj2 z hz;obtain⟨m,rfl⟩:∃m:Nat,z=(m:Int):=⟨z.toNat,by omega⟩;have hm:m<8:=by omega
    rw[show((m:Int)).toNat=m from by omega]at hD hRz;obtain⟨ka2,kc2,hka,hr⟩:=z0e HP.out.kids;rw[HL.out]at hka;simp only[Value.slice.injEq]at hka;obtain⟨rfl,-,rfl⟩:=hka;obtain⟨kg,ko,rfl,hkg,hcz⟩:=hr j hj2;rw[hz]at hcz;have HZ:Hid (_=_):=hz;have E2:q0I T2:=by obtain⟨_,h,-⟩:=HM.out;exact h.pt.e
    have c2:=HP.out.arr.count E2 m hm;have f2:=HP.out.arr.frozen m;have e0:T2.counts.getD m 0=cnt T2 m:=rfl;rw[e0]at hD;obtain⟨y,hy⟩:∃y,wrap64 (cnt T2 m+d)=y:=⟨_,rfl⟩;rw[hy]at hD;obtain⟨X1,hX1⟩:∃X1,X1=wr.setCell ⟨w.heap.size,m,none⟩ (.int .i64 y):=⟨_,rfl⟩;have A1:Arr X1 w.heap.size ⟨T2.counts.set m y,T2.colors⟩:=by rw[hX1];exact HP.out.arr.setCount E2 m hm y
    have BX1:Below w.heap.size w X1:=by rw[hX1];exact HP.out.bel.setCell (p:=⟨w.heap.size,m,none⟩) nl0 _
    have HPX:Hid (PF w X1 (.slice ao 8 co) (.slice aw nw cw) (.slice ab nb cb) (.slice sa ns sc) ⟨T2.counts.set m y,T2.colors⟩ (.slice (some ⟨kg,ko,none⟩) L kc) (q0P H (k:Int))):=HP.out.turn BX1 (λi hi=>by rw[hX1];exact heap_setCell_other _ _ _ _ hi) A1;have HO3:Hid (x0A c (q0e.mk (T2.counts.set m y) T2.colors).colors<=n):=HO;generalize cnt T2 m=x at*;have hE3:=hD.pt.e;generalize (q0e.mk (T2.counts.set m y) T2.colors)=T3 at*;obtain⟨p0,p1,p2,p3,p4,p5,p6,p7,p8,p9,p10,p11,p12,p13,p14,p15,rfl⟩:=v0D hE3;have CI:Hid (∀_:Unit,_):=λ(_:Unit)=>HIH.out _ _ _ m X1 HO3.out hD hm hRz BX1;rw[u0O]at CI;have v0:X1.cell? ⟨w.heap.size+1,0,none⟩=_:=HPX.out.heap.cell 0;have v1:X1.cell? ⟨w.heap.size+1,1,none⟩=_:=HPX.out.heap.cell 1;have v2:X1.cell? ⟨w.heap.size+1,2,none⟩=_:=HPX.out.heap.cell 2;have v3:X1.cell? ⟨w.heap.size+1,3,none⟩=_:=HPX.out.heap.cell 3;simp only[List.getElem?_toArray,List.getElem?_cons_zero,List.getElem?_cons_succ]at v0 v1 v2 v3;have HA1:Hid _:=A1;rw[hX1]at v0 v1 v2 v3 HA1;have hm8:(m:Int)<8:=by omega
    have hjl:(j:Int)<(L:Int):=by omega
    have HE3:Hid _:=hE3;have HD3:Hid _:=hD;have HSH:Hid _:=hsh;have HKS:Hid _:=hks;clear A1 BX1 hD hRz E2 HM HP e0 hE3 hsh hks HO hr hz7 hz;go_wp2_with (refine x1V rfl HA1.out ?_)
    rw[<-hX1];clear hX1 v0 v1 v2 v3 c2 f2 HA1 hcz;refine(CI.out ()).mono ?_;rintro e w3 ⟨T4,rfl,hP4,b3⟩;have HM4:Hid (q2V d c H T0 R C M k (j+1) T4):=q4S hj2 (m:Int) HZ.out HSH.out HKS.out (by rw[show((m:Int)).toNat=m from by omega];exact hP4);have PF3:=HPX.out.later b3;have E4:q0I T4:=by obtain⟨_,h,-⟩:=HM4.out;exact h.pt.e
    have HO4:Hid (x0A c T4.colors<=n):=by obtain⟨C3,h4,-⟩:=hP4;exact Nat.le_trans (y3L HD3.out h4 (λx hx=>List.mem_append_left _ hx)) HO3.out
    obtain⟨q0,q1,q2,q3,q4,q5,q6,q7,q8,q9,q10,q11,q12,q13,q14,q15,rfl⟩:=v0D E4;have HA3:Hid _:=PF3.arr;have HPN:Hid (PF w (j0M w3 w.heap.size q0 q1 q2 q3 q4 q5 q6 q7 q8 q9 q10 q11 q12 q13 q14 q15) (.slice ao 8 co) (.slice aw nw cw) (.slice ab nb cb) (.slice sa ns sc) (trD q0 q1 q2 q3 q4 q5 q6 q7 q8 q9 q10 q11 q12 q13 q14 q15) (.slice (some ⟨kg,ko,none⟩) L kc) (q0P H (k:Int))):=PF3.turn (q1D q0 q1 q2 q3 q4 q5 q6 q7 q8 q9 q10 q11 q12 q13 q14 q15 PF3.bel nl0) (λi hi=>q2n _ _ q0 q1 q2 q3 q4 q5 q6 q7 q8 q9 q10 q11 q12 q13 q14 q15 i hi) (x1b PF3.arr HE3.out q0 q1 q2 q3 q4 q5 q6 q7 q8 q9 q10 q11 q12 q13 q14 q15);rw[u0O];clear PF3 HPX b3 hP4 CI E4;go_wp2_with (refine u0C rfl rfl HA3.out HE3.out ?_)
    go_roundw
    case rel=>exact⟨j+1,trD q0 q1 q2 q3 q4 q5 q6 q7 q8 q9 q10 q11 q12 q13 q14 q15,by go_num,by omega,HPN,HM4,HO4⟩
    case measure=>simp[intOf];omega
   ·have hLj:L<=j:=by omega
    have HFIN:Hid (j1E d c H T0 R C M k T2):=x4V HM.out (by rw[HL.out];exact hLj);have E2:q0I T2:=by obtain⟨_,h,-⟩:=HM.out;exact h.pt.e
    obtain⟨p0,p1,p2,p3,p4,p5,p6,p7,p8,p9,p10,p11,p12,p13,p14,p15,rfl⟩:=v0D E2;have HA5:Hid _:=HP.out.arr;have HR5:Hid _:=HP.out.res;have HZ5:Hid (q0I (trD 0 0 0 0 0 0 0 0 0 0 0 0 0 0 0 0)):=⟨rfl,rfl⟩;obtain⟨f0_,f1_,f2_,f3_,f4_,f5_,f6_,f7_,f8_,f9_,f10_,f11_,f12_,f13_,f14_,f15_⟩:=(x1b HP.out.res HZ5.out p0 p1 p2 p3 p4 p5 p6 p7 p8 p9 p10 p11 p12 p13 p14 p15).all;have HB:Hid (Below w.heap.size w (j0M wr (w.heap.size+2) p0 p1 p2 p3 p4 p5 p6 p7 p8 p9 p10 p11 p12 p13 p14 p15)):=q1D p0 p1 p2 p3 p4 p5 p6 p7 p8 p9 p10 p11 p12 p13 p14 p15 HP.out.bel (by omega);clear HP HM HO E2;go_wp2_with (first|(refine x1V rfl HA5.out ?_)|(refine u0C rfl rfl HR5.out HZ5.out ?_))
    exact bodyPost_ret (v:= .agg #[.int .i64 p0,.int .i64 p1,.int .i64 p2,.int .i64 p3,.int .i64 p4,.int .i64 p5,.int .i64 p6,.int .i64 p7,.int .i64 p8,.int .i64 p9,.int .i64 p10,.int .i64 p11,.int .i64 p12,.int .i64 p13,.int .i64 p14,.int .i64 p15]) (by simp[results,Tryz.results142,go_sem, *]) rfl ⟨_,rfl,HFIN.out,HB.out⟩
end
section
open Go.RowKit
variable{a:Act}{K:Act → World → Prop}{af:Array Edge}{Q:Exit → Act → World → Prop}{pos:String}{T:q0e}{ty:TypeId}
def u0a(u v:Value):Prop:=∀g,u.ownBlock=some g->v.ownBlock≠some g
theorem u0a.symm{u v:Value}(h:u0a u v):u0a v u:=λg h1 h2=>h g h2 h1
structure TSh where
 a:Option Addr
 n:Nat
 c:Nat
 b:Option Addr
 m:Nat
 d:Nat
def TSh.x(s:TSh):Value:= .slice s.a s.n s.c
def TSh.y(s:TSh):Value:= .slice s.b s.m s.d
def TSh.v(s:TSh):Value:= .agg #[.slice s.a s.n s.c,.slice s.b s.m s.d]
structure TM(w:World)(B:Nat)(s:TSh)(T:q0e):Prop where
 x:q0i w B s.x T.counts
 y:q0i w B s.y T.colors
 dif:u0a s.x s.y
theorem TM.later{w w' :World}{B:Nat}{s:TSh}(h:TM w B s T)(hb:Below w.heap.size w w'):TM w' B s T:=⟨q0o h.x hb,q0o h.y hb,h.dif⟩
theorem TM.mono{w:World}{B C:Nat}{s:TSh}(h:TM w B s T)(hC:C<=B):TM w C s T:=⟨q0A h.x hC,q0A h.y hC,h.dif⟩
theorem TM.same{w w' :World}{B:Nat}{s:TSh}(h:TM w B s T)(hs:∀g,B<=g->g<w.heap.size->w'.heap[g]? =w.heap[g]?):TM w' B s T:=
 ⟨q0v h.x (λg hg=>hs g (q0n h.x g hg).1 (q0n h.x g hg).2),q0v h.y (λg hg=>hs g (q0n h.y g hg).1 (q0n h.y g hg).2),h.dif⟩
theorem z1C{w:World}{B:Nat}{a:Option Addr}{n c:Nat}{zs:List Int}(h:q0i w B (.slice a n c) zs):n=zs.length:=by obtain⟨a2,c2,h1,-⟩:=q0Y h;injection h1
theorem TM.lens{w:World}{B:Nat}{s:TSh}(h:TM w B s T):s.n=T.counts.length/\s.m=T.colors.length:=⟨z1C h.x,z1C h.y⟩
theorem TM.rd{w:World}{B:Nat}{s:TSh}(h:TM w B s T):RdT w s.v T:=by obtain⟨a,c,h1,h2⟩:=q0Y h.x;obtain⟨b,d,h3,h4⟩:=q0Y h.y;refine⟨a,c,b,d,?_,h2.out,h4.out⟩;show Value.agg #[s.x,s.y]=_;rw[h1,h3]
def Two(X:World)(g:Nat)(x0 x1:Value):Prop:=X.heap[g]? =some (.cells #[x0,x1] 101 (0,0))
theorem Two.cell{X:World}{g:Nat}{x0 x1:Value}(h:Two X g x0 x1)(k:Nat):X.cell? ⟨g,k,none⟩=(#[x0,x1]:Array Value)[k]?:=by have h' :X.heap[g]? =some (.cells #[x0,x1] 101 (0,0)):=h;simp[World.cell?,h']
theorem Two.frozen{X:World}{g:Nat}{x0 x1:Value}(h:Two X g x0 x1)(k:Nat):X.frozen? ⟨g,k,none⟩=false:=by have h' :X.heap[g]? =some (.cells #[x0,x1] 101 (0,0)):=h;simp[World.frozen?,h']
theorem Two.lt{X:World}{g:Nat}{x0 x1:Value}(h:Two X g x0 x1):g<X.heap.size:=(Array.getElem?_eq_some_iff.1 h).1
theorem Two.same{X Y:World}{g:Nat}{x0 x1:Value}(h:Two X g x0 x1)(hs:Y.heap[g]? =X.heap[g]?):Two Y g x0 x1:=hs.trans h
theorem Two.later{X Y:World}{g B:Nat}{x0 x1:Value}(h:Two X g x0 x1)(hb:Below B X Y)(hg:g<B):Two Y g x0 x1:=h.same (hb.block g hg)
theorem Two.new(w:World)(x0 x1:Value):Two (w.alloc (.cells #[x0,x1] 101)) w.heap.size x0 x1:=heap_alloc_new w _
def q0B(X:World)(g:Nat)(y0 y1:Value):World:=(X.setCell ⟨g,0,none⟩ y0).setCell ⟨g,1,none⟩ y1
theorem z0c(X:World)(g:Nat)(y0 y1:Value)(i:Nat)(h:i≠g):(q0B X g y0 y1).heap[i]? =X.heap[i]?:=by unfold q0B;iterate 2 rw[heap_setCell_other _ _ _ _ (by exact h)]
theorem u0y{X:World}{g:Nat}{u0 u1:Value}(y0 y1:Value)(h:Two X g u0 u1):(q0B X g y0 y1).cell? ⟨g,0,none⟩=some y0/\(q0B X g y0 y1).cell? ⟨g,1,none⟩=some y1:=by
 have same:∀(W:World)(q:Nat)(u v:Value),W.cell? ⟨g,q,none⟩=some v->(W.setCell ⟨g,q,none⟩ u).cell? ⟨g,q,none⟩=some u:=λW q u v hW=>World.cell?_setCell_same W _ u hW;unfold q0B;constructor
 ·rw[q0q _ _ _ _ _ (by omega)];exact same _ _ _ _ (h.cell 0)
 ·exact same _ _ _ _ (by rw[q0q _ _ _ _ _ (by omega)];exact h.cell 1)
theorem v0s{t i:Tmp}{X:World}{P:Nat}(k:Nat)(hk:k<2)(h1:a.eval (.tmp i)= .pointer (some ⟨P,0,none⟩))(hK:K (a.put (some t) (.pointer (some ⟨P,k,none⟩))) X):
 Oper.wp Tryz.prog ⟨some t,.fieldAddr 101 (.tmp i) k,ty,pos,af,none⟩ a X K Q:=by
 have h:=q0x h1
 match k,hk with
 |0,_=>go_simp;exact hK
 |1,_=>go_simp;exact hK
theorem y1s{t i j:Tmp}{X:World}{x y:Option Addr}{n m c d:Nat}(h1:a.eval (.tmp i)= .slice x n c)(h2:a.eval (.tmp j)= .slice y m d)(hK:K (a.put (some t) (.agg #[.slice x n c,.slice y m d])) X):Oper.wp Tryz.prog ⟨some t,.build 101 #[(0,.tmp i),(1,.tmp j)],ty,pos,af,none⟩ a X K Q:=by have e1:=q0x h1;have e2:=q0x h2;go_simp;exact hK
theorem j0l{i j:Tmp}{X:World}{g:Nat}{u0 u1:Value}{x y:Option Addr}{n m c d:Nat}(h1:a.eval (.tmp i)= .pointer (some ⟨g,0,none⟩))(h2:a.eval (.tmp j)= .agg #[.slice x n c,.slice y m d])(hf:Two X g u0 u1)(hK:K a (q0B X g (.slice x n c) (.slice y m d))):Oper.wp Tryz.prog ⟨none,.store 101 (.tmp i) (.tmp j),ty,pos,af,none⟩ a X K Q:=by have e1:=q0x h1;have e2:=q0x h2;have k0:X.cell? ⟨g,0,none⟩=some u0:=hf.cell 0;have k1:X.cell? ⟨g,1,none⟩=some u1:=hf.cell 1;have f0:=hf.frozen 0;have f1:=hf.frozen 1;go_simp;exact hK
def RT(B P:Nat)(aa:Option Addr)(an ac:Nat)(ba:Option Addr)(bn bc:Nat)(NA NB:List Value):Nat->World->Value->Prop
 |0,X,v=>∃g,v= .slice (some ⟨g,0,none⟩) 0 0/\B<=g/\X.heap[g]? =some (.cells #[] 3 (0,0))
 |1,X,v=>v= .pointer (some ⟨P,0,none⟩)
 |2,X,v=>v= .slice aa an ac
 |3,X,v=>X.ownsRow B 3 1 v an NA
 |4,X,v=>∃g,v= .slice (some ⟨g,0,none⟩) 0 0/\B<=g/\X.heap[g]? =some (.cells #[] 3 (0,0))
 |5,X,v=>v= .pointer (some ⟨P,1,none⟩)
 |6,X,v=>v= .slice ba bn bc
 |7,X,v=>X.ownsRow B 3 1 v bn NB
 |8,X,v=>∃x1 c1 x2 c2,v= .agg #[.slice x1 an c1,.slice x2 bn c2]/\X.ownsRow B 3 1 (.slice x1 an c1) an NA/\X.ownsRow B 3 1 (.slice x2 bn c2) bn NB/\u0a (.slice x1 an c1) (.slice x2 bn c2)
 |_,_,_=>True
def y1o:Nat->Nat
 |0=>1
 |3=>1
 |4=>2
 |7=>2
 |_=>0
def DT(i j:Nat)(u v:Value):Prop:=y1o i≠0->y1o j≠0->y1o i≠y1o j->u0a u v
theorem z5m{B P:Nat}{aa:Option Addr}{an ac:Nat}{ba:Option Addr}{bn bc:Nat}{NA NB:List Value}(i:Nat)(X Y:World)(v:Value)(h:RT B P aa an ac ba bn bc NA NB i X v)(hb:Below X.heap.size X Y):RT B P aa an ac ba bn bc NA NB i Y v:=by
 have blk:∀(g:Nat)(o:Obj),X.heap[g]? =some o->Y.heap[g]? =some o:=λg o hg=>(hb.block g (Array.getElem?_eq_some_iff.1 hg).1).trans hg
 match i,h with
 |0,⟨g,h1,h2,h3⟩=>exact⟨g,h1,h2,blk g _ h3⟩
 |1,h=>exact h
 |2,h=>exact h
 |3,h=>exact x0s h hb
 |4,⟨g,h1,h2,h3⟩=>exact⟨g,h1,h2,blk g _ h3⟩
 |5,h=>exact h
 |6,h=>exact h
 |7,h=>exact x0s h hb
 |8,⟨x1,c1,x2,c2,h1,h2,h3,h4⟩=>exact⟨x1,c1,x2,c2,h1,x0s h2 hb,x0s h3 hb,h4⟩
 |n+9,_=>exact trivial
theorem x5E{B P:Nat}{aa:Option Addr}{an ac:Nat}{ba:Option Addr}{bn bc:Nat}{NA NB:List Value}(i:Nat)(X:World)(v:Value)(h:RT B P aa an ac ba bn bc NA NB i X v)(hf:y1o i≠0):∀g,v.ownBlock=some g->g<X.heap.size:=by
 intro g hg
 match i,h,hf with
 |0,⟨g2,h1,h2,h3⟩,_=>
  subst h1;obtain rfl:g2=g:=by simpa[Value.ownBlock]using hg
  exact(Array.getElem?_eq_some_iff.1 h3).1
 |3,h,_=>exact(World.ownsRow.lt h g hg).2
 |4,⟨g2,h1,h2,h3⟩,_=>
  subst h1;obtain rfl:g2=g:=by simpa[Value.ownBlock]using hg
  exact(Array.getElem?_eq_some_iff.1 h3).1
 |7,h,_=>exact(World.ownsRow.lt h g hg).2
 |1,_,hf=>exact absurd rfl hf
 |2,_,hf=>exact absurd rfl hf
 |5,_,hf=>exact absurd rfl hf
 |6,_,hf=>exact absurd rfl hf
 |8,_,hf=>exact absurd rfl hf
 |n+9,_,hf=>exact absurd rfl hf
theorem x3o{B P:Nat}{aa:Option Addr}{an ac:Nat}{ba:Option Addr}{bn bc:Nat}{NA NB:List Value}{i j:Nat}{X:World}{u v:Value}(h:RT B P aa an ac ba bn bc NA NB j X v)(hu:u.ownBlock=some X.heap.size):DT i j u v/\DT j i v u:=
 have key:y1o j≠0->u0a u v:=λhj g h1 h2=>by
  have h3:=x5E j X v h hj g h2;rw[hu]at h1;injection h1 with h1;omega
 ⟨λ_ hj _=>key hj,λhj _ _=>(key hj).symm⟩
theorem u4Y{B P:Nat}{aa:Option Addr}{an ac:Nat}{ba:Option Addr}{bn bc:Nat}{NA NB:List Value}{i j k g:Nat}{X:World}{u u0 v:Value}(h:RT B P aa an ac ba bn bc NA NB j X v)(hu:∃g',u.ownBlock=some g' /\(g' =g\/g' =X.heap.size))(h0:u0.ownBlock=some g)(hf:y1o k=y1o i)(hk:j≠k->DT k j u0 v):DT i j u v/\DT j i v u:=by
 obtain⟨g',h1,rfl|rfl⟩:=hu
 ·have key:y1o i≠0->y1o j≠0->y1o i≠y1o j->u0a u v:=λhi hj hij q h2 h3=>by
   rw[h1]at h2;injection h2 with h2;subst h2;refine hk ?_ (by rw[hf];exact hi) hj (by rw[hf];exact hij) g' h0 h3;rintro rfl;exact hij hf.symm
  exact⟨key,λhj hi hij=>(key hi hj (λe=>hij e.symm)).symm⟩
 ·exact x3o h h1
theorem y2S{i j:Nat}{u v:Value}(hi:y1o i=0):DT i j u v/\DT j i v u:=⟨λh=>absurd hi h,λ_ h=>absurd hi h⟩
theorem v1T(v:Value)(T:q0e)(w:World)(h:RdT w v T)(hs:v0p T):
 Calls Tryz.prog 102 #[v] w λe w' =>∃s:TSh,e= .returned s.v/\TM w' w.heap.size s T/\Below w.heap.size w w' :=by
 obtain⟨aa,ac,ab,ad,rfl,r1,r2⟩:=h;have l0:=hs.counts;have l1:=hs.colors;obtain⟨W,hW⟩:∃W,W=(w.alloc (.cells #[.slice aa T.counts.length ac,.slice ab T.colors.length ad] 101)).alloc (.cells #[.slice none 0 0,.slice none 0 0] 101):=⟨_,rfl⟩;have BW:Below w.heap.size w W:=by rw[hW];exact(bl1 _).alloc (by simp) _
 have hWs:W.heap.size=w.heap.size+2:=by rw[hW];simp
 have FP:Two W w.heap.size (.slice aa T.counts.length ac) (.slice ab T.colors.length ad):=by
  have f1:=Two.new w (.slice aa T.counts.length ac) (.slice ab T.colors.length ad);have hb2:Below (w.heap.size+1) (w.alloc (.cells #[.slice aa T.counts.length ac,.slice ab T.colors.length ad] 101)) W:=by rw[hW];exact bl0.alloc (by simp) _
  exact(hb2.block w.heap.size (by omega)).trans f1
 have FR:Two W (w.heap.size+1) (.slice none 0 0) (.slice none 0 0):=by rw[hW];have f1:=Two.new (w.alloc (.cells #[.slice aa T.counts.length ac,.slice ab T.colors.length ad] 101)) (.slice none 0 0) (.slice none 0 0);simpa using f1
 have HSA:Hid (v0q W aa T.counts.length 1 (T.counts.map z0C)):=(u1s r1).later BW;have HSB:Hid (v0q W ab T.colors.length 1 (T.colors.map z0C)):=(u1s r2).later BW;have HFP:Hid (Two W w.heap.size (.slice aa T.counts.length ac) (.slice ab T.colors.length ad)):=FP;have HFR:Hid (Two W (w.heap.size+1) (.slice none 0 0) (.slice none 0 0)):=FR;have HBW:Hid (Below w.heap.size w W):=BW;have HWs:Hid (W.heap.size=w.heap.size+2):=hWs;clear r1 r2 FP FR hs BW;go_enter Tryz.func102,Tryz.ntmps102;go_wp2;rw[<-hW];clear hW;refine u0D 9 (by kernel_rfl) (by kernel_rfl) (RT W.heap.size w.heap.size aa T.counts.length ac ab T.colors.length ad (T.counts.map z0C) (T.colors.map z0C)) DT z5m ?_ ?_
 ·intro i o hi ho a X hX hA dn hbn hdep;have FX:=HFP.out.later hX (by omega);have hXs:=hX.size
  match i,hi,ho with
  |0,_,ho=>
   cases ho
   exact v3t ⟨_,rfl,bl1 _,⟨X.heap.size,rfl,hXs,u0G X _⟩,λj hj _ t ht=>x3o (hbn.yields j hj t ht) rfl⟩
  |1,_,ho=>
   cases ho
   exact v0s 0 (by omega) (q0f hA (t:=1) (by kernel_rfl)) ⟨_,rfl,bl0,rfl,λj hj _ t ht=>y2S rfl⟩
  |2,_,ho=>
   cases ho
   have e1:a.eval (.tmp 4)= .pointer (some ⟨w.heap.size,0,none⟩):=hbn.yields 1 (hdep ⟨1,.data⟩ (by simp) rfl) 4 rfl;exact x0E e1 (FX.cell 0) ⟨_,rfl,bl0,rfl,λj hj _ t ht=>y2S rfl⟩
  |3,_,ho=>
   cases ho
   have d0:=hdep ⟨0,.data⟩ (by simp) rfl;obtain⟨g,e1,gB,hg⟩:=hbn.yields 0 d0 3 rfl;have e2:a.eval (.tmp 5)= .slice aa T.counts.length ac:=hbn.yields 2 (hdep ⟨2,.data⟩ (by simp) rfl) 5 rfl;exact j0Z elI _ _ rfl g W.heap.size hg gB aa T.counts.length ac _ e1 e2 (HSA.out.later hX) (by omega) (by omega) (λv' w' r b ho=>⟨_,rfl,b,r,λj hj _ t ht=>u4Y (k:=0) (g:=g) (u0:=a.eval (.tmp 3)) (hbn.yields j hj t ht) ho.out (by rw[e1];rfl) rfl (λhne=>hbn.pairs 0 j d0 hj (λe=>hne e.symm) 3 t rfl ht)⟩)
  |4,_,ho=>
   cases ho
   exact v3t ⟨_,rfl,bl1 _,⟨X.heap.size,rfl,hXs,u0G X _⟩,λj hj _ t ht=>x3o (hbn.yields j hj t ht) rfl⟩
  |5,_,ho=>
   cases ho
   exact v0s 1 (by omega) (q0f hA (t:=1) (by kernel_rfl)) ⟨_,rfl,bl0,rfl,λj hj _ t ht=>y2S rfl⟩
  |6,_,ho=>
   cases ho
   have e1:a.eval (.tmp 8)= .pointer (some ⟨w.heap.size,1,none⟩):=hbn.yields 5 (hdep ⟨5,.data⟩ (by simp) rfl) 8 rfl;exact x0E e1 (FX.cell 1) ⟨_,rfl,bl0,rfl,λj hj _ t ht=>y2S rfl⟩
  |7,_,ho=>
   cases ho
   have d0:=hdep ⟨4,.data⟩ (by simp) rfl;obtain⟨g,e1,gB,hg⟩:=hbn.yields 4 d0 7 rfl;have e2:a.eval (.tmp 9)= .slice ab T.colors.length ad:=hbn.yields 6 (hdep ⟨6,.data⟩ (by simp) rfl) 9 rfl;exact j0Z elI _ _ rfl g W.heap.size hg gB ab T.colors.length ad _ e1 e2 (HSB.out.later hX) (by omega) (by omega) (λv' w' r b ho=>⟨_,rfl,b,r,λj hj _ t ht=>u4Y (k:=4) (g:=g) (u0:=a.eval (.tmp 7)) (hbn.yields j hj t ht) ho.out (by rw[e1];rfl) rfl (λhne=>hbn.pairs 4 j d0 hj (λe=>hne e.symm) 7 t rfl ht)⟩)
  |8,_,ho=>
   cases ho
   have d3:=hdep ⟨3,.data⟩ (by simp) rfl;have d7:=hdep ⟨7,.data⟩ (by simp) rfl;have q1:X.ownsRow W.heap.size 3 1 (a.eval (.tmp 6)) T.counts.length (T.counts.map z0C):=hbn.yields 3 d3 6 rfl;have q2:X.ownsRow W.heap.size 3 1 (a.eval (.tmp 10)) T.colors.length (T.colors.map z0C):=hbn.yields 7 d7 10 rfl;have q3:u0a (a.eval (.tmp 6)) (a.eval (.tmp 10)):=hbn.pairs 3 7 d3 d7 (by decide) 6 10 rfl rfl (by decide) (by decide) (by decide);obtain⟨x1,c1,e1,_⟩:=y0s q1;obtain⟨x2,c2,e2,_⟩:=y0s q2;rw[e1]at q1 q3;rw[e2]at q2 q3;exact y1s e1 e2 ⟨_,rfl,bl0,⟨x1,c1,x2,c2,rfl,q1,q2,q3⟩,λj hj _ t ht=>y2S rfl⟩
 ·intro o ho a X hX hA dn hbn hdn
  cases ho
  obtain⟨x1,c1,x2,c2,e2,q1,q2,q3⟩:=hbn.yields 8 (hdn 8 (by omega)) 11 rfl;have e1:a.eval (.tmp 2)= .pointer (some ⟨w.heap.size+1,0,none⟩):=q0f hA (t:=2) (by kernel_rfl);have hf:Two X (w.heap.size+1) (.slice none 0 0) (.slice none 0 0):=HFR.out.later hX (by omega);refine j0l e1 e2 hf ?_;obtain⟨us,hus,rfl⟩:=q0F hA [3,4,5,6,7,8,9,10,11] (by kernel_rfl);obtain⟨k0,k1⟩:=u0y (.slice x1 T.counts.length c1) (.slice x2 T.colors.length c2) hf
  have HT:Hid (TM (q0B X (w.heap.size+1) (.slice x1 T.counts.length c1) (.slice x2 T.colors.length c2)) w.heap.size ⟨x1,T.counts.length,c1,x2,T.colors.length,c2⟩ T):=by have ne:∀{n:Nat}{v:Value}{xs:List Value},X.ownsRow W.heap.size 3 1 v n xs->(q0B X (w.heap.size+1) (.slice x1 T.counts.length c1) (.slice x2 T.colors.length c2)).ownsRow w.heap.size 3 1 v n xs:=λhr=>v1f (x1a hr (λi hi=>z0c _ _ _ _ i (by have:=(World.ownsRow.lt hr i hi).1;omega))) (by omega);exact⟨ne q1,ne q2,q3⟩
  have HB:Hid (Below w.heap.size w (q0B X (w.heap.size+1) (.slice x1 T.counts.length c1) (.slice x2 T.colors.length c2))):=by unfold q0B;exact((HBW.out.trans (hX.mono HBW.out.size)).setCell (by simp) _).setCell (by simp) _
  clear hbn hdn hA hus e1 e2 hf q1 q2 q3;generalize q0B X (w.heap.size+1) (.slice x1 T.counts.length c1) (.slice x2 T.colors.length c2)=Y at*;simp only[List.mapIdx_cons,List.mapIdx_nil,Nat.reduceAdd,List.contains_cons,List.contains_nil,Nat.reduceBEq,Bool.or_false,Bool.or_true,if_true,if_false,Bool.false_eq_true];go_wp2;refine bodyPost_ret (v:= .agg #[.slice x1 T.counts.length c1,.slice x2 T.colors.length c2]) (by simp[results,Tryz.results102,go_sem, *]) rfl ⟨⟨x1,T.counts.length,c1,x2,T.colors.length,c2⟩,rfl,HT.out,HB.out⟩
end
section
open Go.RowKit
structure OkT(H:q0a)(T:q0e)(slot:Int):Prop where
 objs:H.objs.length=8
 counts:T.counts.length=8
 colors:T.colors.length=8
 lo:0<=slot
 hi:slot<=7
 live:∃o,H.objs[slot.toNat]? =some o/\o.live=true
theorem j1A(v u:Value)(H:q0a)(T:q0e)(slot:Int)(w:World)(h:RdH w v H)(ht:RdT w u T)(hs:q0h H)(hst:v0p T)(b:Bool)(hb:b=true↔OkT H T slot):
 Calls Tryz.prog 103 #[v,u,.int .i64 slot] w λe w' =>e= .returned (.bool b)/\Below w.heap.size w w' :=by
 obtain⟨ao,co,aw,cw,ab,cb,sa,sc,rfl,ro,-,-,-⟩:=h;obtain⟨xa,xc,ya,yc,rfl,-,-⟩:=ht;have l0:=hs.objs;have l1:=hst.counts;have l2:=hst.colors;obtain⟨W,hW⟩:∃W,W=(w.alloc (.cells #[.slice ao H.objs.length co,.slice aw H.weaks.length cw,.slice ab H.buffer.length cb,.slice sa H.sites.length sc] 35)).alloc (.cells #[.slice xa T.counts.length xc,.slice ya T.colors.length yc] 101):=⟨_,rfl⟩;have BW:Below w.heap.size w W:=by rw[hW];exact(bl1 _).alloc (by simp) _
 have HB:Hid (b=true↔OkT H T slot):=hb;clear hs hst hb;obtain⟨n,hn⟩:∃n,H.objs.length=n:=⟨_,rfl⟩;obtain⟨m,hm⟩:∃m,T.counts.length=m:=⟨_,rfl⟩;obtain⟨k,hk⟩:∃k,T.colors.length=k:=⟨_,rfl⟩;have Hn:Hid (H.objs.length=n):=hn;have Hm:Hid (T.counts.length=m):=hm;have Hk:Hid (T.colors.length=k):=hk;rw[hn]at l0 hW ⊢;rw[hm]at l1 hW ⊢;rw[hk]at l2 hW ⊢;have HR:Hid (RdO W ao H.objs):=q0V ro BW
 have no:¬OkT H T slot->b=false:=λhno=>by
  cases b with
  |false=>rfl
  |true=>exact absurd (HB.out.1 rfl) hno
 clear hn hm hk ro;by_cases g1:n=8
 ·have c1:((n:Int)==8)=true:=by simp[g1]
  by_cases g2:m=8
  ·have c2:((m:Int)==8)=true:=by simp[g2]
   by_cases g3:k=8
   ·have c3:((k:Int)==8)=true:=by simp[g3]
    by_cases g4:slot<0\/7<slot
    ·have C1:Hid (∀X,_):=λX=>x0B slot 0 7 X g4;obtain rfl:=no (λh=>by have:=h.lo;have:=h.hi;omega);subst g1 g2 g3;clear g4 no HB HR;go_enter Tryz.func103,Tryz.ntmps103;go_wp2_with fail
     rw[<-hW];clear hW;refine(C1.out _).mono ?_;rintro e W1 ⟨rfl,hw1⟩;subst hw1;go_wp2;go_ret
     exact⟨rfl,BW⟩
    ·have C1:Hid (∀X,_):=λX=>z0s slot 0 7 X (by omega) (by omega);obtain⟨s,rfl⟩:∃s:Nat,slot=(s:Int):=⟨slot.toNat,by omega⟩;have hs8:s<8:=by omega
     have hsl:s<H.objs.length:=by have:=Hn.out;omega
     obtain⟨g,off,f,fc,rfl,-,hc,-⟩:=HR.out s hsl;obtain⟨o,ho⟩:∃o,H.objs[s]=o:=⟨_,rfl⟩;rw[ho]at hc;have c0:=hc.c0
     have HV:Hid (b=o.live):=by
      show b=o.live;have hg:H.objs[((s:Nat):Int).toNat]? =some o:=by rw[show((s:Nat):Int).toNat=s from by omega,List.getElem?_eq_getElem hsl,ho]
      cases hl:o.live with
      |true=>exact HB.out.2 ⟨by have:=Hn.out;omega,by have:=Hm.out;omega,by have:=Hk.out;omega,by omega,by omega,o,hg,hl⟩
      |false=>exact no (λh=>by
        obtain⟨o2,h1,h2⟩:=h.live;rw[hg]at h1;injection h1 with h1;subst h1;rw[hl]at h2
        cases h2)
     subst g1 g2 g3;clear no HB HR hc ho hsl;generalize o.live=lv at*
     have p0:W.cell? ⟨w.heap.size,0,none⟩=some (.slice (some ⟨g,off,none⟩) 8 co):=by rw[hW];rw[(bl1 _:Below _ (w.alloc (.cells #[.slice (some ⟨g,off,none⟩) 8 co,.slice aw H.weaks.length cw,.slice ab H.buffer.length cb,.slice sa H.sites.length sc] 35)) _).cell (p:=⟨w.heap.size,0,none⟩) (by simp),World.cell?_alloc_mark];rfl
     go_enter Tryz.func103,Tryz.ntmps103;go_wp2_with fail
     rw[<-hW];clear hW;refine(C1.out _).mono ?_;rintro e W1 ⟨rfl,hw1⟩;subst hw1;go_wp2;go_ret
     exact⟨by rw[HV.out];rfl,BW⟩
   ·obtain rfl:=no (λh=>g3 (by have:=h.colors;have:=Hk.out;omega));have c3:((k:Int)==8)=false:=by simp;omega
    subst g1 g2;clear no HB HR;go_enter Tryz.func103,Tryz.ntmps103;go_wp2;rw[<-hW];go_ret
    exact⟨rfl,BW⟩
  ·obtain rfl:=no (λh=>g2 (by have:=h.counts;have:=Hm.out;omega));have c2:((m:Int)==8)=false:=by simp;omega
   subst g1;clear no HB HR;go_enter Tryz.func103,Tryz.ntmps103;go_wp2;rw[<-hW];go_ret
   exact⟨rfl,BW⟩
 ·obtain rfl:=no (λh=>g1 (by have:=h.objs;have:=Hn.out;omega));have c1:((n:Int)==8)=false:=by simp;omega
  clear no HB HR;go_enter Tryz.func103,Tryz.ntmps103;go_wp2;rw[<-hW];go_ret
  exact⟨rfl,BW⟩
end
section
open Go.RowKit
variable{a:Act}{K:Act → World → Prop}{af:Array Edge}{ats:Array TypeId}{post:Ending → World → Prop}{Q:Exit → Act → World → Prop}{pos:String}{T:q0e}{ty:TypeId}
theorem v4q{t i:Tmp}{X:World}{P:Nat}(h1:a.eval (.tmp i)= .pointer (some ⟨P,0,none⟩))(hK:K (a.put (some t) (.pointer (some ⟨P,0,none⟩))) X):
 Oper.wp Tryz.prog ⟨some t,.fieldAddr 156 (.tmp i) 0,ty,pos,af,none⟩ a X K Q:=by
 have h:=q0x h1;go_simp;exact hK
theorem v4r{t i:Tmp}{X:World}{P:Nat}(h1:a.eval (.tmp i)= .pointer (some ⟨P,0,none⟩))(hK:K (a.put (some t) (.pointer (some ⟨P,8,none⟩))) X):
 Oper.wp Tryz.prog ⟨some t,.fieldAddr 156 (.tmp i) 1,ty,pos,af,none⟩ a X K Q:=by
 have h:=q0x h1;go_simp;exact hK
theorem u3w{t i:Tmp}{X:World}{g off c:Nat}(h1:a.eval (.tmp i)= .slice (some ⟨g,off,none⟩) 8 c)(hK:K (a.put (some t) (.pointer (some ⟨g,off,none⟩))) X):
 Oper.wp Tryz.prog ⟨some t,.sliceToArrayPointer 154 (.tmp i),ty,pos,af,none⟩ a X K Q:=by
 have h:=q0x h1;go_simp;exact hK
theorem q3L{t i:Tmp}{X:World}{g off:Nat}{a0 a1 a2 a3 a4 a5 a6 a7:Int}(h1:a.eval (.tmp i)= .pointer (some ⟨g,off,none⟩))(hR:RdI X (some ⟨g,off,none⟩) [a0,a1,a2,a3,a4,a5,a6,a7])(hK:K (a.put (some t) (.agg #[.int .i64 a0,.int .i64 a1,.int .i64 a2,.int .i64 a3,.int .i64 a4,.int .i64 a5,.int .i64 a6,.int .i64 a7])) X):
 Oper.wp Tryz.prog ⟨some t,.load 154 (.tmp i),ty,pos,af,none⟩ a X K Q:=by
 have h:=q0x h1
 have q:∀j(h:j<8),X.cell? ⟨g,off+j,none⟩=some (.int .i64 ([a0,a1,a2,a3,a4,a5,a6,a7][j])):=λj hj=>by
  obtain⟨g2,off2,e,-,hc⟩:=hR j hj;injection e with e;injection e with e1 e2;subst e1 e2;exact hc
 have q0:=q 0 (by omega);have q1:=q 1 (by omega);have q2:=q 2 (by omega);have q3:=q 3 (by omega);have q4:=q 4 (by omega);have q5:=q 5 (by omega);have q6:=q 6 (by omega);have q7:=q 7 (by omega);simp only[List.getElem_cons_zero,List.getElem_cons_succ,Nat.add_zero]at q0 q1 q2 q3 q4 q5 q6 q7;clear q hR;go_simp;exact hK
theorem v4o{t i j:Tmp}{X:World}{a0 a1 a2 a3 a4 a5 a6 a7 b0 b1 b2 b3 b4 b5 b6 b7:Int}(h1:a.eval (.tmp i)= .agg #[.int .i64 a0,.int .i64 a1,.int .i64 a2,.int .i64 a3,.int .i64 a4,.int .i64 a5,.int .i64 a6,.int .i64 a7])(h2:a.eval (.tmp j)= .agg #[.int .i64 b0,.int .i64 b1,.int .i64 b2,.int .i64 b3,.int .i64 b4,.int .i64 b5,.int .i64 b6,.int .i64 b7])(hK:K (a.put (some t) (u0b (trD a0 a1 a2 a3 a4 a5 a6 a7 b0 b1 b2 b3 b4 b5 b6 b7))) X):Oper.wp Tryz.prog ⟨some t,.build 156 #[(0,.tmp i),(1,.tmp j)],ty,pos,af,none⟩ a X K Q:=by have e1:=q0x h1;have e2:=q0x h2;rw[u0O]at hK;go_simp;exact hK
theorem q1z{t i:Tmp}{X:World}{g:Nat}{x0 x1 x2 x3:Option Addr}{n0 n1 n2 n3 c0 c1 c2 c3:Nat}(h1:a.eval (.tmp i)= .pointer (some ⟨g,0,none⟩))(hF:q0d X g (.slice x0 n0 c0) (.slice x1 n1 c1) (.slice x2 n2 c2) (.slice x3 n3 c3))(hK:K (a.put (some t) (.agg #[.slice x0 n0 c0,.slice x1 n1 c1,.slice x2 n2 c2,.slice x3 n3 c3])) X):
 Oper.wp Tryz.prog ⟨some t,.load 35 (.tmp i),ty,pos,af,none⟩ a X K Q:=by
 have h:=q0x h1;have q0:X.cell? ⟨g,0,none⟩=_:=hF.cell 0;have q1:X.cell? ⟨g,1,none⟩=_:=hF.cell 1;have q2:X.cell? ⟨g,2,none⟩=_:=hF.cell 2;have q3:X.cell? ⟨g,3,none⟩=_:=hF.cell 3;simp only[List.getElem?_toArray,List.getElem?_cons_zero,List.getElem?_cons_succ]at q0 q1 q2 q3;go_simp;exact hK
theorem u3u{t i:Tmp}{X:World}{v:Value}(h1:a.eval (.tmp i)=v)(hK:K (a.put (some t) v) X):
 Oper.wp Tryz.prog ⟨some t,.move (.tmp i),ty,pos,af,none⟩ a X K Q:=by
 have h:=q0x h1;go_simp;exact hK
theorem v4i{t:Tmp}{X:World}(hK:K (a.put (some t) (.pointer (some ⟨X.heap.size,0,none⟩))) (X.alloc (.cells #[.int .i64 0,.int .i64 0,.int .i64 0,.int .i64 0,.int .i64 0,.int .i64 0,.int .i64 0,.int .i64 0,.int .i64 0,.int .i64 0,.int .i64 0,.int .i64 0,.int .i64 0,.int .i64 0,.int .i64 0,.int .i64 0] 156))):
 Oper.wp Tryz.prog ⟨some t,.alloc 156,ty,pos,af,none⟩ a X K Q:=by
 go_simp;exact hK
theorem j2y{t i:Tmp}{X:World}{g off:Nat}(h1:a.eval (.tmp i)= .pointer (some ⟨g,off,none⟩))(hK:K (a.put (some t) (.slice (some ⟨g,off,none⟩) 8 8)) X):
 Oper.wp Tryz.prog ⟨some t,.slice 154 (.tmp i) none none none,ty,pos,af,none⟩ a X K Q:=by
 have h:=q0x h1;go_simp;exact hK
def u3W(F:Nat):Prop:=∀(t f i j k:Tmp)(ty:TypeId)(pos:String)(af:Array Edge)(ats:Array TypeId)(a:Act)(X:World)(K:Act->World->Prop)(Q:Exit->Act->World->Prop)(u v z:Value)(post:Ending->World->Prop),a.eval (.tmp f)= .func (.func F) #[] #[]->a.eval (.tmp i)=u->a.eval (.tmp j)=v->a.eval (.tmp k)=z->
 Calls Tryz.prog F #[u,v,z] X post->(∀e w',post e w' ->∃x,e= .returned x/\K (a.put (some t) x) w')->
 Oper.wp Tryz.prog ⟨some t,.call {callee:= .value (.tmp f),args:= #[.tmp i,.tmp j,.tmp k],argTypes:=ats},ty,pos,af,none⟩ a X K Q
theorem z5J:u3W 140:=by intro t f i j k ty pos af ats a X K Q u v z post h0 h1 h2 h3 hC hK;have e0:=q0x h0;have e1:=q0x h1;have e2:=q0x h2;have e3:=q0x h3;go_simp;refine hC.mono (λe w' hp=> ?_);obtain⟨x,rfl,hx⟩:=hK e w' hp;exact hx
theorem z5K:u3W 141:=by intro t f i j k ty pos af ats a X K Q u v z post h0 h1 h2 h3 hC hK;have e0:=q0x h0;have e1:=q0x h1;have e2:=q0x h2;have e3:=q0x h3;go_simp;refine hC.mono (λe w' hp=> ?_);obtain⟨x,rfl,hx⟩:=hK e w' hp;exact hx
theorem q1x{t i:Tmp}{X:World}{v:Value}(h1:a.eval (.tmp i)=v)(hC:Calls Tryz.prog 80 #[v] X post)(hK:∀e w',post e w' ->∃x,e= .returned x/\K (a.put (some t) x) w'):
 Oper.wp Tryz.prog ⟨some t,.call {callee:= .value (.func 80),args:= #[.tmp i],argTypes:=ats},ty,pos,af,none⟩ a X K Q:=by
 have h:=q0x h1;go_simp;refine hC.mono (λe w' hp=> ?_);obtain⟨x,rfl,hx⟩:=hK e w' hp;exact hx
theorem Arr.rdx{X:World}{g:Nat}(h:Arr X g T)(h8:q0I T):RdI X (some ⟨g,0,none⟩) T.counts:=λj hj=>by
 refine⟨g,0,rfl,h.lt,?_⟩;have hj8:j<8:=by have:=h8.1;omega
 rw[Nat.zero_add,h.count h8 j hj8];unfold cnt;rw[List.getD_eq_getElem?_getD,List.getElem?_eq_getElem hj];rfl
theorem Arr.rdy{X:World}{g:Nat}(h:Arr X g T)(h8:q0I T):RdI X (some ⟨g,8,none⟩) T.colors:=λj hj=>by
 refine⟨g,8,rfl,h.lt,?_⟩;have hj8:j<8:=by have:=h8.2;omega
 rw[h.color h8 j hj8];unfold col;rw[List.getD_eq_getElem?_getD,List.getElem?_eq_getElem hj];rfl
end
section
open Go.RowKit
def RU(B:Nat)(p0 s1 p3 s4:Value)(xs ys:List Int):Nat->World->Value->Prop
 |0,_,v=>v=p0
 |1,_,v=>v=s1
 |2,X,v=>q0i X B v xs
 |3,_,v=>v=p3
 |4,_,v=>v=s4
 |5,X,v=>q0i X B v ys
 |6,X,v=>∃x1 c1 x2 c2,v= .agg #[.slice x1 xs.length c1,.slice x2 ys.length c2]/\q0i X B (.slice x1 xs.length c1) xs/\q0i X B (.slice x2 ys.length c2) ys/\u0a (.slice x1 xs.length c1) (.slice x2 ys.length c2)
 |_,_,_=>True
def u2i:Nat->Nat
 |2=>1
 |5=>2
 |_=>0
def DU(i j:Nat)(u v:Value):Prop:=u2i i≠0->u2i j≠0->u2i i≠u2i j->u0a u v
theorem y1u{B:Nat}{p0 s1 p3 s4:Value}{xs ys:List Int}(i:Nat)(X Y:World)(v:Value)(h:RU B p0 s1 p3 s4 xs ys i X v)(hb:Below X.heap.size X Y):RU B p0 s1 p3 s4 xs ys i Y v:=by
 match i,h with
 |0,h=>exact h
 |1,h=>exact h
 |2,h=>exact q0o h hb
 |3,h=>exact h
 |4,h=>exact h
 |5,h=>exact q0o h hb
 |6,⟨x1,c1,x2,c2,h1,h2,h3,h4⟩=>exact⟨x1,c1,x2,c2,h1,q0o h2 hb,q0o h3 hb,h4⟩
 |n+7,_=>exact trivial
theorem y0G{i j:Nat}{u v:Value}(hi:u2i i=0):DU i j u v/\DU j i v u:=⟨λh=>absurd hi h,λ_ h=>absurd hi h⟩
theorem x1H{B:Nat}{p0 s1 p3 s4:Value}{xs ys zs:List Int}{i j:Nat}{X Y:World}{u v:Value}(h:RU B p0 s1 p3 s4 xs ys j X v)(hu:q0i Y X.heap.size u zs):DU i j u v/\DU j i v u:=by
 have key:u2i j≠0->u0a u v:=λhj g h1 h2=>by
  have hg:=(q0n hu g h1).1
  have hl:g<X.heap.size:=by
   match j,h,hj with
   |2,h,_=>exact(q0n h g h2).2
   |5,h,_=>exact(q0n h g h2).2
   |0,_,hf=>exact absurd rfl hf
   |1,_,hf=>exact absurd rfl hf
   |3,_,hf=>exact absurd rfl hf
   |4,_,hf=>exact absurd rfl hf
   |6,_,hf=>exact absurd rfl hf
   |n+7,_,hf=>exact absurd rfl hf
  omega
 exact⟨λ_ hj _=>key hj,λhj _ _=>(key hj).symm⟩
theorem u0u(w:World)(a:Option Addr)(c:Nat)(zs:List Int)(hr:RdI w a zs)(hm:zs.length<=16777216):
 Calls Tryz.prog 80 #[.slice a zs.length c] w λe w' =>∃x,e= .returned x/\q0i w' w.heap.size x zs/\Below w.heap.size w w' :=v1D w a zs.length c (zs.map z0C) (u1s hr) hm
theorem q3w(v u f:Value)(H:q0a)(T:q0e)(slot:Int)(w:World)(h:RdH w v H)(ht:RdT w u T)(hs:q0h H)(hst:v0p T)(hno:¬OkT H T slot):
 Calls Tryz.prog 139 #[v,u,.int .i64 slot,f] w λe w' =>∃s:TSh,e= .returned s.v/\TM w' w.heap.size s T/\Below w.heap.size w w' :=by
 have HRH:Hid (∀X,Below w.heap.size w X->RdH X v H):=λX hX=>q0s h hX;obtain⟨ao,co,aw,cw,ab,cb,sa,sc,rfl,-,-,-,-⟩:=h;obtain⟨xa,xc,ya,yc,rfl,r1,r2⟩:=ht;have l0:=hs.objs;have l1:=hst.counts;have l2:=hst.colors;generalize H.weaks.length=nw at*;generalize H.buffer.length=nb at*;generalize H.sites.length=ns at*;have HCX:Hid (∀X,Below w.heap.size w X->_):=λX hX=>u0u X xa xc T.counts (q0t r1 hX) (by omega);have HCY:Hid (∀X,Below w.heap.size w X->_):=λX hX=>u0u X ya yc T.colors (q0t r2 hX) (by omega);obtain⟨lo,hlo⟩:∃lo,H.objs.length=lo:=⟨_,rfl⟩;obtain⟨lx,hlx⟩:∃lx,T.counts.length=lx:=⟨_,rfl⟩;obtain⟨ly,hly⟩:∃ly,T.colors.length=ly:=⟨_,rfl⟩;have HLO:Hid (H.objs.length=lo):=hlo;have HLX:Hid (T.counts.length=lx):=hlx;have HLY:Hid (T.colors.length=ly):=hly;rw[hlx]at HCX;rw[hly]at HCY;rw[hlo,hlx,hly];rw[hlo]at l0 HRH;rw[hlx]at l1;rw[hly]at l2;clear hlo hlx hly;obtain⟨W,hW⟩:∃W,W=((w.alloc (.cells #[.slice ao lo co,.slice aw nw cw,.slice ab nb cb,.slice sa ns sc] 35)).alloc (.cells #[.slice xa lx xc,.slice ya ly yc] 101)).alloc (.cells #[.slice none 0 0,.slice none 0 0] 101):=⟨_,rfl⟩;have BW:Below w.heap.size w W:=by rw[hW];exact((bl1 _).alloc (by simp) _).alloc (by simp;omega) _
 have hWs:W.heap.size=w.heap.size+3:=by rw[hW];simp
 have FH:q0d W w.heap.size (.slice ao lo co) (.slice aw nw cw) (.slice ab nb cb) (.slice sa ns sc):=by have f:=q0d.new w (.slice ao lo co) (.slice aw nw cw) (.slice ab nb cb) (.slice sa ns sc);have f2:=f.later (bl1 (.cells #[.slice xa lx xc,.slice ya ly yc] 101));have f3:=f2.later (bl1 (.cells #[.slice none 0 0,.slice none 0 0] 101));rw[hW];exact f3
 have FP:Two W (w.heap.size+1) (.slice xa lx xc) (.slice ya ly yc):=by have f:=Two.new (w.alloc (.cells #[.slice ao lo co,.slice aw nw cw,.slice ab nb cb,.slice sa ns sc] 35)) (.slice xa lx xc) (.slice ya ly yc);have f2:=f.later (bl1 (.cells #[.slice none 0 0,.slice none 0 0] 101)) (by simp);rw[<-hW]at f2;simpa using f2
 have FR:Two W (w.heap.size+2) (.slice none 0 0) (.slice none 0 0):=by have f:=Two.new ((w.alloc (.cells #[.slice ao lo co,.slice aw nw cw,.slice ab nb cb,.slice sa ns sc] 35)).alloc (.cells #[.slice xa lx xc,.slice ya ly yc] 101)) (.slice none 0 0) (.slice none 0 0);rw[<-hW]at f;simpa using f
 have HG1:Hid (w.heap.size+1<W.heap.size):=by show _<_;omega
 have HGR:Hid (w.heap.size+2<W.heap.size):=by show _<_;omega
 by_cases h0:lo=8
 ·subst h0;by_cases h1:lx=8
  ·subst h1;by_cases h2:ly=8
   ·subst h2
    have hnl:u0k H slot:=by
     by_cases a1:slot<0
     ·exact .inl a1
     by_cases a2:8<=slot
     ·exact .inr (.inl a2)
     refine .inr (.inr λo ho=> ?_)
     cases hv:o.live with
     |false=>rfl
     |true=>exact absurd ⟨HLO.out,HLX.out,HLY.out,by omega,by omega,o,ho,hv⟩ hno
    have CL:Hid (∀X,Below w.heap.size w X->_):=λX hX=>v0R _ H slot X (HRH.out X hX) (by rw[HLO.out];omega) hnl;have BWb0:=BW;have FPb0:=FP;have FRb0:=FR;have HWs:Hid (W.heap.size=w.heap.size+3):=hWs;clear HRH hno FH hWs hnl;go_enter Tryz.func139,Tryz.ntmps139;go_wp2_with fail
    rw[<-hW];clear hW;refine(CL.out _ BW).mono ?_;rintro e Wb ⟨rfl,bb⟩;have BWb:=BW.trans (bb.mono BW.size);have FPb:=FP.later bb HG1.out;have FRb:=FR.later bb HGR.out;have hbs:=bb.size;have HG1b:Hid (w.heap.size+1<Wb.heap.size):=Nat.lt_of_lt_of_le HG1.out hbs;have HGRb:Hid (w.heap.size+2<Wb.heap.size):=Nat.lt_of_lt_of_le HGR.out hbs;clear HG1 HGR;have HG1:Hid (w.heap.size+1<Wb.heap.size):=HG1b;have HGR:Hid (w.heap.size+2<Wb.heap.size):=HGRb;clear HG1b HGRb BW FP FR BWb0 FPb0 FRb0 CL bb;go_wp2;have HBW:Hid (Below w.heap.size w Wb):=BWb;have HFP:Hid (∀X,Below Wb.heap.size Wb X->Two X (w.heap.size+1) (.slice xa 8 xc) (.slice ya 8 yc)):=λX hX=>FPb.later hX HG1.out;have HRES:Hid (Two Wb (w.heap.size+2) (.slice none 0 0) (.slice none 0 0)):=FRb;have HCXb:Hid (∀X,Below Wb.heap.size Wb X->_):=λX hX=>HCX.out X (HBW.out.trans (hX.mono HBW.out.size));have HCYb:Hid (∀X,Below Wb.heap.size Wb X->_):=λX hX=>HCY.out X (HBW.out.trans (hX.mono HBW.out.size));clear BWb FPb FRb;refine u0D 7 (by kernel_rfl) (by kernel_rfl) (RU Wb.heap.size (.pointer (some ⟨w.heap.size+1,0,none⟩)) (.slice xa 8 xc) (.pointer (some ⟨w.heap.size+1,1,none⟩)) (.slice ya 8 yc) T.counts T.colors) DU y1u ?_ ?_
    ·intro i o hi ho a X hX hA dn hbn hdep;have hXs:=hX.size
     match i,hi,ho with
     |0,_,ho=>
      cases ho
      exact v0s 0 (by omega) (q0f hA (t:=5) (by kernel_rfl)) ⟨_,rfl,bl0,rfl,λj hj _ t ht=>y0G rfl⟩
     |1,_,ho=>
      cases ho
      have e1:a.eval (.tmp 32)=(.pointer (some ⟨w.heap.size+1,0,none⟩)):=hbn.yields 0 (hdep ⟨0,.data⟩ (by simp) rfl) 32 rfl;exact x0E e1 ((HFP.out X hX).cell 0) ⟨_,rfl,bl0,rfl,λj hj _ t ht=>y0G rfl⟩
     |2,_,ho=>
      cases ho
      have e1:a.eval (.tmp 33)=(.slice xa 8 xc):=hbn.yields 1 (hdep ⟨1,.data⟩ (by simp) rfl) 33 rfl;refine q1x e1 (HCXb.out X hX) ?_;rintro e w' ⟨x,rfl,hx,hb⟩;exact⟨x,rfl,⟨_,rfl,hb,q0A hx hXs,λj hj _ t ht=>x1H (hbn.yields j hj t ht) hx⟩⟩
     |3,_,ho=>
      cases ho
      exact v0s 1 (by omega) (q0f hA (t:=5) (by kernel_rfl)) ⟨_,rfl,bl0,rfl,λj hj _ t ht=>y0G rfl⟩
     |4,_,ho=>
      cases ho
      have e1:a.eval (.tmp 35)=(.pointer (some ⟨w.heap.size+1,1,none⟩)):=hbn.yields 3 (hdep ⟨3,.data⟩ (by simp) rfl) 35 rfl;exact x0E e1 ((HFP.out X hX).cell 1) ⟨_,rfl,bl0,rfl,λj hj _ t ht=>y0G rfl⟩
     |5,_,ho=>
      cases ho
      have e1:a.eval (.tmp 36)=(.slice ya 8 yc):=hbn.yields 4 (hdep ⟨4,.data⟩ (by simp) rfl) 36 rfl;refine q1x e1 (HCYb.out X hX) ?_;rintro e w' ⟨x,rfl,hx,hb⟩;exact⟨x,rfl,⟨_,rfl,hb,q0A hx hXs,λj hj _ t ht=>x1H (hbn.yields j hj t ht) hx⟩⟩
     |6,_,ho=>
      cases ho
      have d2:=hdep ⟨2,.data⟩ (by simp) rfl;have d5:=hdep ⟨5,.data⟩ (by simp) rfl;have q1:q0i X Wb.heap.size (a.eval (.tmp 34)) T.counts:=hbn.yields 2 d2 34 rfl;have q2:q0i X Wb.heap.size (a.eval (.tmp 37)) T.colors:=hbn.yields 5 d5 37 rfl;have q3:u0a (a.eval (.tmp 34)) (a.eval (.tmp 37)):=hbn.pairs 2 5 d2 d5 (by decide) 34 37 rfl rfl (by decide) (by decide) (by decide);obtain⟨x1,c1,e1,-⟩:=q0Y q1;obtain⟨x2,c2,e2,-⟩:=q0Y q2;rw[e1]at q1 q3;rw[e2]at q2 q3;exact y1s e1 e2 ⟨_,rfl,bl0,⟨x1,c1,x2,c2,rfl,q1,q2,q3⟩,λj hj _ t ht=>y0G rfl⟩
    ·intro o ho a X hX hA dn hbn hdn
     cases ho
     obtain⟨x1,c1,x2,c2,e2,q1,q2,q3⟩:=hbn.yields 6 (hdn 6 (by omega)) 38 rfl;have e1:a.eval (.tmp 8)= .pointer (some ⟨w.heap.size+2,0,none⟩):=q0f hA (t:=8) (by kernel_rfl);have hf:Two X (w.heap.size+2) (.slice none 0 0) (.slice none 0 0):=HRES.out.later hX (HGR.out);refine j0l e1 e2 hf ?_;obtain⟨us,hus,rfl⟩:=q0F hA [32,33,34,35,36,37,38] (by kernel_rfl);obtain⟨k0,k1⟩:=u0y (.slice x1 (T.counts).length c1) (.slice x2 (T.colors).length c2) hf
     have HT:Hid (TM (q0B X (w.heap.size+2) (.slice x1 (T.counts).length c1) (.slice x2 (T.colors).length c2)) w.heap.size ⟨x1,(T.counts).length,c1,x2,(T.colors).length,c2⟩ ⟨T.counts,T.colors⟩):=by have ne:∀{v:Value}{zs:List Int},q0i X Wb.heap.size v zs->q0i (q0B X (w.heap.size+2) (.slice x1 (T.counts).length c1) (.slice x2 (T.colors).length c2)) w.heap.size v zs:=λhr=>q0A (q0v hr (λi hi=>z0c _ _ _ _ i (by have:=(q0n hr i hi).1;have:=HGR.out;omega))) (Nat.le_trans HBW.out.size nl0);exact⟨ne q1,ne q2,q3⟩
     have HB:Hid (Below w.heap.size w (q0B X (w.heap.size+2) (.slice x1 (T.counts).length c1) (.slice x2 (T.colors).length c2))):=by unfold q0B;exact((HBW.out.trans (hX.mono HBW.out.size)).setCell (by simp) _).setCell (by simp) _
     clear hbn hdn hA hus e1 e2 hf q1 q2 q3;generalize q0B X (w.heap.size+2) (.slice x1 (T.counts).length c1) (.slice x2 (T.colors).length c2)=Y at*;simp only[List.mapIdx_cons,List.mapIdx_nil,Nat.reduceAdd,List.contains_cons,List.contains_nil,Nat.reduceBEq,Bool.or_false,Bool.or_true,if_true,if_false,Bool.false_eq_true];go_wp2;exact bodyPost_ret (v:= .agg #[.slice x1 (T.counts).length c1,.slice x2 (T.colors).length c2]) (by simp[results,Tryz.results139,go_sem, *]) rfl ⟨⟨x1,(T.counts).length,c1,x2,(T.colors).length,c2⟩,rfl,HT.out,HB.out⟩
   ·have n2:¬(ly:Int)=8:=by omega
    obtain⟨Wb,hWb⟩:∃Wb,Wb=W:=⟨_,rfl⟩;rw[<-hWb]at BW FP FR HG1 HGR hW;have BWb:=BW;have FPb:=FP;have FRb:=FR;clear HRH hno FH hWs;go_enter Tryz.func139,Tryz.ntmps139;go_wp2;rw[<-hW];clear hW hWb BW FP FR;have HBW:Hid (Below w.heap.size w Wb):=BWb;have HFP:Hid (∀X,Below Wb.heap.size Wb X->Two X (w.heap.size+1) (.slice xa 8 xc) (.slice ya ly yc)):=λX hX=>FPb.later hX HG1.out;have HRES:Hid (Two Wb (w.heap.size+2) (.slice none 0 0) (.slice none 0 0)):=FRb;have HCXb:Hid (∀X,Below Wb.heap.size Wb X->_):=λX hX=>HCX.out X (HBW.out.trans (hX.mono HBW.out.size));have HCYb:Hid (∀X,Below Wb.heap.size Wb X->_):=λX hX=>HCY.out X (HBW.out.trans (hX.mono HBW.out.size));clear BWb FPb FRb;refine u0D 7 (by kernel_rfl) (by kernel_rfl) (RU Wb.heap.size (.pointer (some ⟨w.heap.size+1,0,none⟩)) (.slice xa 8 xc) (.pointer (some ⟨w.heap.size+1,1,none⟩)) (.slice ya ly yc) T.counts T.colors) DU y1u ?_ ?_
    ·intro i o hi ho a X hX hA dn hbn hdep;have hXs:=hX.size
     match i,hi,ho with
     |0,_,ho=>
      cases ho
      exact v0s 0 (by omega) (q0f hA (t:=5) (by kernel_rfl)) ⟨_,rfl,bl0,rfl,λj hj _ t ht=>y0G rfl⟩
     |1,_,ho=>
      cases ho
      have e1:a.eval (.tmp 32)=(.pointer (some ⟨w.heap.size+1,0,none⟩)):=hbn.yields 0 (hdep ⟨0,.data⟩ (by simp) rfl) 32 rfl;exact x0E e1 ((HFP.out X hX).cell 0) ⟨_,rfl,bl0,rfl,λj hj _ t ht=>y0G rfl⟩
     |2,_,ho=>
      cases ho
      have e1:a.eval (.tmp 33)=(.slice xa 8 xc):=hbn.yields 1 (hdep ⟨1,.data⟩ (by simp) rfl) 33 rfl;refine q1x e1 (HCXb.out X hX) ?_;rintro e w' ⟨x,rfl,hx,hb⟩;exact⟨x,rfl,⟨_,rfl,hb,q0A hx hXs,λj hj _ t ht=>x1H (hbn.yields j hj t ht) hx⟩⟩
     |3,_,ho=>
      cases ho
      exact v0s 1 (by omega) (q0f hA (t:=5) (by kernel_rfl)) ⟨_,rfl,bl0,rfl,λj hj _ t ht=>y0G rfl⟩
     |4,_,ho=>
      cases ho
      have e1:a.eval (.tmp 35)=(.pointer (some ⟨w.heap.size+1,1,none⟩)):=hbn.yields 3 (hdep ⟨3,.data⟩ (by simp) rfl) 35 rfl;exact x0E e1 ((HFP.out X hX).cell 1) ⟨_,rfl,bl0,rfl,λj hj _ t ht=>y0G rfl⟩
     |5,_,ho=>
      cases ho
      have e1:a.eval (.tmp 36)=(.slice ya ly yc):=hbn.yields 4 (hdep ⟨4,.data⟩ (by simp) rfl) 36 rfl;refine q1x e1 (HCYb.out X hX) ?_;rintro e w' ⟨x,rfl,hx,hb⟩;exact⟨x,rfl,⟨_,rfl,hb,q0A hx hXs,λj hj _ t ht=>x1H (hbn.yields j hj t ht) hx⟩⟩
     |6,_,ho=>
      cases ho
      have d2:=hdep ⟨2,.data⟩ (by simp) rfl;have d5:=hdep ⟨5,.data⟩ (by simp) rfl;have q1:q0i X Wb.heap.size (a.eval (.tmp 34)) T.counts:=hbn.yields 2 d2 34 rfl;have q2:q0i X Wb.heap.size (a.eval (.tmp 37)) T.colors:=hbn.yields 5 d5 37 rfl;have q3:u0a (a.eval (.tmp 34)) (a.eval (.tmp 37)):=hbn.pairs 2 5 d2 d5 (by decide) 34 37 rfl rfl (by decide) (by decide) (by decide);obtain⟨x1,c1,e1,-⟩:=q0Y q1;obtain⟨x2,c2,e2,-⟩:=q0Y q2;rw[e1]at q1 q3;rw[e2]at q2 q3;exact y1s e1 e2 ⟨_,rfl,bl0,⟨x1,c1,x2,c2,rfl,q1,q2,q3⟩,λj hj _ t ht=>y0G rfl⟩
    ·intro o ho a X hX hA dn hbn hdn
     cases ho
     obtain⟨x1,c1,x2,c2,e2,q1,q2,q3⟩:=hbn.yields 6 (hdn 6 (by omega)) 38 rfl;have e1:a.eval (.tmp 8)= .pointer (some ⟨w.heap.size+2,0,none⟩):=q0f hA (t:=8) (by kernel_rfl);have hf:Two X (w.heap.size+2) (.slice none 0 0) (.slice none 0 0):=HRES.out.later hX (HGR.out);refine j0l e1 e2 hf ?_;obtain⟨us,hus,rfl⟩:=q0F hA [32,33,34,35,36,37,38] (by kernel_rfl);obtain⟨k0,k1⟩:=u0y (.slice x1 (T.counts).length c1) (.slice x2 (T.colors).length c2) hf
     have HT:Hid (TM (q0B X (w.heap.size+2) (.slice x1 (T.counts).length c1) (.slice x2 (T.colors).length c2)) w.heap.size ⟨x1,(T.counts).length,c1,x2,(T.colors).length,c2⟩ ⟨T.counts,T.colors⟩):=by have ne:∀{v:Value}{zs:List Int},q0i X Wb.heap.size v zs->q0i (q0B X (w.heap.size+2) (.slice x1 (T.counts).length c1) (.slice x2 (T.colors).length c2)) w.heap.size v zs:=λhr=>q0A (q0v hr (λi hi=>z0c _ _ _ _ i (by have:=(q0n hr i hi).1;have:=HGR.out;omega))) (Nat.le_trans HBW.out.size nl0);exact⟨ne q1,ne q2,q3⟩
     have HB:Hid (Below w.heap.size w (q0B X (w.heap.size+2) (.slice x1 (T.counts).length c1) (.slice x2 (T.colors).length c2))):=by unfold q0B;exact((HBW.out.trans (hX.mono HBW.out.size)).setCell (by simp) _).setCell (by simp) _
     clear hbn hdn hA hus e1 e2 hf q1 q2 q3;generalize q0B X (w.heap.size+2) (.slice x1 (T.counts).length c1) (.slice x2 (T.colors).length c2)=Y at*;simp only[List.mapIdx_cons,List.mapIdx_nil,Nat.reduceAdd,List.contains_cons,List.contains_nil,Nat.reduceBEq,Bool.or_false,Bool.or_true,if_true,if_false,Bool.false_eq_true];go_wp2;exact bodyPost_ret (v:= .agg #[.slice x1 (T.counts).length c1,.slice x2 (T.colors).length c2]) (by simp[results,Tryz.results139,go_sem, *]) rfl ⟨⟨x1,(T.counts).length,c1,x2,(T.colors).length,c2⟩,rfl,HT.out,HB.out⟩
  ·have n1:¬(lx:Int)=8:=by omega
   obtain⟨Wb,hWb⟩:∃Wb,Wb=W:=⟨_,rfl⟩;rw[<-hWb]at BW FP FR HG1 HGR hW;have BWb:=BW;have FPb:=FP;have FRb:=FR;clear HRH hno FH hWs;go_enter Tryz.func139,Tryz.ntmps139;go_wp2;rw[<-hW];clear hW hWb BW FP FR;have HBW:Hid (Below w.heap.size w Wb):=BWb;have HFP:Hid (∀X,Below Wb.heap.size Wb X->Two X (w.heap.size+1) (.slice xa lx xc) (.slice ya ly yc)):=λX hX=>FPb.later hX HG1.out;have HRES:Hid (Two Wb (w.heap.size+2) (.slice none 0 0) (.slice none 0 0)):=FRb;have HCXb:Hid (∀X,Below Wb.heap.size Wb X->_):=λX hX=>HCX.out X (HBW.out.trans (hX.mono HBW.out.size));have HCYb:Hid (∀X,Below Wb.heap.size Wb X->_):=λX hX=>HCY.out X (HBW.out.trans (hX.mono HBW.out.size));clear BWb FPb FRb;refine u0D 7 (by kernel_rfl) (by kernel_rfl) (RU Wb.heap.size (.pointer (some ⟨w.heap.size+1,0,none⟩)) (.slice xa lx xc) (.pointer (some ⟨w.heap.size+1,1,none⟩)) (.slice ya ly yc) T.counts T.colors) DU y1u ?_ ?_
   ·intro i o hi ho a X hX hA dn hbn hdep;have hXs:=hX.size
    match i,hi,ho with
    |0,_,ho=>
     cases ho
     exact v0s 0 (by omega) (q0f hA (t:=5) (by kernel_rfl)) ⟨_,rfl,bl0,rfl,λj hj _ t ht=>y0G rfl⟩
    |1,_,ho=>
     cases ho
     have e1:a.eval (.tmp 32)=(.pointer (some ⟨w.heap.size+1,0,none⟩)):=hbn.yields 0 (hdep ⟨0,.data⟩ (by simp) rfl) 32 rfl;exact x0E e1 ((HFP.out X hX).cell 0) ⟨_,rfl,bl0,rfl,λj hj _ t ht=>y0G rfl⟩
    |2,_,ho=>
     cases ho
     have e1:a.eval (.tmp 33)=(.slice xa lx xc):=hbn.yields 1 (hdep ⟨1,.data⟩ (by simp) rfl) 33 rfl;refine q1x e1 (HCXb.out X hX) ?_;rintro e w' ⟨x,rfl,hx,hb⟩;exact⟨x,rfl,⟨_,rfl,hb,q0A hx hXs,λj hj _ t ht=>x1H (hbn.yields j hj t ht) hx⟩⟩
    |3,_,ho=>
     cases ho
     exact v0s 1 (by omega) (q0f hA (t:=5) (by kernel_rfl)) ⟨_,rfl,bl0,rfl,λj hj _ t ht=>y0G rfl⟩
    |4,_,ho=>
     cases ho
     have e1:a.eval (.tmp 35)=(.pointer (some ⟨w.heap.size+1,1,none⟩)):=hbn.yields 3 (hdep ⟨3,.data⟩ (by simp) rfl) 35 rfl;exact x0E e1 ((HFP.out X hX).cell 1) ⟨_,rfl,bl0,rfl,λj hj _ t ht=>y0G rfl⟩
    |5,_,ho=>
     cases ho
     have e1:a.eval (.tmp 36)=(.slice ya ly yc):=hbn.yields 4 (hdep ⟨4,.data⟩ (by simp) rfl) 36 rfl;refine q1x e1 (HCYb.out X hX) ?_;rintro e w' ⟨x,rfl,hx,hb⟩;exact⟨x,rfl,⟨_,rfl,hb,q0A hx hXs,λj hj _ t ht=>x1H (hbn.yields j hj t ht) hx⟩⟩
    |6,_,ho=>
     cases ho
     have d2:=hdep ⟨2,.data⟩ (by simp) rfl;have d5:=hdep ⟨5,.data⟩ (by simp) rfl;have q1:q0i X Wb.heap.size (a.eval (.tmp 34)) T.counts:=hbn.yields 2 d2 34 rfl;have q2:q0i X Wb.heap.size (a.eval (.tmp 37)) T.colors:=hbn.yields 5 d5 37 rfl;have q3:u0a (a.eval (.tmp 34)) (a.eval (.tmp 37)):=hbn.pairs 2 5 d2 d5 (by decide) 34 37 rfl rfl (by decide) (by decide) (by decide);obtain⟨x1,c1,e1,-⟩:=q0Y q1;obtain⟨x2,c2,e2,-⟩:=q0Y q2;rw[e1]at q1 q3;rw[e2]at q2 q3;exact y1s e1 e2 ⟨_,rfl,bl0,⟨x1,c1,x2,c2,rfl,q1,q2,q3⟩,λj hj _ t ht=>y0G rfl⟩
   ·intro o ho a X hX hA dn hbn hdn
    cases ho
    obtain⟨x1,c1,x2,c2,e2,q1,q2,q3⟩:=hbn.yields 6 (hdn 6 (by omega)) 38 rfl;have e1:a.eval (.tmp 8)= .pointer (some ⟨w.heap.size+2,0,none⟩):=q0f hA (t:=8) (by kernel_rfl);have hf:Two X (w.heap.size+2) (.slice none 0 0) (.slice none 0 0):=HRES.out.later hX (HGR.out);refine j0l e1 e2 hf ?_;obtain⟨us,hus,rfl⟩:=q0F hA [32,33,34,35,36,37,38] (by kernel_rfl);obtain⟨k0,k1⟩:=u0y (.slice x1 (T.counts).length c1) (.slice x2 (T.colors).length c2) hf
    have HT:Hid (TM (q0B X (w.heap.size+2) (.slice x1 (T.counts).length c1) (.slice x2 (T.colors).length c2)) w.heap.size ⟨x1,(T.counts).length,c1,x2,(T.colors).length,c2⟩ ⟨T.counts,T.colors⟩):=by have ne:∀{v:Value}{zs:List Int},q0i X Wb.heap.size v zs->q0i (q0B X (w.heap.size+2) (.slice x1 (T.counts).length c1) (.slice x2 (T.colors).length c2)) w.heap.size v zs:=λhr=>q0A (q0v hr (λi hi=>z0c _ _ _ _ i (by have:=(q0n hr i hi).1;have:=HGR.out;omega))) (Nat.le_trans HBW.out.size nl0);exact⟨ne q1,ne q2,q3⟩
    have HB:Hid (Below w.heap.size w (q0B X (w.heap.size+2) (.slice x1 (T.counts).length c1) (.slice x2 (T.colors).length c2))):=by unfold q0B;exact((HBW.out.trans (hX.mono HBW.out.size)).setCell (by simp) _).setCell (by simp) _
    clear hbn hdn hA hus e1 e2 hf q1 q2 q3;generalize q0B X (w.heap.size+2) (.slice x1 (T.counts).length c1) (.slice x2 (T.colors).length c2)=Y at*;simp only[List.mapIdx_cons,List.mapIdx_nil,Nat.reduceAdd,List.contains_cons,List.contains_nil,Nat.reduceBEq,Bool.or_false,Bool.or_true,if_true,if_false,Bool.false_eq_true];go_wp2;exact bodyPost_ret (v:= .agg #[.slice x1 (T.counts).length c1,.slice x2 (T.colors).length c2]) (by simp[results,Tryz.results139,go_sem, *]) rfl ⟨⟨x1,(T.counts).length,c1,x2,(T.colors).length,c2⟩,rfl,HT.out,HB.out⟩
 ·have n0:¬(lo:Int)=8:=by omega
  obtain⟨Wb,hWb⟩:∃Wb,Wb=W:=⟨_,rfl⟩;rw[<-hWb]at BW FP FR HG1 HGR hW;have BWb:=BW;have FPb:=FP;have FRb:=FR;clear HRH hno FH hWs;go_enter Tryz.func139,Tryz.ntmps139;go_wp2;rw[<-hW];clear hW hWb BW FP FR;have HBW:Hid (Below w.heap.size w Wb):=BWb;have HFP:Hid (∀X,Below Wb.heap.size Wb X->Two X (w.heap.size+1) (.slice xa lx xc) (.slice ya ly yc)):=λX hX=>FPb.later hX HG1.out;have HRES:Hid (Two Wb (w.heap.size+2) (.slice none 0 0) (.slice none 0 0)):=FRb;have HCXb:Hid (∀X,Below Wb.heap.size Wb X->_):=λX hX=>HCX.out X (HBW.out.trans (hX.mono HBW.out.size));have HCYb:Hid (∀X,Below Wb.heap.size Wb X->_):=λX hX=>HCY.out X (HBW.out.trans (hX.mono HBW.out.size));clear BWb FPb FRb;refine u0D 7 (by kernel_rfl) (by kernel_rfl) (RU Wb.heap.size (.pointer (some ⟨w.heap.size+1,0,none⟩)) (.slice xa lx xc) (.pointer (some ⟨w.heap.size+1,1,none⟩)) (.slice ya ly yc) T.counts T.colors) DU y1u ?_ ?_
  ·intro i o hi ho a X hX hA dn hbn hdep;have hXs:=hX.size
   match i,hi,ho with
   |0,_,ho=>
    cases ho
    exact v0s 0 (by omega) (q0f hA (t:=5) (by kernel_rfl)) ⟨_,rfl,bl0,rfl,λj hj _ t ht=>y0G rfl⟩
   |1,_,ho=>
    cases ho
    have e1:a.eval (.tmp 32)=(.pointer (some ⟨w.heap.size+1,0,none⟩)):=hbn.yields 0 (hdep ⟨0,.data⟩ (by simp) rfl) 32 rfl;exact x0E e1 ((HFP.out X hX).cell 0) ⟨_,rfl,bl0,rfl,λj hj _ t ht=>y0G rfl⟩
   |2,_,ho=>
    cases ho
    have e1:a.eval (.tmp 33)=(.slice xa lx xc):=hbn.yields 1 (hdep ⟨1,.data⟩ (by simp) rfl) 33 rfl;refine q1x e1 (HCXb.out X hX) ?_;rintro e w' ⟨x,rfl,hx,hb⟩;exact⟨x,rfl,⟨_,rfl,hb,q0A hx hXs,λj hj _ t ht=>x1H (hbn.yields j hj t ht) hx⟩⟩
   |3,_,ho=>
    cases ho
    exact v0s 1 (by omega) (q0f hA (t:=5) (by kernel_rfl)) ⟨_,rfl,bl0,rfl,λj hj _ t ht=>y0G rfl⟩
   |4,_,ho=>
    cases ho
    have e1:a.eval (.tmp 35)=(.pointer (some ⟨w.heap.size+1,1,none⟩)):=hbn.yields 3 (hdep ⟨3,.data⟩ (by simp) rfl) 35 rfl;exact x0E e1 ((HFP.out X hX).cell 1) ⟨_,rfl,bl0,rfl,λj hj _ t ht=>y0G rfl⟩
   |5,_,ho=>
    cases ho
    have e1:a.eval (.tmp 36)=(.slice ya ly yc):=hbn.yields 4 (hdep ⟨4,.data⟩ (by simp) rfl) 36 rfl;refine q1x e1 (HCYb.out X hX) ?_;rintro e w' ⟨x,rfl,hx,hb⟩;exact⟨x,rfl,⟨_,rfl,hb,q0A hx hXs,λj hj _ t ht=>x1H (hbn.yields j hj t ht) hx⟩⟩
   |6,_,ho=>
    cases ho
    have d2:=hdep ⟨2,.data⟩ (by simp) rfl;have d5:=hdep ⟨5,.data⟩ (by simp) rfl;have q1:q0i X Wb.heap.size (a.eval (.tmp 34)) T.counts:=hbn.yields 2 d2 34 rfl;have q2:q0i X Wb.heap.size (a.eval (.tmp 37)) T.colors:=hbn.yields 5 d5 37 rfl;have q3:u0a (a.eval (.tmp 34)) (a.eval (.tmp 37)):=hbn.pairs 2 5 d2 d5 (by decide) 34 37 rfl rfl (by decide) (by decide) (by decide);obtain⟨x1,c1,e1,-⟩:=q0Y q1;obtain⟨x2,c2,e2,-⟩:=q0Y q2;rw[e1]at q1 q3;rw[e2]at q2 q3;exact y1s e1 e2 ⟨_,rfl,bl0,⟨x1,c1,x2,c2,rfl,q1,q2,q3⟩,λj hj _ t ht=>y0G rfl⟩
  ·intro o ho a X hX hA dn hbn hdn
   cases ho
   obtain⟨x1,c1,x2,c2,e2,q1,q2,q3⟩:=hbn.yields 6 (hdn 6 (by omega)) 38 rfl;have e1:a.eval (.tmp 8)= .pointer (some ⟨w.heap.size+2,0,none⟩):=q0f hA (t:=8) (by kernel_rfl);have hf:Two X (w.heap.size+2) (.slice none 0 0) (.slice none 0 0):=HRES.out.later hX (HGR.out);refine j0l e1 e2 hf ?_;obtain⟨us,hus,rfl⟩:=q0F hA [32,33,34,35,36,37,38] (by kernel_rfl);obtain⟨k0,k1⟩:=u0y (.slice x1 (T.counts).length c1) (.slice x2 (T.colors).length c2) hf
   have HT:Hid (TM (q0B X (w.heap.size+2) (.slice x1 (T.counts).length c1) (.slice x2 (T.colors).length c2)) w.heap.size ⟨x1,(T.counts).length,c1,x2,(T.colors).length,c2⟩ ⟨T.counts,T.colors⟩):=by have ne:∀{v:Value}{zs:List Int},q0i X Wb.heap.size v zs->q0i (q0B X (w.heap.size+2) (.slice x1 (T.counts).length c1) (.slice x2 (T.colors).length c2)) w.heap.size v zs:=λhr=>q0A (q0v hr (λi hi=>z0c _ _ _ _ i (by have:=(q0n hr i hi).1;have:=HGR.out;omega))) (Nat.le_trans HBW.out.size nl0);exact⟨ne q1,ne q2,q3⟩
   have HB:Hid (Below w.heap.size w (q0B X (w.heap.size+2) (.slice x1 (T.counts).length c1) (.slice x2 (T.colors).length c2))):=by unfold q0B;exact((HBW.out.trans (hX.mono HBW.out.size)).setCell (by simp) _).setCell (by simp) _
   clear hbn hdn hA hus e1 e2 hf q1 q2 q3;generalize q0B X (w.heap.size+2) (.slice x1 (T.counts).length c1) (.slice x2 (T.colors).length c2)=Y at*;simp only[List.mapIdx_cons,List.mapIdx_nil,Nat.reduceAdd,List.contains_cons,List.contains_nil,Nat.reduceBEq,Bool.or_false,Bool.or_true,if_true,if_false,Bool.false_eq_true];go_wp2;exact bodyPost_ret (v:= .agg #[.slice x1 (T.counts).length c1,.slice x2 (T.colors).length c2]) (by simp[results,Tryz.results139,go_sem, *]) rfl ⟨⟨x1,(T.counts).length,c1,x2,(T.colors).length,c2⟩,rfl,HT.out,HB.out⟩
def RY(B:Nat)(fv p1 s1 q1 g1 p2 s2 q2 g2 u v z r:Value):Nat->World->Value->Prop
 |0,_,x=>x=fv
 |1,_,x=>x=p1
 |2,_,x=>x=s1
 |3,_,x=>x=q1
 |4,_,x=>x=g1
 |5,_,x=>x=p2
 |6,_,x=>x=s2
 |7,_,x=>x=q2
 |8,_,x=>x=g2
 |9,_,x=>x=u
 |10,_,x=>x=v
 |11,_,x=>x=z
 |12,_,x=>x=r
 |13,X,x=>∃g,x= .pointer (some ⟨g,0,none⟩)/\B<=g/\Arr X g (trD 0 0 0 0 0 0 0 0 0 0 0 0 0 0 0 0)
 |_,_,_=>True
theorem z5n{B:Nat}{fv p1 s1 q1 g1 p2 s2 q2 g2 u v z r:Value}(i:Nat)(X Y:World)(x:Value)(h:RY B fv p1 s1 q1 g1 p2 s2 q2 g2 u v z r i X x)(hb:Below X.heap.size X Y):RY B fv p1 s1 q1 g1 p2 s2 q2 g2 u v z r i Y x:=by
 match i,h with
 |0,h=>exact h
 |1,h=>exact h
 |2,h=>exact h
 |3,h=>exact h
 |4,h=>exact h
 |5,h=>exact h
 |6,h=>exact h
 |7,h=>exact h
 |8,h=>exact h
 |9,h=>exact h
 |10,h=>exact h
 |11,h=>exact h
 |12,h=>exact h
 |13,⟨g,h1,h2,h3⟩=>exact⟨g,h1,h2,h3.later hb⟩
 |n+14,_=>exact trivial
theorem j2g(v u:Value)(F:Nat)(hop:u3W F)(H:q0a)(T R:q0e)(s:Nat)(w:World)(h:RdH w v H)(ht:RdT w u T)(hs:q0h H)(hst:v0p T)(hok:OkT H T (s:Int))(hR:q0I R)
 (hC:∀X,Below w.heap.size w X->Calls Tryz.prog F #[u0b T,v,.int .i64 (s:Int)] X λe w' =>e= .returned (u0b R)/\Below X.heap.size X w'):
 Calls Tryz.prog 139 #[v,u,.int .i64 (s:Int),.func (.func F) #[] #[]] w λe w' =>∃s:TSh,e= .returned s.v/\TM w' w.heap.size s R/\Below w.heap.size w w' :=by
 have HRH:Hid (∀X,Below w.heap.size w X->RdH X v H):=λX hX=>q0s h hX;have hl8:s<H.objs.length:=by have:=hok.objs;have:=hok.hi;omega
 have hlv:H.objs[s].live=true:=by obtain⟨o,ho,h2⟩:=hok.live;rw[show((s:Int)).toNat=s from by omega,List.getElem?_eq_getElem hl8]at ho;injection ho with ho;rw[ho];exact h2
 obtain⟨lg,loff,lf,lcap,-,-,-,CL0⟩:=z2i v H s w h (by have:=hs.objs;omega) (by have:=hok.hi;omega) hl8 hlv;have CL:Hid _:=CL0.out;have HCC:Hid (∀X,Below w.heap.size w X->_):=hC;have E8:q0I T:=⟨hok.counts,hok.colors⟩;have HR8:Hid (q0I R):=hR;have k0:=hok.objs;have k1:=hok.counts;have k2:=hok.colors;obtain⟨r0,r1,r2,r3,r4,r5,r6,r7,r8,r9,r10,r11,r12,r13,r14,r15,eR⟩:=v0D hR;have HER:Hid (R=trD r0 r1 r2 r3 r4 r5 r6 r7 r8 r9 r10 r11 r12 r13 r14 r15):=eR;clear hok hC CL0 eR hR;obtain⟨ao,co,aw,cw,ab,cb,sa,sc,rfl,-,-,-,-⟩:=h;obtain⟨xa,xc,ya,yc,rfl,r1,r2⟩:=ht;have l0:=hs.objs;have l1:=hst.counts;have l2:=hst.colors;have HRX:Hid (∀X,Below w.heap.size w X->RdI X xa T.counts):=λX hX=>q0t r1 hX;have HRY:Hid (∀X,Below w.heap.size w X->RdI X ya T.colors):=λX hX=>q0t r2 hX;generalize H.weaks.length=nw at*;generalize H.buffer.length=nb at*;generalize H.sites.length=ns at*;have HCX:Hid (∀X,Below w.heap.size w X->_):=λX hX=>u0u X xa xc T.counts (q0t r1 hX) (by omega);have HCY:Hid (∀X,Below w.heap.size w X->_):=λX hX=>u0u X ya yc T.colors (q0t r2 hX) (by omega);obtain⟨lo,hlo⟩:∃lo,H.objs.length=lo:=⟨_,rfl⟩;obtain⟨lx,hlx⟩:∃lx,T.counts.length=lx:=⟨_,rfl⟩;obtain⟨ly,hly⟩:∃ly,T.colors.length=ly:=⟨_,rfl⟩;have HLO:Hid (H.objs.length=lo):=hlo;have HLX:Hid (T.counts.length=lx):=hlx;have HLY:Hid (T.colors.length=ly):=hly;rw[hlx]at HCX;rw[hly]at HCY;rw[hlo,hlx,hly];rw[hlo]at l0 HRH;rw[hlx]at l1;rw[hly]at l2;clear hlo hlx hly;obtain⟨W,hW⟩:∃W,W=((w.alloc (.cells #[.slice ao lo co,.slice aw nw cw,.slice ab nb cb,.slice sa ns sc] 35)).alloc (.cells #[.slice xa lx xc,.slice ya ly yc] 101)).alloc (.cells #[.slice none 0 0,.slice none 0 0] 101):=⟨_,rfl⟩;have BW:Below w.heap.size w W:=by rw[hW];exact((bl1 _).alloc (by simp) _).alloc (by simp;omega) _
 have hWs:W.heap.size=w.heap.size+3:=by rw[hW];simp
 have FH:q0d W w.heap.size (.slice ao lo co) (.slice aw nw cw) (.slice ab nb cb) (.slice sa ns sc):=by have f:=q0d.new w (.slice ao lo co) (.slice aw nw cw) (.slice ab nb cb) (.slice sa ns sc);have f2:=f.later (bl1 (.cells #[.slice xa lx xc,.slice ya ly yc] 101));have f3:=f2.later (bl1 (.cells #[.slice none 0 0,.slice none 0 0] 101));rw[hW];exact f3
 have FP:Two W (w.heap.size+1) (.slice xa lx xc) (.slice ya ly yc):=by have f:=Two.new (w.alloc (.cells #[.slice ao lo co,.slice aw nw cw,.slice ab nb cb,.slice sa ns sc] 35)) (.slice xa lx xc) (.slice ya ly yc);have f2:=f.later (bl1 (.cells #[.slice none 0 0,.slice none 0 0] 101)) (by simp);rw[<-hW]at f2;simpa using f2
 have FR:Two W (w.heap.size+2) (.slice none 0 0) (.slice none 0 0):=by have f:=Two.new ((w.alloc (.cells #[.slice ao lo co,.slice aw nw cw,.slice ab nb cb,.slice sa ns sc] 35)).alloc (.cells #[.slice xa lx xc,.slice ya ly yc] 101)) (.slice none 0 0) (.slice none 0 0);rw[<-hW]at f;simpa using f
 obtain rfl:lo=8:=by have:=HLO.out;omega
 rw[HLO.out]at CL HCC;obtain rfl:lx=8:=by have:=HLX.out;omega
 obtain rfl:ly=8:=by have:=HLY.out;omega
 obtain⟨a0,a1,a2,a3,a4,a5,a6,a7,b0,b1,b2,b3,b4,b5,b6,b7,eT⟩:=v0D E8;subst eT;have HRX0:=HRX.out;have HRY0:=HRY.out;obtain⟨xg,xo,rfl,-,-⟩:=HRX.out w bl0 0 (by show 0<8;omega);obtain⟨yg,yo,rfl,-,-⟩:=HRY.out w bl0 0 (by show 0<8;omega);have HG1:Hid (w.heap.size+1<W.heap.size):=by show _<_;omega
 have HGR0:Hid (w.heap.size+2<W.heap.size):=by show _<_;omega
 have HGH:Hid (w.heap.size<W.heap.size):=by show _<_;omega
 clear HCX HCY HRX0 HRY0 r1 r2;go_enter Tryz.func139,Tryz.ntmps139;go_wp2_with fail
 rw[<-hW];refine(CL.out _ BW).mono ?_;rintro e Wa ⟨rfl,bb⟩;have BWa:=BW.trans (bb.mono BW.size);have HFH:Hid (∀X,Below Wa.heap.size Wa X->q0d X w.heap.size (.slice ao 8 co) (.slice aw nw cw) (.slice ab nb cb) (.slice sa ns sc)):=λX hX=>(FH.later bb).later hX;have HFT:Hid (Two Wa (w.heap.size+1) (.slice (some ⟨xg,xo,none⟩) 8 xc) (.slice (some ⟨yg,yo,none⟩) 8 yc)):=FP.later bb HG1.out;have HFR:Hid (Two Wa (w.heap.size+2) (.slice none 0 0) (.slice none 0 0)):=FR.later bb HGR0.out;have hbs:=bb.size;have HG1a:Hid (w.heap.size+1<Wa.heap.size):=Nat.lt_of_lt_of_le HG1.out hbs;have HGRa:Hid (w.heap.size+2<Wa.heap.size):=Nat.lt_of_lt_of_le HGR0.out hbs;have HBWa:Hid (Below w.heap.size w Wa):=BWa;clear hW BW FH FP FR BWa bb HG1 HGR0 HGH hbs CL;go_wp2;refine q0R 14 (by kernel_rfl) (by kernel_rfl) (RY Wa.heap.size (.func (.func F) #[] #[]) (.pointer (some ⟨w.heap.size+1,0,none⟩)) (.slice (some ⟨xg,xo,none⟩) 8 xc) (.pointer (some ⟨xg,xo,none⟩)) (.agg #[.int .i64 a0,.int .i64 a1,.int .i64 a2,.int .i64 a3,.int .i64 a4,.int .i64 a5,.int .i64 a6,.int .i64 a7]) (.pointer (some ⟨w.heap.size+1,1,none⟩)) (.slice (some ⟨yg,yo,none⟩) 8 yc) (.pointer (some ⟨yg,yo,none⟩)) (.agg #[.int .i64 b0,.int .i64 b1,.int .i64 b2,.int .i64 b3,.int .i64 b4,.int .i64 b5,.int .i64 b6,.int .i64 b7]) (u0b (trD a0 a1 a2 a3 a4 a5 a6 a7 b0 b1 b2 b3 b4 b5 b6 b7)) (.agg #[.slice ao 8 co,.slice aw nw cw,.slice ab nb cb,.slice sa ns sc]) (.int .i64 (s:Int)) (u0b R)) z5n ?_ ?_
 ·intro i o hi ho a X hX hA hdep;have FX:=HFT.out.later hX HG1a.out;have hXs:=hX.size;have hXw:=HBWa.out.trans (hX.mono HBWa.out.size)
  match i,hi,ho with
  |0,_,ho=>
   cases ho
   exact u3u (q0f hA (t:=3) (by kernel_rfl)) ⟨_,rfl,bl0,rfl⟩
  |1,_,ho=>
   cases ho
   exact v0s 0 (by omega) (q0f hA (t:=5) (by kernel_rfl)) ⟨_,rfl,bl0,rfl⟩
  |2,_,ho=>
   cases ho
   have e1:a.eval (.tmp 40)= .pointer (some ⟨w.heap.size+1,0,none⟩):=hdep ⟨1,.data⟩ (by simp) rfl 40 rfl;exact x0E e1 (FX.cell 0) ⟨_,rfl,bl0,rfl⟩
  |3,_,ho=>
   cases ho
   have e1:a.eval (.tmp 41)= .slice (some ⟨xg,xo,none⟩) 8 xc:=hdep ⟨2,.data⟩ (by simp) rfl 41 rfl;exact u3w e1 ⟨_,rfl,bl0,rfl⟩
  |4,_,ho=>
   cases ho
   have e1:a.eval (.tmp 42)= .pointer (some ⟨xg,xo,none⟩):=hdep ⟨3,.data⟩ (by simp) rfl 42 rfl;exact q3L e1 (HRX.out X hXw) ⟨_,rfl,bl0,rfl⟩
  |5,_,ho=>
   cases ho
   exact v0s 1 (by omega) (q0f hA (t:=5) (by kernel_rfl)) ⟨_,rfl,bl0,rfl⟩
  |6,_,ho=>
   cases ho
   have e1:a.eval (.tmp 44)= .pointer (some ⟨w.heap.size+1,1,none⟩):=hdep ⟨5,.data⟩ (by simp) rfl 44 rfl;exact x0E e1 (FX.cell 1) ⟨_,rfl,bl0,rfl⟩
  |7,_,ho=>
   cases ho
   have e1:a.eval (.tmp 45)= .slice (some ⟨yg,yo,none⟩) 8 yc:=hdep ⟨6,.data⟩ (by simp) rfl 45 rfl;exact u3w e1 ⟨_,rfl,bl0,rfl⟩
  |8,_,ho=>
   cases ho
   have e1:a.eval (.tmp 46)= .pointer (some ⟨yg,yo,none⟩):=hdep ⟨7,.data⟩ (by simp) rfl 46 rfl;exact q3L e1 (HRY.out X hXw) ⟨_,rfl,bl0,rfl⟩
  |9,_,ho=>
   cases ho
   have e1:a.eval (.tmp 43)= .agg #[.int .i64 a0,.int .i64 a1,.int .i64 a2,.int .i64 a3,.int .i64 a4,.int .i64 a5,.int .i64 a6,.int .i64 a7]:=hdep ⟨4,.data⟩ (by simp) rfl 43 rfl;have e2:a.eval (.tmp 47)= .agg #[.int .i64 b0,.int .i64 b1,.int .i64 b2,.int .i64 b3,.int .i64 b4,.int .i64 b5,.int .i64 b6,.int .i64 b7]:=hdep ⟨8,.data⟩ (by simp) rfl 47 rfl;exact v4o e1 e2 ⟨_,rfl,bl0,rfl⟩
  |10,_,ho=>
   cases ho
   exact q1z (q0f hA (t:=4) (by kernel_rfl)) (HFH.out X hX) ⟨_,rfl,bl0,rfl⟩
  |11,_,ho=>
   cases ho
   exact u3u (q0f hA (t:=2) (by kernel_rfl)) ⟨_,rfl,bl0,rfl⟩
  |12,_,ho=>
   cases ho
   have e0:a.eval (.tmp 39)= .func (.func F) #[] #[]:=hdep ⟨0,.data⟩ (by simp) rfl 39 rfl;have e1:a.eval (.tmp 48)=u0b (trD a0 a1 a2 a3 a4 a5 a6 a7 b0 b1 b2 b3 b4 b5 b6 b7):=hdep ⟨9,.data⟩ (by simp) rfl 48 rfl;have e2:a.eval (.tmp 49)= .agg #[.slice ao 8 co,.slice aw nw cw,.slice ab nb cb,.slice sa ns sc]:=hdep ⟨10,.data⟩ (by simp) rfl 49 rfl;have e3:a.eval (.tmp 50)= .int .i64 (s:Int):=hdep ⟨11,.data⟩ (by simp) rfl 50 rfl;refine hop _ _ _ _ _ _ _ _ _ _ _ _ _ _ _ _ _ e0 e1 e2 e3 (HCC.out X hXw) ?_;rintro e w' ⟨rfl,hb⟩;exact⟨_,rfl,_,rfl,hb,rfl⟩
  |13,_,ho=>
   cases ho
   exact v4i ⟨_,rfl,bl1 _,X.heap.size,rfl,hXs,Arr.new X (trD 0 0 0 0 0 0 0 0 0 0 0 0 0 0 0 0)⟩
 ·intro o ho a X hX hA hdep
  cases ho
  have e12:a.eval (.tmp 51)=u0b R:=hdep ⟨12,.data⟩ (by simp) rfl 51 rfl;obtain⟨g,e9,hgB,hAr⟩:=hdep ⟨13,.data⟩ (by simp) rfl 9 rfl;rw[HER.out,u0O]at e12;refine q3O e9 e12 hAr ⟨rfl,rfl⟩ ?_;have AY:=x1b hAr ⟨rfl,rfl⟩ r0 r1 r2 r3 r4 r5 r6 r7 r8 r9 r10 r11 r12 r13 r14 r15;rw[<-HER.out]at AY;have hXw:=HBWa.out.trans (hX.mono HBWa.out.size);have hXs:=hX.size;have BY:Below w.heap.size w (j0M X g r0 r1 r2 r3 r4 r5 r6 r7 r8 r9 r10 r11 r12 r13 r14 r15):=q1D r0 r1 r2 r3 r4 r5 r6 r7 r8 r9 r10 r11 r12 r13 r14 r15 hXw (by have:=HBWa.out.size;omega);have sY:(j0M X g r0 r1 r2 r3 r4 r5 r6 r7 r8 r9 r10 r11 r12 r13 r14 r15).heap.size=X.heap.size:=z4r _ _ r0 r1 r2 r3 r4 r5 r6 r7 r8 r9 r10 r11 r12 r13 r14 r15;have hRY:Two (j0M X g r0 r1 r2 r3 r4 r5 r6 r7 r8 r9 r10 r11 r12 r13 r14 r15) (w.heap.size+2) (.slice none 0 0) (.slice none 0 0):=(HFR.out.later hX HGRa.out).same (q2n _ _ r0 r1 r2 r3 r4 r5 r6 r7 r8 r9 r10 r11 r12 r13 r14 r15 _ (by have:=HGRa.out;omega));obtain⟨us,hus,rfl⟩:=q0F hA [39,40,41,42,43,44,45,46,47,48,49,50,51,9] (by kernel_rfl);have u9:us 9= .pointer (some ⟨g,0,none⟩):=(hus 9).symm.trans e9;have HGR1:Hid (w.heap.size+2<(j0M X g r0 r1 r2 r3 r4 r5 r6 r7 r8 r9 r10 r11 r12 r13 r14 r15).heap.size):=by show _<_;rw[sY];have:=HGRa.out;omega
  clear hdep hA hus e9 e12 hAr;generalize j0M X g r0 r1 r2 r3 r4 r5 r6 r7 r8 r9 r10 r11 r12 r13 r14 r15=Wb at*;have HBW:Hid (Below w.heap.size w Wb):=BY;have HRES:Hid (Two Wb (w.heap.size+2) (.slice none 0 0) (.slice none 0 0)):=hRY;have HGR:Hid (w.heap.size+2<Wb.heap.size):=HGR1;have HCXb:Hid (∀X,Below Wb.heap.size Wb X->_):=λX hX=>u0u X (some ⟨g,0,none⟩) 8 R.counts ((AY.later hX).rdx HR8.out) (by have:=HR8.out.1;omega);have HCYb:Hid (∀X,Below Wb.heap.size Wb X->_):=λX hX=>u0u X (some ⟨g,8,none⟩) 8 R.colors ((AY.later hX).rdy HR8.out) (by have:=HR8.out.2;omega);rw[HR8.out.1]at HCXb;rw[HR8.out.2]at HCYb;clear BY sY hRY HGR1 hXw hXs hX HFR HGRa HFT HG1a HFH HBWa HRX HRY HCC AY hop HER;simp only[List.mapIdx_cons,List.mapIdx_nil,Nat.reduceAdd,List.contains_cons,List.contains_nil,Nat.reduceBEq,Bool.or_false,Bool.or_true,if_true,if_false,Bool.false_eq_true];rw[u9];clear u9;go_wp2;refine u0D 7 (by kernel_rfl) (by kernel_rfl) (RU Wb.heap.size (.pointer (some ⟨g,0,none⟩)) (.slice (some ⟨g,0,none⟩) 8 8) (.pointer (some ⟨g,8,none⟩)) (.slice (some ⟨g,8,none⟩) 8 8) R.counts R.colors) DU y1u ?_ ?_
  ·intro i o hi ho a X hX hA dn hbn hdep;have hXs:=hX.size
   match i,hi,ho with
   |0,_,ho=>
    cases ho
    exact v4q (q0f hA (t:=9) (by kernel_rfl)) ⟨_,rfl,bl0,rfl,λj hj _ t ht=>y0G rfl⟩
   |1,_,ho=>
    cases ho
    have e1:a.eval (.tmp 52)=(.pointer (some ⟨g,0,none⟩)):=hbn.yields 0 (hdep ⟨0,.data⟩ (by simp) rfl) 52 rfl;exact j2y e1 ⟨_,rfl,bl0,rfl,λj hj _ t ht=>y0G rfl⟩
   |2,_,ho=>
    cases ho
    have e1:a.eval (.tmp 53)=(.slice (some ⟨g,0,none⟩) 8 8):=hbn.yields 1 (hdep ⟨1,.data⟩ (by simp) rfl) 53 rfl;refine q1x e1 (HCXb.out X hX) ?_;rintro e w' ⟨x,rfl,hx,hb⟩;exact⟨x,rfl,⟨_,rfl,hb,q0A hx hXs,λj hj _ t ht=>x1H (hbn.yields j hj t ht) hx⟩⟩
   |3,_,ho=>
    cases ho
    exact v4r (q0f hA (t:=9) (by kernel_rfl)) ⟨_,rfl,bl0,rfl,λj hj _ t ht=>y0G rfl⟩
   |4,_,ho=>
    cases ho
    have e1:a.eval (.tmp 55)=(.pointer (some ⟨g,8,none⟩)):=hbn.yields 3 (hdep ⟨3,.data⟩ (by simp) rfl) 55 rfl;exact j2y e1 ⟨_,rfl,bl0,rfl,λj hj _ t ht=>y0G rfl⟩
   |5,_,ho=>
    cases ho
    have e1:a.eval (.tmp 56)=(.slice (some ⟨g,8,none⟩) 8 8):=hbn.yields 4 (hdep ⟨4,.data⟩ (by simp) rfl) 56 rfl;refine q1x e1 (HCYb.out X hX) ?_;rintro e w' ⟨x,rfl,hx,hb⟩;exact⟨x,rfl,⟨_,rfl,hb,q0A hx hXs,λj hj _ t ht=>x1H (hbn.yields j hj t ht) hx⟩⟩
   |6,_,ho=>
    cases ho
    have d2:=hdep ⟨2,.data⟩ (by simp) rfl;have d5:=hdep ⟨5,.data⟩ (by simp) rfl;have q1:q0i X Wb.heap.size (a.eval (.tmp 54)) R.counts:=hbn.yields 2 d2 54 rfl;have q2:q0i X Wb.heap.size (a.eval (.tmp 57)) R.colors:=hbn.yields 5 d5 57 rfl;have q3:u0a (a.eval (.tmp 54)) (a.eval (.tmp 57)):=hbn.pairs 2 5 d2 d5 (by decide) 54 57 rfl rfl (by decide) (by decide) (by decide);obtain⟨x1,c1,e1,-⟩:=q0Y q1;obtain⟨x2,c2,e2,-⟩:=q0Y q2;rw[e1]at q1 q3;rw[e2]at q2 q3;exact y1s e1 e2 ⟨_,rfl,bl0,⟨x1,c1,x2,c2,rfl,q1,q2,q3⟩,λj hj _ t ht=>y0G rfl⟩
  ·intro o ho a X hX hA dn hbn hdn
   cases ho
   obtain⟨x1,c1,x2,c2,e2,q1,q2,q3⟩:=hbn.yields 6 (hdn 6 (by omega)) 58 rfl;have e1:a.eval (.tmp 8)= .pointer (some ⟨w.heap.size+2,0,none⟩):=q0f hA (t:=8) (by kernel_rfl);have hf:Two X (w.heap.size+2) (.slice none 0 0) (.slice none 0 0):=HRES.out.later hX (HGR.out);refine j0l e1 e2 hf ?_;obtain⟨us,hus,rfl⟩:=q0F hA [52,53,54,55,56,57,58] (by kernel_rfl);obtain⟨k0,k1⟩:=u0y (.slice x1 (R.counts).length c1) (.slice x2 (R.colors).length c2) hf
   have HT:Hid (TM (q0B X (w.heap.size+2) (.slice x1 (R.counts).length c1) (.slice x2 (R.colors).length c2)) w.heap.size ⟨x1,(R.counts).length,c1,x2,(R.colors).length,c2⟩ ⟨R.counts,R.colors⟩):=by have ne:∀{v:Value}{zs:List Int},q0i X Wb.heap.size v zs->q0i (q0B X (w.heap.size+2) (.slice x1 (R.counts).length c1) (.slice x2 (R.colors).length c2)) w.heap.size v zs:=λhr=>q0A (q0v hr (λi hi=>z0c _ _ _ _ i (by have:=(q0n hr i hi).1;have:=HGR.out;omega))) (Nat.le_trans HBW.out.size nl0);exact⟨ne q1,ne q2,q3⟩
   have HB:Hid (Below w.heap.size w (q0B X (w.heap.size+2) (.slice x1 (R.counts).length c1) (.slice x2 (R.colors).length c2))):=by unfold q0B;exact((HBW.out.trans (hX.mono HBW.out.size)).setCell (by simp) _).setCell (by simp) _
   clear hbn hdn hA hus e1 e2 hf q1 q2 q3;generalize q0B X (w.heap.size+2) (.slice x1 (R.counts).length c1) (.slice x2 (R.colors).length c2)=Y at*;simp only[List.mapIdx_cons,List.mapIdx_nil,Nat.reduceAdd,List.contains_cons,List.contains_nil,Nat.reduceBEq,Bool.or_false,Bool.or_true,if_true,if_false,Bool.false_eq_true];go_wp2;exact bodyPost_ret (v:= .agg #[.slice x1 (R.counts).length c1,.slice x2 (R.colors).length c2]) (by simp[results,Tryz.results139,go_sem, *]) rfl ⟨⟨x1,(R.counts).length,c1,x2,(R.colors).length,c2⟩,rfl,HT.out,HB.out⟩
end
section
open Go.RowKit
def q1W(d c:Int)(H:q0a)(T:q0e)(k:Nat):q0e:=if col T k=c then T else x0p d c H ⟨T.counts,T.colors.set k c⟩ [(k:Int)]
theorem z1X(d c:Int)(H:q0a)(T:q0e)(k:Nat)(h8:q0I T)(hk:k<8):q0I (q1W d c H T k):=by
 unfold q1W;split
 ·exact h8
 ·exact u1S d c H _ _ ⟨h8.1,by simpa using h8.2⟩ (λz hz=>by rw[List.mem_singleton.1 hz];omega)
theorem v2O(v:Value)(H:q0a)(c d:Int)(hs:q0h H)(h8:H.objs.length=8)(hf:∀o∈H.objs,∀z∈o.field,q0w z)(T:q0e)(k:Nat)(w:World)(hT:q0I T)(hk:k<8)(h:RdH w v H):
 Calls Tryz.prog 142 #[u0b T,v,.int .i64 (k:Int),.int .i64 c,.int .i64 d] w λe w' =>e= .returned (u0b (q1W d c H T k))/\Below w.heap.size w w' :=by
 unfold q1W;by_cases hc:col T k=c
 ·rw[if_pos hc];exact u1m v H c d T k w hT hk hc h
 ·rw[if_neg hc];refine(z3D v H c d hs h8 hf T (Rch c H T k) (j4Z c H T k) _ T [] [] k w nl0 (q4h _ hT) hk (λ_ R h1 _=>h1) h).mono ?_;rintro e w' ⟨T',rfl,hp,hb⟩;rw[j3v hT hk hc hp];exact⟨rfl,hb⟩
theorem u2y(v:Value)(H:q0a)(hs:q0h H)(h8:H.objs.length=8)(hf:∀o∈H.objs,∀z∈o.field,q0w z)(T:q0e)(k:Nat)(w:World)(hT:q0I T)(hk:k<8)(h:RdH w v H):
 Calls Tryz.prog 140 #[u0b T,v,.int .i64 (k:Int)] w λe w' =>e= .returned (u0b (q1W (-1) 1 H T k))/\Below w.heap.size w w' :=by
 have CP:Hid (∀X,Below w.heap.size w X->_):=λX hX=>v2O v H 1 (-1) hs h8 hf T k X hT hk (q0s h hX);have hR:=z1X (-1) 1 H T k hT hk;generalize q1W (-1) 1 H T k=R at*;obtain⟨ao,co,aw,cw,ab,cb,sa,sc,rfl,-,-,-,-⟩:=h;obtain⟨a0,a1,a2,a3,a4,a5,a6,a7,b0,b1,b2,b3,b4,b5,b6,b7,rfl⟩:=v0D hT;obtain⟨r0,r1,r2,r3,r4,r5,r6,r7,r8,r9,r10,r11,r12,r13,r14,r15,rfl⟩:=v0D hR;rw[u0O,u0O]at CP;rw[u0O,u0O];obtain⟨W,hW⟩:∃W,W=((w.alloc (.cells #[.int .i64 a0,.int .i64 a1,.int .i64 a2,.int .i64 a3,.int .i64 a4,.int .i64 a5,.int .i64 a6,.int .i64 a7,.int .i64 b0,.int .i64 b1,.int .i64 b2,.int .i64 b3,.int .i64 b4,.int .i64 b5,.int .i64 b6,.int .i64 b7] 156)).alloc (.cells #[.slice ao H.objs.length co,.slice aw H.weaks.length cw,.slice ab H.buffer.length cb,.slice sa H.sites.length sc] 35)).alloc (.cells #[.int .i64 0,.int .i64 0,.int .i64 0,.int .i64 0,.int .i64 0,.int .i64 0,.int .i64 0,.int .i64 0,.int .i64 0,.int .i64 0,.int .i64 0,.int .i64 0,.int .i64 0,.int .i64 0,.int .i64 0,.int .i64 0] 156):=⟨_,rfl⟩;have BW:Below w.heap.size w W:=by rw[hW];exact((bl1 _).alloc (by simp) _).alloc (by simp;omega) _
 have sW:W.heap.size=w.heap.size+3:=by rw[hW];simp
 have Z0:Arr W (w.heap.size+2) (trD 0 0 0 0 0 0 0 0 0 0 0 0 0 0 0 0):=by
  have f:=Arr.new ((w.alloc (.cells #[.int .i64 a0,.int .i64 a1,.int .i64 a2,.int .i64 a3,.int .i64 a4,.int .i64 a5,.int .i64 a6,.int .i64 a7,.int .i64 b0,.int .i64 b1,.int .i64 b2,.int .i64 b3,.int .i64 b4,.int .i64 b5,.int .i64 b6,.int .i64 b7] 156)).alloc (.cells #[.slice ao H.objs.length co,.slice aw H.weaks.length cw,.slice ab H.buffer.length cb,.slice sa H.sites.length sc] 35)) (trD 0 0 0 0 0 0 0 0 0 0 0 0 0 0 0 0);have f2:Arr W ((w.alloc (.cells #[.int .i64 a0,.int .i64 a1,.int .i64 a2,.int .i64 a3,.int .i64 a4,.int .i64 a5,.int .i64 a6,.int .i64 a7,.int .i64 b0,.int .i64 b1,.int .i64 b2,.int .i64 b3,.int .i64 b4,.int .i64 b5,.int .i64 b6,.int .i64 b7] 156)).alloc (.cells #[.slice ao H.objs.length co,.slice aw H.weaks.length cw,.slice ab H.buffer.length cb,.slice sa H.sites.length sc] 35)).heap.size (trD 0 0 0 0 0 0 0 0 0 0 0 0 0 0 0 0):=by rw[hW];exact f
  simpa using f2
 have HZ:Hid (∀X,Below W.heap.size W X->Arr X (w.heap.size+2) (trD 0 0 0 0 0 0 0 0 0 0 0 0 0 0 0 0)):=λX hX=>Z0.later hX;have HZ8:Hid (q0I (trD 0 0 0 0 0 0 0 0 0 0 0 0 0 0 0 0)):=⟨rfl,rfl⟩;have HBW:Hid (∀X,Below W.heap.size W X->Below w.heap.size w X):=λX hX=>BW.trans (hX.mono BW.size);clear hT hR Z0 sW h8 hf hs;go_enter Tryz.func140,Tryz.ntmps140;go_wp2_with fail
 rw[<-hW];clear hW;refine(CP.out _ BW).mono ?_;rintro e w1 ⟨rfl,b1⟩;have HA:Hid _:=HZ.out _ b1;obtain⟨f0_,f1_,f2_,f3_,f4_,f5_,f6_,f7_,f8_,f9_,f10_,f11_,f12_,f13_,f14_,f15_⟩:=(x1b HA.out HZ8.out r0 r1 r2 r3 r4 r5 r6 r7 r8 r9 r10 r11 r12 r13 r14 r15).all;have HB:Hid (Below w.heap.size w (j0M w1 (w.heap.size+2) r0 r1 r2 r3 r4 r5 r6 r7 r8 r9 r10 r11 r12 r13 r14 r15)):=q1D r0 r1 r2 r3 r4 r5 r6 r7 r8 r9 r10 r11 r12 r13 r14 r15 (HBW.out _ b1) (by omega);clear BW b1 CP HZ HBW;go_wp2_with (refine u0C rfl rfl HA.out HZ8.out ?_)
 exact bodyPost_ret (v:= .agg #[.int .i64 r0,.int .i64 r1,.int .i64 r2,.int .i64 r3,.int .i64 r4,.int .i64 r5,.int .i64 r6,.int .i64 r7,.int .i64 r8,.int .i64 r9,.int .i64 r10,.int .i64 r11,.int .i64 r12,.int .i64 r13,.int .i64 r14,.int .i64 r15]) (by simp[results,Tryz.results140,go_sem, *]) rfl ⟨rfl,HB.out⟩
theorem v2C(v u:Value)(H:q0a)(T:q0e)(slot:Int)(w:World)(h:RdH w v H)(ht:RdT w u T)(hs:q0h H)(hst:v0p T)(hf:∀o∈H.objs,∀z∈o.field,q0w z)(R:q0e)(hy:OkT H T slot->R=q1W (-1) 1 H T slot.toNat)(hn:¬OkT H T slot->R=T):
 Calls Tryz.prog 134 #[v,u,.int .i64 slot] w λe w' =>∃s:TSh,e= .returned s.v/\TM w' w.heap.size s R/\Below w.heap.size w w' :=by
 have C:∀X,Below w.heap.size w X->Calls Tryz.prog 139 #[v,u,.int .i64 slot,.func (.func 140) #[] #[]] X λe w' =>∃s:TSh,e= .returned s.v/\TM w' X.heap.size s R/\Below X.heap.size X w' :=λX hX=>by
  by_cases hok:OkT H T slot
  ·rw[hy hok];obtain⟨k,rfl⟩:∃k:Nat,slot=(k:Int):=⟨slot.toNat,by have:=hok.lo;omega⟩;have hk:k<8:=by have:=hok.hi;omega
   have hT:q0I T:=⟨hok.counts,hok.colors⟩;rw[show((k:Int)).toNat=k from by omega];exact j2g v u _ z5J H T _ k X (q0s h hX) (v0S ht hX) hs hst hok (z1X (-1) 1 H T k hT hk) (λY hY=>u2y v H hs hok.objs hf T k Y hT hk (q0s (q0s h hX) hY))
  ·rw[hn hok];exact q3w v u _ H T slot X (q0s h hX) (v0S ht hX) hs hst hok
 have CT:Hid (∀X,Below w.heap.size w X->_):=C;clear C hy hn;obtain⟨ao,co,aw,cw,ab,cb,sa,sc,rfl,-,-,-,-⟩:=h;obtain⟨xa,xc,ya,yc,rfl,-,-⟩:=ht;obtain⟨W,hW⟩:∃W,W=((w.alloc (.cells #[.slice ao H.objs.length co,.slice aw H.weaks.length cw,.slice ab H.buffer.length cb,.slice sa H.sites.length sc] 35)).alloc (.cells #[.slice xa T.counts.length xc,.slice ya T.colors.length yc] 101)).alloc (.cells #[.slice none 0 0,.slice none 0 0] 101):=⟨_,rfl⟩;have BW:Below w.heap.size w W:=by rw[hW];exact((bl1 _).alloc (by simp) _).alloc (by simp;omega) _
 have hWs:W.heap.size=w.heap.size+3:=by rw[hW];simp
 have FR:Two W (w.heap.size+2) (.slice none 0 0) (.slice none 0 0):=by have f:=Two.new ((w.alloc (.cells #[.slice ao H.objs.length co,.slice aw H.weaks.length cw,.slice ab H.buffer.length cb,.slice sa H.sites.length sc] 35)).alloc (.cells #[.slice xa T.counts.length xc,.slice ya T.colors.length yc] 101)) (.slice none 0 0) (.slice none 0 0);rw[<-hW]at f;simpa using f
 have HFR:Hid (∀X,Below W.heap.size W X->Two X (w.heap.size+2) (.slice none 0 0) (.slice none 0 0)):=λX hX=>FR.later hX (by omega);have HBW:Hid (∀X,Below W.heap.size W X->Below w.heap.size w X):=λX hX=>BW.trans (hX.mono BW.size);have HWs:Hid (W.heap.size=w.heap.size+3):=hWs;clear FR hWs hs hst hf;go_enter Tryz.func134,Tryz.ntmps134;go_wp2_with fail
 rw[<-hW];clear hW;refine(CT.out _ BW).mono ?_;rintro e w1 ⟨s,rfl,M1,b1⟩;have F1:=HFR.out _ b1;have c0:w1.cell? ⟨w.heap.size+2,0,none⟩=some (.slice none 0 0):=F1.cell 0;have c1:w1.cell? ⟨w.heap.size+2,1,none⟩=some (.slice none 0 0):=F1.cell 1;have f0:=F1.frozen 0;have f1:=F1.frozen 1;obtain⟨k0,k1⟩:=u0y (.slice s.a s.n s.c) (.slice s.b s.m s.d) F1
 have HT:Hid (TM (q0B w1 (w.heap.size+2) (.slice s.a s.n s.c) (.slice s.b s.m s.d)) w.heap.size s R):=by
  have hle:w.heap.size<=W.heap.size:=by have:=HWs.out;omega
  exact(M1.same (λg hg _=>z0c _ _ _ _ g (by have:=HWs.out;omega))).mono hle
 have HB:Hid (Below w.heap.size w (q0B w1 (w.heap.size+2) (.slice s.a s.n s.c) (.slice s.b s.m s.d))):=by unfold q0B;exact((HBW.out _ b1).setCell (by simp) _).setCell (by simp) _
 unfold q0B at HT HB k0 k1;clear F1 M1 BW b1 CT;have hv:s.v= .agg #[.slice s.a s.n s.c,.slice s.b s.m s.d]:=rfl;rw[hv];go_wp2;exact bodyPost_ret (v:= .agg #[.slice s.a s.n s.c,.slice s.b s.m s.d]) (by simp[results,Tryz.results134,go_sem, *]) rfl ⟨s,rfl,HT.out,HB.out⟩
end
section
open Go.RowKit
variable{H:q0a}{T T0:q0e}
theorem x2d(v:Value)(H:q0a)(T:q0e)(k:Nat)(w:World)(h8:q0I T)(hk:k<8)(hc:col T k≠1)(h:RdH w v H):
 Calls Tryz.prog 141 #[u0b T,v,.int .i64 (k:Int)] w λe w' =>e= .returned (u0b T)/\Below w.heap.size w w' :=by
 obtain⟨ao,co,aw,cw,ab,cb,sa,sc,rfl,-,-,-,-⟩:=h;obtain⟨a0,a1,a2,a3,a4,a5,a6,a7,b0,b1,b2,b3,b4,b5,b6,b7,rfl⟩:=v0D h8;obtain⟨W,hW⟩:∃W,W=((w.alloc (.cells #[.int .i64 a0,.int .i64 a1,.int .i64 a2,.int .i64 a3,.int .i64 a4,.int .i64 a5,.int .i64 a6,.int .i64 a7,.int .i64 b0,.int .i64 b1,.int .i64 b2,.int .i64 b3,.int .i64 b4,.int .i64 b5,.int .i64 b6,.int .i64 b7] 156)).alloc (.cells #[.slice ao H.objs.length co,.slice aw H.weaks.length cw,.slice ab H.buffer.length cb,.slice sa H.sites.length sc] 35)).alloc (.cells #[.int .i64 0,.int .i64 0,.int .i64 0,.int .i64 0,.int .i64 0,.int .i64 0,.int .i64 0,.int .i64 0,.int .i64 0,.int .i64 0,.int .i64 0,.int .i64 0,.int .i64 0,.int .i64 0,.int .i64 0,.int .i64 0] 156):=⟨_,rfl⟩
 have A0:Arr W w.heap.size (trD a0 a1 a2 a3 a4 a5 a6 a7 b0 b1 b2 b3 b4 b5 b6 b7):=by have f:=Arr.new w (trD a0 a1 a2 a3 a4 a5 a6 a7 b0 b1 b2 b3 b4 b5 b6 b7);have f2:=f.later (bl1 (.cells #[.slice ao H.objs.length co,.slice aw H.weaks.length cw,.slice ab H.buffer.length cb,.slice sa H.sites.length sc] 35));have f3:=f2.later (bl1 (.cells #[.int .i64 0,.int .i64 0,.int .i64 0,.int .i64 0,.int .i64 0,.int .i64 0,.int .i64 0,.int .i64 0,.int .i64 0,.int .i64 0,.int .i64 0,.int .i64 0,.int .i64 0,.int .i64 0,.int .i64 0,.int .i64 0] 156));rw[hW];exact f3
 have ck:=A0.color h8 k hk;generalize col (trD a0 a1 a2 a3 a4 a5 a6 a7 b0 b1 b2 b3 b4 b5 b6 b7) k=q at*;rw[hW]at ck;have hk8:(k:Int)<8:=by omega
 have hcn:¬q=1:=hc;clear A0 hc hW;rw[u0O];go_enter Tryz.func141,Tryz.ntmps141;go_wp2;refine bodyPost_ret (v:= .agg #[.int .i64 a0,.int .i64 a1,.int .i64 a2,.int .i64 a3,.int .i64 a4,.int .i64 a5,.int .i64 a6,.int .i64 a7,.int .i64 b0,.int .i64 b1,.int .i64 b2,.int .i64 b3,.int .i64 b4,.int .i64 b5,.int .i64 b6,.int .i64 b7]) (by simp[results,Tryz.results141,go_sem, *]) rfl ⟨rfl,?_⟩;exact((bl1 _).alloc (by simp) _).alloc (by simp;omega) _
theorem u2S(v:Value)(H:q0a)(hs:q0h H)(h8:H.objs.length=8)(hf:∀o∈H.objs,∀z∈o.field,q0w z)(T:q0e)(k:Nat)(w:World)(hT:q0I T)(hk:k<8)(hc:col T k=1)(hp:0<cnt T k)(h:RdH w v H):
 Calls Tryz.prog 141 #[u0b T,v,.int .i64 (k:Int)] w λe w' =>e= .returned (u0b (x0p 1 0 H ⟨T.counts,T.colors.set k 0⟩ [(k:Int)]))/\Below w.heap.size w w' :=by
 have CP0:∀X,Below w.heap.size w X->_:=λX hX=>v2O v H 0 1 hs h8 hf T k X hT hk (q0s h hX);have hR:=z1X 1 0 H T k hT hk;have e:q1W 1 0 H T k=x0p 1 0 H ⟨T.counts,T.colors.set k 0⟩ [(k:Int)]:=by unfold q1W;rw[if_neg (by omega)]
 rw[e]at CP0 hR;have CP:Hid (∀X,Below w.heap.size w X->_):=CP0;clear CP0 e;generalize x0p 1 0 H ⟨T.counts,T.colors.set k 0⟩ [(k:Int)]=R at*;obtain⟨ao,co,aw,cw,ab,cb,sa,sc,rfl,-,-,-,-⟩:=h;obtain⟨a0,a1,a2,a3,a4,a5,a6,a7,b0,b1,b2,b3,b4,b5,b6,b7,rfl⟩:=v0D hT;obtain⟨r0,r1,r2,r3,r4,r5,r6,r7,r8,r9,r10,r11,r12,r13,r14,r15,rfl⟩:=v0D hR;obtain⟨W,hW⟩:∃W,W=((w.alloc (.cells #[.int .i64 a0,.int .i64 a1,.int .i64 a2,.int .i64 a3,.int .i64 a4,.int .i64 a5,.int .i64 a6,.int .i64 a7,.int .i64 b0,.int .i64 b1,.int .i64 b2,.int .i64 b3,.int .i64 b4,.int .i64 b5,.int .i64 b6,.int .i64 b7] 156)).alloc (.cells #[.slice ao H.objs.length co,.slice aw H.weaks.length cw,.slice ab H.buffer.length cb,.slice sa H.sites.length sc] 35)).alloc (.cells #[.int .i64 0,.int .i64 0,.int .i64 0,.int .i64 0,.int .i64 0,.int .i64 0,.int .i64 0,.int .i64 0,.int .i64 0,.int .i64 0,.int .i64 0,.int .i64 0,.int .i64 0,.int .i64 0,.int .i64 0,.int .i64 0] 156):=⟨_,rfl⟩;have BW:Below w.heap.size w W:=by rw[hW];exact((bl1 _).alloc (by simp) _).alloc (by simp;omega) _
 have A0:Arr W w.heap.size (trD a0 a1 a2 a3 a4 a5 a6 a7 b0 b1 b2 b3 b4 b5 b6 b7):=by have f:=Arr.new w (trD a0 a1 a2 a3 a4 a5 a6 a7 b0 b1 b2 b3 b4 b5 b6 b7);have f2:=f.later (bl1 (.cells #[.slice ao H.objs.length co,.slice aw H.weaks.length cw,.slice ab H.buffer.length cb,.slice sa H.sites.length sc] 35));have f3:=f2.later (bl1 (.cells #[.int .i64 0,.int .i64 0,.int .i64 0,.int .i64 0,.int .i64 0,.int .i64 0,.int .i64 0,.int .i64 0,.int .i64 0,.int .i64 0,.int .i64 0,.int .i64 0,.int .i64 0,.int .i64 0,.int .i64 0,.int .i64 0] 156));rw[hW];exact f3
 have Z0:Arr W (w.heap.size+2) (trD 0 0 0 0 0 0 0 0 0 0 0 0 0 0 0 0):=by
  have f:=Arr.new ((w.alloc (.cells #[.int .i64 a0,.int .i64 a1,.int .i64 a2,.int .i64 a3,.int .i64 a4,.int .i64 a5,.int .i64 a6,.int .i64 a7,.int .i64 b0,.int .i64 b1,.int .i64 b2,.int .i64 b3,.int .i64 b4,.int .i64 b5,.int .i64 b6,.int .i64 b7] 156)).alloc (.cells #[.slice ao H.objs.length co,.slice aw H.weaks.length cw,.slice ab H.buffer.length cb,.slice sa H.sites.length sc] 35)) (trD 0 0 0 0 0 0 0 0 0 0 0 0 0 0 0 0);have f2:Arr W ((w.alloc (.cells #[.int .i64 a0,.int .i64 a1,.int .i64 a2,.int .i64 a3,.int .i64 a4,.int .i64 a5,.int .i64 a6,.int .i64 a7,.int .i64 b0,.int .i64 b1,.int .i64 b2,.int .i64 b3,.int .i64 b4,.int .i64 b5,.int .i64 b6,.int .i64 b7] 156)).alloc (.cells #[.slice ao H.objs.length co,.slice aw H.weaks.length cw,.slice ab H.buffer.length cb,.slice sa H.sites.length sc] 35)).heap.size (trD 0 0 0 0 0 0 0 0 0 0 0 0 0 0 0 0):=by rw[hW];exact f
  simpa using f2
 have ck:=A0.color hT k hk;have cc:=A0.count hT k hk;rw[hc]at ck;generalize cnt (trD a0 a1 a2 a3 a4 a5 a6 a7 b0 b1 b2 b3 b4 b5 b6 b7) k=q at*;rw[hW]at ck cc;rw[u0O,u0O]at CP;rw[u0O,u0O];have HZ:Hid (∀X,Below W.heap.size W X->Arr X (w.heap.size+2) (trD 0 0 0 0 0 0 0 0 0 0 0 0 0 0 0 0)):=λX hX=>Z0.later hX;have HZ8:Hid (q0I (trD 0 0 0 0 0 0 0 0 0 0 0 0 0 0 0 0)):=⟨rfl,rfl⟩;have HBW:Hid (∀X,Below W.heap.size W X->Below w.heap.size w X):=λX hX=>BW.trans (hX.mono BW.size);have hk8:(k:Int)<8:=by omega
 clear hT hR Z0 A0 h8 hf hs hc;go_enter Tryz.func141,Tryz.ntmps141;go_wp2_with fail
 rw[<-hW];clear hW ck cc;refine(CP.out _ BW).mono ?_;rintro e w1 ⟨rfl,b1⟩;have HA:Hid _:=HZ.out _ b1;obtain⟨f0_,f1_,f2_,f3_,f4_,f5_,f6_,f7_,f8_,f9_,f10_,f11_,f12_,f13_,f14_,f15_⟩:=(x1b HA.out HZ8.out r0 r1 r2 r3 r4 r5 r6 r7 r8 r9 r10 r11 r12 r13 r14 r15).all;have HB:Hid (Below w.heap.size w (j0M w1 (w.heap.size+2) r0 r1 r2 r3 r4 r5 r6 r7 r8 r9 r10 r11 r12 r13 r14 r15)):=q1D r0 r1 r2 r3 r4 r5 r6 r7 r8 r9 r10 r11 r12 r13 r14 r15 (HBW.out _ b1) (by omega);clear BW b1 CP HZ HBW;go_wp2_with (refine u0C rfl rfl HA.out HZ8.out ?_)
 exact bodyPost_ret (v:= .agg #[.int .i64 r0,.int .i64 r1,.int .i64 r2,.int .i64 r3,.int .i64 r4,.int .i64 r5,.int .i64 r6,.int .i64 r7,.int .i64 r8,.int .i64 r9,.int .i64 r10,.int .i64 r11,.int .i64 r12,.int .i64 r13,.int .i64 r14,.int .i64 r15]) (by simp[results,Tryz.results141,go_sem, *]) rfl ⟨rfl,HB.out⟩
theorem z3l{T' :q0e}(h8:q0I T)(h8' :q0I T')(h:∀j,j<8->col T' j=1->col T j=1):x0q 1 T'.colors<=x0q 1 T.colors:=by
 obtain⟨a0,a1,a2,a3,a4,a5,a6,a7,b0,b1,b2,b3,b4,b5,b6,b7,rfl⟩:=x1n h8;obtain⟨x0,x1,x2,x3,x4,x5,x6,x7,y0,y1,y2,y3,y4,y5,y6,y7,rfl⟩:=x1n h8';have e0:=h 0 (by omega);have e1:=h 1 (by omega);have e2:=h 2 (by omega);have e3:=h 3 (by omega);have e4:=h 4 (by omega);have e5:=h 5 (by omega);have e6:=h 6 (by omega);have e7:=h 7 (by omega);simp only[col,List.getD_cons_zero,List.getD_cons_succ]at e0 e1 e2 e3 e4 e5 e6 e7
 have one:∀x y:Int,(y=1->x=1)->(if decide (y=1)=true then 1 else 0)<=(if decide (x=1)=true then 1 else 0):=λx y hxy=>by
  by_cases hy:y=1
  ·simp[hy,hxy hy]
  ·simp[hy]
 have g0:=one _ _ e0;have g1:=one _ _ e1;have g2:=one _ _ e2;have g3:=one _ _ e3;have g4:=one _ _ e4;have g5:=one _ _ e5;have g6:=one _ _ e6;have g7:=one _ _ e7;simp only[x0q,List.countP_cons,List.countP_nil];omega
theorem z4p{T' :q0e}{A Q:Nat->Prop}{P S P' S' :List Nat}(h:Sc H T0 A Q T P S)(h' :Sc H T0 A Q T' P' S')(hP:∀x∈P,x∈P')(hS:∀x∈S,x∈S'):x0q 1 T'.colors<=x0q 1 T.colors:=
 z3l h.e h'.e (λj hj hg=>by
  obtain⟨q1,q2,q3,-⟩:=j1P h' hj hg;rw[h.col j hj,if_neg (λhm=>q1 (hP j hm)),if_neg (λhm=>q2 (hS j hm))];exact q3)
theorem u2T(v:Value)(H:q0a)(hs:q0h H)(h8:H.objs.length=8)(hf:∀o∈H.objs,∀z∈o.field,q0w z)(T0:q0e)(A Q:Nat->Prop)(hy:y2N H T0 A Q):
 ∀(n:Nat)(T:q0e)(P S:List Nat)(k:Nat)(w:World),x0q 1 T.colors<=n->Sc H T0 A Q T P S->k<8->(col T0 k=1->A k)->RdH w v H->
  Calls Tryz.prog 141 #[u0b T,v,.int .i64 (k:Int)] w λe w' =>∃T',e= .returned (u0b T')/\y1h H T0 A Q P S k T' /\Below w.heap.size w w' :=by
 intro n
 induction n with
 |zero=>
  intro T P S k w hn hd hk hAk h
  have hc:col T k≠1:=λhne=>by
   have hl:k<T.colors.length:=by have:=hd.e.2;omega
   unfold col at hne;rw[List.getD_eq_getElem?_getD,List.getElem?_eq_getElem hl,Option.getD_some]at hne;have:=q2Z 1 2 T.colors k hl (by decide) hne;omega
  refine(x2d v H T k w hd.e hk hc h).mono ?_;rintro e w' ⟨rfl,hb⟩;exact⟨T,rfl,j2L hd hk hc,hb⟩
 |succ n ih=>
  intro T P S k w hn hd hk hAk h;by_cases hc:col T k=1
  case neg=>refine(x2d v H T k w hd.e hk hc h).mono ?_;rintro e w' ⟨rfl,hb⟩;exact⟨T,rfl,j2L hd hk hc,hb⟩
  by_cases hp:0<cnt T k
  ·refine(u2S v H hs h8 hf T k w hd.e hk hc hp h).mono ?_;rintro e w' ⟨rfl,hb⟩;exact⟨_,rfl,z3L hy hd hk hc hp hAk,hb⟩
  have HR1:Hid (∀X,Below w.heap.size w X->RdH X v H):=λX hX=>q0s h hX;have HST:Hid (q2X H T0 A Q P S k 0 ⟨T.counts,T.colors.set k 2⟩):=j3I hd hk hc hp hAk
  have HO1:Hid (x0q 1 (q0e.mk T.counts (T.colors.set k 2)).colors<=n):=by
   have hl:k<T.colors.length:=by have:=hd.e.2;omega
   have hne:=hc;unfold col at hne;rw[List.getD_eq_getElem?_getD,List.getElem?_eq_getElem hl,Option.getD_some]at hne;have:=q2Z 1 2 T.colors k hl (by decide) hne;show x0q 1 (T.colors.set k 2)<=n;omega
  have hk2:k<H.objs.length:=by omega
  have CK:Hid (∀X,Below w.heap.size w X->_):=λX hX=>v2D v H k X (HR1.out X hX) hs hk2 (hf _ (List.getElem_mem hk2));rw[<-y1W H k hk2]at CK;have hkl:=x2z H (k:Int) hs;have HIH:Hid (∀(T:q0e)(P S:List Nat)(j:Nat)(w' :World),x0q 1 T.colors<=n->Sc H T0 A Q T P S->j<8->(col T0 j=1->A j)->Below w.heap.size w w' ->_):=λT P S j w' h1 h2 h3 h4 h5=>ih T P S j w' h1 h2 h3 h4 (HR1.out w' h5);have e8:=hd.e;obtain⟨ao,co,aw,cw,ab,cb,sa,sc,rfl,-,-,-,-⟩:=h;obtain⟨a0,a1,a2,a3,a4,a5,a6,a7,b0,b1,b2,b3,b4,b5,b6,b7,rfl⟩:=v0D e8;rw[h8]at CK HIH HR1 ⊢;generalize H.weaks.length=nw at*;generalize H.buffer.length=nb at*;generalize H.sites.length=ns at*;obtain⟨W,hW⟩:∃W,W=((w.alloc (.cells #[.int .i64 a0,.int .i64 a1,.int .i64 a2,.int .i64 a3,.int .i64 a4,.int .i64 a5,.int .i64 a6,.int .i64 a7,.int .i64 b0,.int .i64 b1,.int .i64 b2,.int .i64 b3,.int .i64 b4,.int .i64 b5,.int .i64 b6,.int .i64 b7] 156)).alloc (.cells #[.slice ao 8 co,.slice aw nw cw,.slice ab nb cb,.slice sa ns sc] 35)).alloc (.cells #[.int .i64 0,.int .i64 0,.int .i64 0,.int .i64 0,.int .i64 0,.int .i64 0,.int .i64 0,.int .i64 0,.int .i64 0,.int .i64 0,.int .i64 0,.int .i64 0,.int .i64 0,.int .i64 0,.int .i64 0,.int .i64 0] 156):=⟨_,rfl⟩
  have A0:Arr W w.heap.size (trD a0 a1 a2 a3 a4 a5 a6 a7 b0 b1 b2 b3 b4 b5 b6 b7):=by have f:=Arr.new w (trD a0 a1 a2 a3 a4 a5 a6 a7 b0 b1 b2 b3 b4 b5 b6 b7);have f2:=f.later (bl1 (.cells #[.slice ao 8 co,.slice aw nw cw,.slice ab nb cb,.slice sa ns sc] 35));have f3:=f2.later (bl1 (.cells #[.int .i64 0,.int .i64 0,.int .i64 0,.int .i64 0,.int .i64 0,.int .i64 0,.int .i64 0,.int .i64 0,.int .i64 0,.int .i64 0,.int .i64 0,.int .i64 0,.int .i64 0,.int .i64 0,.int .i64 0,.int .i64 0] 156));rw[hW];exact f3
  have ck:=A0.color e8 k hk;have cc:=A0.count e8 k hk;have fk:=A0.frozen (8+k);obtain⟨W1,hW1⟩:∃W1,W1=((w.alloc (.cells ([.int .i64 a0,.int .i64 a1,.int .i64 a2,.int .i64 a3,.int .i64 a4,.int .i64 a5,.int .i64 a6,.int .i64 a7,.int .i64 b0,.int .i64 b1,.int .i64 b2,.int .i64 b3,.int .i64 b4,.int .i64 b5,.int .i64 b6,.int .i64 b7].set (8+k) (.int .i64 2)).toArray 156)).alloc (.cells #[.slice ao 8 co,.slice aw nw cw,.slice ab nb cb,.slice sa ns sc] 35)).alloc (.cells #[.int .i64 0,.int .i64 0,.int .i64 0,.int .i64 0,.int .i64 0,.int .i64 0,.int .i64 0,.int .i64 0,.int .i64 0,.int .i64 0,.int .i64 0,.int .i64 0,.int .i64 0,.int .i64 0,.int .i64 0,.int .i64 0] 156):=⟨_,rfl⟩;have B1:Below w.heap.size w W1:=by rw[hW1];exact((bl1 _).alloc (by simp) _).alloc (by simp;omega) _
  have s1:W1.heap.size=w.heap.size+3:=by rw[hW1];simp
  have ec:[.int .i64 a0,.int .i64 a1,.int .i64 a2,.int .i64 a3,.int .i64 a4,.int .i64 a5,.int .i64 a6,.int .i64 a7,.int .i64 b0,.int .i64 b1,.int .i64 b2,.int .i64 b3,.int .i64 b4,.int .i64 b5,.int .i64 b6,.int .i64 b7].set (8+k) (.int .i64 2)=y0A ⟨(trD a0 a1 a2 a3 a4 a5 a6 a7 b0 b1 b2 b3 b4 b5 b6 b7).counts,(trD a0 a1 a2 a3 a4 a5 a6 a7 b0 b1 b2 b3 b4 b5 b6 b7).colors.set k 2⟩:=by unfold y0A;simp only[List.map_append,List.map_set];show(List.map z0C (trD a0 a1 a2 a3 a4 a5 a6 a7 b0 b1 b2 b3 b4 b5 b6 b7).counts++List.map z0C (trD a0 a1 a2 a3 a4 a5 a6 a7 b0 b1 b2 b3 b4 b5 b6 b7).colors).set (8+k) (z0C 2)=_;rw[List.set_append_right _ _ (by simp[trD]),show 8+k - (List.map z0C (trD a0 a1 a2 a3 a4 a5 a6 a7 b0 b1 b2 b3 b4 b5 b6 b7).counts).length=k from by simp[trD]]
  have A1:Arr W1 w.heap.size ⟨(trD a0 a1 a2 a3 a4 a5 a6 a7 b0 b1 b2 b3 b4 b5 b6 b7).counts,(trD a0 a1 a2 a3 a4 a5 a6 a7 b0 b1 b2 b3 b4 b5 b6 b7).colors.set k 2⟩:=by rw[ec]at hW1;have f:=Arr.new w ⟨(trD a0 a1 a2 a3 a4 a5 a6 a7 b0 b1 b2 b3 b4 b5 b6 b7).counts,(trD a0 a1 a2 a3 a4 a5 a6 a7 b0 b1 b2 b3 b4 b5 b6 b7).colors.set k 2⟩;have f2:=f.later (bl1 (.cells #[.slice ao 8 co,.slice aw nw cw,.slice ab nb cb,.slice sa ns sc] 35));have f3:=f2.later (bl1 (.cells #[.int .i64 0,.int .i64 0,.int .i64 0,.int .i64 0,.int .i64 0,.int .i64 0,.int .i64 0,.int .i64 0,.int .i64 0,.int .i64 0,.int .i64 0,.int .i64 0,.int .i64 0,.int .i64 0,.int .i64 0,.int .i64 0] 156));rw[hW1];exact f3
  have F1:q0d W1 (w.heap.size+1) (.slice ao 8 co) (.slice aw nw cw) (.slice ab nb cb) (.slice sa ns sc):=by have f:=q0d.new (w.alloc (.cells ([.int .i64 a0,.int .i64 a1,.int .i64 a2,.int .i64 a3,.int .i64 a4,.int .i64 a5,.int .i64 a6,.int .i64 a7,.int .i64 b0,.int .i64 b1,.int .i64 b2,.int .i64 b3,.int .i64 b4,.int .i64 b5,.int .i64 b6,.int .i64 b7].set (8+k) (.int .i64 2)).toArray 156)) (.slice ao 8 co) (.slice aw nw cw) (.slice ab nb cb) (.slice sa ns sc);have f3:=f.later (bl1 (.cells #[.int .i64 0,.int .i64 0,.int .i64 0,.int .i64 0,.int .i64 0,.int .i64 0,.int .i64 0,.int .i64 0,.int .i64 0,.int .i64 0,.int .i64 0,.int .i64 0,.int .i64 0,.int .i64 0,.int .i64 0,.int .i64 0] 156));rw[hW1];simpa using f3
  have Z1:Arr W1 (w.heap.size+2) (trD 0 0 0 0 0 0 0 0 0 0 0 0 0 0 0 0):=by
   have f:=Arr.new ((w.alloc (.cells ([.int .i64 a0,.int .i64 a1,.int .i64 a2,.int .i64 a3,.int .i64 a4,.int .i64 a5,.int .i64 a6,.int .i64 a7,.int .i64 b0,.int .i64 b1,.int .i64 b2,.int .i64 b3,.int .i64 b4,.int .i64 b5,.int .i64 b6,.int .i64 b7].set (8+k) (.int .i64 2)).toArray 156)).alloc (.cells #[.slice ao 8 co,.slice aw nw cw,.slice ab nb cb,.slice sa ns sc] 35)) (trD 0 0 0 0 0 0 0 0 0 0 0 0 0 0 0 0);have f2:Arr W1 ((w.alloc (.cells ([.int .i64 a0,.int .i64 a1,.int .i64 a2,.int .i64 a3,.int .i64 a4,.int .i64 a5,.int .i64 a6,.int .i64 a7,.int .i64 b0,.int .i64 b1,.int .i64 b2,.int .i64 b3,.int .i64 b4,.int .i64 b5,.int .i64 b6,.int .i64 b7].set (8+k) (.int .i64 2)).toArray 156)).alloc (.cells #[.slice ao 8 co,.slice aw nw cw,.slice ab nb cb,.slice sa ns sc] 35)).heap.size (trD 0 0 0 0 0 0 0 0 0 0 0 0 0 0 0 0):=by rw[hW1];exact f
   simpa using f2
  have HP1:Hid (∀X vk ks,Below W1.heap.size W1 X->q0i X (w.heap.size+3) vk ks->PF w X (.slice ao 8 co) (.slice aw nw cw) (.slice ab nb cb) (.slice sa ns sc) ⟨(trD a0 a1 a2 a3 a4 a5 a6 a7 b0 b1 b2 b3 b4 b5 b6 b7).counts,(trD a0 a1 a2 a3 a4 a5 a6 a7 b0 b1 b2 b3 b4 b5 b6 b7).colors.set k 2⟩ vk ks):=λX vk ks hX ho=>⟨B1.trans (hX.mono B1.size),A1.later hX,F1.later hX,Z1.later hX,ho⟩
  have hk8:(k:Int)<8:=by omega
  clear A1 F1 Z1 ec;generalize (⟨(trD a0 a1 a2 a3 a4 a5 a6 a7 b0 b1 b2 b3 b4 b5 b6 b7).counts,(trD a0 a1 a2 a3 a4 a5 a6 a7 b0 b1 b2 b3 b4 b5 b6 b7).colors.set k 2⟩:q0e)=T1 at HP1 HST HO1;rw[hc]at ck;generalize cnt (trD a0 a1 a2 a3 a4 a5 a6 a7 b0 b1 b2 b3 b4 b5 b6 b7) k=q at*;rw[hW]at ck fk cc;clear A0 hd hAk e8 hW hc;rw[u0O];obtain⟨L,hL⟩:∃L,(q0P H (k:Int)).length=L:=⟨_,rfl⟩;have HL:Hid ((q0P H (k:Int)).length=L):=hL;rw[hL]at hkl;clear hL;have Hs1:Hid (W1.heap.size=w.heap.size+3):=s1;go_enter Tryz.func141,Tryz.ntmps141;go_wp2_with fail
  rw[<-hW1];clear hW1 ck fk cc s1;refine(CK.out _ B1).mono ?_;rintro e w2 ⟨vk,rfl,O2,b2⟩;rw[Hs1.out]at O2;obtain⟨ka,kc,hvk,-⟩:=q0Y O2;rw[HL.out]at hvk;subst hvk;have HPF:Hid (PF w w2 (.slice ao 8 co) (.slice aw nw cw) (.slice ab nb cb) (.slice sa ns sc) T1 (.slice ka L kc) (q0P H (k:Int))):=HP1.out _ _ _ b2 O2;clear b2 O2 CK HP1 B1;go_wp2;go_loopw[31] (λi wr=>∃(j:Nat)(T2:q0e),i= .int .i64 (j:Int)/\j<=L/\Hid (PF w wr (.slice ao 8 co) (.slice aw nw cw) (.slice ab nb cb) (.slice sa ns sc) T2 (.slice ka L kc) (q0P H (k:Int)))/\Hid (q2X H T0 A Q P S k j T2)/\Hid (x0q 1 T2.colors<=n)) (λi _=>L - (intOf i).toNat)
  case atStart=>exact⟨0,T1,rfl,by omega,HPF,HST,HO1⟩
  case round=>
   clear HPF HST HO1;obtain⟨j,T2,rfl,hjL,HP,HM,HO⟩:=hrel;by_cases hlt:j<L
   ·have hj2:j<(q0P H (k:Int)).length:=by have:=HL.out;omega
    obtain⟨z,hz⟩:∃z,(q0P H (k:Int))[j]=z:=⟨_,rfl⟩;obtain⟨P2,S2,hD,hAz,hz7,hnx⟩:=z4q hy HM.out hj2 z hz;obtain⟨m,rfl⟩:∃m:Nat,z=(m:Int):=⟨z.toNat,by omega⟩;have hm:m<8:=by omega
    rw[show((m:Int)).toNat=m from by omega]at hAz hnx;obtain⟨ka2,kc2,hka,hr⟩:=z0e HP.out.kids;rw[HL.out]at hka;simp only[Value.slice.injEq]at hka;obtain⟨rfl,-,rfl⟩:=hka;obtain⟨kg,ko,rfl,hkg,hcz⟩:=hr j hj2;rw[hz]at hcz;have hE3:=hD.e;obtain⟨p0,p1,p2,p3,p4,p5,p6,p7,p8,p9,p10,p11,p12,p13,p14,p15,rfl⟩:=v0D hE3;have CI:Hid (∀_:Unit,_):=λ(_:Unit)=>HIH.out _ _ _ m wr HO.out hD hm hAz HP.out.bel;rw[u0O]at CI;have v0:wr.cell? ⟨w.heap.size+1,0,none⟩=_:=HP.out.heap.cell 0;have v1:wr.cell? ⟨w.heap.size+1,1,none⟩=_:=HP.out.heap.cell 1;have v2:wr.cell? ⟨w.heap.size+1,2,none⟩=_:=HP.out.heap.cell 2;have v3:wr.cell? ⟨w.heap.size+1,3,none⟩=_:=HP.out.heap.cell 3;simp only[List.getElem?_toArray,List.getElem?_cons_zero,List.getElem?_cons_succ]at v0 v1 v2 v3;have HA1:Hid _:=HP.out.arr;have hjl:(j:Int)<(L:Int):=by omega
    have HE3:Hid _:=hE3;have HD3:Hid _:=hD;have HNX:Hid _:=hnx;clear hD hAz HM hE3 hnx hr hz7 hz;go_wp2_with (refine x1V rfl HA1.out ?_)
    clear v0 v1 v2 v3 HA1 hcz;refine(CI.out ()).mono ?_;rintro e w3 ⟨T4,rfl,hP4,b3⟩;have HM4:Hid (q2X H T0 A Q P S k (j+1) T4):=HNX.out T4 hP4;have PF3:=HP.out.later b3;have E4:q0I T4:=by obtain⟨_,_,h,-⟩:=HM4.out;exact h.e
    have HO4:Hid (x0q 1 T4.colors<=n):=by obtain⟨P3,S3,h4,h5,h6,-⟩:=hP4;exact Nat.le_trans (z4p HD3.out h4 h5 h6) HO.out
    obtain⟨q0,q1,q2,q3,q4,q5,q6,q7,q8,q9,q10,q11,q12,q13,q14,q15,rfl⟩:=v0D E4;have HA3:Hid _:=PF3.arr;have HPN:Hid (PF w (j0M w3 w.heap.size q0 q1 q2 q3 q4 q5 q6 q7 q8 q9 q10 q11 q12 q13 q14 q15) (.slice ao 8 co) (.slice aw nw cw) (.slice ab nb cb) (.slice sa ns sc) (trD q0 q1 q2 q3 q4 q5 q6 q7 q8 q9 q10 q11 q12 q13 q14 q15) (.slice (some ⟨kg,ko,none⟩) L kc) (q0P H (k:Int))):=PF3.turn (q1D q0 q1 q2 q3 q4 q5 q6 q7 q8 q9 q10 q11 q12 q13 q14 q15 PF3.bel nl0) (λi hi=>q2n _ _ q0 q1 q2 q3 q4 q5 q6 q7 q8 q9 q10 q11 q12 q13 q14 q15 i hi) (x1b PF3.arr HE3.out q0 q1 q2 q3 q4 q5 q6 q7 q8 q9 q10 q11 q12 q13 q14 q15);rw[u0O];clear PF3 HP b3 hP4 CI E4;go_wp2_with (refine u0C rfl rfl HA3.out HE3.out ?_)
    go_roundw
    case rel=>exact⟨j+1,trD q0 q1 q2 q3 q4 q5 q6 q7 q8 q9 q10 q11 q12 q13 q14 q15,by go_num,by omega,HPN,HM4,HO4⟩
    case measure=>simp[intOf];omega
   ·have hLj:L<=j:=by omega
    have HFIN:Hid (y1h H T0 A Q P S k T2):=v4X HM.out (by rw[HL.out];exact hLj);have E2:q0I T2:=by obtain⟨_,_,h,-⟩:=HM.out;exact h.e
    obtain⟨p0,p1,p2,p3,p4,p5,p6,p7,p8,p9,p10,p11,p12,p13,p14,p15,rfl⟩:=v0D E2;have HA5:Hid _:=HP.out.arr;have HR5:Hid _:=HP.out.res;have HZ5:Hid (q0I (trD 0 0 0 0 0 0 0 0 0 0 0 0 0 0 0 0)):=⟨rfl,rfl⟩;obtain⟨f0_,f1_,f2_,f3_,f4_,f5_,f6_,f7_,f8_,f9_,f10_,f11_,f12_,f13_,f14_,f15_⟩:=(x1b HP.out.res HZ5.out p0 p1 p2 p3 p4 p5 p6 p7 p8 p9 p10 p11 p12 p13 p14 p15).all;have HB:Hid (Below w.heap.size w (j0M wr (w.heap.size+2) p0 p1 p2 p3 p4 p5 p6 p7 p8 p9 p10 p11 p12 p13 p14 p15)):=q1D p0 p1 p2 p3 p4 p5 p6 p7 p8 p9 p10 p11 p12 p13 p14 p15 HP.out.bel (by omega);clear HP HM HO E2;go_wp2_with (first|(refine x1V rfl HA5.out ?_)|(refine u0C rfl rfl HR5.out HZ5.out ?_))
    exact bodyPost_ret (v:= .agg #[.int .i64 p0,.int .i64 p1,.int .i64 p2,.int .i64 p3,.int .i64 p4,.int .i64 p5,.int .i64 p6,.int .i64 p7,.int .i64 p8,.int .i64 p9,.int .i64 p10,.int .i64 p11,.int .i64 p12,.int .i64 p13,.int .i64 p14,.int .i64 p15]) (by simp[results,Tryz.results141,go_sem, *]) rfl ⟨_,rfl,HFIN.out,HB.out⟩
theorem v3Y(v:Value)(H:q0a)(hs:q0h H)(h8:H.objs.length=8)(hf:∀o∈H.objs,∀z∈o.field,q0w z)(T:q0e)(k:Nat)(w:World)(hT:q0I T)(hk:k<8)(h:RdH w v H):
 Calls Tryz.prog 141 #[u0b T,v,.int .i64 (k:Int)] w λe w' =>e= .returned (u0b (v1W H T (k:Int)))/\Below w.heap.size w w' :=by
 refine(u2T v H hs h8 hf T (AS H T k) (QS H T k) (x3b H T k) _ T [] [] k w nl0 (v3U H T _ _ hT) hk (λhc U h1 _=>h1 hc) h).mono ?_;rintro e w' ⟨T',rfl,hp,hb⟩;rw[j3H hs hT hk hp];exact⟨rfl,hb⟩
theorem q2m(H:q0a)(hs:q0h H)(T:q0e)(k:Nat)(hT:q0I T)(hk:k<8):q0I (v1W H T (k:Int)):=by obtain⟨P,S,h⟩:=z3b H hs T k hT hk;exact h.sc.e
theorem v2G(v u:Value)(H:q0a)(T:q0e)(slot:Int)(w:World)(h:RdH w v H)(ht:RdT w u T)(hs:q0h H)(hst:v0p T)(hf:∀o∈H.objs,∀z∈o.field,q0w z)(R:q0e)(hy:OkT H T slot->R=v1W H T slot)(hn:¬OkT H T slot->R=T):
 Calls Tryz.prog 135 #[v,u,.int .i64 slot] w λe w' =>∃s:TSh,e= .returned s.v/\TM w' w.heap.size s R/\Below w.heap.size w w' :=by
 have C:∀X,Below w.heap.size w X->Calls Tryz.prog 139 #[v,u,.int .i64 slot,.func (.func 141) #[] #[]] X λe w' =>∃s:TSh,e= .returned s.v/\TM w' X.heap.size s R/\Below X.heap.size X w' :=λX hX=>by
  by_cases hok:OkT H T slot
  ·rw[hy hok];obtain⟨k,rfl⟩:∃k:Nat,slot=(k:Int):=⟨slot.toNat,by have:=hok.lo;omega⟩;have hk:k<8:=by have:=hok.hi;omega
   have hT:q0I T:=⟨hok.counts,hok.colors⟩;exact j2g v u _ z5K H T _ k X (q0s h hX) (v0S ht hX) hs hst hok (q2m H hs T k hT hk) (λY hY=>v3Y v H hs hok.objs hf T k Y hT hk (q0s (q0s h hX) hY))
  ·rw[hn hok];exact q3w v u _ H T slot X (q0s h hX) (v0S ht hX) hs hst hok
 have CT:Hid (∀X,Below w.heap.size w X->_):=C;clear C hy hn;obtain⟨ao,co,aw,cw,ab,cb,sa,sc,rfl,-,-,-,-⟩:=h;obtain⟨xa,xc,ya,yc,rfl,-,-⟩:=ht;obtain⟨W,hW⟩:∃W,W=((w.alloc (.cells #[.slice ao H.objs.length co,.slice aw H.weaks.length cw,.slice ab H.buffer.length cb,.slice sa H.sites.length sc] 35)).alloc (.cells #[.slice xa T.counts.length xc,.slice ya T.colors.length yc] 101)).alloc (.cells #[.slice none 0 0,.slice none 0 0] 101):=⟨_,rfl⟩;have BW:Below w.heap.size w W:=by rw[hW];exact((bl1 _).alloc (by simp) _).alloc (by simp;omega) _
 have hWs:W.heap.size=w.heap.size+3:=by rw[hW];simp
 have FR:Two W (w.heap.size+2) (.slice none 0 0) (.slice none 0 0):=by have f:=Two.new ((w.alloc (.cells #[.slice ao H.objs.length co,.slice aw H.weaks.length cw,.slice ab H.buffer.length cb,.slice sa H.sites.length sc] 35)).alloc (.cells #[.slice xa T.counts.length xc,.slice ya T.colors.length yc] 101)) (.slice none 0 0) (.slice none 0 0);rw[<-hW]at f;simpa using f
 have HFR:Hid (∀X,Below W.heap.size W X->Two X (w.heap.size+2) (.slice none 0 0) (.slice none 0 0)):=λX hX=>FR.later hX (by omega);have HBW:Hid (∀X,Below W.heap.size W X->Below w.heap.size w X):=λX hX=>BW.trans (hX.mono BW.size);have HWs:Hid (W.heap.size=w.heap.size+3):=hWs;clear FR hWs hs hst hf;go_enter Tryz.func135,Tryz.ntmps135;go_wp2_with fail
 rw[<-hW];clear hW;refine(CT.out _ BW).mono ?_;rintro e w1 ⟨s,rfl,M1,b1⟩;have F1:=HFR.out _ b1;have c0:w1.cell? ⟨w.heap.size+2,0,none⟩=some (.slice none 0 0):=F1.cell 0;have c1:w1.cell? ⟨w.heap.size+2,1,none⟩=some (.slice none 0 0):=F1.cell 1;have f0:=F1.frozen 0;have f1:=F1.frozen 1;obtain⟨k0,k1⟩:=u0y (.slice s.a s.n s.c) (.slice s.b s.m s.d) F1
 have HT:Hid (TM (q0B w1 (w.heap.size+2) (.slice s.a s.n s.c) (.slice s.b s.m s.d)) w.heap.size s R):=by
  have hle:w.heap.size<=W.heap.size:=by have:=HWs.out;omega
  exact(M1.same (λg hg _=>z0c _ _ _ _ g (by have:=HWs.out;omega))).mono hle
 have HB:Hid (Below w.heap.size w (q0B w1 (w.heap.size+2) (.slice s.a s.n s.c) (.slice s.b s.m s.d))):=by unfold q0B;exact((HBW.out _ b1).setCell (by simp) _).setCell (by simp) _
 unfold q0B at HT HB k0 k1;clear F1 M1 BW b1 CT;have hv:s.v= .agg #[.slice s.a s.n s.c,.slice s.b s.m s.d]:=rfl;rw[hv];go_wp2;exact bodyPost_ret (v:= .agg #[.slice s.a s.n s.c,.slice s.b s.m s.d]) (by simp[results,Tryz.results135,go_sem, *]) rfl ⟨s,rfl,HT.out,HB.out⟩
end
section
open Go.RowKit
variable{a:Act}{K:Act → World → Prop}{af:Array Edge}{Q:Exit → Act → World → Prop}{pos:String}{ty:TypeId}
theorem v4s{t i j:Tmp}{X:World}{g off n c k:Nat}(h1:a.eval (.tmp i)= .slice (some ⟨g,off,none⟩) n c)(h2:a.eval (.tmp j)= .int .i64 (k:Int))(hk:k<n)(hK:K (a.put (some t) (.pointer (some ⟨g,off+k*8,none⟩))) X):
 Oper.wp Tryz.prog ⟨some t,.indexAddr 32 (.tmp i) (.tmp j),ty,pos,af,none⟩ a X K Q:=by
 have e1:=q0x h1;have e2:=q0x h2;go_simp;exact hK
theorem x5s{t i:Tmp}{X:World}{z:Int}(h1:a.eval (.tmp i)= .int .i64 z)(hK:K (a.put (some t) (.slice (some ⟨X.heap.size,0,none⟩) 1 1)) (X.alloc (.cells #[.int .i64 z] 3))):
 Oper.wp Tryz.prog ⟨some t,.buildSlice 24 1 #[(0,.tmp i)],ty,pos,af,none⟩ a X K Q:=by
 have e1:=q0x h1;go_simp;exact hK
theorem z4b{i j:Tmp}{X:World}{g p n c:Nat}{u:Value}{x:Option Addr}(h1:a.eval (.tmp i)= .pointer (some ⟨g,p,none⟩))(h2:a.eval (.tmp j)= .slice x n c)(hc:X.cell? ⟨g,p,none⟩=some u)(hf:X.frozen? ⟨g,p,none⟩=false)(hK:K a (X.setCell ⟨g,p,none⟩ (.slice x n c))):
 Oper.wp Tryz.prog ⟨none,.store 24 (.tmp i) (.tmp j),ty,pos,af,none⟩ a X K Q:=by
 have e1:=q0x h1;have e2:=q0x h2;go_simp;exact hK
theorem z4T{w:World}{o:Oper}(s x:Operand)(ho:o.op= .call {callee:= .builtin .append,args:= #[s,x],argTypes:= #[24,24]})(B:Nat)(v:Value)(P:List Int)(hs:a.eval s=v)(hown:q0i w B v P)(ad:Addr)(z:Int)(hx:a.eval x= .slice (some ad) 1 1)(hsrc:w.cell? ad=some (.int .i64 z))(hlen:P.length<=16777215)(hB:B<=w.heap.size)(h:∀v' w',q0i w' B v' (P++[z])->w.heap.size<=w'.heap.size->(∀i,i<w.heap.size->v.ownBlock≠some i->w'.heap[i]? =w.heap[i]?)->(v'.ownBlock=v.ownBlock\/v'.ownBlock=some w.heap.size)->(∀C w0,Below C w0 w->C<=B->Below C w0 w')->K (a.put o.dst v') w'):o.wp Tryz.prog a w K Q:=by
 obtain⟨i0,hi,hz0,hz1,hz2⟩:=info_parts u1E;have hlt:=World.ownsRow.lt hown
 obtain⟨v',w',hr,hown',hgrow,_,hat⟩:=run_append_own_at (P:=Tryz.prog) w B 24 o.type 3 i0 (.int .i64 0) 1 8 Tryz.underlying24 hi hz0 hz1 hz2 rfl (by decide) v P.length (P.map z0C) hown ad 1 1 [z0C z] rfl
  (λj u hj=>by
    match j,hj with
    |0,hj=>simp at hj;subst hj;rw[show ad.add 0=ad from by cases ad;simp[Addr.add]];exact hsrc
    |j+1,hj=>simp at hj)
  (λu hu=>by simp at hu;subst hu;rfl) (by unfold maxLen;omega) (by omega) hB
 unfold Oper.wp execOp;simp only[ho,resolve,invoke,builtin,Sem.run_bind,Sem.run_pure,Result.andThen_ok,List.map_toArray,List.map_cons,List.map_nil,hs,hx,hr];refine h v' w' ?_ hgrow.size (λi hi hne=>hgrow.block i hi (λe=>hne e.symm)) hat (λC w0 hb hC=> ?_)
 ·unfold q0i;rw[List.length_append,List.map_append];exact hown'
 ·exact⟨hgrow.os.trans hb.os,hgrow.tape.trans hb.tape,hgrow.output.trans hb.output,Nat.le_trans hb.size hgrow.size,λk hk=>(hgrow.block k (by omega) (λe=>by have:=(hlt k e.symm).1;omega)).trans (hb.block k hk)⟩
structure TI(W wr:World)(gt:Nat)(vx vy:Value)(xs ys:List Int):Prop where
 bel:Below gt W wr
 x:q0i wr (gt+1) vx xs
 y:q0i wr (gt+1) vy ys
 dif:u0a vx vy
 t:Two wr gt vx vy
theorem x5R{W wr X:World}{gt:Nat}{vx vy vx' :Value}{xs ys xs' :List Int}(h:TI W wr gt vx vy xs ys)(hb:Below gt W X)(ht:Two X gt vx vy)(hy:q0i X (gt+1) vy ys)(hx:q0i X (gt+1) vx' xs')(hat:vx'.ownBlock=vx.ownBlock\/∃q,vx'.ownBlock=some q/\wr.heap.size<=q):TI W (X.setCell ⟨gt,0,none⟩ vx') gt vx' vy xs' ys:=by
 have oth:∀g,g≠gt->(X.setCell ⟨gt,0,none⟩ vx').heap[g]? =X.heap[g]?:=λg hg=>heap_setCell_other _ _ _ _ (by exact hg);refine⟨hb.setCell nl0 _,q0v hx (λg hg=>oth g (by have:=(q0n hx g hg).1;omega)),q0v hy (λg hg=>oth g (by have:=(q0n hy g hg).1;omega)),λg h1 h2=> ?_,?_⟩
 ·rcases hat with e|⟨q,e,hq⟩
  ·exact h.dif g (by rw[<-e];exact h1) h2
  ·rw[e]at h1;injection h1 with h1;have:=(q0n h.y g h2).2;omega
 ·have ht' :X.heap[gt]? =some (.cells #[vx,vy] 101 (0,0)):=ht;show(X.setCell ⟨gt,0,none⟩ vx').heap[gt]? =_;simp[World.setCell,ht',Array.getElem?_modify]
theorem x5S{W wr X:World}{gt:Nat}{vx vy vy' :Value}{xs ys ys' :List Int}(h:TI W wr gt vx vy xs ys)(hb:Below gt W X)(ht:Two X gt vx vy)(hx:q0i X (gt+1) vx xs)(hy:q0i X (gt+1) vy' ys')(hat:vy'.ownBlock=vy.ownBlock\/∃q,vy'.ownBlock=some q/\wr.heap.size<=q):TI W (X.setCell ⟨gt,1,none⟩ vy') gt vx vy' xs ys' :=by
 have oth:∀g,g≠gt->(X.setCell ⟨gt,1,none⟩ vy').heap[g]? =X.heap[g]?:=λg hg=>heap_setCell_other _ _ _ _ (by exact hg);refine⟨hb.setCell nl0 _,q0v hx (λg hg=>oth g (by have:=(q0n hx g hg).1;omega)),q0v hy (λg hg=>oth g (by have:=(q0n hy g hg).1;omega)),λg h1 h2=> ?_,?_⟩
 ·rcases hat with e|⟨q,e,hq⟩
  ·exact h.dif g h1 (by rw[<-e];exact h2)
  ·rw[e]at h2;injection h2 with h2;have:=(q0n h.x g h1).2;omega
 ·have ht' :X.heap[gt]? =some (.cells #[vx,vy] 101 (0,0)):=ht;show(X.setCell ⟨gt,1,none⟩ vy').heap[gt]? =_;simp[World.setCell,ht',Array.getElem?_modify]
structure TJ(W wr:World)(gt:Nat)(vx vy:Value)(xs ys:List Int)(dn:Nat->Prop)(X:World):Prop where
 bel:Below gt W X
 t:Two X gt vx vy
 y:q0i X (gt+1) vy ys
 ge:wr.heap.size<=X.heap.size
 x:¬dn 9->q0i X (gt+1) vx xs
theorem TJ.later{W wr X Y:World}{gt:Nat}{vx vy:Value}{xs ys:List Int}{dn:Nat->Prop}{i:Nat}(h:TJ W wr gt vx vy xs ys dn X)(hb:Below X.heap.size X Y):TJ W wr gt vx vy xs ys (λj=>dn j\/j=i) Y:=
 ⟨h.bel.trans (hb.mono (Nat.le_of_lt h.t.lt)),h.t.same (hb.block gt h.t.lt),q0o h.y hb,Nat.le_trans h.ge hb.size,λhn=>q0o (h.x (λh=>hn (.inl h))) hb⟩
def RN(wr:World)(gt gh:Nat)(vx:Value)(xs:List Int)(g off n co k:Nat)(z:Int):Nat->World->Value->Prop
 |0,X,v=>v= .pointer (some ⟨gt,0,none⟩)
 |1,X,v=>v=vx
 |2,X,v=>v= .pointer (some ⟨gh,0,none⟩)
 |3,X,v=>v= .slice (some ⟨g,off,none⟩) n co
 |4,X,v=>v= .int .i64 (k:Int)
 |5,X,v=>v= .pointer (some ⟨g,off+k*8,none⟩)
 |6,X,v=>v= .pointer (some ⟨g,off+k*8+5,none⟩)
 |7,X,v=>v= .int .i64 z
 |8,X,v=>∃q,v= .slice (some ⟨q,0,none⟩) 1 1/\wr.heap.size<=q/\X.heap[q]? =some (.cells #[.int .i64 z] 3 (0,0))
 |9,X,v=>q0i X (gt+1) v (xs++[z])/\(v.ownBlock=vx.ownBlock\/∃q,v.ownBlock=some q/\wr.heap.size<=q)
 |10,X,v=>v= .pointer (some ⟨gt,0,none⟩)
 |_,_,_=>True
theorem z5j{wr:World}{gt gh:Nat}{vx:Value}{xs:List Int}{g off n co k:Nat}{z:Int}(i:Nat)(X Y:World)(v:Value)(h:RN wr gt gh vx xs g off n co k z i X v)(hb:Below X.heap.size X Y):RN wr gt gh vx xs g off n co k z i Y v:=by
 match i,h with
 |0,h=>exact h
 |1,h=>exact h
 |2,h=>exact h
 |3,h=>exact h
 |4,h=>exact h
 |5,h=>exact h
 |6,h=>exact h
 |7,h=>exact h
 |8,⟨q,h1,h2,h3⟩=>exact⟨q,h1,h2,(hb.block q (Array.getElem?_eq_some_iff.1 h3).1).trans h3⟩
 |9,⟨h1,h2⟩=>exact⟨q0o h1 hb,h2⟩
 |10,h=>exact h
 |m+11,_=>exact trivial
theorem x5C{wr:World}{gt gh:Nat}{vx:Value}{xs:List Int}{g off n co k:Nat}{z:Int}(i:Nat)(hi:i≠9)(X Y:World)(v:Value)(h:RN wr gt gh vx xs g off n co k z i X v)(hv:∀q,vx.ownBlock=some q->q<wr.heap.size)(oth:∀i,i<X.heap.size->vx.ownBlock≠some i->Y.heap[i]? =X.heap[i]?):RN wr gt gh vx xs g off n co k z i Y v:=by
 match i,h with
 |0,h=>exact h
 |1,h=>exact h
 |2,h=>exact h
 |3,h=>exact h
 |4,h=>exact h
 |5,h=>exact h
 |6,h=>exact h
 |7,h=>exact h
 |8,⟨q,h1,h2,h3⟩=>exact⟨q,h1,h2,(oth q (Array.getElem?_eq_some_iff.1 h3).1 (λe=>by have:=hv q e;omega)).trans h3⟩
 |9,_=>exact absurd rfl hi
 |10,h=>exact h
 |m+11,_=>exact trivial
def y0h(H:q0a):q0e:=⟨(H.objs.take 8).map (·.count),(H.objs.take 8).map (λ_=>0)⟩
theorem y3s(W:World):TI W (W.alloc (.cells #[.slice none 0 0,.slice none 0 0] 101)) W.heap.size (.slice none 0 0) (.slice none 0 0) [] []:=
 ⟨bl1 _,z0H _ _,z0H _ _,λg h=>(by simp[Value.ownBlock]at h),heap_alloc_new W _⟩
theorem x3i(H:q0a)(j:Nat)(h:j<H.objs.length):(H.objs.take (j+1)).map (·.count)=(H.objs.take j).map (·.count)++[H.objs[j].count]:=by rw[List.take_succ_eq_append_getElem h,List.map_append];rfl
theorem y3F(H:q0a)(j:Nat)(h:j<H.objs.length):(H.objs.take (j+1)).map (λ_=>(0:Int))=(H.objs.take j).map (λ_=>(0:Int))++[0]:=by rw[List.take_succ_eq_append_getElem h,List.map_append];rfl
theorem u1N(v:Value)(H:q0a)(w:World)(h:RdH w v H)(hs:q0h H):
 Calls Tryz.prog 72 #[v] w λe w' =>∃s:TSh,e= .returned s.v/\TM w' w.heap.size s (y0h H)/\Below w.heap.size w w' :=by
 obtain⟨ao,co,aw,cw,ab,cb,sa,sc,rfl,ro,-,-,-⟩:=h;have hn:=hs.objs;clear hs;obtain⟨W,hW⟩:∃W,W=(w.alloc (.cells #[.slice ao H.objs.length co,.slice aw H.weaks.length cw,.slice ab H.buffer.length cb,.slice sa H.sites.length sc] 35)).alloc (.cells #[.slice none 0 0,.slice none 0 0] 101):=⟨_,rfl⟩;have BW:Below w.heap.size w W:=by rw[hW];exact(bl1 _).alloc (by simp) _
 have hWs:W.heap.size=w.heap.size+2:=by rw[hW];simp
 have p0:W.cell? ⟨w.heap.size,0,none⟩=some (.slice ao H.objs.length co):=by
  have f1:=q0d.new w (.slice ao H.objs.length co) (.slice aw H.weaks.length cw) (.slice ab H.buffer.length cb) (.slice sa H.sites.length sc);have hb2:Below (w.heap.size+1) (w.alloc (.cells #[.slice ao H.objs.length co,.slice aw H.weaks.length cw,.slice ab H.buffer.length cb,.slice sa H.sites.length sc] 35)) W:=by rw[hW];exact bl0.alloc (by simp) _
  exact(hb2.cell (p:=⟨w.heap.size,0,none⟩) (by simp)).trans (f1.cell 0)
 have FR:Two W (w.heap.size+1) (.slice none 0 0) (.slice none 0 0):=by rw[hW];have f1:=Two.new (w.alloc (.cells #[.slice ao H.objs.length co,.slice aw H.weaks.length cw,.slice ab H.buffer.length cb,.slice sa H.sites.length sc] 35)) (.slice none 0 0) (.slice none 0 0);simpa using f1
 have HP:Hid (∀X,Below W.heap.size W X->X.cell? ⟨w.heap.size,0,none⟩=some (.slice ao H.objs.length co)):=λX hX=>(hX.cell (p:=⟨w.heap.size,0,none⟩) (by show w.heap.size<_;omega)).trans p0;have HR:Hid (∀X,Below W.heap.size W X->RdO X ao H.objs):=λX hX=>q0V (q0V ro BW) hX;have HFR:Hid (∀X,Below W.heap.size W X->Two X (w.heap.size+1) (.slice none 0 0) (.slice none 0 0)):=λX hX=>FR.later hX (by omega);have HWs:Hid (W.heap.size=w.heap.size+2):=hWs;have HBW:Hid (Below w.heap.size w W):=BW;have HT0:Hid _:=y3s W;have HCS:Hid (∀(j:Nat)(h:j<H.objs.length),(H.objs.take (j+1)).map (·.count)=(H.objs.take j).map (·.count)++[H.objs[j].count]):=λj h=>x3i H j h;have HZS:Hid (∀(j:Nat)(h:j<H.objs.length),(H.objs.take (j+1)).map (λ_=>(0:Int))=(H.objs.take j).map (λ_=>(0:Int))++[0]):=λj h=>y3F H j h
 have HE:Hid (∀j:Nat,j<=8->j<=H.objs.length->(j=8\/j=H.objs.length)->y0h H=⟨(H.objs.take j).map (·.count),(H.objs.take j).map (λ_=>0)⟩):=by
  intro j h8 hl hj;unfold y0h;rcases hj with rfl|rfl
  ·rfl
  ·rw[List.take_of_length_le h8,List.take_of_length_le nl0]
 obtain⟨n,hnn⟩:∃n,H.objs.length=n:=⟨_,rfl⟩;have Hn:Hid (H.objs.length=n):=hnn;rw[hnn]at hn hW HP HE ⊢;obtain⟨gt,hgt⟩:∃gt,W.heap.size=gt:=⟨_,rfl⟩;have Hgt:Hid (W.heap.size=gt):=hgt;rw[hgt]at HP HR HFR HT0;clear ro p0 FR BW hnn;go_enter Tryz.func72,Tryz.ntmps72;go_wp2;rw[<-hW,<-hWs,hgt];clear hW hWs hgt;go_loopw[4] (λi wr=>∃(j:Nat)(xa:Option Addr)(xc:Nat)(ya:Option Addr)(yc:Nat),i= .int .i64 (j:Int)/\j<=8/\j<=n/\Hid (TI W wr gt (.slice xa j xc) (.slice ya j yc) ((H.objs.take j).map (·.count)) ((H.objs.take j).map (λ_=>0)))) (λi _=>n - (intOf i).toNat)
 case atStart=>exact⟨0,none,0,none,0,rfl,by omega,by omega,HT0⟩
 case round=>
  obtain⟨j,xa,xc,ya,yc,rfl,hj8,hjn,HI⟩:=hrel;have p0:=HP.out _ HI.out.bel;by_cases hlt:j<n
  ·by_cases hlt8:j<8
   ·have hj2:j<H.objs.length:=by have:=Hn.out;omega
    obtain⟨g,off,f,fc,rfl,hg,hc,-⟩:=HR.out W bl0 j hj2;have HXS:Hid (_=_):=HCS.out j hj2;have HYS:Hid (_=_):=HZS.out j hj2;obtain⟨z,hz⟩:∃z,H.objs[j].count=z:=⟨_,rfl⟩;have hc5:=hc.c5;rw[hz]at hc5 HXS;have HC:Hid (∀X,Below gt W X->X.cell? ⟨g,off+j*8+5,none⟩=some (.int .i64 z)):=λX hX=>(hX.cell (p:=⟨g,off+j*8+5,none⟩) (by show g<gt;have:=Hgt.out;omega)).trans hc5;have hll:((H.objs.take j).map (λo:q0E=>o.count)).length=j:=by rw[List.length_map,List.length_take];omega
    have hly0:((H.objs.take j).map (λ_:q0E=>(0:Int))).length=j:=by rw[List.length_map,List.length_take];omega
    obtain⟨XS,hXS⟩:∃XS,(H.objs.take j).map (λo:q0E=>o.count)=XS:=⟨_,rfl⟩;obtain⟨YS,hYS⟩:∃YS,(H.objs.take j).map (λ_:q0E=>(0:Int))=YS:=⟨_,rfl⟩;rw[hXS]at HI HXS hll;rw[hYS]at HI HYS hly0;have HLX:Hid (XS.length=j):=hll;have HLY:Hid (YS.length=j):=hly0;clear hc hc5 hz hXS hYS hll hly0;go_wp2;refine x0u 11 (by kernel_rfl) (by kernel_rfl) (TJ W wr gt (.slice xa j xc) (.slice ya j yc) XS YS) (RN wr gt w.heap.size (.slice xa j xc) XS g off n co j z) (λ_ _ _ _=>True) ⟨HI.out.bel.drew,HI.out.t,HI.out.y,Nat.le_refl _,λ_=>HI.out.x⟩ ?_ ?_
    ·intro i o hi ho a X dn hJ hA hbn hnot hdep
     match i,hi,ho with
     |0,_,ho=>
      cases ho
      exact v0s 0 (by omega) (q0f hA (t:=3) (by kernel_rfl)) ⟨_,rfl,hJ.later bl0,rfl,λq hq _ t ht=>⟨hbn.yields q hq t ht,trivial,trivial⟩⟩
     |1,_,ho=>
      cases ho
      have e1:a.eval (.tmp 17)= .pointer (some ⟨gt,0,none⟩):=hbn.yields 0 (hdep ⟨0,.data⟩ (by simp) rfl) 17 rfl;exact x0E e1 (hJ.t.cell 0) ⟨_,rfl,hJ.later bl0,rfl,λq hq _ t ht=>⟨hbn.yields q hq t ht,trivial,trivial⟩⟩
     |2,_,ho=>
      cases ho
      exact v0f 0 (by omega) (q0f hA (t:=1) (by kernel_rfl)) ⟨_,rfl,hJ.later bl0,rfl,λq hq _ t ht=>⟨hbn.yields q hq t ht,trivial,trivial⟩⟩
     |3,_,ho=>
      cases ho
      have e1:a.eval (.tmp 19)= .pointer (some ⟨w.heap.size,0,none⟩):=hbn.yields 2 (hdep ⟨2,.data⟩ (by simp) rfl) 19 rfl;exact u0A e1 (HP.out X hJ.bel) ⟨_,rfl,hJ.later bl0,rfl,λq hq _ t ht=>⟨hbn.yields q hq t ht,trivial,trivial⟩⟩
     |4,_,ho=>
      cases ho
      exact z0p (q0f hA (t:=4) (by kernel_rfl)) ⟨_,rfl,hJ.later bl0,rfl,λq hq _ t ht=>⟨hbn.yields q hq t ht,trivial,trivial⟩⟩
     |5,_,ho=>
      cases ho
      have e1:a.eval (.tmp 20)= .slice (some ⟨g,off,none⟩) n co:=hbn.yields 3 (hdep ⟨3,.data⟩ (by simp) rfl) 20 rfl;have e2:a.eval (.tmp 21)= .int .i64 (j:Int):=hbn.yields 4 (hdep ⟨4,.data⟩ (by simp) rfl) 21 rfl;exact v4s e1 e2 hlt ⟨_,rfl,hJ.later bl0,rfl,λq hq _ t ht=>⟨hbn.yields q hq t ht,trivial,trivial⟩⟩
     |6,_,ho=>
      cases ho
      have e1:a.eval (.tmp 22)= .pointer (some ⟨g,off+j*8,none⟩):=hbn.yields 5 (hdep ⟨5,.data⟩ (by simp) rfl) 22 rfl;exact x2G e1 ⟨_,rfl,hJ.later bl0,rfl,λq hq _ t ht=>⟨hbn.yields q hq t ht,trivial,trivial⟩⟩
     |7,_,ho=>
      cases ho
      have e1:a.eval (.tmp 23)= .pointer (some ⟨g,off+j*8+5,none⟩):=hbn.yields 6 (hdep ⟨6,.data⟩ (by simp) rfl) 23 rfl;exact z0V e1 (HC.out X hJ.bel) ⟨_,rfl,hJ.later bl0,rfl,λq hq _ t ht=>⟨hbn.yields q hq t ht,trivial,trivial⟩⟩
     |8,_,ho=>
      cases ho
      have e1:a.eval (.tmp 24)= .int .i64 z:=hbn.yields 7 (hdep ⟨7,.data⟩ (by simp) rfl) 24 rfl;have bX:Below X.heap.size X (X.alloc (.cells #[.int .i64 z] 3)):=bl1 _;exact x5s e1 ⟨_,rfl,hJ.later bX,⟨X.heap.size,rfl,hJ.ge,heap_alloc_new X _⟩,λq hq _ t ht=>⟨z5j q _ _ _ (hbn.yields q hq t ht) bX,trivial,trivial⟩⟩
     |9,_,ho=>
      cases ho
      have e1:a.eval (.tmp 18)= .slice xa j xc:=hbn.yields 1 (hdep ⟨1,.data⟩ (by simp) rfl) 18 rfl;obtain⟨q8,e2,hq8,hg8⟩:=hbn.yields 8 (hdep ⟨8,.data⟩ (by simp) rfl) 25 rfl;have hown:=hJ.x hnot;refine z4T _ _ rfl (gt+1) _ _ e1 hown ⟨q8,0,none⟩ z e2 (by simp[World.cell?,hg8]) (by rw[HLX.out];omega) (by have:=hJ.t.lt;omega) ?_;intro v' X' hO hsz hoth hat hbel;have hge:=hJ.ge;refine⟨_,rfl,⟨hbel gt W hJ.bel (by omega),hJ.t.same (hoth gt hJ.t.lt (λe=>by have:=(q0n hown gt e).1;omega)),q0v hJ.y (λq hq=>hoth q (q0n hJ.y q hq).2 (λe=>HI.out.dif q e hq)),Nat.le_trans hge hsz,λh=>absurd (.inr rfl) h⟩,⟨hO,?_⟩,λq hq hne t ht=>⟨x5C q hne _ _ _ (hbn.yields q hq t ht) (λq hq=>(q0n HI.out.x q hq).2) hoth,trivial,trivial⟩⟩;rcases hat with e|e
      ·exact .inl e
      ·exact .inr ⟨_,e,hge⟩
     |10,_,ho=>
      cases ho
      exact v0s 0 (by omega) (q0f hA (t:=3) (by kernel_rfl)) ⟨_,rfl,hJ.later bl0,rfl,λq hq _ t ht=>⟨hbn.yields q hq t ht,trivial,trivial⟩⟩
    ·intro o ho a X dn hJ hA hbn hdn
     cases ho
     obtain⟨hO,hat⟩:=hbn.yields 9 (hdn 9 (by omega)) 26 rfl;have e1:a.eval (.tmp 27)= .pointer (some ⟨gt,0,none⟩):=hbn.yields 10 (hdn 10 (by omega)) 27 rfl;obtain⟨xa2,xc2,e2,-⟩:=q0Y hO;rw[e2]at hO hat;refine z4b e1 e2 (hJ.t.cell 0) (hJ.t.frozen 0) ?_;have hlx:(XS++[z]).length=j+1:=by rw[List.length_append,HLX.out];rfl
     rw[hlx]at hO hat ⊢;have HI2:Hid _:=x5R HI.out hJ.bel hJ.t hJ.y hO hat;have hge:wr.heap.size<=(X.setCell ⟨gt,0,none⟩ (.slice xa2 (j+1) xc2)).heap.size:=by simp[World.setCell];exact hJ.ge
     obtain⟨us,hus,rfl⟩:=q0F hA [17,18,19,20,21,22,23,24,25,26,27] (by kernel_rfl);clear hbn hdn hA hus e1 e2 hO hat hJ;generalize X.setCell ⟨gt,0,none⟩ (.slice xa2 (j+1) xc2)=Y at*;simp only[List.mapIdx_cons,List.mapIdx_nil,Nat.reduceAdd,List.contains_cons,List.contains_nil,Nat.reduceBEq,Bool.or_false,Bool.or_true,if_true,if_false,Bool.false_eq_true];have y1:Y.cell? ⟨gt,1,none⟩=some (.slice ya j yc):=HI2.out.t.cell 1;have hgY:=HI2.out.t.lt;have hgn:¬gt=Y.heap.size:=by omega
     have HY:Hid (∀X,Below Y.heap.size Y X->TI W X gt (.slice xa2 (j+1) xc2) (.slice ya j yc) (XS++[z]) YS):=λX hX=>⟨HI2.out.bel.trans (hX.mono (by omega)),q0o HI2.out.x hX,q0o HI2.out.y hX,HI2.out.dif,HI2.out.t.same (hX.block gt hgY)⟩;obtain⟨V,hV⟩:∃V,V=Y.alloc (.cells #[.int .i64 0] 3):=⟨_,rfl⟩;have HIV:Hid _:=HY.out V (by rw[hV];exact bl1 _);have hVc:V.cell? ⟨Y.heap.size,0,none⟩=some (.int .i64 0):=by rw[hV,World.cell?_alloc_mark];rfl
     have HVs:Hid (gt+1<=V.heap.size):=by have:=HIV.out.t.lt;exact this
     go_wp2_with (at_builtin;rw[<-hV];clear hV;refine x0T rfl _ _ rfl (gt+1) _ _ rfl HIV.out.y ⟨Y.heap.size,0,none⟩ 0 rfl hVc ?hlen HVs.out ?_)
     case hlen=>rw[HLY.out];omega
     intro v4 X4 O4 s4 H4 A4 B4;obtain⟨ya4,yc4,rfl,-⟩:=q0Y O4;have hly:(YS++[0]).length=j+1:=by rw[List.length_append,HLY.out];rfl
     rw[hly]at O4 A4 ⊢;have T4:Two X4 gt (.slice xa2 (j+1) xc2) (.slice ya j yc):=HIV.out.t.same (H4.out gt HIV.out.t.lt (λe=>by have:=(q0n HIV.out.y gt e).1;omega));have x4:q0i X4 (gt+1) (.slice xa2 (j+1) xc2) _:=q0v HIV.out.x (λq hq=>H4.out q (q0n HIV.out.x q hq).2 (λe=>HIV.out.dif q hq e))
     have HF:Hid _:=x5S HIV.out (B4.out gt W HIV.out.bel (by omega)) T4 x4 O4 (by
      rcases A4.out with e|e
      ·exact .inl e
      ·exact .inr ⟨_,e,Nat.le_refl _⟩)
     have c4:X4.cell? ⟨gt,1,none⟩=some (.slice ya j yc):=T4.cell 1;have f4:=T4.frozen 1;rw[<-HXS.out,<-HYS.out]at HF;clear T4 x4 O4 H4 A4 B4;go_wp2;go_roundw
     case rel=>exact⟨j+1,xa2,xc2,ya4,yc4,by go_num,by omega,by omega,HF⟩
     case measure=>simp[intOf];omega
   ·have e8:8<=j:=by omega
    have HEE:Hid (_=_):=HE.out j hj8 hjn (.inl (by omega));have TW:=HI.out.t;have RW:=HFR.out _ HI.out.bel;have x0:wr.cell? ⟨gt,0,none⟩=some (.slice xa j xc):=TW.cell 0;have x1:wr.cell? ⟨gt,1,none⟩=some (.slice ya j yc):=TW.cell 1;have r0:wr.cell? ⟨w.heap.size+1,0,none⟩=some (.slice none 0 0):=RW.cell 0;have r1:wr.cell? ⟨w.heap.size+1,1,none⟩=some (.slice none 0 0):=RW.cell 1;have z0:=RW.frozen 0;have z1:=RW.frozen 1
    have HTM:Hid (TM (q0B wr (w.heap.size+1) (.slice xa j xc) (.slice ya j yc)) w.heap.size ⟨xa,j,xc,ya,j,yc⟩ (y0h H)):=by
     have oth:∀q,gt+1<=q->(q0B wr (w.heap.size+1) (.slice xa j xc) (.slice ya j yc)).heap[q]? =wr.heap[q]?:=λq hq=>z0c _ _ _ _ q (by have:=HWs.out;have:=Hgt.out;omega);rw[HEE.out];have hle:w.heap.size<=gt+1:=by have:=HWs.out;have:=Hgt.out;omega
     exact⟨q0A (q0v HI.out.x (λq hq=>oth q (q0n HI.out.x q hq).1)) hle,q0A (q0v HI.out.y (λq hq=>oth q (q0n HI.out.y q hq).1)) hle,HI.out.dif⟩
    have HBL:Hid (Below w.heap.size w (q0B wr (w.heap.size+1) (.slice xa j xc) (.slice ya j yc))):=by unfold q0B;exact((HBW.out.trans (HI.out.bel.mono (by have:=HWs.out;have:=Hgt.out;omega))).setCell (by simp) _).setCell (by simp) _
    clear TW RW HI HEE;go_wp2;exact bodyPost_ret (v:= .agg #[.slice xa j xc,.slice ya j yc]) (by simp[results,Tryz.results72,go_sem, *]) rfl ⟨⟨xa,j,xc,ya,j,yc⟩,rfl,HTM.out,HBL.out⟩
  ·have e8:n<=j:=by omega
   have HEE:Hid (_=_):=HE.out j hj8 hjn (.inr (by omega));have TW:=HI.out.t;have RW:=HFR.out _ HI.out.bel;have x0:wr.cell? ⟨gt,0,none⟩=some (.slice xa j xc):=TW.cell 0;have x1:wr.cell? ⟨gt,1,none⟩=some (.slice ya j yc):=TW.cell 1;have r0:wr.cell? ⟨w.heap.size+1,0,none⟩=some (.slice none 0 0):=RW.cell 0;have r1:wr.cell? ⟨w.heap.size+1,1,none⟩=some (.slice none 0 0):=RW.cell 1;have z0:=RW.frozen 0;have z1:=RW.frozen 1
   have HTM:Hid (TM (q0B wr (w.heap.size+1) (.slice xa j xc) (.slice ya j yc)) w.heap.size ⟨xa,j,xc,ya,j,yc⟩ (y0h H)):=by
    have oth:∀q,gt+1<=q->(q0B wr (w.heap.size+1) (.slice xa j xc) (.slice ya j yc)).heap[q]? =wr.heap[q]?:=λq hq=>z0c _ _ _ _ q (by have:=HWs.out;have:=Hgt.out;omega);rw[HEE.out];have hle:w.heap.size<=gt+1:=by have:=HWs.out;have:=Hgt.out;omega
    exact⟨q0A (q0v HI.out.x (λq hq=>oth q (q0n HI.out.x q hq).1)) hle,q0A (q0v HI.out.y (λq hq=>oth q (q0n HI.out.y q hq).1)) hle,HI.out.dif⟩
   have HBL:Hid (Below w.heap.size w (q0B wr (w.heap.size+1) (.slice xa j xc) (.slice ya j yc))):=by unfold q0B;exact((HBW.out.trans (HI.out.bel.mono (by have:=HWs.out;have:=Hgt.out;omega))).setCell (by simp) _).setCell (by simp) _
   clear TW RW HI HEE;go_wp2;exact bodyPost_ret (v:= .agg #[.slice xa j xc,.slice ya j yc]) (by simp[results,Tryz.results72,go_sem, *]) rfl ⟨⟨xa,j,xc,ya,j,yc⟩,rfl,HTM.out,HBL.out⟩
end
section
open Go.RowKit
def v1K(H:q0a)(T:q0e)(id:Int):q0e:=if 0<=q0l H id then q1W (-1) 1 H T (q0l H id).toNat else T
def v1V(H:q0a)(T:q0e)(id:Int):q0e:=if 0<=q0l H id then v1W H T (q0l H id)else T
def v0A(H:q0a)(j:Nat):q0e:=(H.buffer.take j).foldl (v1K H) (y0h H)
def v0n(H:q0a)(j:Nat):q0e:=(H.buffer.take j).foldl (v1V H) (v0A H H.buffer.length)
def z0K(H:q0a):q0e:=v0n H H.buffer.length
theorem u2Z(H:q0a)(h8:H.objs.length=8):q0I (y0h H):=by unfold y0h;constructor<;>simp[h8]
theorem y1N(H:q0a)(T:q0e)(id:Int)(hT:q0I T)(h8:H.objs.length=8):OkT H T (q0l H id)↔0<=q0l H id:=by
 constructor
 ·intro h;exact h.lo
 ·intro h;have hr:=x1R H id;refine⟨h8,hT.1,hT.2,h,hr.2,?_⟩;unfold q0l at h ⊢;split at h
  ·omega
  ·rename_i h1
   rw[if_neg h1]
   cases ho:H.objs[(id%8).toNat]?with
   |none=>rw[ho]at h;simp at h
   |some o=>
    rw[ho]at h;simp only at h ⊢;split at h
    ·rename_i h2
     rw[if_pos h2];exact⟨o,ho,h2.1⟩
    ·omega
theorem y3S(H:q0a)(T:q0e)(id:Int)(hT:q0I T):q0I (v1K H T id):=by
 unfold v1K;split
 ·rename_i h
  exact z1X _ _ _ _ _ hT (by have:=x1R H id;omega)
 ·exact hT
theorem j3G(H:q0a)(hs:q0h H)(T:q0e)(id:Int)(hT:q0I T):q0I (v1V H T id):=by
 unfold v1V;split
 ·rename_i h
  obtain⟨k,hk⟩:∃k:Nat,q0l H id=(k:Int):=⟨(q0l H id).toNat,by omega⟩;rw[hk];exact q2m H hs T k hT (by have:=x1R H id;omega)
 ·exact hT
theorem q2o(H:q0a)(h8:H.objs.length=8):∀j,q0I (v0A H j):=by
 have key:∀(l:List Int)(T:q0e),q0I T->q0I (l.foldl (v1K H) T):=by
  intro l
  induction l with
  |nil=>intro T h;exact h
  |cons z r ih=>intro T h;exact ih _ (y3S H T z h)
 exactλj=>key _ _ (u2Z H h8)
theorem z1F(H:q0a)(hs:q0h H)(h8:H.objs.length=8):∀j,q0I (v0n H j):=by
 have key:∀(l:List Int)(T:q0e),q0I T->q0I (l.foldl (v1V H) T):=by
  intro l
  induction l with
  |nil=>intro T h;exact h
  |cons z r ih=>intro T h;exact ih _ (j3G H hs T z h)
 exactλj=>key _ _ (q2o H h8 _)
theorem j2P(H:q0a)(j:Nat)(h:j<H.buffer.length):v0A H (j+1)=v1K H (v0A H j) H.buffer[j]:=by unfold v0A;rw[List.take_succ_eq_append_getElem h,List.foldl_append];rfl
theorem j2R(H:q0a)(j:Nat)(h:j<H.buffer.length):v0n H (j+1)=v1V H (v0n H j) H.buffer[j]:=by unfold v0n;rw[List.take_succ_eq_append_getElem h,List.foldl_append];rfl
theorem j2Q(H:q0a):v0A H 0=y0h H:=by simp[v0A]
theorem j2S(H:q0a):v0n H 0=v0A H H.buffer.length:=by simp[v0n]
end
section
open Go.RowKit
theorem u2q(v:Value)(H:q0a)(s:Nat)(w:World)(h:RdH w v H)(hs:q0h H)(h8:s<8):
 Calls Tryz.prog 128 #[v,.int .i64 (s:Int)] w λe w' =>e= .returned (.int .i64 (x0a H (s:Int)))/\Below w.heap.size w w' :=by
 have HR0:Hid (∀X,Below w.heap.size w X->RdH X v H):=λX hX=>q0s h hX;obtain⟨ao,co,aw,cw,ab,cb,sa,sc,hv,ro,-,-,-⟩:=h;have hn:=hs.objs;obtain⟨W,hW⟩:∃W,W=w.alloc (.cells #[.slice ao H.objs.length co,.slice aw H.weaks.length cw,.slice ab H.buffer.length cb,.slice sa H.sites.length sc] 35):=⟨_,rfl⟩;have BW:Below w.heap.size w W:=by rw[hW];exact bl1 _
 have hWs:W.heap.size=w.heap.size+1:=by rw[hW];simp
 by_cases hl:u0k H (s:Int)
 ·have HE:Hid (x0a H (s:Int)=0):=by
   show _=_;unfold x0a;rw[if_pos (by omega)];rcases hl with h1|h1|h1
   ·omega
   ·omega
   ·cases ho:H.objs[((s:Int)).toNat]?with
    |none=>rfl
    |some o=>simp only;rw[if_neg (by rw[h1 o ho];simp)]
  have CL:Hid (∀X,Below w.heap.size w X->_):=λX hX=>v0R v H (s:Int) X (HR0.out X hX) hn hl;subst hv;clear ro hl HR0;go_enter Tryz.func128,Tryz.ntmps128;go_wp2_with fail
  rw[<-hW];clear hW hWs;refine(CL.out _ BW).mono ?_;rintro e w1 ⟨rfl,b1⟩;have B1:=BW.trans (b1.mono BW.size);go_wp2;go_ret
  exact⟨z0x HE.out.symm,B1⟩
 ·have hlen:s<H.objs.length:=by
   apply Classical.byContradiction;intro hc;exact hl (.inr (.inr (λo ho=>by rw[List.getElem?_eq_none (by omega)]at ho;cases ho)))
  have hlive:H.objs[s].live=true:=by apply Classical.byContradiction;intro hc;refine hl (.inr (.inr (λo ho=> ?_)));rw[show((s:Int)).toNat=s from by omega,List.getElem?_eq_getElem hlen]at ho;injection ho with ho;rw[<-ho];simpa using hc
  obtain⟨g,off,f,fc,hg,hc,-,CL⟩:=z2i v H s W (HR0.out W BW) hn h8 hlen hlive
  have HE:Hid (x0a H (s:Int)=(inE (idZ (s:Int) H.objs[s].gen) H.objs:Int)):=by show _=_;unfold x0a;rw[if_pos (by omega),show((s:Int)).toNat=s from by omega,List.getElem?_eq_getElem hlen];simp only;rw[if_pos hlive]
  have HC1:Hid (∀X,Below W.heap.size W X->X.cell? ⟨g,off+s*8+1,none⟩=some (.int .i64 H.objs[s].gen)):=λX hX=>(hX.cell (p:=⟨g,off+s*8+1,none⟩) hg).trans hc.c1;have CID:Hid (∀X,_):=λX=>q1u (s:Int) H.objs[s].gen X;clear hc hlive;generalize H.objs[s].gen=og at*;rw[HE.out];generalize idZ (s:Int) og=id at*;have HS:Hid (∀(j:Nat)(h:j<H.objs.length),inE id (H.objs.take (j+1))=inE id (H.objs.take j)+inO id H.objs[j]):=λj h=>x3N id H.objs j h
  have HL:Hid (∀j,inE id (H.objs.take j)<=1048576*1048576):=by
   intro j;have h1:=x3M id (H.objs.take j) 1048576 (λz hz=>hs.fields z (List.mem_of_mem_take hz));have h2:(H.objs.take j).length<=1048576:=by rw[List.length_take];have:=hs.objs;omega
   exact Nat.le_trans h1 (Nat.mul_le_mul_right _ h2)
  have HF:Hid (∀z∈H.objs,z.field.length<=1048576):=hs.fields;have HW:Hid (inE id (H.objs.take H.objs.length)=inE id H.objs):=by show _=_;rw[List.take_length]
  have HRO:Hid (∀X,Below W.heap.size W X->RdO X ao H.objs):=λX hX=>q0V (q0V ro BW) hX
  have HP0:Hid (∀X,Below W.heap.size W X->X.cell? ⟨w.heap.size,0,none⟩=some (.slice ao H.objs.length co)):=λX hX=>by
   obtain⟨k0,-⟩:=z0z w 35 (.slice ao H.objs.length co) (.slice aw H.weaks.length cw) (.slice ab H.buffer.length cb) (.slice sa H.sites.length sc) X (by rw[hWs,hW]at hX;exact hX);exact k0
  obtain⟨n,hnn⟩:∃n,H.objs.length=n:=⟨_,rfl⟩;have Hn:Hid (H.objs.length=n):=hnn;have HB:Hid (Below w.heap.size w W):=BW;rw[hnn]at hn HP0 HW hW hv;subst hv;clear ro hl hs hnn hWs BW HR0 HE;go_enter Tryz.func128,Tryz.ntmps128;go_wp2_with fail
  rw[<-hW];clear hW;refine(CL.out _ bl0).mono ?_;rintro e w1 ⟨rfl,b1⟩;have c1:=HC1.out _ b1;have hp:=HP0.out _ b1;go_wp2_with fail
  refine(CID.out _).mono ?_;rintro e w2 ⟨rfl,hw2⟩;subst hw2;go_wp2;clear c1 hp;go_loopw[7,24] (λx i wr=>∃j:Nat,j<=n/\i= .int .i64 j/\x= .int .i64 (inE id (H.objs.take j):Int)/\Below W.heap.size W wr) (λ_ i _=>n - (intOf i).toNat)
  case atStart=>exact⟨0,by omega,rfl,by simp[inE],b1⟩
  case round=>
   obtain⟨j,hj,rfl,rfl,hb⟩:=hrel;by_cases hlt:j<n
   ·have hj2:j<H.objs.length:=by have:=Hn.out;omega
    obtain⟨gj,offj,fj,fcj,rfl,hgj,hcj,hrj⟩:=HRO.out _ hb j hj2;obtain⟨o,ho⟩:∃o,H.objs[j]=o:=⟨_,rfl⟩;have HS2:Hid (_=_):=HS.out j hj2;have hfl:=HF.out _ (List.getElem_mem hj2);have hbd:=HL.out j;rw[ho]at hcj hrj HS2 hfl;clear ho;obtain⟨ol,og2,os1,oh,orr,oc,ofl,op⟩:=o;obtain⟨c0,c1,c2,c3,c4,c5,c6,c7⟩:=hcj;simp only at c0 c1 c2 c3 c4 c5 c6 c7 HS2 hfl hrj;have bV:Below wr.heap.size wr (wr.alloc (.cells #[.bool ol,.int .i64 og2,.int .i64 os1,.int .i64 oh,.int .i64 orr,.int .i64 oc,.slice fj ofl.length fcj,.bool op] 90)):=bl1 _;have HBV:Hid (Below W.heap.size W (wr.alloc (.cells #[.bool ol,.int .i64 og2,.int .i64 os1,.int .i64 oh,.int .i64 orr,.int .i64 oc,.slice fj ofl.length fcj,.bool op] 90))):=hb.trans (bV.mono hb.size);generalize inE id (H.objs.take j)=N at*
    cases ol with
    |false=>
     have HT:Hid (inE id (H.objs.take (j+1))=N):=by show _=_;rw[HS2.out];simp[inO]
     clear hrj bV;go_wp2;go_roundw
     case rel=>exact⟨j+1,by omega,by go_num,by rw[HT.out],HBV.out⟩
     case measure=>simp[intOf];omega
    |true=>
     have HT:Hid (inE id (H.objs.take (j+1))=N+ofl.count id):=by show _=_;rw[HS2.out];simp[inO]
     have CT:Hid (∀u:Unit,_):=λ(_:Unit)=>z3Q _ fj fcj ofl id (q0t hrj bV) hfl;have hcl:ofl.count id<=1048576:=Nat.le_trans List.count_le_length hfl;clear hrj bV;generalize ofl.count id=M at*;go_wp2_with fail
     refine(CT.out ()).mono ?_;rintro e w3 ⟨rfl,hw3⟩;have B3:Below W.heap.size W w3:=by rw[hw3];exact HBV.out
     clear hw3;go_wp2;go_roundw
     case rel=>exact⟨j+1,by omega,by go_num,by rw[HT.out];go_num,B3⟩
     case measure=>simp[intOf];omega
   ·obtain rfl:j=n:=by omega
    go_wp2;go_ret
    exact⟨z0x (by rw[HW.out]),HB.out.trans (hb.mono HB.out.size)⟩
end
section
open Go.RowKit
theorem y2v{α:Type}(zs:List α)(i:Nat)(x:α):x∈zs.take i↔∃k,∃(h:k<zs.length),k<i/\zs[k]=x:=by
 constructor
 ·intro h;obtain⟨k,hk,e⟩:=List.mem_iff_getElem.1 h;rw[List.length_take]at hk;exact⟨k,by omega,by omega,by rw[List.getElem_take]at e;exact e⟩
 ·rintro⟨k,h1,h2,e⟩;exact List.mem_iff_getElem.2 ⟨k,by rw[List.length_take];omega,by rw[List.getElem_take];exact e⟩
def u5s(m l:Nat)(zs:List (List UInt8)):Prop:=zs.length<=m/\∀i(h:i<zs.length),(l<=zs[i].length/\zs[i].length<=8)/\zs[i]∉zs.take i
def y1g(zs:List (List UInt8)):Prop:=zs.length<=6/\∀i(h:i<zs.length),(1<=zs[i].length/\zs[i].length<=8)/\zs[i]∉zs.take i
theorem q6d(m l:Nat)(hm0:m<=400)(hl0:l<=8)(w:World)(a:Option Addr)(cap:Nat)(zs:List (List UInt8))(h:RdS w a zs)(hcap:zs.length<=cap)(hn:zs.length<=1048576)(hnm:∀z∈zs,z.length<=1048576)(b:Bool)(hb:b=true↔u5s m l zs):
 Calls Tryz.prog 90 #[.slice a zs.length cap,.int .i64 (m:Int),.int .i64 (l:Int)] w λe w' =>e= .returned (.bool b)/\w' =w:=by
 have HNO:Hid (¬u5s m l zs->b=false):=λhn=>by cases b with|false=>rfl|true=>exact absurd (hb.1 rfl) hn
 have HY:Hid (u5s m l zs->b=true):=hb.2;clear hb;by_cases h6:m<zs.length
 ·have hb0:=HNO.out (λok=>by have:=ok.1;omega);subst hb0;clear h hnm;go_enter Tryz.func90,Tryz.ntmps90;go_wp2;go_ret
  exact⟨rfl,rfl⟩
 ·have HA:Hid (RdS w a zs):=h;have HM:Hid (∀z∈zs,z.length<=1048576):=hnm;have h7:zs.length<=m:=by omega
  have HNX:Hid (∀i(h:i<zs.length),¬((l<=zs[i].length/\zs[i].length<=8)/\zs[i]∉zs.take i)->b=false):=λi hi hn=>HNO.out (λok=>hn (ok.2 i hi));have HY2:Hid ((∀i(h:i<zs.length),(l<=zs[i].length/\zs[i].length<=8)/\zs[i]∉zs.take i)->b=true):=λhh=>HY.out ⟨h7,hh⟩;have HTK:Hid (∀j,j<=zs.length->(zs.take j).length=j):=λj hj=>by rw[List.length_take];omega
  have HRT:Hid (∀j,RdS w a (zs.take j)):=λj i hi=>by
   have hi2:i<zs.length:=by rw[List.length_take]at hi;omega
   obtain⟨g',off',e1,e2,e3⟩:=HA.out i hi2;exact⟨g',off',e1,e2,by rw[List.getElem_take];exact e3⟩
  obtain⟨n,hnn⟩:∃n,zs.length=n:=⟨_,rfl⟩;have Hn:Hid (zs.length=n):=hnn;rw[hnn]at hn hcap h7 h6 ⊢;clear h hnm HNO HY hnn;go_enter Tryz.func90,Tryz.ntmps90;go_wp2;go_loop [15] (λi=>∃j:Nat,j<=n/\i= .int .i64 j/\Hid (∀i(h:i<zs.length),i<j->(l<=zs[i].length/\zs[i].length<=8)/\zs[i]∉zs.take i)) (λi=>n - (intOf i).toNat)
  case atStart=>exact⟨0,by omega,rfl,λi _ h=>absurd h (by omega)⟩
  case round=>
   obtain⟨j,hj,rfl,HJ⟩:=hrel;by_cases hlt:j<n
   ·have hj2:j<zs.length:=by have:=Hn.out;omega
    obtain⟨g,off,rfl,-,hc⟩:=HA.out j hj2;have HX:Hid (¬((l<=zs[j].length/\zs[j].length<=8)/\zs[j]∉zs.take j)->b=false):=HNX.out j hj2
    have HZ:Hid (((l<=zs[j].length/\zs[j].length<=8)/\zs[j]∉zs.take j)->∀i(h:i<zs.length),i<j+1->(l<=zs[i].length/\zs[i].length<=8)/\zs[i]∉zs.take i):=λho i hi hl=>by
     rcases Nat.lt_or_ge i j with h3|h3
     ·exact HJ.out i hi h3
     ·obtain rfl:i=j:=by omega
      exact ho
    have hxl:=HM.out _ (List.getElem_mem hj2);have htk:=HTK.out j (by have:=Hn.out;omega);have CH:Hid (∀c,_):=λc=>x3C w (some ⟨g,off,none⟩) c (zs.take j) zs[j] (HRT.out j) (by rw[htk];omega);rw[htk]at CH;obtain⟨x,hx⟩:∃x,zs[j]=x:=⟨_,rfl⟩;rw[hx]at hc HX HZ hxl CH;clear hx htk;have hsz:(txt x).size=x.length:=rfl;have i2:(j:Int)<=(cap:Int):=by omega
    generalize hL:x.length=L at*;by_cases hl8:l<=L/\L<=8
    ·by_cases hm:x∈zs.take j
     ·have hb0:=HX.out (λhh=>hh.2 hm);subst hb0;rw[decide_eq_true hm]at CH;go_wp2_with fail
      refine(z0Z (L:Int) (l:Int) 8 _ (by omega) (by omega)).mono ?_;rintro e V ⟨rfl,hV⟩;subst hV;go_wp2_with fail
      refine(CH.out _).mono ?_;rintro e V2 ⟨rfl,hV2⟩;subst hV2;go_wp2;go_ret
      exact⟨rfl,rfl⟩
     ·have HFIN:Hid _:=HZ.out ⟨hl8,hm⟩;rw[decide_eq_false hm]at CH;go_wp2_with fail
      refine(z0Z (L:Int) (l:Int) 8 _ (by omega) (by omega)).mono ?_;rintro e V ⟨rfl,hV⟩;subst hV;go_wp2_with fail
      refine(CH.out _).mono ?_;rintro e V2 ⟨rfl,hV2⟩;subst hV2;go_wp2;go_round
      case rel=>exact⟨j+1,by omega,by go_num,HFIN⟩
      case measure=>simp[intOf];omega
    ·have hb0:=HX.out (λhh=>hl8 hh.1);subst hb0;go_wp2_with fail
     refine(y0U (L:Int) (l:Int) 8 _ (by omega)).mono ?_;rintro e V ⟨rfl,hV⟩;subst hV;go_wp2;go_ret
     exact⟨rfl,rfl⟩
   ·have ej:n<=j:=by omega
    have hb1:=HY2.out (λi hi=>HJ.out i hi (by have:=Hn.out;omega));subst hb1;go_wp2;go_ret
    exact⟨rfl,rfl⟩
theorem z3O(w:World)(a:Option Addr)(cap:Nat)(zs:List (List UInt8))(h:RdS w a zs)(hcap:zs.length<=cap)(hn:zs.length<=1048576)(hnm:∀z∈zs,z.length<=1048576)(b:Bool)(hb:b=true↔y1g zs):
 Calls Tryz.prog 90 #[.slice a zs.length cap,.int .i64 6,.int .i64 1] w λe w' =>e= .returned (.bool b)/\w' =w:=
 q6d 6 1 (by omega) (by omega) w a cap zs h hcap hn hnm b hb
def x2X(H:q0a):Prop:=H.buffer.length<=8/\∀i(h:i<H.buffer.length),okB H i H.buffer[i]
theorem u2e(v:Value)(H:q0a)(w:World)(h:RdH w v H)(hcap:v0B v)(hs:q0h H)(hf:WfH H)(b:Bool)(hb:b=true↔x2X H):
 Calls Tryz.prog 91 #[v] w λe w' =>e= .returned (.bool b)/\Below w.heap.size w w' :=by
 have HR0:Hid (∀X,Below w.heap.size w X->RdH X v H):=λX hX=>q0s h hX;obtain⟨ao,co,aw,cw,ab,cb,sa,sc,rfl,ro,rwk,ri,rs⟩:=h
 have hcb:H.buffer.length<=cb:=by obtain⟨a0,n0,k0,a1,n1,k1,a2,n2,k2,a3,n3,k3,e,h0,h1,h2,h3⟩:=hcap;simp only[Value.agg.injEq,Array.mk.injEq,List.cons.injEq,Value.slice.injEq]at e;obtain⟨-,-,⟨-,e1,e2⟩,-⟩:=e;omega
 have HNO:Hid (¬x2X H->b=false):=λhn=>by cases b with|false=>rfl|true=>exact absurd (hb.1 rfl) hn
 have HY:Hid (x2X H->b=true):=hb.2;have l0:=hs.objs;have l2:=hs.buffer;obtain⟨W,hW⟩:∃W,W=w.alloc (.cells #[.slice ao H.objs.length co,.slice aw H.weaks.length cw,.slice ab H.buffer.length cb,.slice sa H.sites.length sc] 35):=⟨_,rfl⟩;have BW:Below w.heap.size w W:=by rw[hW];exact bl1 _
 have hWs:W.heap.size=w.heap.size+1:=by rw[hW];simp
 have HK:Hid (∀X,Below W.heap.size W X->_):=λX(hX:Below W.heap.size W X)=>z0z w 35 (.slice ao H.objs.length co) (.slice aw H.weaks.length cw) (.slice ab H.buffer.length cb) (.slice sa H.sites.length sc) X (by rw[hWs,hW]at hX;exact hX);have HRI:Hid (∀X,Below W.heap.size W X->RdI X ab H.buffer):=λX hX=>q0t (q0t ri BW) hX;clear hb ro rwk ri rs hcap;by_cases h8:8<H.buffer.length
 ·have hb0:=HNO.out (λok=>by have:=ok.1;omega);subst hb0;go_enter Tryz.func91,Tryz.ntmps91;go_wp2;go_ret
  exact⟨rfl,bl1 _⟩
 ·have h9:H.buffer.length<=8:=by omega
  have HNX:Hid (∀i(h:i<H.buffer.length),¬okB H i H.buffer[i]->b=false):=λi hi hn=>HNO.out (λok=>hn (ok.2 i hi));have HY2:Hid ((∀i(h:i<H.buffer.length),okB H i H.buffer[i])->b=true):=λhh=>HY.out ⟨h9,hh⟩;have CS:Hid (∀X(z:Int),Below W.heap.size W X->q0w z->_):=λX z hX hz=>z0m (.agg #[.slice ao H.objs.length co,.slice aw H.weaks.length cw,.slice ab H.buffer.length cb,.slice sa H.sites.length sc]) H z X (HR0.out X (BW.trans (hX.mono BW.size))) hs.objs hz.1 hz.2;have HF:Hid (∀z∈H.buffer,q0w z):=hf.buffer;have HB:Hid (Below w.heap.size w W):=BW;obtain⟨n,hnn⟩:∃n,H.buffer.length=n:=⟨_,rfl⟩;have Hn:Hid (H.buffer.length=n):=hnn;obtain⟨k0,k1,k2,k3⟩:=HK.out _ bl0;rw[hnn]at hcb h8 h9 l2 hW HK CS k2 ⊢;clear hs hf HNO HY HR0 hnn BW hWs;go_enter Tryz.func91,Tryz.ntmps91;go_wp2;rw[<-hW];clear hW k0 k1 k2 k3;go_loopw[12] (λi X=>∃j:Nat,j<=n/\i= .int .i64 j/\Below W.heap.size W X/\Hid (∀i(h:i<H.buffer.length),i<j->okB H i H.buffer[i])) (λi _=>n - (intOf i).toNat)
  case atStart=>exact⟨0,by omega,rfl,bl0,λi _ h=>absurd h (by omega)⟩
  case round=>
   obtain⟨j,hj,rfl,hb,HJ⟩:=hrel;by_cases hlt:j<n
   ·have hj2:j<H.buffer.length:=by have:=Hn.out;omega
    obtain⟨g,off,rfl,-,hc⟩:=HRI.out _ hb j hj2;have HX:Hid (¬okB H j H.buffer[j]->b=false):=HNX.out j hj2
    have HZ:Hid (okB H j H.buffer[j]->∀i(h:i<H.buffer.length),i<j+1->okB H i H.buffer[i]):=λho i hi hl=>by
     rcases Nat.lt_or_ge i j with h3|h3
     ·exact HJ.out i hi h3
     ·obtain rfl:i=j:=by omega
      exact ho
    have htk:(H.buffer.take j).length=j:=by rw[List.length_take];omega
    have HRT:Hid (∀X,Below W.heap.size W X->RdI X (some ⟨g,off,none⟩) (H.buffer.take j)):=λX hX i hi=>by
     have hi2:i<H.buffer.length:=by rw[htk]at hi;omega
     obtain⟨g',off',e1,e2,e3⟩:=HRI.out X hX i hi2;exact⟨g',off',e1,e2,by rw[List.getElem_take];exact e3⟩
    have CH:Hid (∀X c,Below W.heap.size W X->_):=λX c hX=>x2u X (some ⟨g,off,none⟩) c (H.buffer.take j) H.buffer[j] (HRT.out X hX) (by rw[htk];omega);have CS2:Hid (∀u:Unit,_):=λ(_:Unit)=>CS.out wr H.buffer[j] hb (HF.out _ (List.getElem_mem hj2));rw[htk]at CH;obtain⟨x,hx⟩:∃x,H.buffer[j]=x:=⟨_,rfl⟩;rw[hx]at hc HX HZ CH CS2;clear hx htk;have i2:(j:Int)<=(cb:Int):=by omega
    obtain⟨k0,k1,k2,k3⟩:=HK.out _ hb;by_cases hsl:q0l H x<0
    ·have hb0:=HX.out (λhh=>by have:=hh.1;omega);subst hb0;clear HX HZ;generalize q0l H x=sl at*;go_wp2_with fail
     refine(CS2.out ()).mono ?_;rintro e w1 ⟨rfl,b1⟩;have B1:=hb.trans (b1.mono hb.size);go_wp2;go_ret
     exact⟨rfl,HB.out.trans (B1.mono HB.out.size)⟩
    ·have hsl2:0<=q0l H x:=by omega
     by_cases hm:x∈H.buffer.take j
     ·have hb0:=HX.out (λhh=>hh.2 hm);subst hb0;rw[decide_eq_true hm]at CH;clear HX HZ;generalize q0l H x=sl at*;go_wp2_with fail
      refine(CS2.out ()).mono ?_;rintro e w1 ⟨rfl,b1⟩;have B1:=hb.trans (b1.mono hb.size);clear k0 k1 k2 k3;obtain⟨k0,k1,k2,k3⟩:=HK.out _ B1;go_wp2_with fail
      refine(CH.out _ _ B1).mono ?_;rintro e w2 ⟨rfl,hw2⟩;subst hw2;go_wp2;go_ret
      exact⟨rfl,HB.out.trans (B1.mono HB.out.size)⟩
     ·have HFIN:Hid _:=HZ.out ⟨hsl2,hm⟩;rw[decide_eq_false hm]at CH;clear HX HZ;generalize q0l H x=sl at*;go_wp2_with fail
      refine(CS2.out ()).mono ?_;rintro e w1 ⟨rfl,b1⟩;have B1:=hb.trans (b1.mono hb.size);clear k0 k1 k2 k3;obtain⟨k0,k1,k2,k3⟩:=HK.out _ B1;go_wp2_with fail
      refine(CH.out _ _ B1).mono ?_;rintro e w2 ⟨rfl,hw2⟩;subst hw2;go_wp2;go_roundw
      case rel=>exact⟨j+1,by omega,by go_num,B1,HFIN⟩
      case measure=>simp[intOf];omega
   ·have ej:n<=j:=by omega
    have hb1:=HY2.out (λi hi=>HJ.out i hi (by have:=Hn.out;omega));subst hb1;go_wp2;go_ret
    exact⟨rfl,HB.out.trans (hb.mono HB.out.size)⟩
theorem j2Y(d:x0g)(w:World)(b:Bool)(hb:b=true↔okW d):
 Calls Tryz.prog 98 #[.agg #[.bool d.used,.int .i64 d.target]] w λe w' =>e= .returned (.bool (!b))/\Below w.heap.size w w' :=by
 obtain⟨du,dt⟩:=d;simp only;have hbn:¬okW ⟨du,dt⟩->b=false:=λhn=>by cases b with|false=>rfl|true=>exact absurd (hb.1 rfl) hn
 cases du with
 |false=>
  by_cases hz:dt=0
  ·have e:b=true:=hb.2 ⟨λ_=>hz,λh=>by cases h⟩;subst e hz;clear hb hbn;go_enter Tryz.func98,Tryz.ntmps98;go_wp2;go_ret
   exact⟨rfl,bl1 _⟩
  ·have e:=hbn (λh=>hz (h.1 rfl));subst e;have hq:(dt !=0)=true:=by rw[bne_iff_ne];exact hz
   clear hb hbn;go_enter Tryz.func98,Tryz.ntmps98;go_wp2;go_ret
   exact⟨u1n (by first|rfl|(rw[hq];rfl)),bl1 _⟩
 |true=>
  by_cases hz:8<=dt/\dt<=7999
  ·have e:b=true:=hb.2 ⟨λh=>(by cases h),λ_=>hz⟩;subst e;clear hb hbn;go_enter Tryz.func98,Tryz.ntmps98;go_wp2_with fail
   refine(z0Z dt 8 7999 _ hz.1 hz.2).mono ?_;rintro e V ⟨rfl,hV⟩;have BV:Below w.heap.size w V:=by rw[hV];exact bl1 _
   clear hV;go_wp2;go_ret
   exact⟨rfl,BV⟩
  ·have e:=hbn (λh=>hz (h.2 rfl));subst e;clear hb hbn;go_enter Tryz.func98,Tryz.ntmps98;go_wp2_with fail
   refine(y0U dt 8 7999 _ (by omega)).mono ?_;rintro e V ⟨rfl,hV⟩;have BV:Below w.heap.size w V:=by rw[hV];exact bl1 _
   clear hV;go_wp2;go_ret
   exact⟨rfl,BV⟩
end
section
open Go.RowKit
def u0o(H:q0a)(s:Int)(o:q0E):Int:=IntKind.i64.wrap (IntKind.i64.wrap (o.holds+o.roots)+x0a H s)
theorem u1y(v:Value)(H:q0a)(s:Nat)(o:q0E)(w:World)(h:RdH w v H)(hs:q0h H)(h8:s<8)(g p:Nat)(f:Option Addr)(fc:Nat)(hg:g<w.heap.size)(hc:x0G w g p o (.slice f o.field.length fc)):
 Calls Tryz.prog 120 #[v,.int .i64 (s:Int),.pointer (some ⟨g,p,none⟩)] w λe w' =>e= .returned (.int .i64 (u0o H (s:Int) o))/\Below w.heap.size w w' :=by
 have HR0:Hid (∀X,Below w.heap.size w X->RdH X v H):=λX hX=>q0s h hX;obtain⟨ao,co,aw,cw,ab,cb,sa,sc,rfl,ro,rwk,ri,rs⟩:=h;obtain⟨W,hW⟩:∃W,W=w.alloc (.cells #[.slice ao H.objs.length co,.slice aw H.weaks.length cw,.slice ab H.buffer.length cb,.slice sa H.sites.length sc] 35):=⟨_,rfl⟩;have BW:Below w.heap.size w W:=by rw[hW];exact bl1 _
 have hWs:W.heap.size=w.heap.size+1:=by rw[hW];simp
 have HK:Hid (∀X,Below W.heap.size W X->_):=λX(hX:Below W.heap.size W X)=>z0z w 35 (.slice ao H.objs.length co) (.slice aw H.weaks.length cw) (.slice ab H.buffer.length cb) (.slice sa H.sites.length sc) X (by rw[hWs,hW]at hX;exact hX);have HOB:Hid (∀X,Below W.heap.size W X->x0G X g p o (.slice f o.field.length fc)):=λX hX=>(hc.keep (λk=>BW.cell (p:=⟨g,k,none⟩) hg)).keep (λk=>hX.cell (p:=⟨g,k,none⟩) (Nat.lt_of_lt_of_le hg BW.size));have HB:Hid (∀X,Below W.heap.size W X->Below w.heap.size w X):=λX hX=>BW.trans (hX.mono BW.size);have CE2:Hid (∀X:q0b W,_):=λX=>u2q _ H s X.on (HR0.out X.on (BW.trans (X.bel.mono BW.size))) hs h8;have HM:Hid (u0o H (s:Int) o=IntKind.i64.wrap (IntKind.i64.wrap (o.holds+o.roots)+x0a H (s:Int))):=rfl;generalize u0o H (s:Int) o=M at*;generalize x0a H (s:Int)=E at*;obtain⟨ol,og,ost,oh,orr,oc,ofl,op⟩:=o;simp only at*;have hne:=q0b.some_ W;have z3:∀X:q0b W,X.on.cell? ⟨g,p+3,none⟩=some (.int .i64 oh):=λX=>(HOB.out _ X.bel).c3;have z4:∀X:q0b W,X.on.cell? ⟨g,p+4,none⟩=some (.int .i64 orr):=λX=>(HOB.out _ X.bel).c4;have y0:∀X:q0b W,X.on.cell? ⟨w.heap.size,0,none⟩=some (.slice ao H.objs.length co):=λX=>(HK.out _ X.bel).1;have y1:∀X:q0b W,X.on.cell? ⟨w.heap.size,1,none⟩=some (.slice aw H.weaks.length cw):=λX=>(HK.out _ X.bel).2.1;have y2:∀X:q0b W,X.on.cell? ⟨w.heap.size,2,none⟩=some (.slice ab H.buffer.length cb):=λX=>(HK.out _ X.bel).2.2.1;have y3:∀X:q0b W,X.on.cell? ⟨w.heap.size,3,none⟩=some (.slice sa H.sites.length sc):=λX=>(HK.out _ X.bel).2.2.2;obtain⟨S,hS⟩:∃S,IntKind.i64.wrap (oh+orr)=S:=⟨_,rfl⟩;rw[hS]at HM;have hM:IntKind.i64.wrap (S+E)=M:=HM.out.symm;clear ro rwk ri rs hs HR0 hc hWs HM;go_enter Tryz.func120,Tryz.ntmps120;go_wp2;rw[<-hW];clear hW;refine q0j W bl0 (by kernel_rfl) (by kernel_rfl) ?_
 repeat (go_big_quiet_step (first
  |(go_at_call 128;refine(CE2.out _).mono ?_;rintro e w1 ⟨rfl,b1⟩;exact⟨rfl,q0b.step _ b1⟩)))
 refine wpQuiet_nil ?_;rintro _ ⟨⟨X,hX⟩,rfl⟩;go_wp2;go_ret
 exact⟨rfl,HB.out _ hX⟩
end
section
open Go.RowKit
def isW(T:q0e)(i:Nat):Bool:=decide (T.colors.getD i 0=2)
def x1U(T:q0e)(i:Nat)(o:q0E):q0E:=if isW T i=true then q0J o.gen else{o with purple:=false}
def x3a(T:q0e)(i:Nat)(o:q0E):q0E:=if isW T i=true then q0J o.gen else o
def q1d(H1:q0a)(i:Nat)(o:q0E):q0E:=if o.live=true then{o with count:=u0o H1 (i:Int) o}else o
def z0t(H:q0a):q0a:={H with objs:=H.objs.mapIdx (x1U (z0K H))}
def j0c(H:q0a):q0a:={H with objs:=(z0t H).objs.mapIdx (q1d (z0t H)),buffer:=[]}
def j0I(H:q0a)(i:Int):Int:=match H.objs[i.toNat]?with
 |some o=>o.gen
 |none=>0
def y0v(H:q0a):List Int:=(x0l (z0K H)).map (λi=>idZ i (j0I H i))
def q1I(a b:q0E):Prop:=a.live=b.live/\a.gen=b.gen/\a.field=b.field
theorem x4x(id:Int):∀(A B:List q0E),A.length=B.length->(∀i(h1:i<A.length)(h2:i<B.length),q1I A[i] B[i])->inE id A=inE id B:=by
 intro A
 induction A with
 |nil=>intro B hl _;cases B with|nil=>rfl|cons b r=>simp at hl
 |cons a r ih=>
  intro B hl h
  cases B with
  |nil=>simp at hl
  |cons b r2=>
   have h0:=h 0 (by simp) (by simp)
   have h1:=ih r2 (by simpa using hl) (λi p q=>by
    have:=h (i+1) (by simp;omega) (by simp;omega);simpa using this)
   have e:inO id a=inO id b:=by obtain⟨x,y,z⟩:=h0;simp only[List.getElem_cons_zero]at x y z;unfold inO;rw[x,z]
   unfold inE at h1 ⊢;simp only[List.map_cons,List.sum_cons];rw[e,h1]
theorem z2Y{G K:q0a}(hl:G.objs.length=K.objs.length)(h:∀i(h1:i<G.objs.length)(h2:i<K.objs.length),q1I G.objs[i] K.objs[i])(slot:Int):x0a G slot=x0a K slot:=by
 unfold x0a;split
 ·by_cases hs:slot.toNat<G.objs.length
  ·have hs2:slot.toNat<K.objs.length:=by omega
   rw[List.getElem?_eq_getElem hs,List.getElem?_eq_getElem hs2];obtain⟨x,y,z⟩:=h _ hs hs2;simp only[];rw[x,y,x4x _ _ _ hl h]
  ·rw[List.getElem?_eq_none (by omega),List.getElem?_eq_none (by omega)]
 ·rfl
theorem v2I{G K:q0a}(hl:G.objs.length=K.objs.length)(h:∀i(h1:i<G.objs.length)(h2:i<K.objs.length),q1I G.objs[i] K.objs[i])(slot:Int)(a b:q0E)(hh:a.holds=b.holds)(hr:a.roots=b.roots):u0o G slot a=u0o K slot b:=by unfold u0o;rw[hh,hr,z2Y hl h]
def q1Y(f:Nat->q0E->q0E)(j:Nat)(os:List q0E):List q0E:=os.mapIdx (λi o=>if i<j then f i o else o)
theorem y1S(f:Nat->q0E->q0E)(j:Nat)(os:List q0E):(q1Y f j os).length=os.length:=by simp[q1Y]
theorem x2U(f:Nat->q0E->q0E)(os:List q0E):q1Y f 0 os=os:=by refine List.ext_getElem (by simp[q1Y]) (λi h1 h2=> ?_);simp[q1Y]
theorem y2J(f:Nat->q0E->q0E)(j:Nat)(os:List q0E)(h:os.length<=j):q1Y f j os=os.mapIdx f:=by
 refine List.ext_getElem (by simp[q1Y]) (λi h1 h2=> ?_);have:i<j:=by simp[q1Y]at h1;omega
 simp[q1Y,this]
theorem v1k(f:Nat->q0E->q0E)(j i:Nat)(os:List q0E)(h:i<os.length):(q1Y f j os)[i]'(by rw[y1S];exact h)=if i<j then f i os[i]else os[i]:=by simp[q1Y]
theorem j1e(f:Nat->q0E->q0E)(j:Nat)(os:List q0E)(h:j<os.length):q1Y f (j+1) os=(q1Y f j os).set j (f j os[j]):=by
 refine List.ext_getElem (by simp[q1Y]) (λi h1 h2=> ?_);have hi:i<os.length:=by simpa[q1Y]using h1
 rw[List.getElem_set,v1k f (j+1) i os hi];by_cases e:j=i
 ·subst e;simp
 ·rw[if_neg e,v1k f j i os hi];by_cases hlt:i<j
  ·rw[if_pos (by omega),if_pos hlt]
  ·rw[if_neg (by omega),if_neg hlt]
end
section
open Go.RowKit
def y1w(K:q0a)(i:Nat)(o:q0E):q0E:=if o.live=true then{o with purple:=false,count:=u0o K (i:Int) o}else{o with purple:=false}
def v1v(K:q0a):q0a:={K with objs:=K.objs.mapIdx (y1w K),buffer:=[]}
def v0u(K:q0a)(j:Nat):q0a:={K with objs:=q1Y (y1w K) j K.objs,buffer:=[]}
theorem z4v(K:q0a)(i:Nat)(o:q0E):q1I (y1w K i o) o:=by unfold y1w;split<;>exact⟨rfl,rfl,rfl⟩
theorem v1X(K:q0a)(j:Nat):(v0u K j).objs.length=K.objs.length:=y1S _ _ _
theorem j2M(K:q0a)(j i:Nat)(h:i<K.objs.length):(v0u K j).objs[i]'(by rw[v1X];exact h)=if i<j then y1w K i K.objs[i]else K.objs[i]:=v1k _ _ _ _ h
theorem y3d(K:q0a)(j i:Nat)(h1:i<(v0u K j).objs.length)(h2:i<K.objs.length):q1I (v0u K j).objs[i] K.objs[i]:=by
 rw[j2M K j i h2];split
 ·exact z4v K i _
 ·exact⟨rfl,rfl,rfl⟩
theorem z4t{A:q0a}{B:q0a}(hl:A.objs.length=B.objs.length)(h:∀i(h1:i<A.objs.length)(h2:i<B.objs.length),q1I A.objs[i] B.objs[i])(k:Nat)(o:q0E)(hk:k<B.objs.length)(ho:q1I o B.objs[k]):
 ∀i(h1:i<({A with objs:=A.objs.set k o}:q0a).objs.length)(h2:i<B.objs.length),q1I ({A with objs:=A.objs.set k o}:q0a).objs[i] B.objs[i]:=by
 intro i h1 h2;simp only[List.getElem_set];by_cases e:k=i
 ·subst e;rw[if_pos rfl];exact ho
 ·rw[if_neg e];exact h i (by simpa using h1) h2
theorem v2V{A B:q0a}(hs:q0h B)(hl:A.objs.length=B.objs.length)(h:∀i(h1:i<A.objs.length)(h2:i<B.objs.length),q1I A.objs[i] B.objs[i])(hw:A.weaks=B.weaks)(hb:A.buffer.length<=1048576)(hst:A.sites=B.sites):q0h A:=by refine⟨by rw[hl];exact hs.objs,λz hz=> ?_,by rw[hw];exact hs.weaks,hb,by rw[hst];exact hs.sites,by rw[hst];exact hs.names⟩;obtain⟨i,hi,rfl⟩:=List.getElem_of_mem hz;rw[(h i hi (by omega)).2.2];exact hs.fields _ (List.getElem_mem _)
theorem y3e(W w:World)(B gx:Nat)(s:HSh)(K:q0a)(vq vf:Value)(todo fr:List Int)(h:LS W w B gx s K vq vf todo fr)(hs:q0h K)(h8:K.objs.length=8):
 Calls Tryz.prog 126 #[.pointer (some ⟨gx,0,none⟩)] w λe w' =>e= .returned (.tuple #[])/\∃s',LS W w' B gx s' (v1v K) vq vf todo fr:=by
 obtain⟨go,hgo,-,-⟩:=v0E h.m 0 (by omega)
 have L0:LS W (w.setCell ⟨gx,2,none⟩ (.slice none 0 0)) B gx {s with ba:=none,bn:=0,bc:=0} {K with buffer:=[]} vq vf todo fr:=
  x1O h h.bel nl0 (λ_ _ _=>rfl) none 0 0 [] rfl (z0H _ _) (λg hg=>by simp[Value.ownBlock]at hg)
 have E0:({K with buffer:=[]}:q0a)=v0u K 0:=by unfold v0u;rw[x2U]
 rw[E0]at L0;have HEND:Hid (v0u K 8=v1v K):=by show _=_;unfold v0u v1v;rw[y2J _ _ _ (by omega)]
 have HSM:Hid (q0h K):=hs;have HL8:Hid (K.objs.length=8):=h8;have y2:w.cell? ⟨gx,2,none⟩=some (.slice s.ba s.bn s.bc):=h.x.cell 2;have f2:=h.x.frozen 2;obtain⟨V,hV⟩:∃V,V=w.setCell ⟨gx,2,none⟩ (.slice none 0 0):=⟨_,rfl⟩;rw[<-hV]at L0;have HSL:Hid (s.os.length=8):=by show _=_;have:=L0.m.lo;rw[v1X,h8]at this;exact this
 obtain⟨s1,hs1⟩:∃s1:HSh,{s with ba:=none,bn:=0,bc:=0}=s1:=⟨_,rfl⟩;have hgo1:s1.oa=some ⟨go,0,none⟩:=by rw[<-hs1];exact hgo
 have x0:V.cell? ⟨gx,0,none⟩=some (.slice s.oa s.os.length s.oc):=by have:=L0.x.cell 0;exact this
 have x1:V.cell? ⟨gx,1,none⟩=some (.slice s.wa s.wn s.wc):=by have:=L0.x.cell 1;exact this
 have x2:V.cell? ⟨gx,2,none⟩=some (.slice none 0 0):=by have:=L0.x.cell 2;exact this
 have x3:V.cell? ⟨gx,3,none⟩=some (.slice s.sa s.sn s.sc):=by have:=L0.x.cell 3;exact this
 rw[hs1]at L0;have HL0:Hid (LS W V B gx s1 (v0u K 0) vq vf todo fr):=L0;have hln:s.os.length<=1048576:=by have:=HSL.out;omega
 have CC:Hid (∀X:World,_):=λX=>y0i X s.oa s.os.length s.oc (.slice s.wa s.wn s.wc) (.slice none 0 0) (.slice s.sa s.sn s.sc) hln go 0 (λ_=>hgo) ⟨_,_,_,_,_,_,_,_,_,rfl,rfl,rfl⟩;obtain⟨x,hx,hxs⟩:=v1C go 0 s.os.length
 have HX:Hid (∀i:Nat,i<8->∀X:World,(Instr.index 116 (.agg x) (.int .i64 (i:Int))).run Tryz.prog X= .ok (.pointer (some ⟨go,i*8,none⟩)) X):=λi hi X=>by
  have e:=hxs i hi X;unfold z0N at e;rw[if_pos (by have:=HSL.out;omega),Nat.zero_add]at e;exact e
 rw[hx]at CC;rw[hV]at x0 x1 x2 x3;have HGO1:Hid (s1.oa=some ⟨go,0,none⟩):=hgo1;have HS1:Hid (s1.v= .agg #[.slice s.oa s.os.length s.oc,.slice s.wa s.wn s.wc,.slice none 0 0,.slice s.sa s.sn s.sc]):=by show _=_;rw[<-hs1];rfl
 have HS4:Hid (∀X,q0d X gx (.slice s1.oa s1.os.length s1.oc) (.slice s1.wa s1.wn s1.wc) (.slice s1.ba s1.bn s1.bc) (.slice s1.sa s1.sn s1.sc)->q0d X gx (.slice s.oa s.os.length s.oc) (.slice s.wa s.wn s.wc) (.slice none 0 0) (.slice s.sa s.sn s.sc)):=λX hX=>by rw[<-hs1]at hX;exact hX
 clear hx hxs L0 h hs h8 E0 hs1 hln hgo hgo1;go_enter Tryz.func126,Tryz.ntmps126;go_wp2_with fail
 rw[<-hV];clear hV x0 x1 x2 x3 y2 f2;refine(CC.out _).mono ?_;rintro e w1 ⟨rfl,b1⟩;have HL1:Hid (LS W w1 B gx s1 (v0u K 0) vq vf todo fr):=q0y HL0.out b1;clear b1 CC HL0;go_wp2;go_loopw[11] (λi wr=>∃j:Nat,i= .int .i64 (j:Int)/\j<=8/\Hid (LS W wr B gx s1 (v0u K j) vq vf todo fr)) (λi _=>8 - (intOf i).toNat)
 case atStart=>exact⟨0,rfl,by omega,HL1⟩
 case round=>
  obtain⟨j,rfl,hj8,HI⟩:=hrel;by_cases hlt:j<8
  ·have hix:=HX.out j hlt;have hjK:j<K.objs.length:=by have:=HL8.out;omega
   have hjS:j<(v0u K j).objs.length:=by rw[v1X];exact hjK
   obtain⟨hj2,ho,hfz⟩:=z0o HI.out.m j hjS go HGO1.out;have HG:Hid ((v0u K j).objs[j]=K.objs[j]):=by show _=_;rw[j2M K j j hjK,if_neg (Nat.lt_irrefl _)]
   have HL2:Hid (LS W (wr.setCell ⟨go,j*8+7,none⟩ (.bool false)) B gx s1 {v0u K j with objs:=(v0u K j).objs.set j {(v0u K j).objs[j]with purple:=false}} vq vf todo fr):=j0i HI.out go _ _ HGO1.out (y1U HI.out.m j hjS go HGO1.out false);have HST:Hid (v0u K (j+1)={v0u K j with objs:=(v0u K j).objs.set j (y1w K j K.objs[j])}):=by show _=_;unfold v0u;rw[j1e _ _ _ hjK]
   rw[HG.out]at HL2 ho;have c7:=ho.c7;have z7:=hfz 7 (by omega);have z5:=hfz 5 (by omega);obtain⟨V2,hV2⟩:∃V2,V2=wr.setCell ⟨go,j*8+7,none⟩ (.bool false):=⟨_,rfl⟩;have c0:V2.cell? ⟨go,j*8+0,none⟩=some (.bool K.objs[j].live):=by rw[hV2,q0q _ _ _ _ _ (by omega)];exact ho.c0
   rw[Nat.add_zero]at c0;rw[<-hV2]at HL2
   cases hlv:K.objs[j].live with
   |false=>
    have HN:Hid (LS W V2 B gx s1 (v0u K (j+1)) vq vf todo fr):=by
     have e:y1w K j K.objs[j]={K.objs[j]with purple:=false}:=by unfold y1w;rw[if_neg (by simp[hlv])]
     rw[HST.out,e];exact HL2.out
    rw[hlv]at c0;rw[hV2]at c0 HN;clear HL2 HI HST HG ho hfz hV2 z5;go_wp2;go_roundw
    case rel=>exact⟨j+1,by go_num,by omega,HN⟩
    case measure=>simp[intOf];omega
   |true=>
    obtain⟨Hc,hHc⟩:∃Hc:q0a,Hc={v0u K j with objs:=(v0u K j).objs.set j {K.objs[j]with purple:=false}}:=⟨_,rfl⟩;rw[<-hHc]at HL2
    have hal:∀i(h1:i<Hc.objs.length)(h2:i<K.objs.length),q1I Hc.objs[i] K.objs[i]:=by subst hHc;exact z4t (v1X K j) (λi h1 h2=>y3d K j i h1 h2) j _ hjK ⟨rfl,rfl,rfl⟩
    have hcl:Hc.objs.length=K.objs.length:=by rw[hHc];simp[v1X]
    have hsc:q0h Hc:=v2V HSM.out hcl hal (by rw[hHc];rfl) (by rw[hHc];show([]:List Int).length<=_;simp) (by rw[hHc];rfl);have hjc:j<Hc.objs.length:=by omega
    have hoc:Hc.objs[j]={K.objs[j]with purple:=false}:=by simp only[hHc,List.getElem_set_self]
    obtain⟨hj3,ho3,hfz3⟩:=z0o HL2.out.m j hjc go HGO1.out;have hfn:s1.os[j].n=Hc.objs[j].field.length:=(HL2.out.m.f j hjc hj3).1;rw[hfn,hoc]at ho3;have hgl:go<V2.heap.size:=(z0X HL2.out.m (.inl ⟨_,HGO1.out,rfl⟩)).2;have CM:Hid (∀_:Unit,_):=λ(_:Unit)=>u1y s1.v Hc j {K.objs[j]with purple:=false} V2 (q0K HL2.out.m) hsc hlt go (j*8) _ _ hgl ho3;have HMZ:Hid (u0o Hc (j:Int) {K.objs[j]with purple:=false}=u0o K (j:Int) K.objs[j]):=v2I hcl hal _ _ _ rfl rfl;rw[HMZ.out,HS1.out]at CM;have X2:=HS4.out _ HL2.out.x;have u0:V2.cell? ⟨gx,0,none⟩=some (.slice s.oa s.os.length s.oc):=X2.cell 0;have u1:V2.cell? ⟨gx,1,none⟩=some (.slice s.wa s.wn s.wc):=X2.cell 1;have u2:V2.cell? ⟨gx,2,none⟩=some (.slice none 0 0):=X2.cell 2;have u3:V2.cell? ⟨gx,3,none⟩=some (.slice s.sa s.sn s.sc):=X2.cell 3;have HSE:Hid (y1w K j K.objs[j]={K.objs[j]with purple:=false,count:=u0o K (j:Int) K.objs[j]}):=by show _=_;unfold y1w;rw[if_pos hlv]
    have HHc:Hid (Hc={v0u K j with objs:=(v0u K j).objs.set j {K.objs[j]with purple:=false}}):=hHc;have HOC:Hid (Hc.objs[j]={K.objs[j]with purple:=false}):=hoc;obtain⟨M,hM⟩:∃M,u0o K (j:Int) K.objs[j]=M:=⟨_,rfl⟩;rw[hM]at CM HSE;rw[hlv]at c0;rw[hV2]at c0 u0 u1 u2 u3;clear HI HG ho hfz z5 hM hHc hal hcl hsc hoc ho3 hfn HMZ X2 hgl hj3 hfz3;go_wp2_with fail
    rw[<-hV2];clear hV2 c0 u0 u1 u2 u3 c7 z7;refine(CM.out ()).mono ?_;rintro e w3 ⟨rfl,b3⟩;have HL3:Hid (LS W w3 B gx s1 Hc vq vf todo fr):=q0y HL2.out b3;have HL4:Hid (LS W (w3.setCell ⟨go,j*8+5,none⟩ (.int .i64 M)) B gx s1 {Hc with objs:=Hc.objs.set j {Hc.objs[j]with count:=M}} vq vf todo fr):=j0i HL3.out go _ _ HGO1.out (z1h HL3.out.m j hjc go HGO1.out M);obtain⟨_,ho4,hfz4⟩:=z0o HL3.out.m j hjc go HGO1.out;have c5:=ho4.c5;have z5:=hfz4 5 (by omega)
    have HN:Hid (LS W (w3.setCell ⟨go,j*8+5,none⟩ (.int .i64 M)) B gx s1 (v0u K (j+1)) vq vf todo fr):=by
     have e:({Hc with objs:=Hc.objs.set j {Hc.objs[j]with count:=M}}:q0a)=v0u K (j+1):=by rw[HST.out,HSE.out,HOC.out,HHc.out];simp
     rw[<-e];exact HL4.out
    clear HL2 HL3 HL4 ho4 hfz4 b3 CM HST;go_wp2;go_roundw
    case rel=>exact⟨j+1,by go_num,by omega,HN⟩
    case measure=>simp[intOf];omega
  ·have hj:j=8:=by omega
   have HFIN:Hid (LS W wr B gx s1 (v1v K) vq vf todo fr):=by show LS _ _ _ _ _ _ _ _ _ _;rw[<-HEND.out,<-hj];exact HI.out
   clear HI;go_wp2;go_end0;exact⟨rfl,s1,HFIN.out⟩
end
section
open Go.RowKit
theorem j2Z(zs:List Int):∀(i j:Int),j∈x0f zs i↔∃k:Nat,k<zs.length/\j=i+(k:Int)/\zs.getD k 0=2:=by
 induction zs with
 |nil=>intro i j;simp[x0f]
 |cons z r ih=>
  intro i j
  have key:j∈x0f r (i+1)↔∃k:Nat,k+1<(z::r).length/\j=i+((k+1:Nat):Int)/\(z::r).getD (k+1) 0=2:=by
   rw[ih];constructor
   ·rintro⟨k,h1,h2,h3⟩;exact⟨k,by simpa using h1,by omega,by simpa using h3⟩
   ·rintro⟨k,h1,h2,h3⟩;exact⟨k,by simpa using h1,by omega,by simpa using h3⟩
  unfold x0f;split
  ·rename_i hz
   rw[List.mem_cons,key];constructor
   ·rintro(rfl|⟨k,h⟩)
    ·exact⟨0,by simp,by omega,by simpa using hz⟩
    ·exact⟨k+1,h⟩
   ·rintro⟨k,h1,h2,h3⟩
    cases k with
    |zero=>left;omega
    |succ k=>right;exact⟨k,h1,h2,h3⟩
  ·rename_i hz
   rw[key];constructor
   ·rintro⟨k,h⟩;exact⟨k+1,h⟩
   ·rintro⟨k,h1,h2,h3⟩
    cases k with
    |zero=>exact absurd (by simpa using h3) hz
    |succ k=>exact⟨k,h1,h2,h3⟩
theorem z2U(T:q0e)(hT:q0I T)(i:Nat)(hi:i<8):(i:Int)∈x0l T↔isW T i=true:=by
 unfold x0l isW;rw[j2Z,decide_eq_true_iff];constructor
 ·rintro⟨k,h1,h2,h3⟩;rw[show i=k from by omega];exact h3
 ·intro h;exact⟨i,by have:=hT.2;omega,by omega,h⟩
theorem y3B(T:q0e)(hT:q0I T):x0j (x0l T):=λz hz=>by
 unfold x0l at hz;obtain⟨k,h1,h2,-⟩:=(j2Z _ _ _).1 hz;have:=hT.2;omega
def x0K(H:q0a)(ws:List Int)(j:Nat):q0a:={H with objs:=H.objs.mapIdx (λi o=>if(i:Int)∈ws.take j then q0J o.gen else o)}
theorem j0O(H:q0a)(ws:List Int)(j:Nat):(x0K H ws j).objs.length=H.objs.length:=by simp[x0K]
theorem y1f(H:q0a)(ws:List Int)(j i:Nat)(h:i<H.objs.length):(x0K H ws j).objs[i]'(by rw[j0O];exact h)=if(i:Int)∈ws.take j then q0J H.objs[i].gen else H.objs[i]:=by simp[x0K]
theorem z4R(H:q0a)(ws:List Int)(j i:Nat)(h:i<H.objs.length):((x0K H ws j).objs[i]'(by rw[j0O];exact h)).gen=H.objs[i].gen:=by rw[y1f H ws j i h];split<;>rfl
theorem j3Q(H:q0a)(ws:List Int):x0K H ws 0=H:=by have e:H.objs.mapIdx (λi o=>if(i:Int)∈ws.take 0 then q0J o.gen else o)=H.objs:=List.ext_getElem (by simp) (λi h1 h2=>by simp);unfold x0K;rw[e]
theorem j3P(H:q0a)(ws:List Int)(j k:Nat)(hj:j<ws.length)(hk:k<H.objs.length)(hw:ws[j]=(k:Int)):x0K H ws (j+1)=q0r (x0K H ws j) k (q0J H.objs[k].gen):=by
 have e:(x0K H ws (j+1)).objs=(x0K H ws j).objs.set k (q0J H.objs[k].gen):=by
  refine List.ext_getElem (by simp[x0K]) (λi h1 h2=> ?_);have hi:i<H.objs.length:=by rw[j0O]at h1;exact h1
  rw[List.getElem_set,y1f H ws (j+1) i hi,List.take_succ_eq_append_getElem hj,hw];by_cases e:k=i
  ·subst e;simp
  ·rw[if_neg e,y1f H ws j i hi];have:¬(i:Int)=(k:Int):=by omega
   simp[this]
 show x0K H ws (j+1)={x0K H ws j with objs:=(x0K H ws j).objs.set k (q0J H.objs[k].gen)};rw[<-e];rfl
theorem j3R(H:q0a)(T:q0e)(hT:q0I T)(h8:H.objs.length=8)(hTs:T=z0K H):v1v (x0K H (x0l T) (x0l T).length)=j0c H:=by
 obtain⟨K,hK⟩:∃K,x0K H (x0l T) (x0l T).length=K:=⟨_,rfl⟩;have hKl:K.objs.length=H.objs.length:=by rw[<-hK];exact j0O _ _ _
 have hKg:∀i(h:i<H.objs.length),K.objs[i]'(by omega)=x3a T i H.objs[i]:=λi h=>by
  have e:=y1f H (x0l T) (x0l T).length i h;rw[List.take_length]at e;subst hK;rw[e];unfold x3a;by_cases hw:isW T i=true
  ·rw[if_pos hw,if_pos ((z2U T hT i (by omega)).2 hw)]
  ·rw[if_neg hw,if_neg (λhm=>hw ((z2U T hT i (by omega)).1 hm))]
 have h1l:(z0t H).objs.length=H.objs.length:=by simp[z0t]
 have h1g:∀i(h:i<H.objs.length),(z0t H).objs[i]'(by omega)=x1U T i H.objs[i]:=λi h=>by subst hTs;simp[z0t]
 have hal:∀i(a:i<K.objs.length)(b:i<(z0t H).objs.length),q1I K.objs[i] (z0t H).objs[i]:=λi a b=>by
  rw[hKg i (by omega),h1g i (by omega)];unfold x3a x1U;split<;>exact⟨rfl,rfl,rfl⟩
 rw[hK];unfold v1v j0c
 have e:K.objs.mapIdx (y1w K)=(z0t H).objs.mapIdx (q1d (z0t H)):=by
  refine List.ext_getElem (by simp;omega) (λi a b=> ?_);have hi:i<H.objs.length:=by simp at a;omega
  simp only[List.getElem_mapIdx];rw[hKg i hi,h1g i hi];unfold x3a x1U;by_cases hw:isW T i=true
  ·rw[if_pos hw,if_pos hw];unfold y1w q1d q0J;simp
  ·rw[if_neg hw,if_neg hw];unfold y1w q1d;by_cases hlv:H.objs[i].live=true
   ·rw[if_pos hlv,if_pos hlv,v2I (by omega) hal (i:Int) H.objs[i] {H.objs[i]with purple:=false} rfl rfl]
   ·rw[if_neg hlv,if_neg hlv]
 rw[e,<-hK];rfl
def y0B(H:q0a)(ws:List Int)(j:Nat):List Int:=(ws.take j).map (λi=>idZ i (j0I H i))
theorem x3y(H:q0a)(ws:List Int)(j k:Nat)(hj:j<ws.length)(hk:k<H.objs.length)(hw:ws[j]=(k:Int)):y0B H ws (j+1)=y0B H ws j++[idZ (k:Int) H.objs[k].gen]:=by
 unfold y0B;rw[List.take_succ_eq_append_getElem hj,hw,List.map_append];have e:j0I H (k:Int)=H.objs[k].gen:=by unfold j0I;rw[show((k:Int)).toNat=k from by omega,List.getElem?_eq_getElem hk]
 simp[e]
end
section
open Go.RowKit
variable{a:Act}{K:Act → World → Prop}{af:Array Edge}{ats:Array TypeId}{post:Ending → World → Prop}{Q:Exit → Act → World → Prop}{pos:String}{ty:TypeId}
theorem u1J{t i:Tmp}{X:World}{g p:Nat}(k:Nat)(hk:k<6)(h1:a.eval (.tmp i)= .pointer (some ⟨g,p,none⟩))(hK:K (a.put (some t) (.pointer (some ⟨g,p+k,none⟩))) X):
 Oper.wp Tryz.prog ⟨some t,.fieldAddr 90 (.tmp i) k,ty,pos,af,none⟩ a X K Q:=by
 have h:=q0x h1
 match k,hk with
 |0,_=>go_simp;exact hK
 |1,_=>go_simp;exact hK
 |2,_=>go_simp;exact hK
 |3,_=>go_simp;exact hK
 |4,_=>go_simp;exact hK
 |5,_=>go_simp;exact hK
theorem j4O{t i j:Tmp}{X:World}{z:Int}{x:Option Addr}{n c:Nat}(h1:a.eval (.tmp i)= .int .i64 z)(h2:a.eval (.tmp j)= .slice x n c)(hK:K (a.put (some t) (y0J (q0J z) (.slice x n c))) X):
 Oper.wp Tryz.prog ⟨some t,.build 90 #[(1,.tmp i),(6,.tmp j)],ty,pos,af,none⟩ a X K Q:=by
 have e1:=q0x h1;have e2:=q0x h2;unfold y0J q0J at hK;go_simp;exact hK
theorem x2H{i j:Tmp}{X:World}{g p:Nat}{o o0:q0E}{f0:Value}{x:Option Addr}{n c:Nat}(h1:a.eval (.tmp i)= .pointer (some ⟨g,p,none⟩))(h2:a.eval (.tmp j)=y0J o (.slice x n c))(ho:x0G X g p o0 f0)(hz:∀q,q<8->X.frozen? ⟨g,p+q,none⟩=false)(hK:K a (z0r X g p o (.slice x n c))):
 Oper.wp Tryz.prog ⟨none,.store 90 (.tmp i) (.tmp j),ty,pos,af,none⟩ a X K Q:=by
 have e1:=q0x h1;have e2:=q0x h2;obtain⟨c0,c1,c2,c3,c4,c5,c6,c7⟩:=ho;have z0:=hz 0 (by omega);have z1:=hz 1 (by omega);have z2:=hz 2 (by omega);have z3:=hz 3 (by omega);have z4:=hz 4 (by omega);have z5:=hz 5 (by omega);have z6:=hz 6 (by omega);have z7:=hz 7 (by omega);rw[Nat.add_zero]at z0;unfold z0r at hK;unfold y0J at e2;clear hz;go_simp;exact hK
theorem u2G{t:Tmp}{X:World}(hC:Calls Tryz.prog 69 #[] X post)(hK:∀e w',post e w' ->∃x,e= .returned x/\K (a.put (some t) x) w'):
 Oper.wp Tryz.prog ⟨some t,.call {callee:= .value (.func 69),args:= #[],argTypes:=ats},ty,pos,af,none⟩ a X K Q:=by
 go_simp;refine hC.mono (λe w' hp=> ?_);obtain⟨x,rfl,hx⟩:=hK e w' hp;exact hx
theorem j4P{t i j:Tmp}{X:World}{u v:Value}(h1:a.eval (.tmp i)=u)(h2:a.eval (.tmp j)=v)(hC:Calls Tryz.prog 65 #[u,v] X post)(hK:∀e w',post e w' ->∃x,e= .returned x/\K (a.put (some t) x) w'):
 Oper.wp Tryz.prog ⟨some t,.call {callee:= .value (.func 65),args:= #[.tmp i,.tmp j],argTypes:=ats},ty,pos,af,none⟩ a X K Q:=by
 have e1:=q0x h1;have e2:=q0x h2;go_simp;refine hC.mono (λe w' hp=> ?_);obtain⟨x,rfl,hx⟩:=hK e w' hp;exact hx
theorem v4h{t i j:Tmp}{X:World}{x y:Int}(h1:a.eval (.tmp i)= .int .i64 x)(h2:a.eval (.tmp j)= .int .i64 y)(hK:K (a.put (some t) (.int .i64 (IntKind.i64.wrap (x+y)))) X):
 Oper.wp Tryz.prog ⟨some t,.binOp .add 3 (.tmp i) (.tmp j) 3,ty,pos,af,none⟩ a X K Q:=by
 have e1:=q0x h1;have e2:=q0x h2;go_simp;exact hK
end
section
open Go.RowKit
variable{T:q0e}
structure BI(W wr:World)(B ga gb c d:Nat)(T:q0e)(vq:Value)(todo:List Int):Prop where
 bel:Below B W wr
 oth:∀g,g<W.heap.size->g≠ga->g≠gb->wr.heap[g]? =W.heap[g]?
 x:q0i wr B (.slice (some ⟨ga,0,none⟩) 8 c) T.counts
 y:q0i wr B (.slice (some ⟨gb,0,none⟩) 8 d) T.colors
 ne:ga≠gb
 la:ga<W.heap.size
 lb:gb<W.heap.size
 hB:B<=W.heap.size
 q:q0i wr W.heap.size vq todo
theorem BI.eight{W wr:World}{B ga gb c d:Nat}{vq:Value}{todo:List Int}(h:BI W wr B ga gb c d T vq todo):q0I T:=⟨(z1C h.x).symm,(z1C h.y).symm⟩
theorem v0T{W wr X:World}{B ga gb c d:Nat}{vq:Value}{todo:List Int}(h:BI W wr B ga gb c d T vq todo)(hb:Below wr.heap.size wr X):BI W X B ga gb c d T vq todo:=
 have hs:=h.bel.size
 ⟨h.bel.trans (hb.mono (Nat.le_trans h.hB hs)),λg h1 h2 h3=>(hb.block g (by omega)).trans (h.oth g h1 h2 h3),q0o h.x hb,q0o h.y hb,h.ne,h.la,h.lb,h.hB,q0o h.q hb⟩
theorem x3c{W wr:World}{B ga gb c d:Nat}{vq:Value}{todo:List Int}(h:BI W wr B ga gb c d T vq todo)(i:Nat)(z:Int):BI W (wr.setCell ⟨ga,i,none⟩ (.int .i64 z)) B ga gb c d ⟨T.counts.set i z,T.colors⟩ vq todo:=by
 have oth:∀g,g≠ga->(wr.setCell ⟨ga,i,none⟩ (.int .i64 z)).heap[g]? =wr.heap[g]?:=λg hg=>heap_setCell_other _ _ _ _ (by exact hg);have hga:=(q0n h.x ga rfl).1;refine⟨h.bel.setCell hga _,λg h1 h2 h3=>(oth g h2).trans (h.oth g h1 h2 h3),u1k h.x (z1C h.x) i z,q0v h.y (λg hg=>oth g (λe=> ?_)),h.ne,h.la,h.lb,h.hB,q0v h.q (λg hg=>oth g (λe=> ?_))⟩
 ·have:gb=g:=by simpa[Value.ownBlock]using hg
  exact h.ne (by omega)
 ·have:=(q0n h.q g hg).1;have:=h.la;omega
theorem j1T{W wr:World}{B ga gb c d:Nat}{vq:Value}{todo:List Int}(h:BI W wr B ga gb c d T vq todo)(i:Nat)(z:Int):BI W (wr.setCell ⟨gb,i,none⟩ (.int .i64 z)) B ga gb c d ⟨T.counts,T.colors.set i z⟩ vq todo:=by
 have oth:∀g,g≠gb->(wr.setCell ⟨gb,i,none⟩ (.int .i64 z)).heap[g]? =wr.heap[g]?:=λg hg=>heap_setCell_other _ _ _ _ (by exact hg);have hgb:=(q0n h.y gb rfl).1;refine⟨h.bel.setCell hgb _,λg h1 h2 h3=>(oth g h3).trans (h.oth g h1 h2 h3),q0v h.x (λg hg=>oth g (λe=> ?_)),u1k h.y (z1C h.y) i z,h.ne,h.la,h.lb,h.hB,q0v h.q (λg hg=>oth g (λe=> ?_))⟩
 ·have:ga=g:=by simpa[Value.ownBlock]using hg
  exact h.ne (by omega)
 ·have:=(q0n h.q g hg).1;have:=h.lb;omega
theorem j4Y{w:World}{B n c:Nat}{a:Option Addr}{zs:List Int}{z:Int}(h:q0i w B (.slice a (n+1) c) (zs++[z])):q0i w B (.slice a n c) zs:=by
 have hl:=z1C h;rw[List.length_append,List.length_singleton]at hl;obtain rfl:n=zs.length:=by omega
 rcases h with⟨h1,⟨h2,h3⟩|⟨g,cap,cur,h2,h3,h4,h5,h6,h7,h8⟩⟩
 ·simp at h3
 ·injection h2 with e1 e2 e3;subst e1 e3;rw[List.length_append,List.length_singleton]at h5 h8;refine⟨by simp,.inr ⟨g,c,cur,rfl,h3,h4,by omega,h6,h7,?_⟩⟩;have h9:=congrArg (List.take zs.length) h8;rw[List.take_take,Nat.mul_one,Nat.min_eq_left (by omega),List.map_append]at h9;rw[Nat.mul_one,h9];have e:(zs.map z0C).length=zs.length:=List.length_map ..;rw[<-e];exact List.take_left
theorem x3d{W wr:World}{B ga gb c d:Nat}{n qc:Nat}{qa:Option Addr}{rest:List Int}{k:Int}(h:BI W wr B ga gb c d T (.slice qa (n+1) qc) (rest++[k])):BI W wr B ga gb c d T (.slice qa n qc) rest:=
 ⟨h.bel,h.oth,h.x,h.y,h.ne,h.la,h.lb,h.hB,j4Y h.q⟩
theorem u2d{W wr X:World}{B ga gb c d:Nat}{vq vq' :Value}{todo todo' :List Int}(h:BI W wr B ga gb c d T vq todo)(oth:∀i,i<wr.heap.size->vq.ownBlock≠some i->X.heap[i]? =wr.heap[i]?)(hbel:∀C w0,Below C w0 wr->C<=W.heap.size->Below C w0 X)(hq:q0i X W.heap.size vq' todo'):BI W X B ga gb c d T vq' todo' :=by
 have hs:=h.bel.size;have far:∀g,g<W.heap.size->X.heap[g]? =wr.heap[g]?:=λg hg=>oth g (by omega) (λe=>by have:=(q0n h.q g e).1;omega);refine⟨hbel B W h.bel h.hB,λg h1 h2 h3=>(far g h1).trans (h.oth g h1 h2 h3),q0v h.x (λg hg=>far g ?_),q0v h.y (λg hg=>far g ?_),h.ne,h.la,h.lb,h.hB,hq⟩
 ·have:ga=g:=by simpa[Value.ownBlock]using hg
  have:=h.la;omega
 ·have:gb=g:=by simpa[Value.ownBlock]using hg
  have:=h.lb;omega
theorem j0b{W wr:World}{B ga gb c d:Nat}{vq:Value}{todo:List Int}(h:BI W wr B ga gb c d T vq todo)(i:Nat)(hi:i<8):
 wr.cell? ⟨ga,i,none⟩=some (.int .i64 (T.counts.getD i 0))/\wr.frozen? ⟨ga,i,none⟩=false/\wr.cell? ⟨gb,i,none⟩=some (.int .i64 (T.colors.getD i 0))/\wr.frozen? ⟨gb,i,none⟩=false:=by
 obtain⟨l1,l2⟩:=h.eight
 have key:∀{g n c:Nat}{zs:List Int},q0i wr B (.slice (some ⟨g,0,none⟩) n c) zs->i<zs.length->wr.cell? ⟨g,i,none⟩=some (.int .i64 (zs.getD i 0))/\wr.frozen? ⟨g,i,none⟩=false:=by
  intro g n c zs ho hl;rcases x0N ho with⟨h1,_⟩|⟨g2,cap,h1,_,_,_,_,HC⟩
  ·cases h1
  ·injection h1 with e1;injection e1 with e1;injection e1 with e1;subst e1;have:=HC.out i hl;rw[List.getD_eq_getElem?_getD,List.getElem?_eq_getElem hl,Option.getD_some];exact this
 obtain⟨a1,a2⟩:=key h.x (by omega);obtain⟨b1,b2⟩:=key h.y (by omega);exact⟨a1,a2,b1,b2⟩
def u0e(X:World)(gb:Nat)(c:Int):Nat:=((List.range 8).filter λi=>match X.cell? ⟨gb,i,none⟩with|some (.int _ q)=> !decide (q=c)|_=>false).length
theorem y1O{W wr:World}{B ga gb cc d:Nat}{vq:Value}{todo:List Int}(h:BI W wr B ga gb cc d T vq todo)(c:Int):u0e wr gb c=x0A c T.colors:=by
 obtain⟨l1,l2⟩:=h.eight;unfold u0e x0A
 have h1:((List.range 8).filter λi=>match wr.cell? ⟨gb,i,none⟩with|some (.int _ q)=> !decide (q=c)|_=>false)=(List.range 8).filter λi=> !decide (T.colors.getD i 0=c):=by refine List.filter_congr (λi hi=> ?_);rw[(j0b h i (List.mem_range.1 hi)).2.2.1]
 rw[h1];obtain⟨ys,hys⟩:∃ys,T.colors=ys:=⟨_,rfl⟩;rw[hys]at l2 ⊢
 match ys,l2 with
 |[a0,a1,a2,a3,a4,a5,a6,a7],_=>simp only[List.range,List.range.loop,List.countP_eq_length_filter];by_cases e0:a0=c<;>by_cases e1:a1=c<;>by_cases e2:a2=c<;>by_cases e3:a3=c<;>by_cases e4:a4=c<;>by_cases e5:a5=c<;>by_cases e6:a6=c<;>by_cases e7:a7=c<;>simp[List.filter,List.getD,e0,e1,e2,e3,e4,e5,e6,e7]
end
section
open Go.RowKit
variable{a:Act}{K:Act → World → Prop}{af:Array Edge}{Q:Exit → Act → World → Prop}{pos:String}{ty:TypeId}
theorem y0p{t i j:Tmp}{X:World}{g n c k:Nat}(h1:a.eval (.tmp i)= .slice (some ⟨g,0,none⟩) n c)(h2:a.eval (.tmp j)= .int .i64 (k:Int))(hk:k<n)(hK:K (a.put (some t) (.pointer (some ⟨g,k,none⟩))) X):
 Oper.wp Tryz.prog ⟨some t,.indexAddr 24 (.tmp i) (.tmp j),ty,pos,af,none⟩ a X K Q:=by
 have e1:=q0x h1;have e2:=q0x h2;have k1:(0:Int)<=(k:Int):=by omega
 have k2:(k:Int)<(n:Int):=by omega
 go_simp;exact hK
theorem x5r{t i:Tmp}{X:World}{z:Int}(h1:a.eval (.tmp i)= .int .i64 z)(hK:K (a.put (some t) (.int .i64 (wrap64 (z+1)))) X):
 Oper.wp Tryz.prog ⟨some t,.binOp .add 3 (.tmp i) (.const (.int .i64 1)) 3,ty,pos,af,none⟩ a X K Q:=by
 have h:=q0x h1;have e:IntKind.i64.wrap (z+1)=wrap64 (z+1):=by rw[IntKind.wrap_i64];simp only[wrap64]
 go_simp;exact hK
theorem v3u{i:Tmp}{X:World}{g p:Nat}{u:Value}{z:Int}(h1:a.eval (.tmp i)= .pointer (some ⟨g,p,none⟩))(hc:X.cell? ⟨g,p,none⟩=some u)(hf:X.frozen? ⟨g,p,none⟩=false)(hK:K a (X.setCell ⟨g,p,none⟩ (.int .i64 z))):
 Oper.wp Tryz.prog ⟨none,.store 3 (.tmp i) (.const (.int .i64 z)),ty,pos,af,none⟩ a X K Q:=by
 have e1:=q0x h1;go_simp;exact hK
def RB(gx ga c gk n kc j s:Nat)(z z' :Int):Nat->Value->Prop
 |0,v=>v= .pointer (some ⟨gx,0,none⟩)
 |1,v=>v= .slice (some ⟨ga,0,none⟩) 8 c
 |2,v=>v= .slice (some ⟨gk,0,none⟩) n kc
 |3,v=>v= .int .i64 (j:Int)
 |4,v=>v= .pointer (some ⟨gk,j,none⟩)
 |5,v=>v= .int .i64 (s:Int)
 |6,v=>v= .pointer (some ⟨gx,0,none⟩)
 |7,v=>v= .slice (some ⟨ga,0,none⟩) 8 c
 |8,v=>v= .slice (some ⟨gk,0,none⟩) n kc
 |9,v=>v= .int .i64 (j:Int)
 |10,v=>v= .pointer (some ⟨gk,j,none⟩)
 |11,v=>v= .int .i64 (s:Int)
 |12,v=>v= .pointer (some ⟨ga,s,none⟩)
 |13,v=>v= .int .i64 z
 |14,v=>v= .int .i64 z'
 |15,v=>v= .pointer (some ⟨ga,s,none⟩)
 |_,_=>True
def RCo(gx gb d gk n kc j s:Nat):Nat->Value->Prop
 |0,v=>v= .pointer (some ⟨gx,1,none⟩)
 |1,v=>v= .slice (some ⟨gb,0,none⟩) 8 d
 |2,v=>v= .slice (some ⟨gk,0,none⟩) n kc
 |3,v=>v= .int .i64 (j:Int)
 |4,v=>v= .pointer (some ⟨gk,j,none⟩)
 |5,v=>v= .int .i64 (s:Int)
 |6,v=>v= .pointer (some ⟨gb,s,none⟩)
 |_,_=>True
theorem y2z(X:World)(B:Nat)(k:Int)(h:B<=X.heap.size):q0i (X.alloc (.cells #[.int .i64 k] 3)) B (.slice (some ⟨X.heap.size,0,none⟩) 1 1) [k]:=
 ⟨by simp,.inr ⟨X.heap.size,1, #[.int .i64 k],rfl,h,heap_alloc_new X _,Nat.le_refl _,by unfold maxLen;omega,rfl,rfl⟩⟩
theorem v3O(v:Value)(H:q0a)(T:q0e)(ga gb c d k B:Nat)(w:World)(hR:∀X,Below B w X->RdH X v H)(hs:q0h H)(h8:H.objs.length=8)(hf:∀o∈H.objs,∀z∈o.field,q0w z)(hx:q0i w B (.slice (some ⟨ga,0,none⟩) 8 c) T.counts)(hy:q0i w B (.slice (some ⟨gb,0,none⟩) 8 d) T.colors)(hne:ga≠gb)(hB:B<=w.heap.size)(hk:k<8):
 Calls Tryz.prog 105 #[v,.agg #[.slice (some ⟨ga,0,none⟩) 8 c,.slice (some ⟨gb,0,none⟩) 8 d],.int .i64 (k:Int)] w λe w' =>e= .returned (.agg #[.slice (some ⟨ga,0,none⟩) 8 c,.slice (some ⟨gb,0,none⟩) 8 d])/\q0i w' B (.slice (some ⟨ga,0,none⟩) 8 c) (q1K H T (k:Int)).counts/\q0i w' B (.slice (some ⟨gb,0,none⟩) 8 d) (q1K H T (k:Int)).colors/\Below B w w' /\∀g,g<w.heap.size->g≠ga->g≠gb->w'.heap[g]? =w.heap[g]?:=by
 have la:=(q0n hx ga rfl).2;have lb:=(q0n hy gb rfl).2;have B0:BI w w B ga gb c d T (.slice none 0 0) []:=⟨bl0,λ_ _ _ _=>rfl,hx,hy,hne,la,lb,hB,z0H _ _⟩;obtain⟨-,-,cb0,fb0⟩:=j0b B0 k hk;obtain⟨ao,co,aw,cw,ab,cb,sa,sc,rfl,-⟩:=hR w bl0;have HS:Hid (q0h H):=hs;have HF:Hid (∀o∈H.objs,∀z∈o.field,q0w z):=hf;have HR:Hid (∀X,Below B w X->RdH X _ H):=hR;have H8:Hid (H.objs.length=8):=h8;rw[h8]at HR ⊢;obtain⟨W,hW⟩:∃W,W=((w.alloc (.cells #[.slice ao 8 co,.slice aw H.weaks.length cw,.slice ab H.buffer.length cb,.slice sa H.sites.length sc] 35)).alloc (.cells #[.slice (some ⟨ga,0,none⟩) 8 c,.slice (some ⟨gb,0,none⟩) 8 d] 101)).alloc (.cells #[.slice none 0 0,.slice none 0 0] 101):=⟨_,rfl⟩;have BW:Below w.heap.size w W:=by rw[hW];exact((bl1 _).alloc (by simp) _).alloc (by simp;omega) _
 have hWs:W.heap.size=w.heap.size+3:=by rw[hW];simp
 have HBW:Hid (Below w.heap.size w W):=BW;have HWs:Hid (W.heap.size=w.heap.size+3):=hWs
 have q0:q0d W w.heap.size (.slice ao 8 co) (.slice aw H.weaks.length cw) (.slice ab H.buffer.length cb) (.slice sa H.sites.length sc):=by have f1:=q0d.new w (.slice ao 8 co) (.slice aw H.weaks.length cw) (.slice ab H.buffer.length cb) (.slice sa H.sites.length sc);exact Eq.trans (by rw[hW,Below.heap_alloc _ _ _ (by simp;omega),Below.heap_alloc _ _ _ (by simp)]) f1
 have q1:Two W (w.heap.size+1) (.slice (some ⟨ga,0,none⟩) 8 c) (.slice (some ⟨gb,0,none⟩) 8 d):=by have f1:=Two.new (w.alloc (.cells #[.slice ao 8 co,.slice aw H.weaks.length cw,.slice ab H.buffer.length cb,.slice sa H.sites.length sc] 35)) (.slice (some ⟨ga,0,none⟩) 8 c) (.slice (some ⟨gb,0,none⟩) 8 d);rw[show(w.alloc (.cells #[.slice ao 8 co,.slice aw H.weaks.length cw,.slice ab H.buffer.length cb,.slice sa H.sites.length sc] 35)).heap.size=w.heap.size+1 from by simp]at f1;exact Eq.trans (by rw[hW,Below.heap_alloc _ _ _ (by simp)]) f1
 have q2:Two W (w.heap.size+2) (.slice none 0 0) (.slice none 0 0):=by have f1:=Two.new ((w.alloc (.cells #[.slice ao 8 co,.slice aw H.weaks.length cw,.slice ab H.buffer.length cb,.slice sa H.sites.length sc] 35)).alloc (.cells #[.slice (some ⟨ga,0,none⟩) 8 c,.slice (some ⟨gb,0,none⟩) 8 d] 101)) (.slice none 0 0) (.slice none 0 0);rw[show((w.alloc (.cells #[.slice ao 8 co,.slice aw H.weaks.length cw,.slice ab H.buffer.length cb,.slice sa H.sites.length sc] 35)).alloc (.cells #[.slice (some ⟨ga,0,none⟩) 8 c,.slice (some ⟨gb,0,none⟩) 8 d] 101)).heap.size=w.heap.size+2 from by simp]at f1;rw[hW];exact f1
 have HQ:Hid (∀X,(∀g,g<W.heap.size->g≠ga->g≠gb->X.heap[g]? =W.heap[g]?)->q0d X w.heap.size (.slice ao 8 co) (.slice aw H.weaks.length cw) (.slice ab H.buffer.length cb) (.slice sa H.sites.length sc)/\Two X (w.heap.size+1) (.slice (some ⟨ga,0,none⟩) 8 c) (.slice (some ⟨gb,0,none⟩) 8 d)/\Two X (w.heap.size+2) (.slice none 0 0) (.slice none 0 0)):=
  λX hX=>⟨q0.same (hX _ (by omega) (by omega) (by omega)),q1.same (hX _ (by omega) (by omega) (by omega)),q2.same (hX _ (by omega) (by omega) (by omega))⟩
 have HB0:Hid (BI W ((W.setCell ⟨gb,k,none⟩ (.int .i64 0)).alloc (.cells #[.int .i64 (k:Int)] 3)) B ga gb c d ⟨T.counts,T.colors.set k 0⟩ (.slice (some ⟨W.heap.size,0,none⟩) 1 1) [(k:Int)]):=by
  have b1:BI W W B ga gb c d T (.slice none 0 0) []:=⟨bl0,λ_ _ _ _=>rfl,q0o hx BW,q0o hy BW,hne,by omega,by omega,by omega,z0H _ _⟩;have b2:=j1T b1 k 0;have hz:(W.setCell ⟨gb,k,none⟩ (.int .i64 0)).heap.size=W.heap.size:=by simp[World.setCell]
  have b3:=v0T b2 (bl1 (.cells #[.int .i64 (k:Int)] 3));have b4:=y2z (W.setCell ⟨gb,k,none⟩ (.int .i64 0)) W.heap.size (k:Int) (by omega);rw[hz]at b4;exact⟨b3.bel,b3.oth,b3.x,b3.y,b3.ne,b3.la,b3.lb,b3.hB,b4⟩
 have HSL:Hid (x0j [(k:Int)]):=λz hz=>by rw[List.mem_singleton.1 hz];omega
 have HRR:Hid (q1K H T (k:Int)=x0p 1 0 H ⟨T.counts,T.colors.set k 0⟩ [(k:Int)]):=by show _=_;unfold q1K;rw[show((k:Int)).toNat=k from by omega]
 have HM0:Hid (mu 0 ((⟨T.counts,T.colors.set k 0⟩:q0e),[(k:Int)])<=17):=by have h1:=q3P 0 (T.colors.set k 0);rw[List.length_set,<-z1C hy]at h1;show 2*x0A 0 (T.colors.set k 0)+1<=17;omega
 have Hla:Hid (ga<w.heap.size/\gb<w.heap.size/\B<=w.heap.size):=⟨la,lb,hB⟩;generalize q1K H T (k:Int)=R at HRR ⊢;have n1:¬gb=w.heap.size:=by omega
 have n2:¬gb=w.heap.size+1:=by omega
 have n3:¬gb=w.heap.size+2:=by omega
 have cW:W.cell? ⟨gb,k,none⟩=some (.int .i64 (T.colors.getD k 0)):=(BW.cell (p:=⟨gb,k,none⟩) lb).trans cb0
 have fW:W.frozen? ⟨gb,k,none⟩=false:=by have b1:BI W W B ga gb c d T (.slice none 0 0) []:=⟨bl0,λ_ _ _ _=>rfl,q0o hx BW,q0o hy BW,hne,by omega,by omega,by omega,z0H _ _⟩;exact(j0b b1 k hk).2.2.2
 rw[hW]at fW cW;clear hx hy hR hs hf q0 q1 q2 BW B0 h8 hWs fb0;go_enter Tryz.func105,Tryz.ntmps105;go_wp2;rw[<-hW];clear hW cW fW cb0 n1 n2 n3;go_loopw[7] (λvq wr=>∃(T' :q0e)(todo:List Int)(qa:Option Addr)(qc:Nat),vq= .slice qa todo.length qc/\Hid (BI W wr B ga gb c d T' vq todo)/\Hid (x0j todo)/\Hid (mu 0 (T',todo)<=17)/\Hid (R=x0p 1 0 H T' todo)) (λvq wr=>x0J vq+2*u0e wr gb 0)
 case atStart=>exact⟨_,[(k:Int)],_,1,rfl,HWs.out▸HB0.out,HSL,HM0,HRR⟩
 case round=>
  obtain⟨T',todo,qa,qc,rfl,HI,HT,HMU,HRS⟩:=hrel;obtain⟨F0,X1,X2⟩:=HQ.out wr HI.out.oth;rcases List.eq_nil_or_concat todo with rfl|⟨rest,kz,rfl⟩
  ·have HE:Hid (R=T'):=by show _=_;rw[HRS.out,x2f]
   have x0:wr.cell? ⟨w.heap.size+1,0,none⟩=some (.slice (some ⟨ga,0,none⟩) 8 c):=X1.cell 0;have x1:wr.cell? ⟨w.heap.size+1,1,none⟩=some (.slice (some ⟨gb,0,none⟩) 8 d):=X1.cell 1;have r0:wr.cell? ⟨w.heap.size+2,0,none⟩=some (.slice none 0 0):=X2.cell 0;have r1:wr.cell? ⟨w.heap.size+2,1,none⟩=some (.slice none 0 0):=X2.cell 1;have z0:=X2.frozen 0;have z1:=X2.frozen 1
   have HFIN:Hid (q0i (q0B wr (w.heap.size+2) (.slice (some ⟨ga,0,none⟩) 8 c) (.slice (some ⟨gb,0,none⟩) 8 d)) B (.slice (some ⟨ga,0,none⟩) 8 c) R.counts/\q0i (q0B wr (w.heap.size+2) (.slice (some ⟨ga,0,none⟩) 8 c) (.slice (some ⟨gb,0,none⟩) 8 d)) B (.slice (some ⟨gb,0,none⟩) 8 d) R.colors/\Below B w (q0B wr (w.heap.size+2) (.slice (some ⟨ga,0,none⟩) 8 c) (.slice (some ⟨gb,0,none⟩) 8 d))/\∀g,g<w.heap.size->g≠ga->g≠gb->(q0B wr (w.heap.size+2) (.slice (some ⟨ga,0,none⟩) 8 c) (.slice (some ⟨gb,0,none⟩) 8 d)).heap[g]? =w.heap[g]?):=by
    have hs3:=HWs.out;obtain⟨l1,l2,l3⟩:=Hla.out
    have ha:∀g,(Value.slice (some ⟨ga,0,none⟩) 8 c).ownBlock=some g->g≠w.heap.size+2:=λg hg=>by
     have:ga=g:=by simpa[Value.ownBlock]using hg
     omega
    have hbb:∀g,(Value.slice (some ⟨gb,0,none⟩) 8 d).ownBlock=some g->g≠w.heap.size+2:=λg hg=>by
     have:gb=g:=by simpa[Value.ownBlock]using hg
     omega
    rw[HE.out];refine⟨q0v HI.out.x (λg hg=>z0c _ _ _ _ g (ha g hg)),q0v HI.out.y (λg hg=>z0c _ _ _ _ g (hbb g hg)),?_,λg h1 h2 h3=> ?_⟩
    ·unfold q0B;exact(((HBW.out.mono l3).trans HI.out.bel).setCell (by simp only;omega) _).setCell (by simp only;omega) _
    ·exact(z0c _ _ _ _ g (by omega)).trans ((HI.out.oth g (by omega) h2 h3).trans (HBW.out.block g h1))
   clear F0 X1 X2 HI HRS;go_wp2;exact bodyPost_ret (v:= .agg #[.slice (some ⟨ga,0,none⟩) 8 c,.slice (some ⟨gb,0,none⟩) 8 d]) (by simp[results,Tryz.results105,go_sem, *]) rfl ⟨rfl,HFIN.out⟩
  ·rw[List.concat_eq_append]at*;obtain⟨m,hm⟩:∃m,rest.length=m:=⟨_,rfl⟩;have hl:(rest++[kz]).length=m+1:=by simp[hm]
   rw[hl]at HI ⊢;obtain⟨s,rfl⟩:∃s:Nat,kz=(s:Int):=⟨kz.toNat,by have:=HT.out kz (by simp);omega⟩;have hs8:s<8:=by have:=HT.out (s:Int) (by simp);omega
   rcases x0N HI.out.q with⟨h1,-⟩|⟨gq,cap,h1,hgq,hgl,hcap,hmax,HC⟩
   ·simp at h1
   have e1:qa=some ⟨gq,0,none⟩/\qc=cap:=by simp only[Value.slice.injEq]at h1;exact⟨h1.1,h1.2.2⟩
   obtain⟨rfl,rfl⟩:=e1
   have hcell:wr.cell? ⟨gq,m,none⟩=some (.int .i64 (s:Int)):=by have h2:=(HC.out m (by omega)).1;rw[List.getElem_append_right (by omega)]at h2;simpa using h2
   rw[hl]at hcap;have hm17:m<=17:=by have:=HMU.out;simp only[mu]at this;omega
   have HPOP:Hid (BI W wr B ga gb c d T' (.slice (some ⟨gq,0,none⟩) m qc) rest):=x3d HI.out;have hsl:s<H.objs.length:=by have:=H8.out;omega
   have CK:Hid (∀_:Unit,_):=λ(_:Unit)=>q2j _ H s wr (HR.out wr ((HBW.out.mono Hla.out.2.2).trans HI.out.bel)) HS.out hsl (HF.out _ (List.getElem_mem hsl));have HKS:Hid (q0P H (s:Int)=v0C H H.objs[s].field):=y1W H s hsl;have HSN:Hid (R=x0p 1 0 H (y0S 1 0 (q0P H) T' rest (s:Int)).1 (y0S 1 0 (q0P H) T' rest (s:Int)).2):=by show _=_;rw[HRS.out,q2O 1 0 H T' rest (s:Int) HI.out.eight HT.out]
   have HRO:Hid _:=v1e 1 0 (q0P H) (x0I H) T' rest (s:Int) HI.out.eight HT.out;have HKSL:Hid (x0j (v0C H H.objs[s].field)):=j1u H _;have HMS:Hid (u0e wr gb 0=x0A 0 T'.colors):=y1O HI.out 0;have HRSL:Hid (x0j rest):=λz hz=>HT.out z (by simp[hz]);have HE8:Hid (q0I T'):=HI.out.eight;unfold y0S at HSN HRO;rw[HKS.out]at HSN HRO;have hkl:=Nat.le_trans (v2c H H.objs[s].field) (HS.out.fields _ (List.getElem_mem hsl));generalize v0C H H.objs[s].field=ks at*;have f0:wr.cell? ⟨w.heap.size,0,none⟩=some (.slice ao 8 co):=F0.cell 0;have f1:wr.cell? ⟨w.heap.size,1,none⟩=some (.slice aw H.weaks.length cw):=F0.cell 1;have f2:wr.cell? ⟨w.heap.size,2,none⟩=some (.slice ab H.buffer.length cb):=F0.cell 2;have f3:wr.cell? ⟨w.heap.size,3,none⟩=some (.slice sa H.sites.length sc):=F0.cell 3;have HGQ:Hid (gq<wr.heap.size):=hgl;have HWB:Hid (W.heap.size<=wr.heap.size):=HI.out.bel.size;have hmc:(m:Int)<=(qc:Int):=by omega
   have hb1:decide ((0:Int)<(m:Int)+1)=true:=decide_eq_true (by omega);clear F0 X1 X2 HI HRS HC hgl hgq hmax h1 hl hm HT HKS hsl;go_wp2_with fail
   refine(CK.out ()).mono ?_;rintro e w1 ⟨vk,rfl,O1,b1⟩;obtain⟨ka,kc,rfl,-⟩:=q0Y O1;have HI1:Hid (BI W w1 B ga gb c d T' (.slice (some ⟨gq,0,none⟩) m qc) rest):=v0T HPOP.out b1;have HK1:Hid (q0i w1 W.heap.size (.slice ka ks.length kc) ks):=q0A O1 HWB.out
   have HD1:Hid (u0a (.slice (some ⟨gq,0,none⟩) m qc) (.slice ka ks.length kc)):=λg h1 h2=>by
    have e1:gq=g:=by simpa[Value.ownBlock]using h1
    have e2:=(q0n O1 g h2).1;have e3:=HGQ.out;omega
   have HM1:Hid (mu 0 (T',rest)<=17):=by have h1:=HMU.out;simp only[mu,List.length_append,List.length_singleton]at h1;show 2*x0A 0 T'.colors+rest.length<=17;omega
   have HLR:Hid (rest.length=m):=z1C HI1.out.q▸rfl;clear O1 b1 CK HPOP f0 f1 f2 f3 hcell;obtain⟨n,hn⟩:∃n,ks.length=n:=⟨_,rfl⟩;have Hn:Hid (ks.length=n):=hn;rw[hn]at HK1 HD1 hkl ⊢;clear hn;go_wp2;go_loopw[7,10] (λvq i X=>∃(j:Nat)(T2:q0e)(td:List Int)(qa2:Option Addr)(qc2:Nat),i= .int .i64 (j:Int)/\vq= .slice qa2 td.length qc2/\j<=n/\Hid (BI W X B ga gb c d T2 vq td)/\Hid ((ks.take j).foldl (x0m 1 0) (T',rest)=(T2,td))/\Hid (q0i X W.heap.size (.slice ka n kc) ks)/\Hid (u0a vq (.slice ka n kc))) (λ_ i _=>n - (intOf i).toNat)
   case atStart=>exact⟨0,T',rest,_,qc,rfl,by rw[HLR.out],by omega,HI1,rfl,HK1,HD1⟩
   case round=>
    obtain⟨j,T2,td,qa2,qc2,rfl,rfl,hjn,HI2,HFO,HK2,HD2⟩:=hrel;by_cases hlt:j<n
    ·have hj2:j<ks.length:=by have:=Hn.out;omega
     obtain⟨t,ht⟩:∃t:Nat,ks[j]=(t:Int):=⟨ks[j].toNat,by have:=HKSL.out _ (List.getElem_mem hj2);omega⟩;have ht8:t<8:=by have:=HKSL.out _ (List.getElem_mem hj2);omega
     have HML:Hid (td.length<=17):=by have h1:=(u2u 1 0 (ks.take j) (T',rest) HE8.out HRSL.out (λz hz=>HKSL.out z (List.mem_of_mem_take hz))).2.2;rw[HFO.out]at h1;have h2:=HM1.out;simp only[mu]at h1 h2;show _<=_;omega
     have HSTEP:Hid ((ks.take (j+1)).foldl (x0m 1 0) (T',rest)=x0m 1 0 (T2,td) (t:Int)):=by show _=_;rw[List.take_succ_eq_append_getElem hj2,List.foldl_append,HFO.out,ht];rfl
     rcases x0N HK2.out with⟨h1,-⟩|⟨gk,cap,h1,hgkB,hgk,hcp,hmx,HC⟩
     ·simp only[Value.slice.injEq]at h1;omega
     obtain⟨rfl,rfl⟩:ka=some ⟨gk,0,none⟩/\kc=cap:=by simp only[Value.slice.injEq]at h1;exact⟨h1.1,h1.2.2⟩
     have hck:wr.cell? ⟨gk,j,none⟩=some (.int .i64 (t:Int)):=by have h2:=(HC.out j hj2).1;rw[ht]at h2;exact h2
     obtain⟨ca,-,-,-⟩:=j0b HI2.out t ht8;obtain⟨-,X1,-⟩:=HQ.out wr HI2.out.oth;have hgal:ga<wr.heap.size:=Nat.lt_of_lt_of_le HI2.out.la HI2.out.bel.size;obtain⟨z,hz⟩:∃z,T2.counts.getD t 0=z:=⟨_,rfl⟩;obtain⟨y,hy⟩:∃y,T2.colors.getD t 0=y:=⟨_,rfl⟩;rw[hz]at ca
     have HKST:Hid (x0m 1 0 (T2,td) (t:Int)=if y=0 then((⟨T2.counts.set t (wrap64 (z+1)),T2.colors⟩:q0e),td)else((⟨T2.counts.set t (wrap64 (z+1)),T2.colors.set t 0⟩:q0e),td++[(t:Int)])):=by show _=_;unfold x0m;simp only[show((t:Int)).toNat=t from by omega,hz,hy]
     have HY:Hid (T2.colors.getD t 0=y):=hy;have HGK:Hid (W.heap.size<=gk):=hgkB;have HTJ:Hid (ks[j]=(t:Int)):=ht;clear HC h1 hcp hmx hz hy ht hgkB;go_wp2;refine q0R 16 (by kernel_rfl) (by kernel_rfl) (λi _ v=>RB (w.heap.size+1) ga c gk n kc j t z (wrap64 (z+1)) i v) (λ_ _ _ _ h _=>h) ?_ ?_
     ·intro i o hi ho a X hXX hA hdep
      match i,hi,ho with
      |0,_,ho=>
       cases ho
       exact v0s 0 (by omega) (q0f hA (t:=4) (by kernel_rfl)) ⟨_,rfl,bl0,rfl⟩
      |1,_,ho=>
       cases ho
       have e0:a.eval (.tmp 40)= .pointer (some ⟨w.heap.size+1,0,none⟩):=hdep ⟨0,.data⟩ (by simp) rfl 40 rfl;exact x0E e0 ((X1.later hXX X1.lt).cell 0) ⟨_,rfl,bl0,rfl⟩
      |2,_,ho=>
       cases ho
       exact z0p (q0f hA (t:=9) (by kernel_rfl)) ⟨_,rfl,bl0,rfl⟩
      |3,_,ho=>
       cases ho
       exact z0p (q0f hA (t:=10) (by kernel_rfl)) ⟨_,rfl,bl0,rfl⟩
      |4,_,ho=>
       cases ho
       have e2:a.eval (.tmp 42)= .slice (some ⟨gk,0,none⟩) n kc:=hdep ⟨2,.data⟩ (by simp) rfl 42 rfl;have e3:a.eval (.tmp 43)= .int .i64 (j:Int):=hdep ⟨3,.data⟩ (by simp) rfl 43 rfl;exact y0p e2 e3 hlt ⟨_,rfl,bl0,rfl⟩
      |5,_,ho=>
       cases ho
       have e4:a.eval (.tmp 44)= .pointer (some ⟨gk,j,none⟩):=hdep ⟨4,.data⟩ (by simp) rfl 44 rfl;exact z0V e4 ((hXX.cell (p:=⟨gk,j,none⟩) hgk).trans hck) ⟨_,rfl,bl0,rfl⟩
      |6,_,ho=>
       cases ho
       exact v0s 0 (by omega) (q0f hA (t:=4) (by kernel_rfl)) ⟨_,rfl,bl0,rfl⟩
      |7,_,ho=>
       cases ho
       have e6:a.eval (.tmp 46)= .pointer (some ⟨w.heap.size+1,0,none⟩):=hdep ⟨6,.data⟩ (by simp) rfl 46 rfl;exact x0E e6 ((X1.later hXX X1.lt).cell 0) ⟨_,rfl,bl0,rfl⟩
      |8,_,ho=>
       cases ho
       exact z0p (q0f hA (t:=9) (by kernel_rfl)) ⟨_,rfl,bl0,rfl⟩
      |9,_,ho=>
       cases ho
       exact z0p (q0f hA (t:=10) (by kernel_rfl)) ⟨_,rfl,bl0,rfl⟩
      |10,_,ho=>
       cases ho
       have e8:a.eval (.tmp 48)= .slice (some ⟨gk,0,none⟩) n kc:=hdep ⟨8,.data⟩ (by simp) rfl 48 rfl;have e9:a.eval (.tmp 49)= .int .i64 (j:Int):=hdep ⟨9,.data⟩ (by simp) rfl 49 rfl;exact y0p e8 e9 hlt ⟨_,rfl,bl0,rfl⟩
      |11,_,ho=>
       cases ho
       have e10:a.eval (.tmp 50)= .pointer (some ⟨gk,j,none⟩):=hdep ⟨10,.data⟩ (by simp) rfl 50 rfl;exact z0V e10 ((hXX.cell (p:=⟨gk,j,none⟩) hgk).trans hck) ⟨_,rfl,bl0,rfl⟩
      |12,_,ho=>
       cases ho
       have e7:a.eval (.tmp 47)= .slice (some ⟨ga,0,none⟩) 8 c:=hdep ⟨7,.data⟩ (by simp) rfl 47 rfl;have e11:a.eval (.tmp 51)= .int .i64 (t:Int):=hdep ⟨11,.data⟩ (by simp) rfl 51 rfl;exact y0p e7 e11 ht8 ⟨_,rfl,bl0,rfl⟩
      |13,_,ho=>
       cases ho
       have e12:a.eval (.tmp 52)= .pointer (some ⟨ga,t,none⟩):=hdep ⟨12,.data⟩ (by simp) rfl 52 rfl;exact z0V e12 ((hXX.cell (p:=⟨ga,t,none⟩) hgal).trans ca) ⟨_,rfl,bl0,rfl⟩
      |14,_,ho=>
       cases ho
       have e13:a.eval (.tmp 53)= .int .i64 z:=hdep ⟨13,.data⟩ (by simp) rfl 53 rfl;exact x5r e13 ⟨_,rfl,bl0,rfl⟩
      |15,_,ho=>
       cases ho
       have e1:a.eval (.tmp 41)= .slice (some ⟨ga,0,none⟩) 8 c:=hdep ⟨1,.data⟩ (by simp) rfl 41 rfl;have e5:a.eval (.tmp 45)= .int .i64 (t:Int):=hdep ⟨5,.data⟩ (by simp) rfl 45 rfl;exact y0p e1 e5 ht8 ⟨_,rfl,bl0,rfl⟩
      |q+16,hi,_=>exact absurd hi (by omega)
     ·intro o ho a X hXX hA hdep
      cases ho
      have e15:a.eval (.tmp 55)= .pointer (some ⟨ga,t,none⟩):=hdep ⟨15,.data⟩ (by simp) rfl 55 rfl;have e14:a.eval (.tmp 54)= .int .i64 (wrap64 (z+1)):=hdep ⟨14,.data⟩ (by simp) rfl 54 rfl;have BX:=v0T HI2.out hXX;obtain⟨ca2,fa2,-,-⟩:=j0b BX t ht8;refine q1e e15 e14 ca2 fa2 ?_;have HI3:Hid _:=x3c BX t (wrap64 (z+1));have HK3:Hid (q0i (X.setCell ⟨ga,t,none⟩ (.int .i64 (wrap64 (z+1)))) W.heap.size (.slice (some ⟨gk,0,none⟩) n kc) ks):=q0v (q0o HK2.out hXX) (λg hg=>heap_setCell_other _ _ _ _ (by have:=(q0n HK2.out g hg).1;have:=HI2.out.la;show g≠ga;omega));obtain⟨us,hus,rfl⟩:=q0F hA [40,41,42,43,44,45,46,47,48,49,50,51,52,53,54,55] (by kernel_rfl);clear hdep hA hus e15 e14 BX ca2 fa2 X1 hck hgk ca hgal;generalize X.setCell ⟨ga,t,none⟩ (.int .i64 (wrap64 (z+1)))=Y at*;simp only[List.mapIdx_cons,List.mapIdx_nil,Nat.reduceAdd,List.contains_cons,List.contains_nil,Nat.reduceBEq,Bool.or_false,Bool.or_true,if_true,if_false,Bool.false_eq_true]
      have HCY:Hid (∀V,Below Y.heap.size Y V->V.cell? ⟨w.heap.size+1,1,none⟩=some (.slice (some ⟨gb,0,none⟩) 8 d)/\V.cell? ⟨gk,j,none⟩=some (.int .i64 (t:Int))/\V.cell? ⟨gb,t,none⟩=some (.int .i64 y)):=λV hV=>by
       have b1:=v0T HI3.out hV;have k1:=q0o HK3.out hV;refine⟨(HQ.out V b1.oth).2.1.cell 1,?_,?_⟩
       ·rcases x0N k1 with⟨h1,-⟩|⟨gk2,cap2,h1,-,-,-,-,HC⟩
        ·cases h1
        ·have e1:gk=gk2:=by simp only[Value.slice.injEq,Option.some.injEq,Addr.mk.injEq]at h1;exact h1.1.1
         subst e1;have h2:=(HC.out j hj2).1;rw[HTJ.out]at h2;exact h2
       ·have:=(j0b b1 t ht8).2.2.1;rw[HY.out]at this;exact this
      have hne2:=q0b.some_ Y;have y4:∀V:q0b Y,V.on.cell? ⟨w.heap.size+1,1,none⟩=some (.slice (some ⟨gb,0,none⟩) 8 d):=λV=>(HCY.out V.on V.bel).1;have yk:∀V:q0b Y,V.on.cell? ⟨gk,j,none⟩=some (.int .i64 (t:Int)):=λV=>(HCY.out V.on V.bel).2.1;have yc:∀V:q0b Y,V.on.cell? ⟨gb,t,none⟩=some (.int .i64 y):=λV=>(HCY.out V.on V.bel).2.2;have i1:(j:Int)<(n:Int):=by omega
      have i2:(t:Int)<8:=by omega
      by_cases hy0:y=0
      ·have hq:(y !=0)=false:=by simp[hy0]
       have HNX:Hid ((ks.take (j+1)).foldl (x0m 1 0) (T',rest)=((⟨T2.counts.set t (wrap64 (z+1)),T2.colors⟩:q0e),td)):=by show _=_;rw[HSTEP.out,HKST.out,if_pos hy0]
       clear hy0 HKST HSTEP;go_wp2;refine q0j Y bl0 (by kernel_rfl) (by kernel_rfl) ?_;repeat (go_big_quiet_step (fail))
       refine wpQuiet_nil ?_;intro V hVe;have hV:Below Y.heap.size Y V:=by obtain⟨q,hq2⟩:=hVe;rw[hq2];exact q.bel
       have HI4:Hid _:=v0T HI3.out hV;have HK4:Hid _:=q0o HK3.out hV;clear hVe y4 yk yc hne2 hV;go_wp2;go_roundw
       case rel=>exact⟨j+1,_,td,qa2,qc2,by go_num,rfl,by omega,HI4,HNX,HK4,HD2⟩
       case measure=>simp[intOf];omega
      ·have hq:(y !=0)=true:=by simp[hy0]
       have HNX:Hid ((ks.take (j+1)).foldl (x0m 1 0) (T',rest)=((⟨T2.counts.set t (wrap64 (z+1)),T2.colors.set t 0⟩:q0e),td++[(t:Int)])):=by show _=_;rw[HSTEP.out,HKST.out,if_neg hy0]
       clear hy0 HKST HSTEP;go_wp2;refine q0j Y bl0 (by kernel_rfl) (by kernel_rfl) ?_;repeat (go_big_quiet_step (fail))
       refine wpQuiet_nil ?_;intro V hVe;have hV:Below Y.heap.size Y V:=by obtain⟨q,hq2⟩:=hVe;rw[hq2];exact q.bel
       have HI4:Hid _:=v0T HI3.out hV;have HK4:Hid _:=q0o HK3.out hV;obtain⟨-,hckV,-⟩:=HCY.out V hV;have hgkV:gk<V.heap.size:=(q0n HK4.out gk rfl).2;have Y1:=(HQ.out V HI4.out.oth).2.1;clear hVe y4 yk yc hne2 hV;go_wp2;refine q0R 7 (by kernel_rfl) (by kernel_rfl) (λi _ v=>RCo (w.heap.size+1) gb d gk n kc j t i v) (λ_ _ _ _ h _=>h) ?_ ?_
       ·intro i o hi ho a X hXX hA hdep
        match i,hi,ho with
        |0,_,ho=>
         cases ho
         exact v0s 1 (by omega) (q0f hA (t:=4) (by kernel_rfl)) ⟨_,rfl,bl0,rfl⟩
        |1,_,ho=>
         cases ho
         have e0:a.eval (.tmp 65)= .pointer (some ⟨w.heap.size+1,1,none⟩):=hdep ⟨0,.data⟩ (by simp) rfl 65 rfl;exact x0E e0 ((Y1.later hXX Y1.lt).cell 1) ⟨_,rfl,bl0,rfl⟩
        |2,_,ho=>
         cases ho
         exact z0p (q0f hA (t:=9) (by kernel_rfl)) ⟨_,rfl,bl0,rfl⟩
        |3,_,ho=>
         cases ho
         exact z0p (q0f hA (t:=10) (by kernel_rfl)) ⟨_,rfl,bl0,rfl⟩
        |4,_,ho=>
         cases ho
         have e2:a.eval (.tmp 67)= .slice (some ⟨gk,0,none⟩) n kc:=hdep ⟨2,.data⟩ (by simp) rfl 67 rfl;have e3:a.eval (.tmp 68)= .int .i64 (j:Int):=hdep ⟨3,.data⟩ (by simp) rfl 68 rfl;exact y0p e2 e3 hlt ⟨_,rfl,bl0,rfl⟩
        |5,_,ho=>
         cases ho
         have e4:a.eval (.tmp 69)= .pointer (some ⟨gk,j,none⟩):=hdep ⟨4,.data⟩ (by simp) rfl 69 rfl;exact z0V e4 ((hXX.cell (p:=⟨gk,j,none⟩) hgkV).trans hckV) ⟨_,rfl,bl0,rfl⟩
        |6,_,ho=>
         cases ho
         have e1:a.eval (.tmp 66)= .slice (some ⟨gb,0,none⟩) 8 d:=hdep ⟨1,.data⟩ (by simp) rfl 66 rfl;have e5:a.eval (.tmp 70)= .int .i64 (t:Int):=hdep ⟨5,.data⟩ (by simp) rfl 70 rfl;exact y0p e1 e5 ht8 ⟨_,rfl,bl0,rfl⟩
       ·intro o ho a X hXX hA hdep
        cases ho
        have e6:a.eval (.tmp 71)= .pointer (some ⟨gb,t,none⟩):=hdep ⟨6,.data⟩ (by simp) rfl 71 rfl;have BX:=v0T HI4.out hXX;obtain⟨-,-,cb2,fb2⟩:=j0b BX t ht8;refine v3u e6 cb2 fb2 ?_;have HI5:Hid _:=j1T BX t 0;have HK5:Hid (q0i (X.setCell ⟨gb,t,none⟩ (.int .i64 0)) W.heap.size (.slice (some ⟨gk,0,none⟩) n kc) ks):=q0v (q0o HK4.out hXX) (λg hg=>heap_setCell_other _ _ _ _ (by have:=(q0n HK4.out g hg).1;have:=HI2.out.lb;show g≠gb;omega));obtain⟨us,hus,rfl⟩:=q0F hA [65,66,67,68,69,70,71] (by kernel_rfl);clear hdep hA hus e6 BX cb2 fb2 Y1 hckV hgkV;generalize X.setCell ⟨gb,t,none⟩ (.int .i64 0)=Y2 at*;simp only[List.mapIdx_cons,List.mapIdx_nil,Nat.reduceAdd,List.contains_cons,List.contains_nil,Nat.reduceBEq,Bool.or_false,Bool.or_true,if_true,if_false,Bool.false_eq_true]
        have hck5:Y2.cell? ⟨gk,j,none⟩=some (.int .i64 (t:Int)):=by
         rcases x0N HK5.out with⟨h1,-⟩|⟨gk2,cap2,h1,-,-,-,-,HC⟩
         ·cases h1
         ·have e1:gk=gk2:=by simp only[Value.slice.injEq,Option.some.injEq,Addr.mk.injEq]at h1;exact h1.1.1
          subst e1;have h2:=(HC.out j hj2).1;rw[HTJ.out]at h2;exact h2
        obtain⟨U,hU⟩:∃U,U=Y2.alloc (.cells #[.int .i64 (t:Int)] 3):=⟨_,rfl⟩;have bU:Below Y2.heap.size Y2 U:=by rw[hU];exact bl1 _
        have HIU:Hid _:=v0T HI5.out bU;have HKU:Hid _:=q0o HK5.out bU;have hUc:U.cell? ⟨Y2.heap.size,0,none⟩=some (.int .i64 (t:Int)):=by rw[hU,World.cell?_alloc_mark];rfl
        have HUB:Hid (W.heap.size<=U.heap.size):=HIU.out.bel.size;clear bU;go_wp2_with (at_builtin;rw[<-hU];clear hU;refine x0T rfl _ _ rfl W.heap.size _ _ rfl HIU.out.q ⟨Y2.heap.size,0,none⟩ (t:Int) rfl hUc ?hlen HUB.out ?_)
        case hlen=>have:=HML.out;omega
        intro v6 X6 O6 s6 H6 A6 B6;obtain⟨qa6,qc6,rfl,-⟩:=q0Y O6;have HI6:Hid _:=u2d HIU.out H6.out B6.out O6;have HK6:Hid (q0i X6 W.heap.size (.slice (some ⟨gk,0,none⟩) n kc) ks):=q0v HKU.out (λg hg=>H6.out g (q0n HKU.out g hg).2 (λe=>HD2.out g e hg))
        have HD6:Hid (u0a (.slice qa6 (td++[(t:Int)]).length qc6) (.slice (some ⟨gk,0,none⟩) n kc)):=λg h1 h2=>by
         rcases A6.out with e|e
         ·exact HD2.out g (by rw[<-e];exact h1) h2
         ·rw[e]at h1;injection h1 with h1;have:=(q0n HKU.out g h2).2;omega
        clear O6 H6 A6 B6 hck5 hUc;go_wp2;go_roundw
        case rel=>exact⟨j+1,_,td++[(t:Int)],qa6,qc6,by go_num,by simp,by omega,HI6,HNX,HK6,HD6⟩
        case measure=>simp[intOf];omega
    ·have HALL:Hid (ks.foldl (x0m 1 0) (T',rest)=(T2,td)):=by
      have h1:=HFO.out;rw[List.take_of_length_le (by have:=Hn.out;omega)]at h1;exact h1
     have HT2:Hid (x0j td/\mu 0 (T2,td)<mu 0 (T',rest++[(s:Int)])/\R=x0p 1 0 H T2 td):=by have h1:=HRO.out;have h2:=HSN.out;rw[HALL.out]at h1 h2;exact⟨h1.2.1,h1.2.2,h2⟩
     have HMS2:Hid (u0e wr gb 0=x0A 0 T2.colors):=y1O HI2.out 0;have hge:n<=j:=by omega
     clear hlt;go_wp2;go_roundw
     case rel=>exact⟨T2,td,qa2,qc2,rfl,HI2,HT2.out.1,by have:=HT2.out.2.1;have:=HMU.out;show _<=_;omega,HT2.out.2.2⟩
     case measure=>have h1:=HT2.out.2.1;have h2:=HMS2.out;have h3:=HMS.out;have h4:=HLR.out;simp only[mu,List.length_append,List.length_singleton]at h1;show x0J (.slice qa2 td.length qc2)+2*u0e _ gb 0<x0J (.slice (some ⟨gq,0,none⟩) (m+1) qc)+2*u0e _ gb 0;simp only[x0J];omega
end
section
open Go.RowKit
variable{a:Act}{K:Act → World → Prop}{af:Array Edge}{Q:Exit → Act → World → Prop}{pos:String}{ty:TypeId}
def RP(m:Nat)(P:World->Value->Prop)(L:List Value)(i:Nat)(X:World)(v:Value):Prop:=(i=m->P X v)/\(i≠m->v=L.getD i undef)
theorem x1y{m:Nat}{P:World->Value->Prop}{L:List Value}(hP:∀X Y v,P X v->Below X.heap.size X Y->P Y v)(i:Nat)(X Y:World)(v:Value)(h:RP m P L i X v)(hb:Below X.heap.size X Y):RP m P L i Y v:=
 ⟨λe=>hP X Y v (h.1 e) hb,h.2⟩
theorem z0g{m:Nat}{P:World->Value->Prop}{L:List Value}{i:Nat}{X:World}{v u:Value}(h:RP m P L i X v)(hi:i≠m)(hu:L.getD i undef=u):v=u:=(h.2 hi).trans hu
theorem z4l{m:Nat}{P:World->Value->Prop}{L:List Value}{X:World}{v:Value}(h:RP m P L m X v):P X v:=h.1 rfl
theorem q0S{m:Nat}{P:World->Value->Prop}{L:List Value}{i:Nat}{X:World}{v:Value}(hi:i≠m)(hv:L.getD i undef=v):RP m P L i X v:=⟨λe=>absurd e hi,λ_=>hv.symm⟩
theorem v2i{m:Nat}{P:World->Value->Prop}{L:List Value}{X:World}{v:Value}(h:P X v):RP m P L m X v:=⟨λ_=>h,λe=>absurd rfl e⟩
def noP:World->Value->Prop:=λ_ _=>True
theorem u1g(X Y:World)(v:Value)(h:noP X v)(hb:Below X.heap.size X Y):noP Y v:=h
theorem x1v{t i:Tmp}{X:World}{x:Addr}(h1:a.eval (.tmp i)= .pointer (some x))(hK:K (a.put (some t) (.pointer (some x))) X):
 Oper.wp Tryz.prog ⟨some t,.nilCheck (.tmp i),ty,pos,af,none⟩ a X K Q:=by
 have h:=q0x h1;go_simp;exact hK
end
section
open Go.RowKit
variable{a:Act}{K:Act → World → Prop}{af:Array Edge}{ops:Array Oper}{ats:Array TypeId}{post:Ending → World → Prop}{Q:Exit → Act → World → Prop}{pos:String}{ty:TypeId}
theorem y0w{t i:Tmp}{X:World}{g:Nat}(k:Nat)(hk:k<5)(h1:a.eval (.tmp i)= .pointer (some ⟨g,0,none⟩))(hK:K (a.put (some t) (.pointer (some ⟨g,k,none⟩))) X):
 Oper.wp Tryz.prog ⟨some t,.fieldAddr 41 (.tmp i) k,ty,pos,af,none⟩ a X K Q:=by
 have h:=q0x h1
 match k,hk with
 |0,_=>go_simp;exact hK
 |1,_=>go_simp;exact hK
 |2,_=>go_simp;exact hK
 |3,_=>go_simp;exact hK
 |4,_=>go_simp;exact hK
theorem v4v{t i:Tmp}{X:World}{g p:Nat}{v:Value}(h1:a.eval (.tmp i)= .pointer (some ⟨g,p,none⟩))(hc:X.cell? ⟨g,p,none⟩=some v)(hK:K (a.put (some t) v) X):
 Oper.wp Tryz.prog ⟨some t,.load 9 (.tmp i),ty,pos,af,none⟩ a X K Q:=by
 have h:=q0x h1;go_simp;exact hK
theorem u2b{w:World}{o:Oper}(s x:Operand)(ho:o.op= .call {callee:= .builtin .append,args:= #[s,x],argTypes:= #[25,25]})(B:Nat)(v:Value)(P:List (List UInt8))(hs:a.eval s=v)(hown:z0E w B v P)(ad:Addr)(z:List UInt8)(hx:a.eval x= .slice (some ad) 1 1)(hsrc:w.cell? ad=some (.string (txt z)))(hlen:P.length<=1677720)(hB:B<=w.heap.size)(h:∀v' w',z0E w' B v' (P++[z])->w.heap.size<=w'.heap.size->(∀i,i<w.heap.size->v.ownBlock≠some i->w'.heap[i]? =w.heap[i]?)->(v'.ownBlock=v.ownBlock\/v'.ownBlock=some w.heap.size)->(∀C w0,Below C w0 w->C<=B->Below C w0 w')->K (a.put o.dst v') w'):o.wp Tryz.prog a w K Q:=by
 obtain⟨i0,hi,hz0,hz1,hz2⟩:=info_parts j2j;have hlt:=World.ownsRow.lt hown
 obtain⟨v',w',hr,hown',hgrow,_,hat⟩:=run_append_own_at (P:=Tryz.prog) w B 25 o.type 9 i0 (.string (txt [])) 1 16 Tryz.underlying25 hi hz0 hz1 hz2 rfl (by decide) v P.length (P.map u0j) hown ad 1 1 [u0j z] rfl
  (λj u hj=>by
    match j,hj with
    |0,hj=>simp at hj;subst hj;rw[show ad.add 0=ad from by cases ad;simp[Addr.add]];exact hsrc
    |j+1,hj=>simp at hj)
  (λu hu=>by simp at hu;subst hu;rfl) (by unfold maxLen;omega) (by omega) hB
 unfold Oper.wp execOp;simp only[ho,resolve,invoke,builtin,Sem.run_bind,Sem.run_pure,Result.andThen_ok,List.map_toArray,List.map_cons,List.map_nil,hs,hx,hr];refine h v' w' ?_ hgrow.size (λi hi hne=>hgrow.block i hi (λe=>hne e.symm)) hat (λC w0 hb hC=> ?_)
 ·unfold z0E;rw[List.length_append,List.map_append];exact hown'
 ·exact⟨hgrow.os.trans hb.os,hgrow.tape.trans hb.tape,hgrow.output.trans hb.output,Nat.le_trans hb.size hgrow.size,λk hk=>(hgrow.block k (by omega) (λe=>by have:=(hlt k e.symm).1;omega)).trans (hb.block k hk)⟩
theorem x5u{t i:Tmp}{X:World}{z:ByteArray}(h1:a.eval (.tmp i)= .string z)(hK:K (a.put (some t) (.slice (some ⟨X.heap.size,0,none⟩) 1 1)) (X.alloc (.cells #[.string z] 9))):
 Oper.wp Tryz.prog ⟨some t,.buildSlice 25 1 #[(0,.tmp i)],ty,pos,af,none⟩ a X K Q:=by
 have e1:=q0x h1;go_simp;exact hK
theorem v4w{i j:Tmp}{X:World}{g p n c:Nat}{u:Value}{x:Option Addr}(h1:a.eval (.tmp i)= .pointer (some ⟨g,p,none⟩))(h2:a.eval (.tmp j)= .slice x n c)(hc:X.cell? ⟨g,p,none⟩=some u)(hf:X.frozen? ⟨g,p,none⟩=false)(hK:K a (X.setCell ⟨g,p,none⟩ (.slice x n c))):
 Oper.wp Tryz.prog ⟨none,.store 25 (.tmp i) (.tmp j),ty,pos,af,none⟩ a X K Q:=by
 have e1:=q0x h1;have e2:=q0x h2;go_simp;exact hK
theorem j4Q{t i:Tmp}{X:World}{u:Value}(h1:a.eval (.tmp i)=u)(hC:Calls Tryz.prog 82 #[u] X post)(hK:∀e w',post e w' ->∃x,e= .returned x/\K (a.put (some t) x) w'):
 Oper.wp Tryz.prog ⟨some t,.call {callee:= .value (.func 82),args:= #[.tmp i],argTypes:=ats},ty,pos,af,none⟩ a X K Q:=by
 have e1:=q0x h1;go_simp;refine hC.mono (λe w' hp=> ?_);obtain⟨x,rfl,hx⟩:=hK e w' hp;exact hx
theorem q3f{w:World}{rest:List Oper}{o:Oper}(hgd:o.guard=none)(s x:Operand)(ho:o.op= .call {callee:= .builtin .append,args:= #[s,x],argTypes:= #[25,25]})(B:Nat)(v:Value)(P:List (List UInt8))(hs:a.eval s=v)(hown:z0E w B v P)(ad:Addr)(z:List UInt8)(hx:a.eval x= .slice (some ad) 1 1)(hsrc:w.cell? ad=some (.string (txt z)))(hlen:P.length<=1677720)(hB:B<=w.heap.size)(h:∀v' w',z0E w' B v' (P++[z])->w.heap.size<=w'.heap.size->Hid (∀i,i<w.heap.size->v.ownBlock≠some i->w'.heap[i]? =w.heap[i]?)->Hid (v'.ownBlock=v.ownBlock\/v'.ownBlock=some w.heap.size)->Hid (∀C w0,Below C w0 w->C<=B->Below C w0 w')->wpList Tryz.prog ops Q rest (a.put o.dst v') w'):wpList Tryz.prog ops Q (o::rest) a w:=
 wpList_plain hgd λ_ hK=>u2b s x ho B v P hs hown ad z hx hsrc hlen hB λv' w' h1 h2 h3 h4 h5=>hK _ _ (h v' w' h1 h2 h3 h4 h5)
end
section
open Go.RowKit
variable{a:Act}{K:Act → World → Prop}{af:Array Edge}{ats:Array TypeId}{post:Ending → World → Prop}{Q:Exit → Act → World → Prop}{pos:String}{ty:TypeId}
theorem u1I{t i:Tmp}{X:World}{g p:Nat}(h1:a.eval (.tmp i)= .pointer (some ⟨g,p,none⟩))(hK:K (a.put (some t) (.pointer (some ⟨g,p+6,none⟩))) X):
 Oper.wp Tryz.prog ⟨some t,.fieldAddr 90 (.tmp i) 6,ty,pos,af,none⟩ a X K Q:=by
 have h:=q0x h1;go_simp;exact hK
theorem y0q{t i:Tmp}{X:World}{g:Nat}{x0 x1 x2 x3:Value}(h1:a.eval (.tmp i)= .pointer (some ⟨g,0,none⟩))(hf:q0d X g x0 x1 x2 x3)(hK:K (a.put (some t) (.agg #[x0,x1,x2,x3])) X):
 Oper.wp Tryz.prog ⟨some t,.load 35 (.tmp i),ty,pos,af,none⟩ a X K Q:=by
 have h:=q0x h1;obtain⟨c0,c1,c2,c3⟩:=hf.cells;clear hf;go_simp;exact hK
theorem v4p{t j:Tmp}{X:World}{z:Int}(h1:a.eval (.tmp j)= .int .i64 z)(hK:K (a.put (some t) (.agg #[.bool true,.int .i64 z])) X):
 Oper.wp Tryz.prog ⟨some t,.build 95 #[(0,.const (.bool true)),(1,.tmp j)],ty,pos,af,none⟩ a X K Q:=by
 have h:=q0x h1;go_simp;exact hK
theorem j4R{t i j:Tmp}{X:World}{g n c k:Nat}(h1:a.eval (.tmp i)= .slice (some ⟨g,0,none⟩) n c)(h2:a.eval (.tmp j)= .int .i64 (k:Int))(hk:k<n)(hK:K (a.put (some t) (.pointer (some ⟨g,k*2,none⟩))) X):
 Oper.wp Tryz.prog ⟨some t,.indexAddr 33 (.tmp i) (.tmp j),ty,pos,af,none⟩ a X K Q:=by
 have e1:=q0x h1;have e2:=q0x h2;have k1:(0:Int)<=(k:Int):=by omega
 have k2:(k:Int)<(n:Int):=by omega
 go_simp;exact hK
theorem v4x{i j:Tmp}{X:World}{g p:Nat}{b:Bool}{z:Int}{u0 u1:Value}(h1:a.eval (.tmp i)= .pointer (some ⟨g,p,none⟩))(h2:a.eval (.tmp j)= .agg #[.bool b,.int .i64 z])(c0:X.cell? ⟨g,p,none⟩=some u0)(c1:X.cell? ⟨g,p+1,none⟩=some u1)(f0:X.frozen? ⟨g,p,none⟩=false)(f1:X.frozen? ⟨g,p+1,none⟩=false)(hK:K a (z0y X g p ⟨b,z⟩)):
 Oper.wp Tryz.prog ⟨none,.store 95 (.tmp i) (.tmp j),ty,pos,af,none⟩ a X K Q:=by
 have e1:=q0x h1;have e2:=q0x h2;unfold z0y at hK;go_simp;exact hK
theorem v2e{t i j:Tmp}{X:World}{u v:Value}(h1:a.eval (.tmp i)=u)(h2:a.eval (.tmp j)=v)(hC:Calls Tryz.prog 112 #[u,v] X post)(hK:∀e w',post e w' ->∃x,e= .returned x/\K (a.put (some t) x) w'):
 Oper.wp Tryz.prog ⟨some t,.call {callee:= .value (.func 112),args:= #[.tmp i,.tmp j],argTypes:=ats},ty,pos,af,none⟩ a X K Q:=by
 have e1:=q0x h1;have e2:=q0x h2;go_simp;refine hC.mono (λe w' hp=> ?_);obtain⟨x,rfl,hx⟩:=hK e w' hp;exact hx
end
section
open Go.RowKit
variable{a:Act}{K:Act → World → Prop}{af:Array Edge}{ats:Array TypeId}{post:Ending → World → Prop}{Q:Exit → Act → World → Prop}{s:HSh}{H:q0a}{pos:String}{ty:TypeId}
theorem x1i{w X Y:World}{B C n:Nat}{c v:Int}{fr:List Int}{vf:Value}(hn:n+1<B)(hwn:C<=B)(hb:Below C w Y)(hsz:X.heap.size<=Y.heap.size)(hY:∀g,n+1<g->g<X.heap.size->Y.heap[g]? =X.heap[g]?)(m:HM X B s H)(f:q0i X B vf fr)(d:∀g,vf.ownBlock=some g->¬q0u s g):q0z w C (H,⟨c,v,fr⟩) (.returned (.tuple #[s.v,q0m c v vf])) Y:=
 ⟨s,vf,rfl,z0G (y0l m hsz (λg hg=>hY g (by have:=(z0X m hg).1;omega) (z0X m hg).2)) hwn,q0A (q0v f (λg hg=>hY g (by have:=(q0n f g hg).1;omega) (q0n f g hg).2)) hwn,d,hb⟩
structure RJ(w wr:World)(C n:Nat)(x0 x1 x2 x3:Value)(dn:Nat->Prop)(X:World):Prop where
 bel:Below C w X
 ge:wr.heap.size<=X.heap.size
 oth:∀i,i≠n->i<wr.heap.size->X.heap[i]? =wr.heap[i]?
 f0:¬dn 2->q0d X n (.slice none 0 0) (.slice none 0 0) (.slice none 0 0) (.slice none 0 0)
 f1:dn 2->q0d X n x0 x1 x2 x3
theorem RJ.later{w wr X Y:World}{C n:Nat}{x0 x1 x2 x3:Value}{dn:Nat->Prop}{i:Nat}(hw:C<=wr.heap.size)(h:RJ w wr C n x0 x1 x2 x3 dn X)(hi:i≠2)(hb:Below X.heap.size X Y):RJ w wr C n x0 x1 x2 x3 (λj=>dn j\/j=i) Y:=
 ⟨h.bel.trans (hb.mono (Nat.le_trans hw h.ge)),Nat.le_trans h.ge hb.size,λj hj hl=>(hb.block j (Nat.lt_of_lt_of_le hl h.ge)).trans (h.oth j hj hl),λhn=>(h.f0 (λh2=>hn (.inl h2))).later hb,λhd=>(h.f1 (hd.resolve_right (λe=>hi e.symm))).later hb⟩
def RQ2(hv av:Value):Nat->World->Value->Prop
 |0,_,v=>v=hv
 |1,_,v=>v=av
 |_,_,_=>True
theorem y0x{i j:Tmp}{X:World}{g:Nat}{u0 u1 u2:Value}{c v:Int}{x:Option Addr}{n cc:Nat}(h1:a.eval (.tmp i)= .pointer (some ⟨g,0,none⟩))(h2:a.eval (.tmp j)= .agg #[.int .i64 c,.int .i64 v,.slice x n cc])(hf:q0k X g u0 u1 u2)(hK:K a (q0g X g (.int .i64 c) (.int .i64 v) (.slice x n cc))):
 Oper.wp Tryz.prog ⟨none,.store 37 (.tmp i) (.tmp j),ty,pos,af,none⟩ a X K Q:=by
 have e1:=q0x h1;have e2:=q0x h2;obtain⟨k0,k1,k2⟩:=hf.cells;obtain⟨z0,z1,z2⟩:=hf.frees;unfold q0g at hK;clear hf;go_simp;exact hK
theorem v1b{t i:Tmp}{X:World}{g:Nat}{u0 u1 u2:Value}(h1:a.eval (.tmp i)= .pointer (some ⟨g,0,none⟩))(hf:q0k X g u0 u1 u2)(hK:K (a.put (some t) (.agg #[u0,u1,u2])) X):
 Oper.wp Tryz.prog ⟨some t,.load 37 (.tmp i),ty,pos,af,none⟩ a X K Q:=by
 have h:=q0x h1;obtain⟨k0,k1,k2⟩:=hf.cells;clear hf;go_simp;exact hK
theorem q3N{t:Tmp}{X:World}(hC:Calls Tryz.prog 44 #[.int .i64 2] X post)(hK:∀e w',post e w' ->∃x,e= .returned x/\K (a.put (some t) x) w'):
 Oper.wp Tryz.prog ⟨some t,.call {callee:= .value (.func 44),args:= #[.const (.int .i64 2)],argTypes:=ats},ty,pos,af,none⟩ a X K Q:=by
 go_simp;refine hC.mono (λe w' hp=> ?_);obtain⟨x,rfl,hx⟩:=hK e w' hp;exact hx
end
section
open Go.RowKit
variable{ops:Array Oper}{Q:Exit → Act → World → Prop}
theorem j1l{P:Program}{id:Nat}{a0:Act}{w0:World}(n:Nat)(hm:P.follows .mixedOrders=true)(hg:v1J ops n a0.tmps.size=true)(J:(Nat->Prop)->(Nat->Value)->World->Prop)(hJ:∀f,J (λ_=>False) f w0.drew)(hstep:∀i o,i<n->ops[i]? =some o->∀(a:Act)(X:World)(dn:Nat->Prop)(f:Nat->Value),J dn f X->x0U ops a0 a->(∀j t,z0a ops j=some t->a.eval (.tmp t)=f j)->¬dn i->(∀e∈o.after,Region.binds .any e=true->dn e.on)->
 o.wp P a X (λa' X' =>∃v,a' =a.put o.dst v/\J (λj=>dn j\/j=i) (λj=>if j=i then v else f j) X') Q) (hlast:∀o,ops[n]? =some o->∀(a:Act)(X:World)(dn:Nat->Prop)(f:Nat->Value),J dn f X->x0U ops a0 a->(∀j t,z0a ops j=some t->a.eval (.tmp t)=f j)->(∀j,j<n->dn j)->
 o.wp P a X (λa' X' =>Q .normal a' X') Q):(Code.region id ops true).wp P Q a0 w0:=by
 unfold v1J at hg;simp only[Bool.and_eq_true,beq_iff_eq,List.all_eq_true,List.any_eq_true,List.mem_range,decide_eq_true_eq]at hg;obtain⟨⟨⟨⟨hsz,hord⟩,huse⟩,hdis⟩,hin⟩:=hg
 have hord2:∀i o,ops[i]? =some o->o.guard=none/\∀e∈o.after,Region.binds .any e=true->e.on<i:=by
  intro i o ho;have hi:i<n+1:=by have:=(Array.getElem?_eq_some_iff.1 ho).1;omega
  have h:=hord i hi;rw[ho]at h;simp only[Option.map_some,Option.getD_some,Bool.and_eq_true,Option.isNone_iff_eq_none,Array.all_eq_true']at h;refine⟨h.1,λe he hb=> ?_⟩;have:=h.2 e he;rw[hb]at this;simpa using this
 have huse2:∀j,j<n->∃i o e,j<i/\ops[i]? =some o/\e∈o.after/\Region.binds .any e=true/\e.on=j:=by
  intro j hj;obtain⟨i,hi,hji,h⟩:=huse j hj
  cases ho:ops[i]?with
  |none=>rw[ho]at h;simp at h
  |some o=>rw[ho]at h;simp only[Option.map_some,Option.getD_some,Array.any_eq_true']at h;obtain⟨e,he,hb⟩:=h;simp only[Bool.and_eq_true,beq_iff_eq]at hb;exact⟨i,o,e,hji,ho,he,hb.1,hb.2⟩
 have hdis2:∀i j d,i<n+1->j<n+1->z0a ops i=some d->z0a ops j=some d->i=j:=by intro i j d hi hj h1 h2;have h:=hdis i hi j hj;rw[h1,h2]at h;simpa using h
 have hin2:∀i d,i<n+1->z0a ops i=some d->d<a0.tmps.size:=by intro i d hi h1;have h:=hin i hi;rw[h1]at h;simpa using h
 have inR:∀{l:Array Bool}{i:Nat},i∈Region.ready .any ops l->l.getD i true=false/\∃o,ops[i]? =some o/\∀e∈o.after,Region.binds .any e=true->l.getD e.on false=true:=λh=>mem_ready.1 h;refine wp_region_any hm ?_
 refine v1y (λl a w=>l.size=n+1/\(∀i o,ops[i]? =some o->l.getD i false=true->∀e∈o.after,Region.binds .any e=true->l.getD e.on false=true)/\
  ((l.getD n false=false/\x0U ops a0 a/\∃f,J (λi=>i<n/\l.getD i false=true) f w/\∀j t,z0a ops j=some t->a.eval (.tmp t)=f j)\/((∀i,i<n+1->l.getD i false=true)/\Q .normal a w))) ?_ ?_ _ _ _ _ ?_ ?_
 ·rintro l a w ⟨h1,h2,h3⟩ hr;have hall:=v1q (λi o ho=>(hord2 i o ho).2) h1 hsz hr;rcases h3 with⟨h3,_⟩|⟨_,h3⟩
  ·rw[hall n (by omega)]at h3;cases h3
  ·exact h3
 ·rintro l a w i ⟨h1,h2,h3⟩ hi;obtain⟨hu,o,ho,hdep⟩:=inR hi;have hil:i<n+1:=by have:=(Array.getElem?_eq_some_iff.1 ho).1;omega
  have hil2:i<l.size:=by omega
  have hset:∀j,(l.setIfInBounds i true).getD j false=if i=j then true else l.getD j false:=by
   intro j;by_cases e:i=j
   ·subst e;simp[Array.getD_eq_getD_getElem?,hil2]
   ·simp[Array.getD_eq_getD_getElem?,Array.getElem?_setIfInBounds_ne e,e]
  have hcl:∀k o,ops[k]? =some o->(l.setIfInBounds i true).getD k false=true->∀e∈o.after,Region.binds .any e=true->(l.setIfInBounds i true).getD e.on false=true:=by
   intro k o2 hk hkl e he hb;rw[hset];split
   ·rfl
   ·rw[hset]at hkl;split at hkl
    ·rename_i hik
     subst hik;rw[ho]at hk;injection hk with hk;subst hk;exact hdep e he hb
    ·exact h2 k o2 hk hkl e he hb
  have hui:l.getD i false=false:=by simp only[Array.getD_eq_getD_getElem?,Array.getElem?_eq_getElem hil2,Option.getD_some]at hu ⊢;exact hu
  rcases h3 with⟨h3,h4,f,h5,h6⟩|⟨h3,_⟩
  rotate_left
  ·rw[h3 i hil]at hui;cases hui
  have hdst:z0a ops i=o.dst:=by unfold z0a;rw[ho];rfl
  have hdeps:∀e∈o.after,Region.binds .any e=true->e.on<n/\l.getD e.on false=true:=by intro e he hb;have h7:=(hord2 i o ho).2 e he hb;exact⟨by omega,hdep e he hb⟩
  unfold wpOp;rw[ho];simp only[Region.wanted,(hord2 i o ho).1,if_true];by_cases hin3:i<n
  ·refine .inl (Oper.wp_mono (λa' w' h=> ?_) (hstep i o hin3 ho a w _ f h5 h4 h6 (λh=>by rw[h.2]at hui;cases hui) hdeps));obtain⟨v,rfl,hb⟩:=h;refine⟨by simpa using h1,hcl,.inl ⟨?_,by rw[<-hdst];exact h4.put i v,(λj=>if j=i then v else f j),?_,?_⟩⟩
   ·rw[hset,if_neg (by omega)];exact h3
   ·have hdn:(λj=>j<n/\(l.setIfInBounds i true).getD j false=true)=(λj=>(j<n/\l.getD j false=true)\/j=i):=funext λj=>propext (by
     rw[hset];by_cases e:i=j
     ·subst e;simp[hin3]
     ·rw[if_neg e];constructor
      ·exactλh=> .inl h
      ·rintro(h|h)
       ·exact h
       ·exact absurd h.symm e)
    rw[hdn];exact hb
   ·intro j t ht
    have hjn:j<n+1:=by
     unfold z0a at ht
     cases ho2:ops[j]?with
     |none=>rw[ho2]at ht;cases ht
     |some o2=>have:=(Array.getElem?_eq_some_iff.1 ho2).1;omega
    rw[<-hdst];show _=(if j=i then v else f j);by_cases e:j=i
    ·subst e;rw[if_pos rfl,ht,u0F,if_pos ⟨rfl,by rw[h4.size];exact hin2 j t hjn ht⟩]
    ·rw[if_neg e,<-h6 j t ht];have hne:∀d,z0a ops i=some d->d≠t:=λd hd e2=>e (hdis2 i j d (by omega) hjn hd (by rw[e2];exact ht)).symm
     cases hd:z0a ops i with
     |none=>rfl
     |some d=>rw[u0F,if_neg (λh=>hne d hd h.1)]
  ·obtain rfl:i=n:=by omega
   have key:∀m j,j+m=i->(l.setIfInBounds i true).getD j false=true:=by
    intro m
    induction m using Nat.strongRecOn with
    |_ m ih=>
     intro j hj;by_cases e:m=0
     ·rw[hset,if_pos (by omega)]
     ·obtain⟨k,o2,e2,hjk,hk,he2,hb2,hon⟩:=huse2 j (by omega);have hk2:k<i+1:=by have:=(Array.getElem?_eq_some_iff.1 hk).1;omega
      have:=hcl k o2 hk (ih (i - k) (by omega) k (by omega)) e2 he2 hb2;rw[hon]at this;exact this
   have hall:∀j,j<i->j<i/\l.getD j false=true:=λj hj=>⟨hj,by
    have:=key (i - j) j (by omega);rw[hset,if_neg (by omega)]at this;exact this⟩
   refine .inl (Oper.wp_mono (λa' w' h=> ?_) (hlast o ho a w _ f h5 h4 h6 hall));refine⟨by simpa using h1,hcl,.inr ⟨?_,h⟩⟩;intro j hj;exact key (i - j) j (by omega)
 ·simp[hsz,List.countP_replicate]
 ·refine⟨by simp[hsz],λi o _ hl=> ?_,.inl ⟨?_,x0U.refl _ _,λj=>(match z0a ops j with|some t=>a0.eval (.tmp t)|none=>undef),?_,?_⟩⟩
  ·simp only[Array.getD_eq_getD_getElem?,Array.getElem?_replicate]at hl;split at hl<;>simp at hl
  ·simp only[Array.getD_eq_getD_getElem?,Array.getElem?_replicate];split<;>rfl
  ·have hdn:(λi=>i<n/\(Array.replicate ops.size false).getD i false=true)=(λ_=>False):=funext λi=>propext ⟨λh=>by
    have hl:=h.2;simp only[Array.getD_eq_getD_getElem?,Array.getElem?_replicate]at hl;split at hl<;>simp at hl,λh=>h.elim⟩
   rw[hdn];exact hJ _
  ·intro j t ht;simp only[ht]
end
section
open Go.RowKit
variable{s:HSh}
structure JR(wb:World)(c:Nat)(R:q0a×z0D)(dn:Nat->Prop)(f:Nat->Value)(X:World)(s:HSh)(vf:Value):Prop where
 e:f c= .tuple #[s.v,q0m R.2.code R.2.val vf]
 m:HM X wb.heap.size s R.1
 o:q0i X wb.heap.size vf R.2.freed
 d:∀g,vf.ownBlock=some g->¬q0u s g
 e1:dn (c+1)->f (c+1)= .tuple #[s.v,q0m R.2.code R.2.val vf]
 e2:dn (c+2)->f (c+2)=s.v
 e3:dn (c+3)->f (c+3)=q0m R.2.code R.2.val vf
 far:∀k,k=c+4\/k=c+5->dn k->∀g,f k= .pointer (some ⟨g,0,none⟩)->¬q0u s g/\vf.ownBlock≠some g
 st:dn (c+6)->∀g,f (c+4)= .pointer (some ⟨g,0,none⟩)->q0d X g (.slice s.oa s.os.length s.oc) (.slice s.wa s.wn s.wc) (.slice s.ba s.bn s.bc) (.slice s.sa s.sn s.sc)
theorem JR.move{wb X Y:World}{c i:Nat}{R:q0a×z0D}{dn:Nat->Prop}{f:Nat->Value}{vf v:Value}(h:JR wb c R dn f X s vf)(hic:i≠c)(hi6:i≠c+6)(hb:Below X.heap.size X Y)(h68:dn (c+6)->dn (c+4))(hni:¬dn i)(v1:i=c+1->v= .tuple #[s.v,q0m R.2.code R.2.val vf])(v2:i=c+2->v=s.v)(v3:i=c+3->v=q0m R.2.code R.2.val vf)(v4:i=c+4\/i=c+5->∀g,v= .pointer (some ⟨g,0,none⟩)->X.heap.size<=g):
 JR wb c R (λj=>dn j\/j=i) (λj=>if j=i then v else f j) Y s vf:=by
 refine⟨?_,q0c h.m hb,q0o h.o hb,h.d,?_,?_,?_,?_,?_⟩
 ·show(if c=i then v else f c)=_
  rw[if_neg (λe=>hic e.symm)];exact h.e
 ·rintro(hd|hd)
  ·show(if c+1=i then v else f (c+1))=_
   rw[if_neg (λ(e:c+1=i)=>hni (e▸hd))];exact h.e1 hd
  ·show(if c+1=i then v else f (c+1))=_
   rw[if_pos hd];exact v1 hd.symm
 ·rintro(hd|hd)
  ·show(if c+2=i then v else f (c+2))=_
   rw[if_neg (λ(e:c+2=i)=>hni (e▸hd))];exact h.e2 hd
  ·show(if c+2=i then v else f (c+2))=_
   rw[if_pos hd];exact v2 hd.symm
 ·rintro(hd|hd)
  ·show(if c+3=i then v else f (c+3))=_
   rw[if_neg (λ(e:c+3=i)=>hni (e▸hd))];exact h.e3 hd
  ·show(if c+3=i then v else f (c+3))=_
   rw[if_pos hd];exact v3 hd.symm
 ·intro k hk hd g hg;replace hg:(if k=i then v else f k)= .pointer (some ⟨g,0,none⟩):=hg;by_cases e:k=i
  ·rw[if_pos e]at hg;have hl:=v4 (by omega) g hg;exact⟨q0D h.m (.inr hl),λe=>by have:=(q0n h.o _ e).2;omega⟩
  ·rw[if_neg e]at hg;exact h.far k hk (hd.resolve_right e) g hg
 ·rintro(hd|hd)
  ·intro g hg;replace hg:(if c+4=i then v else f (c+4))= .pointer (some ⟨g,0,none⟩):=hg;rw[if_neg (λ(e:c+4=i)=>hni (e▸h68 hd))]at hg;exact(h.st hd g hg).later hb
  ·exact absurd hd.symm hi6
structure JB(wb:World)(c:Nat)(R:q0a×z0D)(A:(Nat->Prop)->(Nat->Value)->World->Prop)(dn:Nat->Prop)(f:Nat->Value)(X:World):Prop where
 bel:Below wb.heap.size wb X
 cl:dn c->dn (c - 1)/\dn (c - 3)
 cl2:dn (c+1)\/dn (c+2)\/dn (c+3)\/dn (c+6)->dn c
 cl6:dn (c+6)->dn (c+4)
 arg:¬dn c->A dn f X
 res:dn c->∃s vf,JR wb c R dn f X s vf
 b8:dn (c+4)->∃g,f (c+4)= .pointer (some ⟨g,0,none⟩)/\wb.heap.size<=g/\g<X.heap.size/\(¬dn (c+6)->q0d X g (.slice none 0 0) (.slice none 0 0) (.slice none 0 0) (.slice none 0 0))
 b9:dn (c+5)->∃g,f (c+5)= .pointer (some ⟨g,0,none⟩)/\wb.heap.size<=g/\q0k X g (.int .i64 0) (.int .i64 0) (.slice none 0 0)
 df:dn (c+4)->dn (c+5)->f (c+4)≠f (c+5)
theorem JB.move{wb X Y:World}{c i:Nat}{R:q0a×z0D}{A:(Nat->Prop)->(Nat->Value)->World->Prop}{dn:Nat->Prop}{f:Nat->Value}{v:Value}(h:JB wb c R A dn f X)(hic:i≠c)(hi6:i≠c+6)(hb:Below X.heap.size X Y)(hni:¬dn i)(hcl:i=c+1\/i=c+2\/i=c+3->dn c)(hA:¬dn c->A dn f X->A (λj=>dn j\/j=i) (λj=>if j=i then v else f j) Y)(v1:i=c+1->v=f c)(v2:i=c+2->∀s vf,JR wb c R dn f X s vf->v=s.v)(v3:i=c+3->∀s vf,JR wb c R dn f X s vf->v=q0m R.2.code R.2.val vf)(v4:i=c+4->∃g,v= .pointer (some ⟨g,0,none⟩)/\X.heap.size<=g/\q0d Y g (.slice none 0 0) (.slice none 0 0) (.slice none 0 0) (.slice none 0 0))(v5:i=c+5->∃g,v= .pointer (some ⟨g,0,none⟩)/\X.heap.size<=g/\q0k Y g (.int .i64 0) (.int .i64 0) (.slice none 0 0)):
 JB wb c R A (λj=>dn j\/j=i) (λj=>if j=i then v else f j) Y:=by
 have hsz:=h.bel.size;have old:∀k,dn k->(if k=i then v else f k)=f k:=λk hk=>if_neg (λ(e:k=i)=>hni (e▸hk));refine⟨h.bel.trans (hb.mono hsz),λhd=>⟨.inl (h.cl (hd.resolve_right (λe=>hic e.symm))).1,.inl (h.cl (hd.resolve_right (λe=>hic e.symm))).2⟩,λhd=> .inl ?_,λhd=> .inl (h.cl6 (hd.resolve_right (λe=>hi6 e.symm))),λhn=>hA (λhh=>hn (.inl hh)) (h.arg (λhh=>hn (.inl hh))),λhd=> ?_,λhd=> ?_,λhd=> ?_,λh4 h5=> ?_⟩
 ·rcases hd with(hd|hd)|(hd|hd)|(hd|hd)|(hd|hd)
  ·exact h.cl2 (.inl hd)
  ·exact hcl (.inl hd.symm)
  ·exact h.cl2 (.inr (.inl hd))
  ·exact hcl (.inr (.inl hd.symm))
  ·exact h.cl2 (.inr (.inr (.inl hd)))
  ·exact hcl (.inr (.inr hd.symm))
  ·exact h.cl2 (.inr (.inr (.inr hd)))
  ·exact absurd hd.symm hi6
 ·obtain⟨s,vf,j⟩:=h.res (hd.resolve_right (λe=>hic e.symm));refine⟨s,vf,j.move hic hi6 hb h.cl6 hni (λe=>(v1 e).trans j.e) (λe=>v2 e s vf j) (λe=>v3 e s vf j) (λe g hg=> ?_)⟩;rcases e with e|e
  ·obtain⟨g2,e2,hl,_⟩:=v4 e;rw[e2]at hg;cases hg;exact hl
  ·obtain⟨g2,e2,hl,_⟩:=v5 e;rw[e2]at hg;cases hg;exact hl
 ·show ∃g,(if c+4=i then v else f (c+4))=_/\_
  rcases hd with hd|hd
  ·rw[old _ hd];obtain⟨g,e,h1,h2,h3⟩:=h.b8 hd;exact⟨g,e,h1,Nat.lt_of_lt_of_le h2 hb.size,λhn=>(h3 (λhh=>hn (.inl hh))).later hb⟩
  ·rw[if_pos hd];obtain⟨g,e,h1,h2⟩:=v4 hd.symm;exact⟨g,e,by omega,h2.lt,λ_=>h2⟩
 ·show ∃g,(if c+5=i then v else f (c+5))=_/\_
  rcases hd with hd|hd
  ·rw[old _ hd];obtain⟨g,e,h1,h2⟩:=h.b9 hd;exact⟨g,e,h1,h2.later hb⟩
  ·rw[if_pos hd];obtain⟨g,e,h1,h2⟩:=v5 hd.symm;exact⟨g,e,by omega,h2⟩
 ·show(if c+4=i then v else f (c+4))≠(if c+5=i then v else f (c+5))
  by_cases e4:c+4=i
  ·obtain⟨g,e,h1,_⟩:=v4 e4.symm;have d5:dn (c+5):=h5.resolve_right (by omega);obtain⟨g2,e2,_,t2⟩:=h.b9 d5;rw[if_pos e4,old _ d5,e,e2];intro hh
   cases hh
   have:=t2.lt;omega
  ·by_cases e5:c+5=i
   ·obtain⟨g,e,h1,_⟩:=v5 e5.symm;have d4:dn (c+4):=h4.resolve_right e4;obtain⟨g2,e2,_,t2,_⟩:=h.b8 d4;rw[if_pos e5,old _ d4,e,e2];intro hh
    cases hh
    omega
   ·rw[if_neg e4,if_neg e5];exact h.df (h4.resolve_right e4) (h5.resolve_right e5)
theorem JB.call{wb X Y:World}{c:Nat}{R:q0a×z0D}{A:(Nat->Prop)->(Nat->Value)->World->Prop}{dn:Nat->Prop}{f:Nat->Value}{vf:Value}(h:JB wb c R A dn f X)(hb:Below X.heap.size X Y)(hni:¬dn c)(hc1:dn (c - 1))(hc3:dn (c - 3))(m:HM Y X.heap.size s R.1)(o:q0i Y X.heap.size vf R.2.freed)(d:∀g,vf.ownBlock=some g->¬q0u s g):
 JB wb c R A (λj=>dn j\/j=c) (λj=>if j=c then .tuple #[s.v,q0m R.2.code R.2.val vf]else f j) Y:=by
 have hsz:=h.bel.size;have n1:¬dn (c+1):=λhh=>hni (h.cl2 (.inl hh));have n2:¬dn (c+2):=λhh=>hni (h.cl2 (.inr (.inl hh)));have n3:¬dn (c+3):=λhh=>hni (h.cl2 (.inr (.inr (.inl hh))));have n6:¬dn (c+6):=λhh=>hni (h.cl2 (.inr (.inr (.inr hh))));have old:∀k,k≠c->(if k=c then(.tuple #[s.v,q0m R.2.code R.2.val vf]:Value)else f k)=f k:=λk hk=>if_neg hk;refine⟨h.bel.trans (hb.mono hsz),λ_=>⟨.inl hc1,.inl hc3⟩,λhd=> .inr rfl,λhd=>absurd (hd.resolve_right (by omega)) n6,λhn=>absurd (.inr rfl) hn,λ_=>⟨s,vf,?_⟩,λhd=> ?_,λhd=> ?_,λh4 h5=> ?_⟩
 ·refine⟨if_pos rfl,z0G m hsz,q0A o hsz,d,λhd=>absurd (hd.resolve_right (by omega)) n1,λhd=>absurd (hd.resolve_right (by omega)) n2,λhd=>absurd (hd.resolve_right (by omega)) n3,λk hk hd g hg=> ?_,λhd=>absurd (hd.resolve_right (by omega)) n6⟩;replace hg:(if k=c then(.tuple #[s.v,q0m R.2.code R.2.val vf]:Value)else f k)= .pointer (some ⟨g,0,none⟩):=hg;rw[old k (by omega)]at hg;have hdk:dn k:=hd.resolve_right (by omega)
  have hgX:g<X.heap.size:=by
   rcases hk with rfl|rfl
   ·obtain⟨g2,e2,_,hl,_⟩:=h.b8 hdk;rw[e2]at hg;cases hg;exact hl
   ·obtain⟨g2,e2,_,t⟩:=h.b9 hdk;rw[e2]at hg;cases hg;exact t.lt
  exact⟨q0D m (.inl hgX),λe=>by have:=(q0n o _ e).1;omega⟩
 ·show ∃g,(if c+4=c then(.tuple #[s.v,q0m R.2.code R.2.val vf]:Value)else f (c+4))=_/\_
  rw[old _ (by omega)];obtain⟨g,e,h1,h2,h3⟩:=h.b8 (hd.resolve_right (by omega));exact⟨g,e,h1,Nat.lt_of_lt_of_le h2 hb.size,λhn=>(h3 n6).later hb⟩
 ·show ∃g,(if c+5=c then(.tuple #[s.v,q0m R.2.code R.2.val vf]:Value)else f (c+5))=_/\_
  rw[old _ (by omega)];obtain⟨g,e,h1,h2⟩:=h.b9 (hd.resolve_right (by omega));exact⟨g,e,h1,h2.later hb⟩
 ·show(if c+4=c then(.tuple #[s.v,q0m R.2.code R.2.val vf]:Value)else f (c+4))≠(if c+5=c then(.tuple #[s.v,q0m R.2.code R.2.val vf]:Value)else f (c+5))
  rw[old _ (by omega),old _ (by omega)];exact h.df (h4.resolve_right (by omega)) (h5.resolve_right (by omega))
theorem JB.store{wb X:World}{c g:Nat}{R:q0a×z0D}{A:(Nat->Prop)->(Nat->Value)->World->Prop}{dn:Nat->Prop}{f:Nat->Value}{vf v:Value}(h:JB wb c R A dn f X)(hni:¬dn (c+6))(hdc:dn c)(hd4:dn (c+4))(j:JR wb c R dn f X s vf)(hg:f (c+4)= .pointer (some ⟨g,0,none⟩)):
 JB wb c R A (λk=>dn k\/k=c+6) (λk=>if k=c+6 then v else f k) (q0p X g (.slice s.oa s.os.length s.oc) (.slice s.wa s.wn s.wc) (.slice s.ba s.bn s.bc) (.slice s.sa s.sn s.sc)):=by
 obtain⟨g2,e2,hlo,hlt,hF⟩:=h.b8 hd4;rw[hg]at e2
 cases e2
 have old:∀k,k≠c+6->(if k=c+6 then v else f k)=f k:=λk hk=>if_neg hk;have hsz:(q0p X g (.slice s.oa s.os.length s.oc) (.slice s.wa s.wn s.wc) (.slice s.ba s.bn s.bc) (.slice s.sa s.sn s.sc)).heap.size=X.heap.size:=z0U _ _ _ _ _ _;have hot:∀i,i≠g->(q0p X g (.slice s.oa s.os.length s.oc) (.slice s.wa s.wn s.wc) (.slice s.ba s.bn s.bc) (.slice s.sa s.sn s.sc)).heap[i]? =X.heap[i]?:=λi hi=>q0T _ _ _ _ _ _ i hi;have hfar:=j.far (c+4) (.inl rfl) hd4 g hg;refine⟨?_,λ_=>⟨.inl (h.cl hdc).1,.inl (h.cl hdc).2⟩,λ_=> .inl hdc,λ_=> .inl hd4,λhn=>absurd (.inl hdc) hn,λ_=>⟨s,vf,?_⟩,λ_=> ?_,λhd=> ?_,λh4 h5=> ?_⟩
 ·unfold q0p;iterate 4 refine Below.setCell ?_ (by simp only;exact hlo) _
  exact h.bel
 ·refine⟨(old c (by omega)).trans j.e,y0l j.m (by rw[hsz];exact Nat.le_refl _) (λi hi=>hot i (λe=>hfar.1 (e▸hi))),q0v j.o (λi hi=>hot i (λe=>hfar.2 (e▸hi))),j.d,λhd=>(old _ (by omega)).trans (j.e1 (hd.resolve_right (by omega))),λhd=>(old _ (by omega)).trans (j.e2 (hd.resolve_right (by omega))),λhd=>(old _ (by omega)).trans (j.e3 (hd.resolve_right (by omega))),λk hk hd i hi=> ?_,λ_ i hi=> ?_⟩
  ·exact j.far k hk (hd.resolve_right (by omega)) i ((old k (by omega)).symm.trans hi)
  ·have hi2:=(old (c+4) (by omega)).symm.trans hi;rw[hg]at hi2
   cases hi2
   exact q0d.setAll (hF hni) _ _ _ _
 ·exact⟨g,(old _ (by omega)).trans hg,hlo,by rw[hsz];exact hlt,λhn=>absurd (.inr rfl) hn⟩
 ·have hd5:dn (c+5):=hd.resolve_right (by omega);obtain⟨g9,e9,h1,h2⟩:=h.b9 hd5;refine⟨g9,(old _ (by omega)).trans e9,h1,h2.same (hot g9 (λe=>h.df hd4 hd5 ?_))⟩;rw[hg,e9,e]
 ·show(if c+4=c+6 then v else f (c+4))≠(if c+5=c+6 then v else f (c+5))
  rw[old _ (by omega),old _ (by omega)];exact h.df hd4 (h5.resolve_right (by omega))
end
section
open Go.RowKit
theorem x3X(v:Value)(H:q0a)(s:Nat)(o:q0E)(w:World)(h:RdH w v H)(hs:q0h H)(hf:WfH H)(h8:s<8)(g p:Nat)(f:Option Addr)(fc:Nat)(hg:g<w.heap.size)(hc:x0G w g p o (.slice f o.field.length fc))(hr:RdI w f o.field)(hfl:o.field.length<=1048576)(hwo:WfO o)(b:Bool)(hb:b=true↔j1v H s o):
 Calls Tryz.prog 94 #[v,.int .i64 (s:Int),.pointer (some ⟨g,p,none⟩)] w λe w' =>e= .returned (.bool b)/\Below w.heap.size w w' :=by
 have HR0:Hid (∀X,Below w.heap.size w X->RdH X v H):=λX hX=>q0s h hX;obtain⟨ao,co,aw,cw,ab,cb,sa,sc,rfl,ro,rwk,ri,rs⟩:=h;have HNO:Hid (¬j1v H s o->b=false):=λhn=>by cases b with|false=>rfl|true=>exact absurd (hb.1 rfl) hn
 have HY:Hid (j1v H s o->b=true):=hb.2;have l0:=hs.objs;have l2:=hs.buffer;have l3:=hs.sites;obtain⟨W,hW⟩:∃W,W=w.alloc (.cells #[.slice ao H.objs.length co,.slice aw H.weaks.length cw,.slice ab H.buffer.length cb,.slice sa H.sites.length sc] 35):=⟨_,rfl⟩;have BW:Below w.heap.size w W:=by rw[hW];exact bl1 _
 have hWs:W.heap.size=w.heap.size+1:=by rw[hW];simp
 have HK:Hid (∀X,Below W.heap.size W X->_):=λX(hX:Below W.heap.size W X)=>z0z w 35 (.slice ao H.objs.length co) (.slice aw H.weaks.length cw) (.slice ab H.buffer.length cb) (.slice sa H.sites.length sc) X (by rw[hWs,hW]at hX;exact hX);have HOB:Hid (∀X,Below W.heap.size W X->x0G X g p o (.slice f o.field.length fc)):=λX hX=>(hc.keep (λk=>BW.cell (p:=⟨g,k,none⟩) hg)).keep (λk=>hX.cell (p:=⟨g,k,none⟩) (Nat.lt_of_lt_of_le hg BW.size));have HRF:Hid (∀X,Below W.heap.size W X->RdI X f o.field):=λX hX=>q0t (q0t hr BW) hX;have HRI:Hid (∀X,Below W.heap.size W X->RdI X ab H.buffer):=λX hX=>q0t (q0t ri BW) hX;have HRD:Hid (∀X,Below W.heap.size W X->RdH X _ H):=λX hX=>HR0.out X (BW.trans (hX.mono BW.size));have HB:Hid (∀X,Below W.heap.size W X->Below w.heap.size w X):=λX hX=>BW.trans (hX.mono BW.size);have CS:Hid (∀X(z:Int),Below W.heap.size W X->q0w z->_):=λX z hX hz=>z0m _ H z X (HRD.out X hX) hs.objs hz.1 hz.2;have CE:Hid (∀X,Below W.heap.size W X->_):=λX hX=>u1y _ H s o X (HRD.out X hX) hs h8 g p f fc (Nat.lt_of_lt_of_le (Nat.lt_of_lt_of_le hg BW.size) hX.size) (HOB.out X hX);have CI:Hid (∀X,_):=λX=>q1u (s:Int) o.gen X;have CH:Hid (∀X,Below W.heap.size W X->_):=λX hX=>x2u X ab cb H.buffer (idZ (s:Int) o.gen) (HRI.out X hX) (by omega);have hebd:=j2i H hs (s:Int);have HMZ:Hid (u0o H (s:Int) o=IntKind.i64.wrap (IntKind.i64.wrap (o.holds+o.roots)+x0a H (s:Int))):=rfl;generalize u0o H (s:Int) o=MZ at*;obtain⟨w1,w2,w3,w4,w5,w6⟩:=hwo;have HW6:Hid (∀z∈o.field,q0w z):=w6;obtain⟨ol,og,ost,oh,orr,oc,ofl,op⟩:=o;simp only at*;unfold j1v j4s at HNO HY;simp only at HNO HY;unfold q0w at w1 w2 w3 w4 w5;have HNR:Hid (¬(1<=og/\(0<=ost/\ost<=(H.sites.length:Int) - 1)/\(0<=oh/\oh<=20)/\(0<=orr/\orr<=20))->b=false):=λhn=>HNO.out (λok=>hn ok.1);have HNF:Hid (∀k(h:k<ofl.length),¬(ofl[k]= -1\/0<=q0l H ofl[k])->b=false):=λk hk hn=>HNO.out (λok=>hn (ok.2.1 k hk));have HNC:Hid (¬(oc=oh+orr+x0a H (s:Int)/\1<=oc)->b=false):=λhn=>HNO.out (λok=>hn ⟨ok.2.2.1,ok.2.2.2.1⟩)
 have HNP:Hid (∀q,(1<=og/\(0<=ost/\ost<=(H.sites.length:Int) - 1)/\(0<=oh/\oh<=20)/\(0<=orr/\orr<=20))->(∀k(h:k<ofl.length),ofl[k]= -1\/0<=q0l H ofl[k])->(oc=oh+orr+x0a H (s:Int)/\1<=oc)->decide (idZ (s:Int) og∈H.buffer)=q->b=(op==q)):=λq a1 a2 a3 a4=>by
  by_cases e:op=q
  ·rw[HY.out ⟨a1,a2,a3.1,a3.2,by rw[a4];exact e⟩,e];simp
  ·rw[HNO.out (λok=>e (by rw[ok.2.2.2.2,a4]))];simp[e]
 generalize x0a H (s:Int)=E at*;generalize idZ (s:Int) og=id at*;generalize hmem:decide (id∈H.buffer)=mem at*;have HNP2:Hid ((1<=og/\(0<=ost/\ost<=(H.sites.length:Int) - 1)/\(0<=oh/\oh<=20)/\(0<=orr/\orr<=20))->(∀k(h:k<ofl.length),ofl[k]= -1\/0<=q0l H ofl[k])->(oc=oh+orr+E/\1<=oc)->b=(op==mem)):=λa1 a2 a3=>HNP.out mem a1 a2 a3 rfl;have hne:=q0b.some_ W;have z1:∀X:q0b W,X.on.cell? ⟨g,p+1,none⟩=some (.int .i64 og):=λX=>(HOB.out _ X.bel).c1;have z2:∀X:q0b W,X.on.cell? ⟨g,p+2,none⟩=some (.int .i64 ost):=λX=>(HOB.out _ X.bel).c2;have z3:∀X:q0b W,X.on.cell? ⟨g,p+3,none⟩=some (.int .i64 oh):=λX=>(HOB.out _ X.bel).c3;have z4:∀X:q0b W,X.on.cell? ⟨g,p+4,none⟩=some (.int .i64 orr):=λX=>(HOB.out _ X.bel).c4;have y3:∀X:q0b W,X.on.cell? ⟨w.heap.size,3,none⟩=some (.slice sa H.sites.length sc):=λX=>(HK.out _ X.bel).2.2.2;have r0:IntKind.i64.wrap ((H.sites.length:Int) - 1)=(H.sites.length:Int) - 1:=by rw[IntKind.wrap_i64];omega
 clear hb ro rwk ri rs hs hf HR0 HNO HY HNP hc hr w6 hmem hWs;by_cases e1:og<1
 ·have hb0:=HNR.out (λh=>by omega);subst hb0;have hq1:decide (og<1)=true:=decide_eq_true e1;go_enter Tryz.func94,Tryz.ntmps94;go_wp2;rw[<-hW];clear hW;refine q0j W bl0 (by kernel_rfl) (by kernel_rfl) ?_;repeat (go_big_quiet_step (fail))
  refine wpQuiet_nil ?_;rintro _ ⟨⟨X,hX⟩,rfl⟩;go_wp2;go_ret
  exact⟨rfl,HB.out _ hX⟩
 have hq1:decide (og<1)=false:=decide_eq_false e1;by_cases e2:0<=ost/\ost<=(H.sites.length:Int) - 1
 rotate_left
 ·have hb0:=HNR.out (λh=>e2 h.2.1);subst hb0;go_enter Tryz.func94,Tryz.ntmps94;go_wp2;rw[<-hW];clear hW;refine q0j W bl0 (by kernel_rfl) (by kernel_rfl) ?_
  repeat (go_big_quiet_step (first
   |(go_at_call_of 93 (Value.int IntKind.i64 ost);refine(y0U ost 0 ((H.sites.length:Int) - 1) _ (by omega)).mono ?_;rintro e w1 ⟨rfl,hw1⟩;exact⟨rfl,_,hw1⟩)))
  refine wpQuiet_nil ?_;rintro _ ⟨⟨X,hX⟩,rfl⟩;go_wp2;go_ret
  exact⟨rfl,HB.out _ hX⟩
 by_cases e3:0<=oh/\oh<=20
 rotate_left
 ·have hb0:=HNR.out (λh=>e3 h.2.2.1);subst hb0;go_enter Tryz.func94,Tryz.ntmps94;go_wp2;rw[<-hW];clear hW;refine q0j W bl0 (by kernel_rfl) (by kernel_rfl) ?_
  repeat (go_big_quiet_step (first
   |(go_at_call_of 93 (Value.int IntKind.i64 ost);refine(z0Z ost 0 ((H.sites.length:Int) - 1) _ e2.1 e2.2).mono ?_;rintro e w1 ⟨rfl,hw1⟩;exact⟨rfl,_,hw1⟩)
   |(go_at_call_of 93 (Value.int IntKind.i64 oh);refine(y0U oh 0 20 _ (by omega)).mono ?_;rintro e w1 ⟨rfl,hw1⟩;exact⟨rfl,_,hw1⟩)
   |(go_at_call_of 93 (Value.int IntKind.i64 orr);refine(y0U orr 0 20 _ (by omega)).mono ?_;rintro e w1 ⟨rfl,hw1⟩;exact⟨rfl,_,hw1⟩)))
  refine wpQuiet_nil ?_;rintro _ ⟨⟨X,hX⟩,rfl⟩;go_wp2;go_ret
  exact⟨rfl,HB.out _ hX⟩
 by_cases e4:0<=orr/\orr<=20
 rotate_left
 ·have hb0:=HNR.out (λh=>e4 h.2.2.2);subst hb0;go_enter Tryz.func94,Tryz.ntmps94;go_wp2;rw[<-hW];clear hW;refine q0j W bl0 (by kernel_rfl) (by kernel_rfl) ?_
  repeat (go_big_quiet_step (first
   |(go_at_call_of 93 (Value.int IntKind.i64 ost);refine(z0Z ost 0 ((H.sites.length:Int) - 1) _ e2.1 e2.2).mono ?_;rintro e w1 ⟨rfl,hw1⟩;exact⟨rfl,_,hw1⟩)
   |(go_at_call_of 93 (Value.int IntKind.i64 oh);refine(z0Z oh 0 20 _ e3.1 e3.2).mono ?_;rintro e w1 ⟨rfl,hw1⟩;exact⟨rfl,_,hw1⟩)
   |(go_at_call_of 93 (Value.int IntKind.i64 orr);refine(y0U orr 0 20 _ (by omega)).mono ?_;rintro e w1 ⟨rfl,hw1⟩;exact⟨rfl,_,hw1⟩)))
  refine wpQuiet_nil ?_;rintro _ ⟨⟨X,hX⟩,rfl⟩;go_wp2;go_ret
  exact⟨rfl,HB.out _ hX⟩
 have HR1:Hid (1<=og/\(0<=ost/\ost<=(H.sites.length:Int) - 1)/\(0<=oh/\oh<=20)/\(0<=orr/\orr<=20)):=⟨by omega,e2,e3,e4⟩;have z6:∀X:q0b W,X.on.cell? ⟨g,p+6,none⟩=some (.slice f ofl.length fc):=λX=>(HOB.out _ X.bel).c6;have HC6:Hid (∀X,Below W.heap.size W X->X.cell? ⟨g,p+6,none⟩=some (.slice f ofl.length fc)):=λX hX=>(HOB.out _ hX).c6;go_enter Tryz.func94,Tryz.ntmps94;go_wp2;rw[<-hW];clear hW;refine q0j W bl0 (by kernel_rfl) (by kernel_rfl) ?_
 repeat (go_big_quiet_step (first
  |(go_at_call_of 93 (Value.int IntKind.i64 ost);refine(z0Z ost 0 ((H.sites.length:Int) - 1) _ e2.1 e2.2).mono ?_;rintro e w1 ⟨rfl,hw1⟩;exact⟨rfl,_,hw1⟩)
  |(go_at_call_of 93 (Value.int IntKind.i64 oh);refine(z0Z oh 0 20 _ e3.1 e3.2).mono ?_;rintro e w1 ⟨rfl,hw1⟩;exact⟨rfl,_,hw1⟩)
  |(go_at_call_of 93 (Value.int IntKind.i64 orr);refine(z0Z orr 0 20 _ e4.1 e4.2).mono ?_;rintro e w1 ⟨rfl,hw1⟩;exact⟨rfl,_,hw1⟩)))
 refine wpQuiet_nil ?_;rintro _ ⟨⟨X,hX⟩,rfl⟩;have c6:=HC6.out _ hX;clear z1 z2 z3 z4 z6 y3 hne;go_wp2;clear c6;go_loopw[47] (λi X=>∃k:Nat,k<=ofl.length/\i= .int .i64 (k:Int)/\Below W.heap.size W X/\Hid (∀i(h:i<ofl.length),i<k->(ofl[i]= -1\/0<=q0l H ofl[i]))) (λi _=>ofl.length - (intOf i).toNat)
 case atStart=>exact⟨0,by omega,rfl,hX,λi _ h=>absurd h (by omega)⟩
 case round=>
  clear hX;obtain⟨k,hk,rfl,hX,HKK⟩:=hrel;by_cases hlt:k<ofl.length
  ·obtain⟨gf,of2,rfl,-,hcf⟩:=HRF.out _ hX k hlt;have HZN:Hid (¬(ofl[k]= -1\/0<=q0l H ofl[k])->b=false):=HNF.out k hlt
   have HZ:Hid ((ofl[k]= -1\/0<=q0l H ofl[k])->∀i(h:i<ofl.length),i<k+1->(ofl[i]= -1\/0<=q0l H ofl[i])):=λhz i hi hl=>by
    rcases Nat.lt_or_ge i k with h3|h3
    ·exact HKK.out i hi h3
    ·obtain rfl:i=k:=by omega
     exact hz
   have CS2:Hid (∀u:Unit,_):=λ(_:Unit)=>CS.out wr ofl[k] hX (HW6.out _ (List.getElem_mem hlt));generalize ofl[k]=z at*;obtain⟨k0,k1,k2,k3⟩:=HK.out _ hX;by_cases hz:z= -1
   ·have HFIN:Hid _:=HZ.out (.inl hz);subst hz;go_wp2;go_roundw
    case rel=>exact⟨k+1,by omega,by go_num,hX,HFIN⟩
    case measure=>simp[intOf];omega
   ·have hq:(z != -1)=true:=by rw[bne_iff_ne];exact hz
    by_cases hsl:q0l H z<0
    ·have hb0:=HZN.out (λh=>by rcases h with h|h;exact hz h;omega);subst hb0;clear HZ HZN;generalize q0l H z=sl at*;go_wp2_with fail
     refine(CS2.out ()).mono ?_;rintro e w1 ⟨rfl,b1⟩;have B1:=hX.trans (b1.mono hX.size);go_wp2;go_ret
     exact⟨rfl,HB.out _ B1⟩
    ·have HFIN:Hid _:=HZ.out (.inr (by omega));have hsl2:0<=q0l H z:=by omega
     clear HZ HZN;generalize q0l H z=sl at*;go_wp2_with fail
     refine(CS2.out ()).mono ?_;rintro e w1 ⟨rfl,b1⟩;have B1:=hX.trans (b1.mono hX.size);go_wp2;go_roundw
     case rel=>exact⟨k+1,by omega,by go_num,B1,HFIN⟩
     case measure=>simp[intOf];omega
  ·have ek:ofl.length<=k:=by omega
   have HLED:Hid (∀k(h:k<ofl.length),ofl[k]= -1\/0<=q0l H ofl[k]):=λi hi=>HKK.out i hi (by omega);have HOB2:Hid (∀X:q0b wr,x0G X.on g p _ _):=λX=>HOB.out X.on (hX.trans (X.bel.mono hX.size));have HK2:Hid (∀X:q0b wr,_):=λX=>HK.out X.on (hX.trans (X.bel.mono hX.size));have hne:=q0b.some_ wr;have z1:∀X:q0b wr,X.on.cell? ⟨g,p+1,none⟩=some (.int .i64 og):=λX=>(HOB2.out X).c1;have z3:∀X:q0b wr,X.on.cell? ⟨g,p+3,none⟩=some (.int .i64 oh):=λX=>(HOB2.out X).c3;have z4:∀X:q0b wr,X.on.cell? ⟨g,p+4,none⟩=some (.int .i64 orr):=λX=>(HOB2.out X).c4;have z5:∀X:q0b wr,X.on.cell? ⟨g,p+5,none⟩=some (.int .i64 oc):=λX=>(HOB2.out X).c5;have z7:∀X:q0b wr,X.on.cell? ⟨g,p+7,none⟩=some (.bool op):=λX=>(HOB2.out X).c7;have y0:∀X:q0b wr,X.on.cell? ⟨w.heap.size,0,none⟩=some (.slice ao H.objs.length co):=λX=>(HK2.out X).1;have y1:∀X:q0b wr,X.on.cell? ⟨w.heap.size,1,none⟩=some (.slice aw H.weaks.length cw):=λX=>(HK2.out X).2.1;have y2:∀X:q0b wr,X.on.cell? ⟨w.heap.size,2,none⟩=some (.slice ab H.buffer.length cb):=λX=>(HK2.out X).2.2.1;have y3:∀X:q0b wr,X.on.cell? ⟨w.heap.size,3,none⟩=some (.slice sa H.sites.length sc):=λX=>(HK2.out X).2.2.2;have CE2:Hid (∀X:q0b wr,_):=λX=>CE.out X.on (hX.trans (X.bel.mono hX.size));have r1:IntKind.i64.wrap (oh+orr)=oh+orr:=by rw[IntKind.wrap_i64];omega
   have r2:IntKind.i64.wrap (oh+orr+E)=oh+orr+E:=by rw[IntKind.wrap_i64];omega
   have hmz:=HMZ.out;rw[r1,r2]at hmz;subst hmz;clear r1 r2;by_cases g2:oc<1
   ·have hb0:=HNC.out (λh=>by omega);subst hb0;have hq2:decide (oc<1)=true:=decide_eq_true g2;go_wp2;refine q0j wr bl0 (by kernel_rfl) (by kernel_rfl) ?_;repeat (go_big_quiet_step (fail))
    refine wpQuiet_nil ?_;rintro _ ⟨⟨X,hY⟩,rfl⟩;go_wp2;go_ret
    exact⟨rfl,HB.out _ (hX.trans (hY.mono hX.size))⟩
   have hq2:decide (oc<1)=false:=decide_eq_false g2;by_cases g1:oc=oh+orr+E
   rotate_left
   ·have hb0:=HNC.out (λh=>g1 h.1);subst hb0;have hq:(oc !=oh+orr+E)=true:=by rw[bne_iff_ne];exact g1
    go_wp2;refine q0j wr bl0 (by kernel_rfl) (by kernel_rfl) ?_
    repeat (go_big_quiet_step (first
     |(go_at_call 120;refine(CE2.out _).mono ?_;rintro e w1 ⟨rfl,b1⟩;exact⟨rfl,q0b.step _ b1⟩)))
    refine wpQuiet_nil ?_;rintro _ ⟨⟨X,hY⟩,rfl⟩;go_wp2;go_ret
    exact⟨rfl,HB.out _ (hX.trans (hY.mono hX.size))⟩
   have hq:(oc !=oh+orr+E)=false:=by rw[bne_eq_false_iff_eq];exact g1
   have hbp:=HNP2.out HR1.out HLED.out ⟨g1,by omega⟩;clear HNR HNF HNC HNP2 HLED HKK g1 g2;go_wp2;refine q0j wr bl0 (by kernel_rfl) (by kernel_rfl) ?_
   repeat (go_big_quiet_step (first
    |(go_at_call 120;refine(CE2.out _).mono ?_;rintro e w1 ⟨rfl,b1⟩;exact⟨rfl,q0b.step _ b1⟩)))
   refine wpQuiet_nil ?_;intro X hXe;have hY:Below wr.heap.size wr X:=by obtain⟨n,hn⟩:=hXe;rw[hn];exact n.bel
   clear hXe;have B2:=hX.trans (hY.mono hX.size);have hne2:=q0b.some_ X;have CH2:Hid (∀Y:q0b X,_):=λY=>CH.out Y.on (B2.trans (Y.bel.mono B2.size));have x1:∀Y:q0b X,Y.on.cell? ⟨g,p+1,none⟩=some (.int .i64 og):=λY=>(HOB.out Y.on (B2.trans (Y.bel.mono B2.size))).c1;have x7:∀Y:q0b X,Y.on.cell? ⟨g,p+7,none⟩=some (.bool op):=λY=>(HOB.out Y.on (B2.trans (Y.bel.mono B2.size))).c7;have x2:∀Y:q0b X,Y.on.cell? ⟨w.heap.size,2,none⟩=some (.slice ab H.buffer.length cb):=λY=>(HK.out Y.on (B2.trans (Y.bel.mono B2.size))).2.2.1;clear z1 z3 z4 z5 z7 y0 y1 y2 y3 hne hq hq2;subst hbp;go_wp2;refine q0j X bl0 (by kernel_rfl) (by kernel_rfl) ?_
   repeat (go_big_quiet_step (first
    |(go_at_call 109;refine(CI.out _).mono ?_;rintro e w1 ⟨rfl,hw1⟩;exact⟨rfl,_,hw1⟩)
    |(go_at_call 119;refine(CH2.out _).mono ?_;rintro e w1 ⟨rfl,hw1⟩;exact⟨rfl,_,hw1⟩)))
   refine wpQuiet_nil ?_;rintro _ ⟨⟨Y,hZ⟩,rfl⟩;go_wp2;go_ret
   exact⟨rfl,HB.out _ (B2.trans (hZ.mono B2.size))⟩
end
end Go.Proofs.YtebgngofnmcklaaGreat
