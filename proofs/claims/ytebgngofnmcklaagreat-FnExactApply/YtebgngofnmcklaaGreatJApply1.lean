/- Texts of this claim, joined and laid tight: part 1 of 6. No condition. -/
import Derived.Below
import Derived.Test.YtebgngofnmcklaaGreatRows
import Derived.WalkKit
import Derived.ProofKit
import Derived.OwnWalk
import Derived.Laws.OwnMore
import Derived.Laws.CopyOwn
import Derived.Laws.IdiomStrings
import Derived.Laws.Concat
import Derived.Deep.RegionHeld
import Derived.OpenShut
import Derived.SliceStrings
import Derived.ChangeSlices
import Derived.Deep.Slices
import Derived.Lib.ItoaNum
import Derived.Lib.ItoaMem
import Derived.Lib.ItoaLen
import Derived.BigQuiet
import Derived.Orders
import Derived.Deep.AppendSrc
import Derived.Lib.SliceRun
import Derived.Maps.AppendAt
import Derived.Test.YtebgngofnmcklaaGreatShelf
namespace Go.Proofs.YtebgngofnmcklaaGreat
set_option linter.unusedVariables false
set_option maxRecDepth 100000
set_option maxHeartbeats 8000000
section
open Go.RowKit
theorem bl0{B:Nat}{w:World}:Below B w w:=Below.refl B w
theorem bl1{w:World}(o:Obj):Below w.heap.size w (w.alloc o):=(Below.refl _ _).alloc (Nat.le_refl _) o
theorem nl0{n:Nat}:n<=n:=Nat.le_refl n
end
section
open Go.RowKit
variable{a:Act}{ops:Array Oper}{Q:Exit → Act → World → Prop}
def z0C(z:Int):Value:= .int .i64 z
def q0i(w:World)(B:Nat)(v:Value)(zs:List Int):Prop:=w.ownsRow B 3 1 v zs.length (zs.map z0C)
theorem u1E:(Tryz.prog.info? 3).map (λi=>(i.zero,i.size,i.bytes))=some (some (.int .i64 0),1,8):=by kernel_rfl
theorem j0C(w:World)(B:Nat)(h:B<=w.heap.size):q0i (w.alloc (.cells #[] 3)) B (.slice (some ⟨w.heap.size,0,none⟩) 0 0) []:=
 World.ownsRow_made w #[] 0 h (by decide) rfl
theorem z0H(w:World)(B:Nat):q0i w B (.slice none 0 0) []:=World.ownsRow_nil w B 3 1
theorem v0Y{w:World}{B:Nat}{v:Value}{zs:List Int}(o:Obj)(h:q0i w B v zs):q0i (w.alloc o) B v zs:=World.ownsRow.alloc h o
theorem q0A{w:World}{B C:Nat}{v:Value}{zs:List Int}(h:q0i w B v zs)(hC:C<=B):q0i w C v zs:=by
 rcases h with⟨h1,h2|⟨g,cap,cur,h2,h3,h4⟩⟩
 ·exact⟨h1,.inl h2⟩
 ·exact⟨h1,.inr ⟨g,cap,cur,h2,by omega,h4⟩⟩
theorem x1w{w w' :World}{B X:Nat}{v:Value}{zs:List Int}(h:q0i w B v zs)(hb:Below X w w')(hX:∀g,v.ownBlock=some g->g<X):q0i w' B v zs:=by
 rcases h with⟨h1,h2|⟨g,cap,cur,h2,h3,h4,h5⟩⟩
 ·exact⟨h1,.inl h2⟩
 ·refine⟨h1,.inr ⟨g,cap,cur,h2,h3,?_,h5⟩⟩;rw[hb.block g (hX g (by rw[h2];rfl))];exact h4
theorem q0n{w:World}{B:Nat}{v:Value}{zs:List Int}(h:q0i w B v zs):∀g,v.ownBlock=some g->B<=g/\g<w.heap.size:=World.ownsRow.lt h
theorem q0o{w w' :World}{B:Nat}{v:Value}{zs:List Int}(h:q0i w B v zs)(hb:Below w.heap.size w w'):q0i w' B v zs:=
 x1w h hb (λg hg=>(q0n h g hg).2)
theorem x0N{w:World}{B:Nat}{v:Value}{zs:List Int}(h:q0i w B v zs):
 (v= .slice none 0 0/\zs=[])\/∃g cap,v= .slice (some ⟨g,0,none⟩) zs.length cap/\B<=g/\g<w.heap.size/\zs.length<=cap/\cap<=maxLen/\
  Hid (∀j(h:j<zs.length),w.cell? ⟨g,j,none⟩=some (.int .i64 zs[j])/\w.frozen? ⟨g,j,none⟩=false):=by
 have hh:=h;rcases h with⟨h1,⟨h2,h3⟩|⟨g,cap,cur,h2,h3,h4,h5,h6,h7⟩⟩
 ·exact .inl ⟨h2,List.eq_nil_of_length_eq_zero h3⟩
 ·refine .inr ⟨g,cap,h2,h3,(Array.getElem?_eq_some_iff.1 h4).1,h5,h6,?_⟩;subst h2;intro j hj;refine⟨?_,World.ownsRow.frozenAt hh j⟩;rw[World.ownsRow.cellAt hh j (by omega),List.getElem?_map,List.getElem?_eq_getElem hj];rfl
theorem y0Q{w:World}{B:Nat}{v:Value}{zs:List Int}(h:q0i w B v zs):
 ∃a cap,v= .slice a zs.length cap/\Hid (∀j(h:j<zs.length),∃g,a=some ⟨g,0,none⟩/\w.cell? ⟨g,j,none⟩=some (.int .i64 zs[j])):=by
 rcases x0N h with⟨rfl,rfl⟩|⟨g,cap,rfl,_,_,_,_,HC⟩
 ·exact⟨none,0,rfl,λj hj=>by simp at hj⟩
 ·exact⟨_,cap,rfl,λj hj=>⟨g,rfl,(HC.out j hj).1⟩⟩
theorem u1k{w:World}{B g n cap:Nat}{zs:List Int}(h:q0i w B (.slice (some ⟨g,0,none⟩) n cap) zs)(hn:n=zs.length)(j:Nat)(x:Int):q0i (w.setCell ⟨g,j,none⟩ (.int .i64 x)) B (.slice (some ⟨g,0,none⟩) n cap) (zs.set j x):=by subst hn;have h2:=World.ownsRow.stored h j (.int .i64 x);unfold q0i;rw[List.length_set,List.map_set];exact h2.1
theorem x0F{w:World}{rest:List Oper}{o:Oper}(hgd:o.guard=none)(s x:Operand)(ho:o.op= .call {callee:= .builtin .append,args:= #[s,x],argTypes:= #[24,24]})(B:Nat)(v:Value)(P:List Int)(hs:a.eval s=v)(hown:q0i w B v P)(ad:Addr)(Y:List Int)(m c:Nat)(hx:a.eval x= .slice (some ad) m c)(hm:m=Y.length)(hsrc:∀j u,(Y.map z0C)[j]? =some u->w.cell? (ad.add j)=some u)(hlen:P.length+Y.length<=16777216)(w0:World)(hb:Below B w0 w)(hB:B<=w0.heap.size)(h:∀v' w',q0i w' B v' (P++Y)->Below B w0 w' ->wpList Tryz.prog ops Q rest (a.put o.dst v') w'):wpList Tryz.prog ops Q (o::rest) a w:=by
 subst hm;obtain⟨i0,hi,hz0,hz1,hz2⟩:=info_parts u1E;have hsz:=hb.size;have hlt:=World.ownsRow.lt hown;refine wpList_append_own w hgd s x 24 ho B 3 i0 (.int .i64 0) 1 8 Tryz.underlying24 hi hz0 hz1 hz2 rfl (by decide) v P.length (P.map z0C) hs hown ad Y.length c (Y.map z0C) hx (by simp) hsrc ?_ ?_ ?_ ?_ ?_
 ·intro u hu;obtain⟨b,_,rfl⟩:=List.mem_map.1 hu;rfl
 ·unfold maxLen;omega
 ·omega
 ·omega
 ·intro v' w' hown' hgrow _;refine h v' w' ?_ ?_
  ·unfold q0i;rw[List.length_append,List.map_append];exact hown'
  ·refine hb.grown hgrow ?_ ?_
   ·omega
   ·intro r hr;exact(hlt r hr).1
theorem j0X(w:World)(x:Int):∀j v,([x].map z0C)[j]? =some v->(w.alloc (.cells #[.int .i64 x] 3)).cell? (Addr.add ⟨w.heap.size,0,none⟩ j)=some v:=by
 intro j v hj
 match j,hj with
 |0,hj=>rw[show(Addr.add ⟨w.heap.size,0,none⟩ 0)=⟨w.heap.size,0,none⟩from rfl,World.cell?_alloc_mark];simpa[z0C]using hj
 |j+1,hj=>simp at hj
end
section
open Go.RowKit
def RdI(w:World)(a:Option Addr)(zs:List Int):Prop:=∀j(h:j<zs.length),∃g off,a=some ⟨g,off,none⟩/\g<w.heap.size/\w.cell? ⟨g,off+j,none⟩=some (.int .i64 zs[j])
theorem q0Y{w:World}{B:Nat}{v:Value}{zs:List Int}(h:q0i w B v zs):∃a cap,v= .slice a zs.length cap/\Hid (RdI w a zs):=by
 rcases x0N h with⟨rfl,rfl⟩|⟨g,cap,rfl,_,hg,_,_,HC⟩
 ·exact⟨none,0,rfl,λj hj=>by simp at hj⟩
 ·exact⟨_,cap,rfl,λj hj=>⟨g,0,rfl,hg,by rw[Nat.zero_add];exact(HC.out j hj).1⟩⟩
theorem q0t{w w' :World}{a:Option Addr}{zs:List Int}(h:RdI w a zs)(hb:Below w.heap.size w w'):RdI w' a zs:=by intro j hj;obtain⟨g,off,ha,hg,hc⟩:=h j hj;exact⟨g,off,ha,Nat.lt_of_lt_of_le hg hb.size,(hb.cell (p:=⟨g,off+j,none⟩) hg).trans hc⟩
theorem u0N(w:World)(a:Option Addr)(cap n:Nat)(left:Int)(hn:n<=9223372036854775807)(h0:0<=left)(h1:left<=1048576):
 Calls Tryz.prog 28 #[.slice a n cap,.int .i64 left] w λe w' =>e= .returned (.int .i64 (if left - (n:Int)<0 then -1 else left - (n:Int)))/\w' =w:=by
 by_cases hl:left - (n:Int)<0
 ·rw[if_pos hl];go_enter Tryz.func28,Tryz.ntmps28;go_wp2;go_ret
  exact⟨rfl,rfl⟩
 ·rw[if_neg hl];have hl2:(n:Int)<=left:=by omega
  clear hl;go_enter Tryz.func28,Tryz.ntmps28;go_wp2;go_ret
  exact⟨rfl,rfl⟩
def q1a(zs:List Int)(j:Nat):List Int:=zs.take j++List.replicate (zs.length - j) 0
theorem x3T(zs:List Int)(j:Nat)(h:j<=zs.length):(q1a zs j).length=zs.length:=by unfold q1a;rw[List.length_append,List.length_take,List.length_replicate];omega
theorem q4G(zs:List Int):q1a zs 0=List.replicate zs.length 0:=by unfold q1a;simp
theorem x4H(zs:List Int):q1a zs zs.length=zs:=by unfold q1a;simp
theorem q4F(zs:List Int)(j:Nat)(h:j<zs.length):(q1a zs j).set j zs[j]=q1a zs (j+1):=by
 unfold q1a;have hl:(zs.take j).length=j:=by rw[List.length_take];omega
 rw[List.set_append_right _ _ (by omega),hl,Nat.sub_self];obtain⟨m,hm⟩:∃m,zs.length - j=m+1:=⟨zs.length - j - 1,by omega⟩;rw[hm,List.replicate_succ,List.set_cons_zero,show zs.length - (j+1)=m from by omega,List.take_succ_eq_append_getElem h,List.append_assoc];rfl
theorem q3E(n:Nat)(hn:n<=16777216)(u:World):∃u',(Instr.makeSlice 24 (.int .i64 (n:Int)) (.int .i64 (n:Int))).run Tryz.prog u= .ok (.slice (some ⟨u.heap.size,0,none⟩) n n) u' /\
 q0i u' u.heap.size (.slice (some ⟨u.heap.size,0,none⟩) n n) (List.replicate n 0)/\Below u.heap.size u u' :=by
 obtain⟨i0,hi,hz0,hz1,hz2⟩:=info_parts u1E;obtain⟨u',h1,h2,h3⟩:=run_make_full (P:=Tryz.prog) u u.heap.size 24 3 i0 (.int .i64 0) 1 Tryz.underlying24 hi hz0 hz1 .i64 .i64 n (by rw[hz2];omega) (by unfold maxLen;omega) nl0;refine⟨u',h1,?_,bl0.grown h3 nl0 (λr hr=>by cases hr)⟩;unfold q0i
 have e:(madeCells (Value.int .i64 0).cells (n*1)).toList=(List.replicate n 0).map z0C:=by
  have h3:(Value.int .i64 0).cells= #[Value.int .i64 0]:=by simp[Value.cells]
  rw[h3,toList_madeCells_one,Nat.mul_one];simp[z0C]
 rw[e]at h2;rw[List.length_replicate];exact h2
theorem j0U(w:World)(a:Option Addr)(cap:Nat)(zs:List Int)(h:RdI w a zs)(hn:zs.length<=16777216):
 Calls Tryz.prog 39 #[.slice a zs.length cap] w λe w' =>∃v,e= .returned v/\q0i w' w.heap.size v zs/\Below w.heap.size w w' :=by
 have HA:Hid (RdI w a zs):=h;obtain⟨u,hmk,O1,B1⟩:=q3E zs.length hn w;have HS:Hid (∀(j:Nat)(h:j<zs.length),(q1a zs j).set j zs[j]=q1a zs (j+1)):=q4F zs;have HL:Hid (∀j,j<=zs.length->(q1a zs j).length=zs.length):=x3T zs;have HO:Hid (q0i u w.heap.size (.slice (some ⟨w.heap.size,0,none⟩) zs.length zs.length) (q1a zs 0)):=by rw[q4G];exact O1
 have HF:Hid (q1a zs zs.length=zs):=x4H zs;obtain⟨n,hnn⟩:∃n,zs.length=n:=⟨_,rfl⟩;have Hn:Hid (zs.length=n):=hnn;rw[hnn]at hn hmk HO HF ⊢;clear h O1 hnn;go_enter Tryz.func39,Tryz.ntmps39;go_wp2;go_loopw[4] (λi wr=>∃j:Nat,j<=n/\i= .int .i64 j/\Hid (q0i wr w.heap.size (.slice (some ⟨w.heap.size,0,none⟩) n n) (q1a zs j))/\Below w.heap.size w wr) (λi _=>n - (intOf i).toNat)
 case atStart=>exact⟨0,by omega,rfl,HO,B1⟩
 case round=>
  obtain⟨j,hj,rfl,HW,hb⟩:=hrel;have hml:(q1a zs j).length=n:=by rw[HL.out j (by have:=Hn.out;omega),Hn.out]
  by_cases hlt:j<n
  ·have hj2:j<zs.length:=by have:=Hn.out;omega
   obtain⟨g,off,rfl,hg,hc1⟩:=HA.out j hj2;rw[<-hb.cell (p:=⟨g,off+j,none⟩) hg]at hc1;rcases x0N HW.out with⟨he,-⟩|⟨g2,cap2,he,-,-,-,-,HC⟩
   ·simp only[Value.slice.injEq]at he;omega
   ·simp only[Value.slice.injEq,Option.some.injEq,Addr.mk.injEq,and_true]at he;obtain⟨hg2,-,-⟩:=he;obtain⟨hcell,hfr⟩:=HC.out j (by rw[hml];exact hlt);rw[<-hg2]at hcell hfr;have HS2:Hid (q0i _ _ _ _):=u1k HW.out hml.symm j zs[j];rw[HS.out j hj2]at HS2;generalize zs[j]=z at hc1 HS2;generalize (q1a zs j)[j]=z2 at hcell;clear HC hml hg2;go_wp2;go_roundw
    case rel=>exact⟨j+1,by omega,by go_num,HS2,hb.setCell (p:=⟨w.heap.size,j,none⟩) nl0 _⟩
    case measure=>simp[intOf];omega
  ·obtain rfl:j=n:=by omega
   clear hml;go_wp2;go_ret
   exact⟨_,rfl,HF.out▸HW.out,hb⟩
theorem j0Q(w:World)(a b:Option Addr)(cap cap2:Nat)(zs:List Int)(h1:RdI w a zs)(h2:RdI w b zs)(hz:zs.length<=16777216):
 Calls Tryz.prog 47 #[.slice a zs.length cap,.slice b zs.length cap2] w λe w' =>e= .returned (.bool true)/\Below w.heap.size w w' :=by
 have HA:Hid (RdI w a zs):=h1;have HB:Hid (RdI w b zs):=h2;clear h1 h2;obtain⟨n,hn⟩:∃n,zs.length=n:=⟨_,rfl⟩;have Hn:Hid (zs.length=n):=hn;rw[hn]at hz ⊢;clear hn;go_enter Tryz.func47,Tryz.ntmps47;go_wp2;go_loopw[5] (λi wr=>∃j:Nat,j<=n/\i= .int .i64 j/\Below w.heap.size w wr/\Hid (∀p,wr.cell? p=w.cell? p)) (λi _=>n - (intOf i).toNat)
 case atStart=>exact⟨0,by omega,rfl,bl0,λ_=>rfl⟩
 case round=>
  obtain⟨j,hj,rfl,hb,HW⟩:=hrel;by_cases hlt:j<n
  ·have hj2:j<zs.length:=by have:=Hn.out;omega
   obtain⟨g,off,rfl,-,hc1⟩:=HA.out j hj2;obtain⟨g2,off2,rfl,-,hc2⟩:=HB.out j hj2;rw[<-HW.out]at hc1 hc2;generalize zs[j]=z at hc1 hc2;go_wp2;go_region
   all_goals
    go_wp2;go_roundw
    case rel=>exact⟨j+1,by omega,by go_num,hb.drew,λp=>HW.out p⟩
    case measure=>simp[intOf];omega
  ·go_wp2;go_ret
   exact⟨rfl,hb⟩
end
section
def txt(l:List UInt8):ByteArray:=⟨l.toArray⟩
theorem z0Q{a b:ByteArray}(h:a=b):Ending.returned (.string a)= .returned (.string b):=by rw[h]
theorem q0M(a b:List UInt8):txt a++txt b=txt (a++b):=ByteArray.mk_append_mk a b
theorem q0L(a:List UInt8):(txt a).size=a.length:=rfl
theorem y1k{P:Program}(src dst e:TypeId)(hs:P.underlying src=some (.slice e))(he:P.underlying e=some (.int .u8))(hd:P.underlying dst=some .string)
 (w:World) (x:Int) (h0:0<=x) (h1:x<256):
 (convert src dst (.slice (some ⟨w.heap.size,0,none⟩) 1 1)).run P (w.alloc (.cells #[.int .u8 x] e))= .ok (.string (txt [UInt8.ofNat x.toNat])) (w.alloc (.cells #[.int .u8 x] e)):=by
 refine run_convert_bytes_back (P:=P) (w.alloc (.cells #[.int .u8 x] e)) src dst e ⟨w.heap.size,0,none⟩ 1 [UInt8.ofNat x.toNat] hs he hd ?_;intro j hj;have hj0:j=0:=by simp at hj;exact hj
 subst hj0;rw[show(Addr.add ⟨w.heap.size,0,none⟩ 0)=⟨w.heap.size,0,none⟩from rfl,World.cell?_alloc_mark];have:x.toNat%256=x.toNat:=by omega
 simp[this];omega
end
section
open Go.RowKit
def u0j(z:List UInt8):Value:= .string (txt z)
def z0E(w:World)(B:Nat)(v:Value)(zs:List (List UInt8)):Prop:=w.ownsRow B 9 1 v zs.length (zs.map u0j)
theorem j2j:(Tryz.prog.info? 9).map (λi=>(i.zero,i.size,i.bytes))=some (some (.string (txt [])),1,16):=by kernel_rfl
theorem q1Z{w:World}{B C:Nat}{v:Value}{zs:List (List UInt8)}(h:z0E w B v zs)(hC:C<=B):z0E w C v zs:=by
 rcases h with⟨h1,h2|⟨g,cap,cur,h2,h3,h4⟩⟩
 ·exact⟨h1,.inl h2⟩
 ·exact⟨h1,.inr ⟨g,cap,cur,h2,by omega,h4⟩⟩
theorem z2v{w w' :World}{B X:Nat}{v:Value}{zs:List (List UInt8)}(h:z0E w B v zs)(hb:Below X w w')(hX:∀g,v.ownBlock=some g->g<X):z0E w' B v zs:=by
 rcases h with⟨h1,h2|⟨g,cap,cur,h2,h3,h4,h5⟩⟩
 ·exact⟨h1,.inl h2⟩
 ·refine⟨h1,.inr ⟨g,cap,cur,h2,h3,?_,h5⟩⟩;rw[hb.block g (hX g (by rw[h2];rfl))];exact h4
theorem q2K{w:World}{B:Nat}{v:Value}{zs:List (List UInt8)}(h:z0E w B v zs):∀g,v.ownBlock=some g->B<=g/\g<w.heap.size:=World.ownsRow.lt h
theorem x0V{w w' :World}{B:Nat}{v:Value}{zs:List (List UInt8)}(h:z0E w B v zs)(hb:Below w.heap.size w w'):z0E w' B v zs:=
 z2v h hb (λg hg=>(q2K h g hg).2)
theorem j0S{w:World}{B:Nat}{v:Value}{zs:List (List UInt8)}(h:z0E w B v zs):
 (v= .slice none 0 0/\zs=[])\/∃g cap,v= .slice (some ⟨g,0,none⟩) zs.length cap/\B<=g/\g<w.heap.size/\zs.length<=cap/\cap<=maxLen/\
  Hid (∀j(h:j<zs.length),w.cell? ⟨g,j,none⟩=some (.string (txt zs[j]))/\w.frozen? ⟨g,j,none⟩=false):=by
 have hh:=h;rcases h with⟨h1,⟨h2,h3⟩|⟨g,cap,cur,h2,h3,h4,h5,h6,h7⟩⟩
 ·exact .inl ⟨h2,List.eq_nil_of_length_eq_zero h3⟩
 ·refine .inr ⟨g,cap,h2,h3,(Array.getElem?_eq_some_iff.1 h4).1,h5,h6,?_⟩;subst h2;intro j hj;refine⟨?_,World.ownsRow.frozenAt hh j⟩;rw[World.ownsRow.cellAt hh j (by omega),List.getElem?_map,List.getElem?_eq_getElem hj];rfl
theorem y2B{w:World}{B g n cap:Nat}{zs:List (List UInt8)}(h:z0E w B (.slice (some ⟨g,0,none⟩) n cap) zs)(hn:n=zs.length)(j:Nat)(x:List UInt8):z0E (w.setCell ⟨g,j,none⟩ (.string (txt x))) B (.slice (some ⟨g,0,none⟩) n cap) (zs.set j x):=by subst hn;have h2:=World.ownsRow.stored h j (.string (txt x));unfold z0E;rw[List.length_set,List.map_set];exact h2.1
end
section
open Go.RowKit
theorem z4k{k:IntKind}{a b:Int}(h:a=b):Ending.returned (.int k a)= .returned (.int k b):=by rw[h]
def RdS(w:World)(a:Option Addr)(zs:List (List UInt8)):Prop:=∀j(h:j<zs.length),∃g off,a=some ⟨g,off,none⟩/\g<w.heap.size/\w.cell? ⟨g,off+j,none⟩=some (.string (txt zs[j]))
theorem j0t{w:World}{B:Nat}{v:Value}{zs:List (List UInt8)}(h:z0E w B v zs):∃a cap,v= .slice a zs.length cap/\Hid (RdS w a zs):=by
 rcases j0S h with⟨rfl,rfl⟩|⟨g,cap,rfl,_,hg,_,_,HC⟩
 ·exact⟨none,0,rfl,λj hj=>by simp at hj⟩
 ·exact⟨_,cap,rfl,λj hj=>⟨g,0,rfl,hg,by rw[Nat.zero_add];exact(HC.out j hj).1⟩⟩
theorem z0l{w w' :World}{a:Option Addr}{zs:List (List UInt8)}(h:RdS w a zs)(hb:Below w.heap.size w w'):RdS w' a zs:=by intro j hj;obtain⟨g,off,ha,hg,hc⟩:=h j hj;exact⟨g,off,ha,Nat.lt_of_lt_of_le hg hb.size,(hb.cell (p:=⟨g,off+j,none⟩) hg).trans hc⟩
def szR:List (List UInt8)->Int->Int
 |[],left=>left
 |z::r,left=>if left - (z.length:Int)<0 then -1 else szR r (left - (z.length:Int))
def szS(zs:List (List UInt8))(left:Int):Int:=if left - (zs.length:Int)<0 then -1 else szR zs (left - (zs.length:Int))
theorem x5O(zs:List (List UInt8)):∀left:Int,-1<=left->szR zs left<=left/\ -1<=szR zs left:=by
 induction zs with
 |nil=>intro left h;exact⟨Int.le_refl _,h⟩
 |cons z r ih=>
  intro left h;simp only[szR];split
  ·omega
  ·have:=ih (left - (z.length:Int)) (by omega);omega
theorem u4N(zs:List (List UInt8)):∀left:Int,0<=szR zs left->∀z∈zs,(z.length:Int)<=left:=by
 induction zs with
 |nil=>intro left _ z hz;simp at hz
 |cons y r ih=>
  intro left h z hz;simp only[szR]at h;split at h
  ·omega
  ·rcases List.mem_cons.1 hz with rfl|hz
   ·omega
   ·have:=ih _ h z hz;omega
theorem u1T(zs:List (List UInt8))(left:Int)(h:0<=szS zs left):(zs.length:Int)<=left/\∀z∈zs,(z.length:Int)<=left:=by
 unfold szS at h;split at h
 ·omega
 ·refine⟨by omega,λz hz=> ?_⟩;have:=u4N zs _ h z hz;omega
theorem u4M(zs:List (List UInt8))(left:Int)(j:Nat)(h:j<zs.length):szR (zs.drop j) left=if left - (zs[j].length:Int)<0 then -1 else szR (zs.drop (j+1)) (left - (zs[j].length:Int)):=by rw[List.drop_eq_getElem_cons h];rfl
theorem y1a(w:World)(a:Option Addr)(cap:Nat)(zs:List (List UInt8))(left:Int)(h:RdS w a zs)(hn:zs.length<=9223372036854775807)(hz:∀z∈zs,z.length<=9223372036854775807)(h0:0<=left)(h1:left<=1048576):
 Calls Tryz.prog 29 #[.slice a zs.length cap,.int .i64 left] w λe w' =>e= .returned (.int .i64 (szS zs left))/\w' =w:=by
 have HA:Hid (RdS w a zs):=h;have HZ:Hid (∀z∈zs,z.length<=9223372036854775807):=hz;have HD:Hid (∀(l:Int)(j:Nat)(h:j<zs.length),szR (zs.drop j) l=_):=λl j h=>u4M zs l j h;obtain⟨n,hnn⟩:∃n,zs.length=n:=⟨_,rfl⟩;have Hn:Hid (zs.length=n):=hnn;clear h hz;by_cases hl:left - (n:Int)<0
 ·have HE:Hid (szS zs left= -1):=by show _=_;unfold szS;rw[hnn,if_pos hl]
  rw[hnn]at hn ⊢;clear hnn;go_enter Tryz.func29,Tryz.ntmps29;go_wp2;go_ret
  exact⟨z4k HE.out.symm,rfl⟩
 ·have HE:Hid (szS zs left=szR (zs.drop 0) (left - (n:Int))):=by show _=_;unfold szS;rw[hnn,if_neg hl,List.drop_zero]
  have HF:Hid (∀l,szR (zs.drop n) l=l):=by intro l;rw[<-hnn,List.drop_length];rfl
  rw[hnn]at hn ⊢;have hl2:(n:Int)<=left:=by omega
  clear hnn hl;go_enter Tryz.func29,Tryz.ntmps29;go_wp2;go_loop [1,5] (λx i=>∃(j:Nat)(l:Int),j<=n/\0<=l/\l<=left/\i= .int .i64 j/\x= .int .i64 l/\Hid (szS zs left=szR (zs.drop j) l)) (λ_ i=>n - (intOf i).toNat)
  case atStart=>exact⟨0,left - (n:Int),by omega,by omega,by omega,rfl,rfl,HE⟩
  case round=>
   obtain⟨j,l,hj,hl0,hl1,rfl,rfl,HJ⟩:=hrel;by_cases hlt:j<n
   ·have hj2:j<zs.length:=by have:=Hn.out;omega
    obtain⟨g,off,rfl,-,hc1⟩:=HA.out j hj2;have hzl:=HZ.out zs[j] (List.getElem_mem hj2);have HD2:Hid (_=_):=HD.out l j hj2;have hsz:(txt zs[j]).size=zs[j].length:=rfl;generalize zs[j]=z at*;by_cases hneg:l - (z.length:Int)<0
    ·have HR:Hid (szS zs left= -1):=by show _=_;rw[HJ.out,HD2.out,if_pos hneg]
     go_wp2;go_ret
     exact⟨z4k HR.out.symm,rfl⟩
    ·have HR:Hid (szS zs left=szR (zs.drop (j+1)) (l - (z.length:Int))):=by show _=_;rw[HJ.out,HD2.out,if_neg hneg]
     have hneg2:0<=l - (z.length:Int):=by omega
     clear hneg;go_wp2;go_round
     case rel=>exact⟨j+1,l - (z.length:Int),by omega,by omega,by omega,by go_num,by go_num,HR⟩
     case measure=>simp[intOf];omega
   ·obtain rfl:j=n:=by omega
    have HR:Hid (szS zs left=l):=by show _=_;rw[HJ.out,HF.out]
    go_wp2;go_ret
    exact⟨z4k HR.out.symm,rfl⟩
def q1b(zs:List (List UInt8))(j:Nat):List (List UInt8):=zs.take j++List.replicate (zs.length - j) []
theorem x3U(zs:List (List UInt8))(j:Nat)(h:j<=zs.length):(q1b zs j).length=zs.length:=by unfold q1b;rw[List.length_append,List.length_take,List.length_replicate];omega
theorem q4I(zs:List (List UInt8)):q1b zs 0=List.replicate zs.length []:=by unfold q1b;simp
theorem x4L(zs:List (List UInt8)):q1b zs zs.length=zs:=by unfold q1b;simp
theorem q4H(zs:List (List UInt8))(j:Nat)(h:j<zs.length):(q1b zs j).set j zs[j]=q1b zs (j+1):=by
 unfold q1b;have hl:(zs.take j).length=j:=by rw[List.length_take];omega
 rw[List.set_append_right _ _ (by omega),hl,Nat.sub_self];obtain⟨m,hm⟩:∃m,zs.length - j=m+1:=⟨zs.length - j - 1,by omega⟩;rw[hm,List.replicate_succ,List.set_cons_zero,show zs.length - (j+1)=m from by omega,List.take_succ_eq_append_getElem h,List.append_assoc];rfl
theorem x4T(n:Nat)(hn:n<=16777216)(u:World):∃u',(Instr.makeSlice 25 (.int .i64 (n:Int)) (.int .i64 (n:Int))).run Tryz.prog u= .ok (.slice (some ⟨u.heap.size,0,none⟩) n n) u' /\
 z0E u' u.heap.size (.slice (some ⟨u.heap.size,0,none⟩) n n) (List.replicate n [])/\Below u.heap.size u u' :=by
 obtain⟨i0,hi,hz0,hz1,hz2⟩:=info_parts j2j;obtain⟨u',h1,h2,h3⟩:=run_make_full (P:=Tryz.prog) u u.heap.size 25 9 i0 (.string (txt [])) 1 Tryz.underlying25 hi hz0 hz1 .i64 .i64 n (by rw[hz2];omega) (by unfold maxLen;omega) nl0;refine⟨u',h1,?_,bl0.grown h3 nl0 (λr hr=>by cases hr)⟩;unfold z0E
 have e:(madeCells (Value.string (txt [])).cells (n*1)).toList=(List.replicate n []).map u0j:=by
  have h3:(Value.string (txt [])).cells= #[Value.string (txt [])]:=by simp[Value.cells]
  rw[h3,toList_madeCells_one,Nat.mul_one];simp[u0j]
 rw[e]at h2;rw[List.length_replicate];exact h2
theorem y1d(w:World)(a:Option Addr)(cap:Nat)(zs:List (List UInt8))(h:RdS w a zs)(hn:zs.length<=16777216):
 Calls Tryz.prog 40 #[.slice a zs.length cap] w λe w' =>∃v,e= .returned v/\z0E w' w.heap.size v zs/\Below w.heap.size w w' :=by
 have HA:Hid (RdS w a zs):=h;obtain⟨u,hmk,O1,B1⟩:=x4T zs.length hn w;have HS:Hid (∀(j:Nat)(h:j<zs.length),(q1b zs j).set j zs[j]=q1b zs (j+1)):=q4H zs;have HL:Hid (∀j,j<=zs.length->(q1b zs j).length=zs.length):=x3U zs;have HO:Hid (z0E u w.heap.size (.slice (some ⟨w.heap.size,0,none⟩) zs.length zs.length) (q1b zs 0)):=by rw[q4I];exact O1
 have HF:Hid (q1b zs zs.length=zs):=x4L zs;obtain⟨n,hnn⟩:∃n,zs.length=n:=⟨_,rfl⟩;have Hn:Hid (zs.length=n):=hnn;rw[hnn]at hn hmk HO HF ⊢;clear h O1 hnn;go_enter Tryz.func40,Tryz.ntmps40;go_wp2;go_loopw[4] (λi wr=>∃j:Nat,j<=n/\i= .int .i64 j/\Hid (z0E wr w.heap.size (.slice (some ⟨w.heap.size,0,none⟩) n n) (q1b zs j))/\Below w.heap.size w wr) (λi _=>n - (intOf i).toNat)
 case atStart=>exact⟨0,by omega,rfl,HO,B1⟩
 case round=>
  obtain⟨j,hj,rfl,HW,hb⟩:=hrel;have hml:(q1b zs j).length=n:=by rw[HL.out j (by have:=Hn.out;omega),Hn.out]
  by_cases hlt:j<n
  ·have hj2:j<zs.length:=by have:=Hn.out;omega
   obtain⟨g,off,rfl,hg,hc1⟩:=HA.out j hj2;rw[<-hb.cell (p:=⟨g,off+j,none⟩) hg]at hc1;rcases j0S HW.out with⟨he,-⟩|⟨g2,cap2,he,-,-,-,-,HC⟩
   ·simp only[Value.slice.injEq]at he;omega
   ·simp only[Value.slice.injEq,Option.some.injEq,Addr.mk.injEq,and_true]at he;obtain⟨hg2,-,-⟩:=he;obtain⟨hcell,hfr⟩:=HC.out j (by rw[hml];exact hlt);rw[<-hg2]at hcell hfr;have HS2:Hid (z0E _ _ _ _):=y2B HW.out hml.symm j zs[j];rw[HS.out j hj2]at HS2;generalize zs[j]=z at hc1 HS2;generalize (q1b zs j)[j]=z2 at hcell;clear HC hml hg2;go_wp2;go_roundw
    case rel=>exact⟨j+1,by omega,by go_num,HS2,hb.setCell (p:=⟨w.heap.size,j,none⟩) nl0 _⟩
    case measure=>simp[intOf];omega
  ·obtain rfl:j=n:=by omega
   clear hml;go_wp2;go_ret
   exact⟨_,rfl,HF.out▸HW.out,hb⟩
theorem z1O(w:World)(a b:Option Addr)(cap cap2:Nat)(zs:List (List UInt8))(h1:RdS w a zs)(h2:RdS w b zs)(hz:zs.length<=16777216):
 Calls Tryz.prog 48 #[.slice a zs.length cap,.slice b zs.length cap2] w λe w' =>e= .returned (.bool true)/\Below w.heap.size w w' :=by
 have HA:Hid (RdS w a zs):=h1;have HB:Hid (RdS w b zs):=h2;clear h1 h2;obtain⟨n,hn⟩:∃n,zs.length=n:=⟨_,rfl⟩;have Hn:Hid (zs.length=n):=hn;rw[hn]at hz ⊢;clear hn;go_enter Tryz.func48,Tryz.ntmps48;go_wp2;go_loopw[5] (λi wr=>∃j:Nat,j<=n/\i= .int .i64 j/\Below w.heap.size w wr/\Hid (∀p,wr.cell? p=w.cell? p)) (λi _=>n - (intOf i).toNat)
 case atStart=>exact⟨0,by omega,rfl,bl0,λ_=>rfl⟩
 case round=>
  obtain⟨j,hj,rfl,hb,HW⟩:=hrel;by_cases hlt:j<n
  ·have hj2:j<zs.length:=by have:=Hn.out;omega
   obtain⟨g,off,rfl,-,hc1⟩:=HA.out j hj2;obtain⟨g2,off2,rfl,-,hc2⟩:=HB.out j hj2;rw[<-HW.out]at hc1 hc2;generalize zs[j]=z at hc1 hc2;go_wp2;go_region
   all_goals
    go_wp2;go_roundw
    case rel=>exact⟨j+1,by omega,by go_num,hb.drew,λp=>HW.out p⟩
    case measure=>simp[intOf];omega
  ·go_wp2;go_ret
   exact⟨rfl,hb⟩
end
section
open Go.RowKit Go.ChangeShapes Go.WideShapes Go.ChangeAt
theorem z1p{w:World}{x:Addr}{v:Value}(h:w.cell? (x.add 0)=some v):∃b off,x=⟨b,off,none⟩:=by
 obtain⟨b,off,spot⟩:=x
 cases spot with
 |none=>exact⟨b,off,rfl⟩
 |some q=>exfalso;simp[Addr.add,World.cell?]at h;split at h<;>simp at h
theorem u0s(b off i:Nat):Addr.add ⟨b,off,none⟩ i=⟨b,off+i,none⟩:=by unfold Addr.add;split<;>simp_all
section
variable {T : Type} {enc : TypeId × Value → T} {w : World} {held : Bool}
theorem q2h{fuel:Nat}{cs:List Value}{x:DataW T×List MemPlace}(h:DataW.trod enc Tryz.prog w 0 (λ_=>true) held fuel 25 cs=some x):
 ∃a zs cap,cs=[.slice a zs.length cap]/\RdS w a zs/\zs.length<=9223372036854775807/\∀z∈zs,z.length<=9223372036854775807:=by
 rcases open_strings Tryz.underlying25 Tryz.underlying9 (by kernel_rfl) h with⟨rfl,_⟩|⟨x,len,cap,ss,rfl,_,hl,hm,hz,_,hcell,hsz⟩
 ·exact⟨none,[],0,rfl,λj hj=>by simp at hj,by simp,by simp⟩
 ·have hz2:ss.length=cap:=by simpa using hz
  have ht:((ss.take len).map λs=>s.data.toList).length=len:=by rw[List.length_map,List.length_take];omega
  unfold maxLen at hm;refine⟨some x,(ss.take len).map λs=>s.data.toList,cap,by rw[ht],?_,by omega,?_⟩
  ·intro j hj;rw[ht]at hj;obtain⟨b,off,rfl⟩:=z1p (hcell 0 (by omega));have hc:=hcell j (by omega);rw[u0s,List.getD_eq_getElem?_getD,List.getElem?_eq_getElem (by omega)]at hc;refine⟨b,off,rfl,World.block_lt_of_cell? w _ hc,?_⟩;rw[hc,List.getElem_map,List.getElem_take];rfl
  ·intro z hz;obtain⟨s,hs,rfl⟩:=List.mem_map.1 hz;have h1:=hsz s (List.mem_of_mem_take hs);unfold maxLen at h1;exact h1
end
end
section
open Go.RowKit
structure q0E where
 live:Bool
 gen:Int
 site:Int
 holds:Int
 roots:Int
 count:Int
 field:List Int
 purple:Bool
def y0J(o:q0E)(f:Value):Value:= .agg #[.bool o.live,.int .i64 o.gen,.int .i64 o.site,.int .i64 o.holds,.int .i64 o.roots,.int .i64 o.count,f,.bool o.purple]
theorem j3M(w:World)(o:q0E)(a:Option Addr)(n cap:Nat)(left:Int)(hn:n<=9223372036854775807)(h0:0<=left)(h1:left<=1048576):
 Calls Tryz.prog 62 #[y0J o (.slice a n cap),.int .i64 left] w λe w' =>e= .returned (.int .i64 (if left - (n:Int)<0 then -1 else left - (n:Int)))/\Below w.heap.size w w' :=by
 have CS:Hid (∀X,_):=λX=>u0N X a cap n left hn h0 h1;unfold y0J;by_cases hl:left - (n:Int)<0
 ·rw[if_pos hl]at CS ⊢;clear hl;go_enter Tryz.func62,Tryz.ntmps62;go_wp2_with fail
  refine(CS.out _).mono ?_;rintro e w1 ⟨rfl,hw1⟩;have B1:Below w.heap.size w w1:=by rw[hw1];exact bl1 _
  clear hw1;go_wp2;go_ret
  exact⟨rfl,B1⟩
 ·rw[if_neg hl]at CS ⊢;have hl2:0<=left - (n:Int):=by omega
  clear hl;generalize left - (n:Int)=m at*;go_enter Tryz.func62,Tryz.ntmps62;go_wp2_with fail
  refine(CS.out _).mono ?_;rintro e w1 ⟨rfl,hw1⟩;have B1:Below w.heap.size w w1:=by rw[hw1];exact bl1 _
  clear hw1;go_wp2;go_ret
  exact⟨rfl,B1⟩
theorem u0f{w:World}{B:Nat}{v:Value}{zs:List Int}(p:Addr)(u:Value)(h:q0i w B v zs)(hp:p.block<B):q0i (w.setCell p u) B v zs:=by
 rcases h with⟨h1,h2|⟨g,cap,cur,h2,h3,h4,h5⟩⟩
 ·exact⟨h1,.inl h2⟩
 ·refine⟨h1,.inr ⟨g,cap,cur,h2,h3,?_,h5⟩⟩;rw[heap_setCell_other w p g u (by omega)];exact h4
theorem j3N(w:World)(o:q0E)(a:Option Addr)(cap:Nat)(h:RdI w a o.field)(hn:o.field.length<=16777216):
 Calls Tryz.prog 76 #[y0J o (.slice a o.field.length cap)] w λe w' =>∃v,e= .returned (y0J o v)/\q0i w' w.heap.size v o.field/\Below w.heap.size w w' :=by
 obtain⟨l,g,s,hh,r,c,fl,p⟩:=o;simp only at h hn;unfold y0J;simp only;obtain⟨W,hW⟩:∃W,W=((w.alloc (.cells #[.bool l,.int .i64 g,.int .i64 s,.int .i64 hh,.int .i64 r,.int .i64 c,.slice a fl.length cap,.bool p] 89)).alloc (.cells #[.bool false,.int .i64 0,.int .i64 0,.int .i64 0,.int .i64 0,.int .i64 0,.slice none 0 0,.bool false] 90)).alloc (.cells #[.bool l,.int .i64 g,.int .i64 s,.int .i64 hh,.int .i64 r,.int .i64 c,.slice none 0 0,.bool false] 90):=⟨_,rfl⟩
 have BW:Below w.heap.size w W:=by rw[hW];exact((bl1 _).alloc (by simp) _).alloc (by simp;omega) _
 have hWs:W.heap.size=w.heap.size+1+1+1:=by rw[hW];simp
 have HR:Hid (RdI W a fl):=q0t h BW
 have HC:Hid (∀k,W.cell? ⟨w.heap.size+1+1,k,none⟩=(#[Value.bool l,.int .i64 g,.int .i64 s,.int .i64 hh,.int .i64 r,.int .i64 c,.slice none 0 0,.bool false]:Array Value)[k]?):=by intro k;rw[hW,show w.heap.size+1+1=((w.alloc (.cells #[.bool l,.int .i64 g,.int .i64 s,.int .i64 hh,.int .i64 r,.int .i64 c,.slice a fl.length cap,.bool p] 89)).alloc (.cells #[.bool false,.int .i64 0,.int .i64 0,.int .i64 0,.int .i64 0,.int .i64 0,.slice none 0 0,.bool false] 90)).heap.size from by simp,World.cell?_alloc_mark]
 have HF:Hid (∀k,W.frozen? ⟨w.heap.size+1+1,k,none⟩=false):=by intro k;rw[hW,show w.heap.size+1+1=((w.alloc (.cells #[.bool l,.int .i64 g,.int .i64 s,.int .i64 hh,.int .i64 r,.int .i64 c,.slice a fl.length cap,.bool p] 89)).alloc (.cells #[.bool false,.int .i64 0,.int .i64 0,.int .i64 0,.int .i64 0,.int .i64 0,.slice none 0 0,.bool false] 90)).heap.size from by simp,World.frozen?_alloc_mark];simp
 have HC1:Hid (∀k,W.cell? ⟨w.heap.size+1,k,none⟩=(#[Value.bool false,.int .i64 0,.int .i64 0,.int .i64 0,.int .i64 0,.int .i64 0,.slice none 0 0,.bool false]:Array Value)[k]?):=by intro k;rw[hW,World.cell?_alloc_lt _ _ _ (by simp),show w.heap.size+1=(w.alloc (.cells #[.bool l,.int .i64 g,.int .i64 s,.int .i64 hh,.int .i64 r,.int .i64 c,.slice a fl.length cap,.bool p] 89)).heap.size from by simp,World.cell?_alloc_mark]
 have HF1:Hid (∀k,W.frozen? ⟨w.heap.size+1,k,none⟩=false):=by
  intro k
  have e:W.frozen? ⟨w.heap.size+1,k,none⟩=((w.alloc (.cells #[.bool l,.int .i64 g,.int .i64 s,.int .i64 hh,.int .i64 r,.int .i64 c,.slice a fl.length cap,.bool p] 89)).alloc (.cells #[.bool false,.int .i64 0,.int .i64 0,.int .i64 0,.int .i64 0,.int .i64 0,.slice none 0 0,.bool false] 90)).frozen? ⟨w.heap.size+1,k,none⟩:=by rw[hW];exact(bl1 _).frozen (p:=⟨w.heap.size+1,k,none⟩) (by show w.heap.size+1<_;simp)
  rw[e,show w.heap.size+1=(w.alloc (.cells #[.bool l,.int .i64 g,.int .i64 s,.int .i64 hh,.int .i64 r,.int .i64 c,.slice a fl.length cap,.bool p] 89)).heap.size from by simp,World.frozen?_alloc_mark];simp
 have HP:Hid (W.cell? ⟨w.heap.size,7,none⟩=some (.bool p)):=by show _=_;rw[hW,World.cell?_alloc_lt _ _ _ (by simp;omega),World.cell?_alloc_lt _ _ _ (by simp),World.cell?_alloc_mark];rfl
 go_enter Tryz.func76,Tryz.ntmps76;go_wp2_with fail
 rw[<-hW];refine(j0U W a cap fl HR.out hn).mono ?_;rintro e w1 ⟨v,rfl,O1,b1⟩;have hc:∀k,w1.cell? ⟨w.heap.size+1+1,k,none⟩=W.cell? ⟨w.heap.size+1+1,k,none⟩:=λk=>b1.cell (p:=⟨w.heap.size+1+1,k,none⟩) (by show w.heap.size+1+1<_;omega);have c0:=(hc 0).trans (HC.out 0);have c1:=(hc 1).trans (HC.out 1);have c2:=(hc 2).trans (HC.out 2);have c3:=(hc 3).trans (HC.out 3);have c4:=(hc 4).trans (HC.out 4);have c5:=(hc 5).trans (HC.out 5);have c6:=(hc 6).trans (HC.out 6);have c7:=(hc 7).trans (HC.out 7);have hf:∀k,w1.frozen? ⟨w.heap.size+1+1,k,none⟩=false:=λk=>(b1.frozen (p:=⟨w.heap.size+1+1,k,none⟩) (by show w.heap.size+1+1<_;omega)).trans (HF.out k);have f6:=hf 6;have f7:=hf 7;have hd:∀k,w1.cell? ⟨w.heap.size+1,k,none⟩=W.cell? ⟨w.heap.size+1,k,none⟩:=λk=>b1.cell (p:=⟨w.heap.size+1,k,none⟩) (by show w.heap.size+1<_;omega);have d0:=(hd 0).trans (HC1.out 0);have d1:=(hd 1).trans (HC1.out 1);have d2:=(hd 2).trans (HC1.out 2);have d3:=(hd 3).trans (HC1.out 3);have d4:=(hd 4).trans (HC1.out 4);have d5:=(hd 5).trans (HC1.out 5);have d6:=(hd 6).trans (HC1.out 6);have d7:=(hd 7).trans (HC1.out 7);have hg:∀k,w1.frozen? ⟨w.heap.size+1,k,none⟩=false:=λk=>(b1.frozen (p:=⟨w.heap.size+1,k,none⟩) (by show w.heap.size+1<_;omega)).trans (HF1.out k);have g0:=hg 0;have g1:=hg 1;have g2:=hg 2;have g3:=hg 3;have g4:=hg 4;have g5:=hg 5;have g6:=hg 6;have g7:=hg 7;have cp:w1.cell? ⟨w.heap.size,7,none⟩=some (.bool p):=(b1.cell (p:=⟨w.heap.size,7,none⟩) (by show w.heap.size<_;omega)).trans HP.out;have B1:=BW.trans (b1.mono (by omega));simp at c0 c1 c2 c3 c4 c5 c6 c7 d0 d1 d2 d3 d4 d5 d6 d7;clear hc hf hd hg hW BW;obtain⟨va,vc,rfl,-⟩:=y0Q O1;have HO:Hid (q0i w1 W.heap.size (.slice va fl.length vc) fl):=O1;clear O1;have HB:Hid (Below w.heap.size w w1):=B1;clear B1;go_wp2;refine bodyPost_ret (v:= .agg #[.bool l,.int .i64 g,.int .i64 s,.int .i64 hh,.int .i64 r,.int .i64 c,.slice va fl.length vc,.bool p]) (by simp[results,Tryz.results76,go_sem, *]) rfl ⟨_,rfl,?_,?_⟩
 ·have O:∀(p:Addr)(u:Value)(X:World),q0i X W.heap.size (.slice va fl.length vc) fl->p.block<W.heap.size->q0i (X.setCell p u) W.heap.size (.slice va fl.length vc) fl:=λp u X h hp=>u0f p u h hp;refine q0A (B:=W.heap.size) ?_ (by omega);repeat (refine O _ _ _ ?_ (by simp only;omega))
  exact HO.out
 ·repeat (refine Below.setCell ?_ (by simp only;omega) _)
  exact HB.out
theorem y3M(w:World)(o:q0E)(a b:Option Addr)(cap cap2:Nat)(h1:RdI w a o.field)(h2:RdI w b o.field)(hn:o.field.length<=16777216):
 Calls Tryz.prog 99 #[y0J o (.slice a o.field.length cap),y0J o (.slice b o.field.length cap2)] w λe w' =>e= .returned (.bool true)/\Below w.heap.size w w' :=by
 obtain⟨l,g,s,hh,r,c,fl,p⟩:=o;simp only at h1 h2 hn;unfold y0J;simp only;obtain⟨W,hW⟩:∃W,W=(w.alloc (.cells #[.bool l,.int .i64 g,.int .i64 s,.int .i64 hh,.int .i64 r,.int .i64 c,.slice a fl.length cap,.bool p] 90)).alloc (.cells #[.bool l,.int .i64 g,.int .i64 s,.int .i64 hh,.int .i64 r,.int .i64 c,.slice b fl.length cap2,.bool p] 90):=⟨_,rfl⟩
 have BW:Below w.heap.size w W:=by rw[hW];exact(bl1 _).alloc (by simp) _
 have hWs:W.heap.size=w.heap.size+1+1:=by rw[hW];simp
 have HR:Hid (RdI W a fl):=q0t h1 BW;have HR2:Hid (RdI W b fl):=q0t h2 BW
 have HP:Hid (W.cell? ⟨w.heap.size,7,none⟩=some (.bool p)):=by show _=_;rw[hW,World.cell?_alloc_lt _ _ _ (by simp),World.cell?_alloc_mark];rfl
 have HP2:Hid (W.cell? ⟨w.heap.size+1,7,none⟩=some (.bool p)):=by show _=_;rw[hW,show w.heap.size+1=(w.alloc (.cells #[.bool l,.int .i64 g,.int .i64 s,.int .i64 hh,.int .i64 r,.int .i64 c,.slice a fl.length cap,.bool p] 90)).heap.size from by simp,World.cell?_alloc_mark];rfl
 go_enter Tryz.func99,Tryz.ntmps99;go_wp2_with fail
 rw[<-hW];refine(j0Q W a b cap cap2 fl HR.out HR2.out hn).mono ?_;rintro e w1 ⟨rfl,b1⟩;have cp:w1.cell? ⟨w.heap.size,7,none⟩=some (.bool p):=(b1.cell (p:=⟨w.heap.size,7,none⟩) (by show w.heap.size<_;omega)).trans HP.out;have cp2:w1.cell? ⟨w.heap.size+1,7,none⟩=some (.bool p):=(b1.cell (p:=⟨w.heap.size+1,7,none⟩) (by show w.heap.size+1<_;omega)).trans HP2.out;have B1:=BW.trans (b1.mono (by omega));clear hW BW b1;go_wp2;go_ret
 exact⟨rfl,B1⟩
open Go.RowKit
theorem z0x{k:IntKind}{a b:Int}(h:a=b):Ending.returned (.int k a)= .returned (.int k b):=by rw[h]
structure x0G(w:World)(g p:Nat)(o:q0E)(f:Value):Prop where
 c0:w.cell? ⟨g,p,none⟩=some (.bool o.live)
 c1:w.cell? ⟨g,p+1,none⟩=some (.int .i64 o.gen)
 c2:w.cell? ⟨g,p+2,none⟩=some (.int .i64 o.site)
 c3:w.cell? ⟨g,p+3,none⟩=some (.int .i64 o.holds)
 c4:w.cell? ⟨g,p+4,none⟩=some (.int .i64 o.roots)
 c5:w.cell? ⟨g,p+5,none⟩=some (.int .i64 o.count)
 c6:w.cell? ⟨g,p+6,none⟩=some f
 c7:w.cell? ⟨g,p+7,none⟩=some (.bool o.purple)
theorem x0G.keep{w w' :World}{g p:Nat}{o:q0E}{f:Value}(h:x0G w g p o f)(hk:∀k,w'.cell? ⟨g,k,none⟩=w.cell? ⟨g,k,none⟩):x0G w' g p o f:=
 ⟨(hk _).trans h.c0,(hk _).trans h.c1,(hk _).trans h.c2,(hk _).trans h.c3,(hk _).trans h.c4,(hk _).trans h.c5,(hk _).trans h.c6,(hk _).trans h.c7⟩
def RdO(w:World)(a:Option Addr)(os:List q0E):Prop:=∀j(h:j<os.length),∃g off f cap,a=some ⟨g,off,none⟩/\g<w.heap.size/\x0G w g (off+j*8) os[j] (.slice f os[j].field.length cap)/\RdI w f os[j].field
theorem q0V{w w' :World}{a:Option Addr}{os:List q0E}(h:RdO w a os)(hb:Below w.heap.size w w'):RdO w' a os:=by intro j hj;obtain⟨g,off,f,cap,ha,hg,hc,hr⟩:=h j hj;exact⟨g,off,f,cap,ha,Nat.lt_of_lt_of_le hg hb.size,hc.keep (λk=>hb.cell (p:=⟨g,k,none⟩) hg),q0t hr hb⟩
def v1Z:List q0E->Int->Int
 |[],left=>left
 |o::r,left=>if left - (o.field.length:Int)<0 then -1 else v1Z r (left - (o.field.length:Int))
def szO(os:List q0E)(left:Int):Int:=if left - (os.length:Int)<0 then -1 else v1Z os (left - (os.length:Int))
theorem z5G(os:List q0E):∀left:Int,-1<=left->v1Z os left<=left/\ -1<=v1Z os left:=by
 induction os with
 |nil=>intro left h;exact⟨Int.le_refl _,h⟩
 |cons z r ih=>
  intro left h;simp only[v1Z];split
  ·omega
  ·have:=ih (left - (z.field.length:Int)) (by omega);omega
theorem x2R(os:List q0E)(left:Int)(h: -1<=left):szO os left<=left/\ -1<=szO os left:=by
 unfold szO;split
 ·omega
 ·have:=z5G os (left - (os.length:Int)) (by omega);omega
theorem y4p(os:List q0E):∀left:Int,0<=v1Z os left->∀z∈os,(z.field.length:Int)<=left:=by
 induction os with
 |nil=>intro left _ z hz;simp at hz
 |cons y r ih=>
  intro left h z hz;simp only[v1Z]at h;split at h
  ·omega
  ·rcases List.mem_cons.1 hz with rfl|hz
   ·omega
   ·have:=ih _ h z hz;omega
theorem z3f(os:List q0E)(left:Int)(h:0<=szO os left):(os.length:Int)<=left/\∀z∈os,(z.field.length:Int)<=left:=by
 unfold szO at h;split at h
 ·omega
 ·refine⟨by omega,λz hz=> ?_⟩;have:=y4p os _ h z hz;omega
theorem y4o(os:List q0E)(left:Int)(j:Nat)(h:j<os.length):v1Z (os.drop j) left=if left - (os[j].field.length:Int)<0 then -1 else v1Z (os.drop (j+1)) (left - (os[j].field.length:Int)):=by rw[List.drop_eq_getElem_cons h];rfl
theorem y3q(w:World)(a:Option Addr)(cap:Nat)(os:List q0E)(left:Int)(h:RdO w a os)(hn:os.length<=9223372036854775807)(hz:∀z∈os,z.field.length<=9223372036854775807)(h0:0<=left)(h1:left<=1048576):
 Calls Tryz.prog 26 #[.slice a os.length cap,.int .i64 left] w λe w' =>e= .returned (.int .i64 (szO os left))/\Below w.heap.size w w' :=by
 have HA:Hid (RdO w a os):=h;have HZ:Hid (∀z∈os,z.field.length<=9223372036854775807):=hz;have HD:Hid (∀(l:Int)(j:Nat)(h:j<os.length),v1Z (os.drop j) l=_):=λl j h=>y4o os l j h;obtain⟨n,hnn⟩:∃n,os.length=n:=⟨_,rfl⟩;have Hn:Hid (os.length=n):=hnn;clear h hz;by_cases hl:left - (n:Int)<0
 ·have HE:Hid (szO os left= -1):=by show _=_;unfold szO;rw[hnn,if_pos hl]
  rw[hnn]at hn ⊢;clear hnn;go_enter Tryz.func26,Tryz.ntmps26;go_wp2;go_ret
  exact⟨z0x HE.out.symm,bl0⟩
 ·have HE:Hid (szO os left=v1Z (os.drop 0) (left - (n:Int))):=by show _=_;unfold szO;rw[hnn,if_neg hl,List.drop_zero]
  have HF:Hid (∀l,v1Z (os.drop n) l=l):=by intro l;rw[<-hnn,List.drop_length];rfl
  rw[hnn]at hn ⊢;have hl2:(n:Int)<=left:=by omega
  clear hnn hl;go_enter Tryz.func26,Tryz.ntmps26;go_wp2;go_loopw[1,5] (λx i wr=>∃(j:Nat)(l:Int),j<=n/\0<=l/\l<=left/\i= .int .i64 j/\x= .int .i64 l/\Hid (szO os left=v1Z (os.drop j) l)/\Below w.heap.size w wr) (λ_ i _=>n - (intOf i).toNat)
  case atStart=>exact⟨0,left - (n:Int),by omega,by omega,by omega,rfl,rfl,HE,bl0⟩
  case round=>
   obtain⟨j,l,hj,hl0,hl1,rfl,rfl,HJ,hb⟩:=hrel;by_cases hlt:j<n
   ·have hj2:j<os.length:=by have:=Hn.out;omega
    obtain⟨g,off,f,fc,rfl,-,hc,-⟩:=(q0V HA.out hb) j hj2;have hzl:=HZ.out os[j] (List.getElem_mem hj2);have HD2:Hid (_=_):=HD.out l j hj2;generalize os[j]=o at*;have HSZ:Hid (∀X,_):=λX=>j3M X o f o.field.length fc l hzl hl0 (by omega);obtain⟨c0,c1,c2,c3,c4,c5,c6,c7⟩:=hc;unfold y0J at HSZ;obtain⟨ol,og,os1,oh,orr,oc,ofl,op⟩:=o;simp only at*;by_cases hneg:l - (ofl.length:Int)<0
    ·have HR:Hid (szO os left= -1):=by show _=_;rw[HJ.out,HD2.out,if_pos hneg]
     rw[if_pos hneg]at HSZ;clear hneg;go_wp2_with fail
     refine(HSZ.out _).mono ?_;rintro e w1 ⟨rfl,b1⟩;have B1:=hb.trans (b1.mono hb.size);go_wp2;go_ret
     exact⟨z0x HR.out.symm,B1⟩
    ·have HR:Hid (szO os left=v1Z (os.drop (j+1)) (l - (ofl.length:Int))):=by show _=_;rw[HJ.out,HD2.out,if_neg hneg]
     rw[if_neg hneg]at HSZ;have hneg2:0<=l - (ofl.length:Int):=by omega
     have hneg3:l - (ofl.length:Int)<=left:=by omega
     clear hneg;generalize l - (ofl.length:Int)=l2 at*;go_wp2_with fail
     refine(HSZ.out _).mono ?_;rintro e w1 ⟨rfl,b1⟩;have B1:=hb.trans (b1.mono hb.size);go_wp2;go_roundw
     case rel=>exact⟨j+1,l2,by omega,hneg2,hneg3,by go_num,rfl,HR,B1⟩
     case measure=>simp[intOf];omega
   ·obtain rfl:j=n:=by omega
    have HR:Hid (szO os left=l):=by show _=_;rw[HJ.out,HF.out]
    go_wp2;go_ret
    exact⟨z0x HR.out.symm,hb⟩
def z0r(w:World)(g p:Nat)(o:q0E)(f:Value):World:=
 (((((((w.setCell ⟨g,p,none⟩ (.bool o.live)).setCell ⟨g,p+1,none⟩ (.int .i64 o.gen)).setCell ⟨g,p+2,none⟩ (.int .i64 o.site)).setCell ⟨g,p+3,none⟩ (.int .i64 o.holds)).setCell ⟨g,p+4,none⟩ (.int .i64 o.roots)).setCell ⟨g,p+5,none⟩ (.int .i64 o.count)).setCell ⟨g,p+6,none⟩ f).setCell ⟨g,p+7,none⟩ (.bool o.purple)
theorem q0q(w:World)(g p q:Nat)(u:Value)(h:p≠q):(w.setCell ⟨g,p,none⟩ u).cell? ⟨g,q,none⟩=w.cell? ⟨g,q,none⟩:=World.cell?_setCell_other _ _ _ _ (by intro e;exact h (by injection e))
theorem u1q(w:World)(g p q:Nat)(o:q0E)(f:Value)(h:q<p\/p+8<=q):(z0r w g p o f).cell? ⟨g,q,none⟩=w.cell? ⟨g,q,none⟩:=by unfold z0r;rw[q0q _ _ _ _ _ (by omega),q0q _ _ _ _ _ (by omega),q0q _ _ _ _ _ (by omega),q0q _ _ _ _ _ (by omega),q0q _ _ _ _ _ (by omega),q0q _ _ _ _ _ (by omega),q0q _ _ _ _ _ (by omega),q0q _ _ _ _ _ (by omega)]
theorem z1y(w:World)(g p:Nat)(o:q0E)(f:Value)(a:Addr):(z0r w g p o f).frozen? a=w.frozen? a:=by unfold z0r;simp only[World.frozen?_setCell]
theorem u1P(w:World)(g p:Nat)(o:q0E)(f:Value)(h:∀k,k<8->∃u,w.cell? ⟨g,p+k,none⟩=some u):x0G (z0r w g p o f) g p o f:=by
 have same:∀(X:World)(q:Nat)(u v:Value),X.cell? ⟨g,q,none⟩=some v->(X.setCell ⟨g,q,none⟩ u).cell? ⟨g,q,none⟩=some u:=λX q u v hX=>World.cell?_setCell_same X _ u hX;obtain⟨u0,h0⟩:=h 0 (by omega);obtain⟨u1,h1⟩:=h 1 (by omega);obtain⟨u2,h2⟩:=h 2 (by omega);obtain⟨u3,h3⟩:=h 3 (by omega);obtain⟨u4,h4⟩:=h 4 (by omega);obtain⟨u5,h5⟩:=h 5 (by omega);obtain⟨u6,h6⟩:=h 6 (by omega);obtain⟨u7,h7⟩:=h 7 (by omega);rw[Nat.add_zero]at h0;unfold z0r;constructor
 ·iterate 7 rw[q0q _ _ _ _ _ (by omega)]
  exact same _ _ _ _ h0
 ·iterate 6 rw[q0q _ _ _ _ _ (by omega)]
  exact same _ _ _ _ (by iterate 1 rw[q0q _ _ _ _ _ (by omega)]
                         exact h1)
 ·iterate 5 rw[q0q _ _ _ _ _ (by omega)]
  exact same _ _ _ _ (by iterate 2 rw[q0q _ _ _ _ _ (by omega)]
                         exact h2)
 ·iterate 4 rw[q0q _ _ _ _ _ (by omega)]
  exact same _ _ _ _ (by iterate 3 rw[q0q _ _ _ _ _ (by omega)]
                         exact h3)
 ·iterate 3 rw[q0q _ _ _ _ _ (by omega)]
  exact same _ _ _ _ (by iterate 4 rw[q0q _ _ _ _ _ (by omega)]
                         exact h4)
 ·iterate 2 rw[q0q _ _ _ _ _ (by omega)]
  exact same _ _ _ _ (by iterate 5 rw[q0q _ _ _ _ _ (by omega)]
                         exact h5)
 ·iterate 1 rw[q0q _ _ _ _ _ (by omega)]
  exact same _ _ _ _ (by iterate 6 rw[q0q _ _ _ _ _ (by omega)]
                         exact h6)
 ·exact same _ _ _ _ (by iterate 7 rw[q0q _ _ _ _ _ (by omega)]
                         exact h7)
theorem j1C{w:World}{B:Nat}{v:Value}{zs:List Int}(g p:Nat)(o:q0E)(f:Value)(h:q0i w B v zs)(hg:g<B):q0i (z0r w g p o f) B v zs:=by
 unfold z0r;iterate 8 refine u0f _ _ ?_ hg
 exact h
theorem u1p{B:Nat}{a w:World}(g p:Nat)(o:q0E)(f:Value)(h:Below B a w)(hg:B<=g):Below B a (z0r w g p o f):=by
 unfold z0r;iterate 8 refine Below.setCell ?_ hg _
 exact h
theorem x1Q(w:World)(g p:Nat)(o:q0E)(f:Value):(z0r w g p o f).heap.size=w.heap.size:=by unfold z0r;simp[World.setCell]
open Go.RowKit
theorem z0e{w:World}{B:Nat}{v:Value}{zs:List Int}(h:q0i w B v zs):∃a cap,v= .slice a zs.length cap/\RdI w a zs:=by obtain⟨a,cap,h1,h2⟩:=q0Y h;exact⟨a,cap,h1,h2.out⟩
theorem z3X:(Tryz.prog.info? 90).map (λi=>(i.zero,i.size,i.bytes))=some (some (.agg #[.bool false,.int .i64 0,.int .i64 0,.int .i64 0,.int .i64 0,.int .i64 0,.slice none 0 0,.bool false]),8,80):=by kernel_rfl
theorem x4S(n:Nat)(hn:n<=1677721)(u:World):∃u',(Instr.makeSlice 32 (.int .i64 (n:Int)) (.int .i64 (n:Int))).run Tryz.prog u= .ok (.slice (some ⟨u.heap.size,0,none⟩) n n) u' /\
 (∀k,k<n*8->(∃x,u'.cell? ⟨u.heap.size,k,none⟩=some x)/\u'.frozen? ⟨u.heap.size,k,none⟩=false)/\Below u.heap.size u u' /\u.heap.size<u'.heap.size:=by
 obtain⟨i0,hi,hz0,hz1,hz2⟩:=info_parts z3X;obtain⟨u',h1,h2,h3⟩:=run_make_full (P:=Tryz.prog) u u.heap.size 32 90 i0 _ 8 Tryz.underlying32 hi hz0 hz1 .i64 .i64 n (by rw[hz2];omega) (by unfold maxLen;omega) nl0;refine⟨u',h1,?_,bl0.grown h3 nl0 (λr hr=>by cases hr),?_⟩
 ·intro k hk;refine⟨?_,World.ownsRow.frozenAt h2 k⟩;rw[World.ownsRow.cellAt h2 k hk]
  have hl:k<(madeCells (Value.agg #[.bool false,.int .i64 0,.int .i64 0,.int .i64 0,.int .i64 0,.int .i64 0,.slice none 0 0,.bool false]).cells (n*8)).toList.length:=by rw[Array.length_toList,size_madeCells];exact hk
  exact⟨_,List.getElem?_eq_getElem hl⟩
 ·exact(World.ownsRow.lt h2 u.heap.size rfl).2
def x1h(w:World)(g:Nat)(os:List q0E)(j:Nat):Prop:=∀i(h:i<os.length),i<j->∃f,x0G w g (i*8) os[i] f/\q0i w (g+1) f os[i].field/\∀k,k<8->w.frozen? ⟨g,i*8+k,none⟩=false
theorem j4r{w:World}{g:Nat}{os:List q0E}(h:x1h w g os os.length)(hg:g<w.heap.size):RdO w (some ⟨g,0,none⟩) os:=by intro j hj;obtain⟨f,h1,h2,-⟩:=h j hj hj;obtain⟨a,cap,rfl,h3⟩:=z0e h2;exact⟨g,0,a,cap,rfl,hg,by rw[Nat.zero_add];exact h1,h3⟩
theorem x1N{w w' :World}{g j:Nat}{os:List q0E}(h:x1h w g os j)(hb:Below w.heap.size w w')(hg:g<w.heap.size):x1h w' g os j:=by intro i hi hij;obtain⟨f,h1,h2,h3⟩:=h i hi hij;exact⟨f,h1.keep (λk=>hb.cell (p:=⟨g,k,none⟩) hg),q0o h2 hb,λk hk=>(hb.frozen (p:=⟨g,i*8+k,none⟩) hg).trans (h3 k hk)⟩
theorem x4K{w:World}{g j:Nat}{os:List q0E}{f:Value}(h:x1h w g os j)(hj:j<os.length)(hc:∀k,k<8->∃u,w.cell? ⟨g,j*8+k,none⟩=some u)(ho:q0i w (g+1) f os[j].field)(hf:∀k,k<8->w.frozen? ⟨g,j*8+k,none⟩=false):x1h (z0r w g (j*8) os[j] f) g os (j+1):=by
 intro i hi hij;by_cases he:i=j
 ·subst he;exact⟨f,u1P w g (i*8) os[i] f hc,j1C g _ _ _ ho (by omega),λk hk=>by rw[z1y];exact hf k hk⟩
 ·obtain⟨f2,h1,h2,h3⟩:=h i hi (by omega);refine⟨f2,⟨?_,?_,?_,?_,?_,?_,?_,?_⟩,j1C g _ _ _ h2 (by omega),λk hk=>by rw[z1y];exact h3 k hk⟩;all_goals rw[u1q _ _ _ _ _ _ (by omega)]
  ·exact h1.c0
  ·exact h1.c1
  ·exact h1.c2
  ·exact h1.c3
  ·exact h1.c4
  ·exact h1.c5
  ·exact h1.c6
  ·exact h1.c7
theorem x1e(w:World)(a p:Addr)(u:Value)(h:∃x,w.cell? a=some x):∃x,(w.setCell p u).cell? a=some x:=by
 obtain⟨x,hx⟩:=h;by_cases e:p=a
 ·subst e;exact⟨u,World.cell?_setCell_same w _ u hx⟩
 ·exact⟨x,by rw[World.cell?_setCell_other _ _ _ _ e];exact hx⟩
theorem v2W(w:World)(g p:Nat)(o:q0E)(f:Value)(a:Addr)(h:∃x,w.cell? a=some x):∃x,(z0r w g p o f).cell? a=some x:=by
 unfold z0r;iterate 8 refine x1e _ _ _ _ ?_
 exact h
theorem y3u(w:World)(a:Option Addr)(cap:Nat)(os:List q0E)(h:RdO w a os)(hn:os.length<=1677721)(hz:∀z∈os,z.field.length<=16777216):
 Calls Tryz.prog 37 #[.slice a os.length cap] w λe w' =>e= .returned (.slice (some ⟨w.heap.size,0,none⟩) os.length os.length)/\x1h w' w.heap.size os os.length/\w.heap.size<w'.heap.size/\Below w.heap.size w w' :=by
 have HA:Hid (RdO w a os):=h;have HZ:Hid (∀z∈os,z.field.length<=16777216):=hz;obtain⟨u,hmk,hc0,B0,hlt0⟩:=x4S os.length hn w;have HC0:Hid (∀k,k<os.length*8->(∃x,u.cell? ⟨w.heap.size,k,none⟩=some x)/\u.frozen? ⟨w.heap.size,k,none⟩=false):=hc0;obtain⟨n,hnn⟩:∃n,os.length=n:=⟨_,rfl⟩;have Hn:Hid (os.length=n):=hnn;rw[hnn]at hn hmk HC0 ⊢;clear h hz hc0 hnn;go_enter Tryz.func37,Tryz.ntmps37;go_wp2;go_loopw[4] (λi wr=>∃j:Nat,j<=n/\i= .int .i64 j/\Hid (x1h wr w.heap.size os j)/\Hid (∀k,k<n*8->(∃x,wr.cell? ⟨w.heap.size,k,none⟩=some x)/\wr.frozen? ⟨w.heap.size,k,none⟩=false)/\w.heap.size<wr.heap.size/\Below w.heap.size w wr) (λi _=>n - (intOf i).toNat)
 case atStart=>exact⟨0,by omega,rfl,(λi hi hij=>by omega),HC0,hlt0,B0⟩
 case round=>
  obtain⟨j,hj,rfl,HL,HC,hgl,hb⟩:=hrel;by_cases hlt:j<n
  ·have hj2:j<os.length:=by have:=Hn.out;omega
   obtain⟨g,off,f,fc,rfl,hg,hc,hr⟩:=(q0V HA.out hb) j hj2;have hzl:=HZ.out os[j] (List.getElem_mem hj2);obtain⟨o,ho⟩:∃o,os[j]=o:=⟨_,rfl⟩;have Ho:Hid (os[j]=o):=ho;rw[ho]at hc hr hzl;clear ho;obtain⟨c0,c1,c2,c3,c4,c5,c6,c7⟩:=hc;go_wp2_with fail
   refine(j3N wr o f fc hr hzl).mono ?_;rintro e w1 ⟨v,rfl,O1,b1⟩;obtain⟨va,vc,rfl,-⟩:=y0Q O1;have B1:=hb.trans (b1.mono hb.size)
   have HX:Hid (∀k,k<n*8->(∃x,w1.cell? ⟨w.heap.size,k,none⟩=some x)/\w1.frozen? ⟨w.heap.size,k,none⟩=false):=by intro k hk;obtain⟨⟨x,hx⟩,hfz⟩:=HC.out k hk;exact⟨⟨x,(b1.cell (p:=⟨w.heap.size,k,none⟩) hgl).trans hx⟩,(b1.frozen (p:=⟨w.heap.size,k,none⟩) hgl).trans hfz⟩
   have HL1:Hid (x1h w1 w.heap.size os j):=x1N HL.out b1 hgl;have HO1:Hid (q0i w1 (w.heap.size+1) (.slice va o.field.length vc) o.field):=q0A O1 (by omega);obtain⟨⟨x0,e0⟩,f0⟩:=HX.out (j*8) (by omega);obtain⟨⟨x1,e1⟩,f1⟩:=HX.out (j*8+1) (by omega);obtain⟨⟨x2,e2⟩,f2⟩:=HX.out (j*8+2) (by omega);obtain⟨⟨x3,e3⟩,f3⟩:=HX.out (j*8+3) (by omega);obtain⟨⟨x4,e4⟩,f4⟩:=HX.out (j*8+4) (by omega);obtain⟨⟨x5,e5⟩,f5⟩:=HX.out (j*8+5) (by omega);obtain⟨⟨x6,e6⟩,f6⟩:=HX.out (j*8+6) (by omega);obtain⟨⟨x7,e7⟩,f7⟩:=HX.out (j*8+7) (by omega);have hgl1:w.heap.size<w1.heap.size:=Nat.lt_of_lt_of_le hgl b1.size
   have HS1:Hid (x1h (z0r w1 w.heap.size (j*8) o (.slice va o.field.length vc)) w.heap.size os (j+1)):=by have h:=x4K (f:= .slice va o.field.length vc) HL1.out hj2 (λk hk=>(HX.out (j*8+k) (by omega)).1) (by rw[Ho.out];exact HO1.out) (λk hk=>(HX.out (j*8+k) (by omega)).2);rw[Ho.out]at h;exact h
   have HS2:Hid (∀k,k<n*8->(∃x,(z0r w1 w.heap.size (j*8) o (.slice va o.field.length vc)).cell? ⟨w.heap.size,k,none⟩=some x)/\(z0r w1 w.heap.size (j*8) o (.slice va o.field.length vc)).frozen? ⟨w.heap.size,k,none⟩=false):=
    λk hk=>⟨v2W _ _ _ _ _ _ (HX.out k hk).1,by rw[z1y];exact(HX.out k hk).2⟩
   have HS3:Hid (w.heap.size<(z0r w1 w.heap.size (j*8) o (.slice va o.field.length vc)).heap.size):=by show _<_;rw[x1Q];exact hgl1
   have HS4:Hid (Below w.heap.size w (z0r w1 w.heap.size (j*8) o (.slice va o.field.length vc))):=u1p _ _ _ _ B1 nl0;clear O1 c0 c1 c2 c3 c4 c5 c6 c7 hr;unfold y0J;go_wp2;go_roundw
   case rel=>exact⟨j+1,by omega,by go_num,HS1,HS2,HS3.out,HS4.out⟩
   case measure=>simp[intOf];omega
  ·obtain rfl:j=n:=by omega
   go_wp2;go_ret
   exact⟨rfl,HL.out,hgl,hb⟩
theorem x2q(w:World)(a b:Option Addr)(cap cap2:Nat)(os:List q0E)(h1:RdO w a os)(h2:RdO w b os)(hn:os.length<=16777216)(hz:∀z∈os,z.field.length<=16777216):
 Calls Tryz.prog 45 #[.slice a os.length cap,.slice b os.length cap2] w λe w' =>e= .returned (.bool true)/\Below w.heap.size w w' :=by
 have HA:Hid (RdO w a os):=h1;have HB:Hid (RdO w b os):=h2;have HZ:Hid (∀z∈os,z.field.length<=16777216):=hz;obtain⟨n,hnn⟩:∃n,os.length=n:=⟨_,rfl⟩;have Hn:Hid (os.length=n):=hnn;rw[hnn]at hn ⊢;clear h1 h2 hz hnn;go_enter Tryz.func45,Tryz.ntmps45;go_wp2;go_loopw[5] (λi wr=>∃j:Nat,j<=n/\i= .int .i64 j/\Below w.heap.size w wr) (λi _=>n - (intOf i).toNat)
 case atStart=>exact⟨0,by omega,rfl,bl0⟩
 case round=>
  obtain⟨j,hj,rfl,hb⟩:=hrel;by_cases hlt:j<n
  ·have hj2:j<os.length:=by have:=Hn.out;omega
   obtain⟨g,off,f,fc,rfl,-,hc,hr⟩:=(q0V HA.out hb) j hj2;obtain⟨g2,off2,f2,fc2,rfl,-,hc2,hr2⟩:=(q0V HB.out hb) j hj2;have hzl:=HZ.out os[j] (List.getElem_mem hj2);generalize os[j]=o at*;have HE:Hid (∀X,Below wr.heap.size wr X->_):=λX hX=>y3M X o f f2 fc fc2 (q0t hr hX) (q0t hr2 hX) hzl;unfold y0J at HE;obtain⟨c0,c1,c2,c3,c4,c5,c6,c7⟩:=hc;obtain⟨d0,d1,d2,d3,d4,d5,d6,d7⟩:=hc2;have HD:Hid (Below wr.heap.size wr wr.drew):=bl0.drew;go_wp2_with fail
   go_region_with (go_at_call 99;refine(HE.out _ HD.out).mono ?_;rintro e w1 ⟨rfl,b1⟩)
   all_goals
    have B1:Below w.heap.size w w1:=hb.drew.trans (b1.mono hb.size);go_wp2;go_roundw
    case rel=>exact⟨j+1,by omega,by go_num,B1⟩
    case measure=>simp[intOf];omega
  ·go_wp2;go_ret
   exact⟨rfl,hb⟩
open Go.RowKit
structure x0g where
 used:Bool
 target:Int
def y1e(d:x0g):Value:= .agg #[.bool d.used,.int .i64 d.target]
theorem y3w(w:World)(d:x0g):
 Calls Tryz.prog 77 #[y1e d] w λe w' =>e= .returned (y1e d)/\Below w.heap.size w w' :=by
 obtain⟨u,t⟩:=d;unfold y1e;simp only;go_enter Tryz.func77,Tryz.ntmps77;go_wp2;refine bodyPost_ret (v:= .agg #[.bool u,.int .i64 t]) (by simp[results,Tryz.results77,go_sem, *]) rfl ⟨rfl,?_⟩;exact((bl1 _).alloc (by simp) _).alloc (by simp;omega) _
theorem x3r(w:World)(d:x0g):
 Calls Tryz.prog 100 #[y1e d,y1e d] w λe w' =>e= .returned (.bool true)/\Below w.heap.size w w' :=by
 obtain⟨u,t⟩:=d;unfold y1e;simp only;go_enter Tryz.func100,Tryz.ntmps100;go_wp2;go_ret
 exact⟨rfl,(bl1 _).alloc (by simp) _⟩
theorem x2g(w:World)(a:Option Addr)(cap n:Nat)(left:Int)(hn:n<=9223372036854775807)(h0:0<=left)(h1:left<=1048576):
 Calls Tryz.prog 27 #[.slice a n cap,.int .i64 left] w λe w' =>e= .returned (.int .i64 (if left - (n:Int)<0 then -1 else left - (n:Int)))/\w' =w:=by
 by_cases hl:left - (n:Int)<0
 ·rw[if_pos hl];go_enter Tryz.func27,Tryz.ntmps27;go_wp2;go_ret
  exact⟨rfl,rfl⟩
 ·rw[if_neg hl];have hl2:(n:Int)<=left:=by omega
  clear hl;go_enter Tryz.func27,Tryz.ntmps27;go_wp2;go_ret
  exact⟨rfl,rfl⟩
structure j0y(w:World)(g p:Nat)(d:x0g):Prop where
 c0:w.cell? ⟨g,p,none⟩=some (.bool d.used)
 c1:w.cell? ⟨g,p+1,none⟩=some (.int .i64 d.target)
theorem j0y.keep{w w' :World}{g p:Nat}{d:x0g}(h:j0y w g p d)(hk:∀k,w'.cell? ⟨g,k,none⟩=w.cell? ⟨g,k,none⟩):j0y w' g p d:=
 ⟨(hk _).trans h.c0,(hk _).trans h.c1⟩
def RdW(w:World)(a:Option Addr)(ds:List x0g):Prop:=∀j(h:j<ds.length),∃g off,a=some ⟨g,off,none⟩/\g<w.heap.size/\j0y w g (off+j*2) ds[j]
theorem z0R{w w' :World}{a:Option Addr}{ds:List x0g}(h:RdW w a ds)(hb:Below w.heap.size w w'):RdW w' a ds:=by intro j hj;obtain⟨g,off,ha,hg,hc⟩:=h j hj;exact⟨g,off,ha,Nat.lt_of_lt_of_le hg hb.size,hc.keep (λk=>hb.cell (p:=⟨g,k,none⟩) hg)⟩
theorem q4C:(Tryz.prog.info? 95).map (λi=>(i.zero,i.size,i.bytes))=some (some (.agg #[.bool false,.int .i64 0]),2,16):=by kernel_rfl
theorem q4N(n:Nat)(hn:n<=1677721)(u:World):∃u',(Instr.makeSlice 33 (.int .i64 (n:Int)) (.int .i64 (n:Int))).run Tryz.prog u= .ok (.slice (some ⟨u.heap.size,0,none⟩) n n) u' /\
 (∀k,k<n*2->(∃x,u'.cell? ⟨u.heap.size,k,none⟩=some x)/\u'.frozen? ⟨u.heap.size,k,none⟩=false)/\Below u.heap.size u u' /\u.heap.size<u'.heap.size:=by
 obtain⟨i0,hi,hz0,hz1,hz2⟩:=info_parts q4C;obtain⟨u',h1,h2,h3⟩:=run_make_full (P:=Tryz.prog) u u.heap.size 33 95 i0 _ 2 Tryz.underlying33 hi hz0 hz1 .i64 .i64 n (by rw[hz2];omega) (by unfold maxLen;omega) nl0;refine⟨u',h1,?_,bl0.grown h3 nl0 (λr hr=>by cases hr),?_⟩
 ·intro k hk;refine⟨?_,World.ownsRow.frozenAt h2 k⟩;rw[World.ownsRow.cellAt h2 k hk]
  have hl:k<(madeCells (Value.agg #[.bool false,.int .i64 0]).cells (n*2)).toList.length:=by rw[Array.length_toList,size_madeCells];exact hk
  exact⟨_,List.getElem?_eq_getElem hl⟩
 ·exact(World.ownsRow.lt h2 u.heap.size rfl).2
def z0y(w:World)(g p:Nat)(d:x0g):World:=(w.setCell ⟨g,p,none⟩ (.bool d.used)).setCell ⟨g,p+1,none⟩ (.int .i64 d.target)
theorem x2e(w:World)(g p q:Nat)(d:x0g)(h:q<p\/p+2<=q):(z0y w g p d).cell? ⟨g,q,none⟩=w.cell? ⟨g,q,none⟩:=by unfold z0y;rw[q0q _ _ _ _ _ (by omega),q0q _ _ _ _ _ (by omega)]
theorem z4u(w:World)(g p:Nat)(d:x0g)(h:∀k,k<2->∃u,w.cell? ⟨g,p+k,none⟩=some u):j0y (z0y w g p d) g p d:=by
 have same:∀(X:World)(q:Nat)(u v:Value),X.cell? ⟨g,q,none⟩=some v->(X.setCell ⟨g,q,none⟩ u).cell? ⟨g,q,none⟩=some u:=λX q u v hX=>World.cell?_setCell_same X _ u hX;obtain⟨u0,h0⟩:=h 0 (by omega);obtain⟨u1,h1⟩:=h 1 (by omega);rw[Nat.add_zero]at h0;unfold z0y;constructor
 ·rw[q0q _ _ _ _ _ (by omega)];exact same _ _ _ _ h0
 ·exact same _ _ _ _ (by rw[q0q _ _ _ _ _ (by omega)];exact h1)
def u0W(w:World)(g:Nat)(ds:List x0g)(j:Nat):Prop:=∀i(h:i<ds.length),i<j->j0y w g (i*2) ds[i]/\∀k,k<2->w.frozen? ⟨g,i*2+k,none⟩=false
theorem x3V{w:World}{g:Nat}{ds:List x0g}(h:u0W w g ds ds.length)(hg:g<w.heap.size):RdW w (some ⟨g,0,none⟩) ds:=
 λj hj=>⟨g,0,rfl,hg,by rw[Nat.zero_add];exact(h j hj hj).1⟩
theorem z1B{w w' :World}{g j:Nat}{ds:List x0g}(h:u0W w g ds j)(hb:Below w.heap.size w w')(hg:g<w.heap.size):u0W w' g ds j:=
 λi hi hij=>⟨(h i hi hij).1.keep (λk=>hb.cell (p:=⟨g,k,none⟩) hg),λk hk=>(hb.frozen (p:=⟨g,i*2+k,none⟩) hg).trans ((h i hi hij).2 k hk)⟩
theorem x4M{w:World}{g j:Nat}{ds:List x0g}(h:u0W w g ds j)(hj:j<ds.length)(hc:∀k,k<2->∃u,w.cell? ⟨g,j*2+k,none⟩=some u)(hf:∀k,k<2->w.frozen? ⟨g,j*2+k,none⟩=false):u0W (z0y w g (j*2) ds[j]) g ds (j+1):=by
 intro i hi hij;by_cases he:i=j
 ·subst he;exact⟨z4u w g (i*2) ds[i] hc,λk hk=>by unfold z0y;rw[World.frozen?_setCell,World.frozen?_setCell];exact hf k hk⟩
 ·have h1:=(h i hi (by omega)).1;exact⟨⟨by rw[x2e _ _ _ _ _ (by omega)];exact h1.c0,by rw[x2e _ _ _ _ _ (by omega)];exact h1.c1⟩,λk hk=>by unfold z0y;rw[World.frozen?_setCell,World.frozen?_setCell];exact(h i hi (by omega)).2 k hk⟩
theorem x2h(w:World)(a:Option Addr)(cap:Nat)(ds:List x0g)(h:RdW w a ds)(hn:ds.length<=1677721):
 Calls Tryz.prog 38 #[.slice a ds.length cap] w λe w' =>e= .returned (.slice (some ⟨w.heap.size,0,none⟩) ds.length ds.length)/\u0W w' w.heap.size ds ds.length/\w.heap.size<w'.heap.size/\Below w.heap.size w w' :=by
 have HA:Hid (RdW w a ds):=h;obtain⟨u,hmk,hc0,B0,hlt0⟩:=q4N ds.length hn w;have HC0:Hid (∀k,k<ds.length*2->(∃x,u.cell? ⟨w.heap.size,k,none⟩=some x)/\u.frozen? ⟨w.heap.size,k,none⟩=false):=hc0;obtain⟨n,hnn⟩:∃n,ds.length=n:=⟨_,rfl⟩;have Hn:Hid (ds.length=n):=hnn;rw[hnn]at hn hmk HC0 ⊢;clear h hc0 hnn;go_enter Tryz.func38,Tryz.ntmps38;go_wp2;go_loopw[4] (λi wr=>∃j:Nat,j<=n/\i= .int .i64 j/\Hid (u0W wr w.heap.size ds j)/\Hid (∀k,k<n*2->(∃x,wr.cell? ⟨w.heap.size,k,none⟩=some x)/\wr.frozen? ⟨w.heap.size,k,none⟩=false)/\w.heap.size<wr.heap.size/\Below w.heap.size w wr) (λi _=>n - (intOf i).toNat)
 case atStart=>exact⟨0,by omega,rfl,(λi hi hij=>by omega),HC0,hlt0,B0⟩
 case round=>
  obtain⟨j,hj,rfl,HL,HC,hgl,hb⟩:=hrel;by_cases hlt:j<n
  ·have hj2:j<ds.length:=by have:=Hn.out;omega
   obtain⟨g,off,rfl,hg,hc⟩:=(z0R HA.out hb) j hj2;obtain⟨d,hd⟩:∃d,ds[j]=d:=⟨_,rfl⟩;have Hd:Hid (ds[j]=d):=hd;rw[hd]at hc;clear hd;obtain⟨c0,c1⟩:=hc;go_wp2_with fail
   refine(y3w wr d).mono ?_;rintro e w1 ⟨rfl,b1⟩;have B1:=hb.trans (b1.mono hb.size)
   have HX:Hid (∀k,k<n*2->(∃x,w1.cell? ⟨w.heap.size,k,none⟩=some x)/\w1.frozen? ⟨w.heap.size,k,none⟩=false):=by intro k hk;obtain⟨⟨x,hx⟩,hfz⟩:=HC.out k hk;exact⟨⟨x,(b1.cell (p:=⟨w.heap.size,k,none⟩) hgl).trans hx⟩,(b1.frozen (p:=⟨w.heap.size,k,none⟩) hgl).trans hfz⟩
   have HL1:Hid (u0W w1 w.heap.size ds j):=z1B HL.out b1 hgl;obtain⟨⟨x0,e0⟩,f0⟩:=HX.out (j*2) (by omega);obtain⟨⟨x1,e1⟩,f1⟩:=HX.out (j*2+1) (by omega);have hgl1:w.heap.size<w1.heap.size:=Nat.lt_of_lt_of_le hgl b1.size
   have HS1:Hid (u0W (z0y w1 w.heap.size (j*2) d) w.heap.size ds (j+1)):=by have h:=x4M HL1.out hj2 (λk hk=>(HX.out (j*2+k) (by omega)).1) (λk hk=>(HX.out (j*2+k) (by omega)).2);rw[Hd.out]at h;exact h
   have HS2:Hid (∀k,k<n*2->(∃x,(z0y w1 w.heap.size (j*2) d).cell? ⟨w.heap.size,k,none⟩=some x)/\(z0y w1 w.heap.size (j*2) d).frozen? ⟨w.heap.size,k,none⟩=false):=
    λk hk=>⟨x1e _ _ _ _ (x1e _ _ _ _ (HX.out k hk).1),by unfold z0y;rw[World.frozen?_setCell,World.frozen?_setCell];exact(HX.out k hk).2⟩
   have HS3:Hid (w.heap.size<(z0y w1 w.heap.size (j*2) d).heap.size):=by show _<_;unfold z0y;simp[World.setCell];exact hgl1
   have HS4:Hid (Below w.heap.size w (z0y w1 w.heap.size (j*2) d)):=(B1.setCell (p:=⟨w.heap.size,j*2,none⟩) nl0 _).setCell (p:=⟨w.heap.size,j*2+1,none⟩) nl0 _;clear c0 c1;unfold y1e;go_wp2;go_roundw
   case rel=>exact⟨j+1,by omega,by go_num,HS1,HS2,HS3.out,HS4.out⟩
   case measure=>simp[intOf];omega
  ·obtain rfl:j=n:=by omega
   go_wp2;go_ret
   exact⟨rfl,HL.out,hgl,hb⟩
theorem j1g(w:World)(a b:Option Addr)(cap cap2:Nat)(ds:List x0g)(h1:RdW w a ds)(h2:RdW w b ds)(hn:ds.length<=16777216):
 Calls Tryz.prog 46 #[.slice a ds.length cap,.slice b ds.length cap2] w λe w' =>e= .returned (.bool true)/\Below w.heap.size w w' :=by
 have HA:Hid (RdW w a ds):=h1;have HB:Hid (RdW w b ds):=h2;obtain⟨n,hnn⟩:∃n,ds.length=n:=⟨_,rfl⟩;have Hn:Hid (ds.length=n):=hnn;rw[hnn]at hn ⊢;clear h1 h2 hnn;go_enter Tryz.func46,Tryz.ntmps46;go_wp2;go_loopw[5] (λi wr=>∃j:Nat,j<=n/\i= .int .i64 j/\Below w.heap.size w wr) (λi _=>n - (intOf i).toNat)
 case atStart=>exact⟨0,by omega,rfl,bl0⟩
 case round=>
  obtain⟨j,hj,rfl,hb⟩:=hrel;by_cases hlt:j<n
  ·have hj2:j<ds.length:=by have:=Hn.out;omega
   obtain⟨g,off,rfl,-,hc⟩:=(z0R HA.out hb) j hj2;obtain⟨g2,off2,rfl,-,hc2⟩:=(z0R HB.out hb) j hj2;generalize ds[j]=d at*;have HE:Hid (∀X,_):=λX=>x3r X d;unfold y1e at HE;obtain⟨c0,c1⟩:=hc;obtain⟨d0,d1⟩:=hc2;go_wp2_with fail
   go_region_with (go_at_call 100;refine(HE.out _).mono ?_;rintro e w1 ⟨rfl,b1⟩)
   all_goals
    have B1:Below w.heap.size w w1:=hb.drew.trans (b1.mono hb.size);go_wp2;go_roundw
    case rel=>exact⟨j+1,by omega,by go_num,B1⟩
    case measure=>simp[intOf];omega
  ·go_wp2;go_ret
   exact⟨rfl,hb⟩
open Go.RowKit
structure q0a where
 objs:List q0E
 weaks:List x0g
 buffer:List Int
 sites:List (List UInt8)
def RdH(w:World)(v:Value)(H:q0a):Prop:=∃ao co aw cw ab cb sa sc,v= .agg #[.slice ao H.objs.length co,.slice aw H.weaks.length cw,.slice ab H.buffer.length cb,.slice sa H.sites.length sc]/\RdO w ao H.objs/\RdW w aw H.weaks/\RdI w ab H.buffer/\RdS w sa H.sites
theorem q0s{w w' :World}{v:Value}{H:q0a}(h:RdH w v H)(hb:Below w.heap.size w w'):RdH w' v H:=by obtain⟨ao,co,aw,cw,ab,cb,sa,sc,h1,h2,h3,h4,h5⟩:=h;exact⟨ao,co,aw,cw,ab,cb,sa,sc,h1,q0V h2 hb,z0R h3 hb,q0t h4 hb,z0l h5 hb⟩
def q0w(z:Int):Prop:= -9223372036854775808<=z/\z<=9223372036854775807
def WfO(o:q0E):Prop:=q0w o.gen/\q0w o.site/\q0w o.holds/\q0w o.roots/\q0w o.count/\∀z∈o.field,q0w z
structure WfH(H:q0a):Prop where
 objs:∀o∈H.objs,WfO o
 weaks:∀d∈H.weaks,q0w d.target
 buffer:∀z∈H.buffer,q0w z
structure v0W(H:q0a):Prop where
 wf:WfH H
 objs:H.objs.length<=9223372036854775807
 fields:∀z∈H.objs,z.field.length<=9223372036854775807
 weaks:H.weaks.length<=9223372036854775807
 buffer:H.buffer.length<=9223372036854775807
 sites:H.sites.length<=9223372036854775807
 names:∀z∈H.sites,z.length<=9223372036854775807
structure q0h(H:q0a):Prop where
 objs:H.objs.length<=1048576
 fields:∀z∈H.objs,z.field.length<=1048576
 weaks:H.weaks.length<=1048576
 buffer:H.buffer.length<=1048576
 sites:H.sites.length<=1048576
 names:∀z∈H.sites,z.length<=1048576
def szN(n:Nat)(left:Int):Int:=if left - (n:Int)<0 then -1 else left - (n:Int)
theorem q1l(n:Nat)(left:Int)(h: -1<=left):szN n left<=left/\ -1<=szN n left:=by unfold szN;split<;>omega
theorem x2S(zs:List (List UInt8))(left:Int)(h: -1<=left):szS zs left<=left/\ -1<=szS zs left:=by
 unfold szS;split
 ·omega
 ·have:=x5O zs (left - (zs.length:Int)) (by omega);omega
def szH(H:q0a)(left:Int):Int:=
 if szO H.objs left<0 then -1
 else if szN H.weaks.length (szO H.objs left)<0 then -1
 else if szN H.buffer.length (szN H.weaks.length (szO H.objs left))<0 then -1
 else if szS H.sites (szN H.buffer.length (szN H.weaks.length (szO H.objs left)))<0 then -1
 else szS H.sites (szN H.buffer.length (szN H.weaks.length (szO H.objs left)))
theorem y0T(H:q0a)(h:¬szH H 1048576<0):q0h H:=by
 unfold szH at h;have hl:=x2R H.objs 1048576 (by omega);split at h
 ·omega
 rename_i h1
 have hl2:=q1l H.weaks.length (szO H.objs 1048576) (by omega);split at h
 ·omega
 rename_i h2
 have hl3:=q1l H.buffer.length (szN H.weaks.length (szO H.objs 1048576)) (by omega);split at h
 ·omega
 rename_i h3
 split at h
 ·omega
 rename_i h4
 obtain⟨a1,a2⟩:=z3f H.objs 1048576 (by omega);obtain⟨b1,b2⟩:=u1T H.sites _ (Int.not_lt.1 h4);have c1:(H.weaks.length:Int)<=szO H.objs 1048576:=by unfold szN at h2;split at h2<;>omega
 have c2:(H.buffer.length:Int)<=szN H.weaks.length (szO H.objs 1048576):=by unfold szN at h3 ⊢;split at h3<;>omega
 exact⟨by omega,λz hz=>by have:=a2 z hz;omega,by omega,by omega,by omega,λz hz=>by have:=b2 z hz;omega⟩
theorem z0z(w:World)(t:TypeId)(x0 x1 x2 x3:Value)(X:World)(hb:Below (w.heap.size+1) (w.alloc (.cells #[x0,x1,x2,x3] t)) X):
 X.cell? ⟨w.heap.size,0,none⟩=some x0/\X.cell? ⟨w.heap.size,1,none⟩=some x1/\X.cell? ⟨w.heap.size,2,none⟩=some x2/\X.cell? ⟨w.heap.size,3,none⟩=some x3:=by
 have h:∀k,X.cell? ⟨w.heap.size,k,none⟩=(#[x0,x1,x2,x3]:Array Value)[k]?:=λk=>by
  rw[hb.cell (p:=⟨w.heap.size,k,none⟩) (by show w.heap.size<_;omega),World.cell?_alloc_mark]
 exact⟨h 0,h 1,h 2,h 3⟩
theorem x0Y(w:World)(v:Value)(H:q0a)(left:Int)(h:RdH w v H)(hs:v0W H)(h0:0<=left)(h1:left<=1048576):
 Calls Tryz.prog 5 #[v,.int .i64 left] w λe w' =>e= .returned (.int .i64 (szH H left))/\Below w.heap.size w w' :=by
 obtain⟨ao,co,aw,cw,ab,cb,sa,sc,rfl,ro,rw,ri,rs⟩:=h;obtain⟨W,hW⟩:∃W,W=w.alloc (.cells #[.slice ao H.objs.length co,.slice aw H.weaks.length cw,.slice ab H.buffer.length cb,.slice sa H.sites.length sc] 27):=⟨_,rfl⟩;have BW:Below w.heap.size w W:=by rw[hW];exact bl1 _
 have hWs:W.heap.size=w.heap.size+1:=by rw[hW];simp
 have HK:Hid (∀X,Below W.heap.size W X->X.cell? ⟨w.heap.size,0,none⟩=some (.slice ao H.objs.length co)/\X.cell? ⟨w.heap.size,1,none⟩=some (.slice aw H.weaks.length cw)/\X.cell? ⟨w.heap.size,2,none⟩=some (.slice ab H.buffer.length cb)/\X.cell? ⟨w.heap.size,3,none⟩=some (.slice sa H.sites.length sc)):=by intro X hX;rw[hWs,hW]at hX;exact z0z w _ _ _ _ _ X hX
 have C1:Hid (∀X:Unit,_):=λ(_:Unit)=>y3q W ao co H.objs left (q0V ro BW) hs.objs hs.fields h0 h1;have l1:=x2R H.objs left (by omega);have HS:Hid (szH H left=if szO H.objs left<0 then -1 else if szN H.weaks.length (szO H.objs left)<0 then -1 else if szN H.buffer.length (szN H.weaks.length (szO H.objs left))<0 then -1 else if szS H.sites (szN H.buffer.length (szN H.weaks.length (szO H.objs left)))<0 then -1 else szS H.sites (szN H.buffer.length (szN H.weaks.length (szO H.objs left)))):=rfl;have C2:Hid (∀X(l:Int),0<=l->l<=1048576->_):=λX l hl0 hl1=>x2g X aw cw H.weaks.length l hs.weaks hl0 hl1;have C3:Hid (∀X(l:Int),0<=l->l<=1048576->_):=λX l hl0 hl1=>u0N X ab cb H.buffer.length l hs.buffer hl0 hl1;have C4:Hid (∀X(l:Int),Below W.heap.size W X->0<=l->l<=1048576->_):=λX l hX hl0 hl1=>y1a X sa sc H.sites l (z0l (z0l rs BW) hX) hs.sites hs.names hl0 hl1;generalize szO H.objs left=a at*;by_cases n1:a<0
 ·rw[if_pos n1]at HS;go_enter Tryz.func5,Tryz.ntmps5;go_wp2_with fail
  rw[<-hW];refine(C1.out ()).mono ?_;rintro e w1 ⟨rfl,b1⟩;have B1:=BW.trans (b1.mono (by omega));clear hW;go_wp2;go_ret
  exact⟨z0x HS.out.symm,B1⟩
 ·rw[if_neg n1]at HS;have C2a:Hid (∀X,_):=λX=>C2.out X a (by omega) (by omega);have l2:=q1l H.weaks.length a (by omega);rw[show(if a - (H.weaks.length:Int)<0 then -1 else a - (H.weaks.length:Int))=szN H.weaks.length a from rfl]at C2a;generalize szN H.weaks.length a=b at*;have m1:0<=a:=by omega
  by_cases n2:b<0
  ·rw[if_pos n2]at HS;go_enter Tryz.func5,Tryz.ntmps5;go_wp2_with fail
   rw[<-hW];refine(C1.out ()).mono ?_;rintro e w1 ⟨rfl,b1⟩;have B1:=BW.trans (b1.mono (by omega));obtain⟨k0,k1,k2,k3⟩:=HK.out _ b1;clear hW n1;go_wp2_with fail
   refine(C2a.out _).mono ?_;rintro e w2 ⟨rfl,rfl⟩;go_wp2;go_ret
   exact⟨z0x HS.out.symm,B1⟩
  ·rw[if_neg n2]at HS;have C3a:Hid (∀X,_):=λX=>C3.out X b (by omega) (by omega);have l3:=q1l H.buffer.length b (by omega);rw[show(if b - (H.buffer.length:Int)<0 then -1 else b - (H.buffer.length:Int))=szN H.buffer.length b from rfl]at C3a;generalize szN H.buffer.length b=c at*;have m2:0<=b:=by omega
   by_cases n3:c<0
   ·rw[if_pos n3]at HS;go_enter Tryz.func5,Tryz.ntmps5;go_wp2_with fail
    rw[<-hW];refine(C1.out ()).mono ?_;rintro e w1 ⟨rfl,b1⟩;have B1:=BW.trans (b1.mono (by omega));obtain⟨k0,k1,k2,k3⟩:=HK.out _ b1;clear hW n1 n2;go_wp2_with fail
    refine(C2a.out _).mono ?_;rintro e w2 ⟨rfl,rfl⟩;go_wp2_with fail
    refine(C3a.out _).mono ?_;rintro e w3 ⟨rfl,rfl⟩;go_wp2;go_ret
    exact⟨z0x HS.out.symm,B1⟩
   ·rw[if_neg n3]at HS;have C4a:Hid (∀X,Below W.heap.size W X->_):=λX hX=>C4.out X c hX (by omega) (by omega);have l4:=x2S H.sites c (by omega);generalize szS H.sites c=d at*;have m3:0<=c:=by omega
    by_cases n4:d<0
    ·rw[if_pos n4]at HS;go_enter Tryz.func5,Tryz.ntmps5;go_wp2_with fail
     rw[<-hW];refine(C1.out ()).mono ?_;rintro e w1 ⟨rfl,b1⟩;have B1:=BW.trans (b1.mono (by omega));have C4b:=C4a.out _ b1;have HC4:Hid _:=C4b;obtain⟨k0,k1,k2,k3⟩:=HK.out _ b1;clear hW n1 n2 n3 C4b;go_wp2_with fail
     refine(C2a.out _).mono ?_;rintro e w2 ⟨rfl,rfl⟩;go_wp2_with fail
     refine(C3a.out _).mono ?_;rintro e w3 ⟨rfl,rfl⟩;go_wp2_with fail
     refine(Calls.mono HC4.out ?_);rintro e w4 ⟨rfl,rfl⟩;go_wp2;go_ret
     exact⟨z0x HS.out.symm,B1⟩
    ·rw[if_neg n4]at HS;have m4:0<=d:=by omega
     go_enter Tryz.func5,Tryz.ntmps5;go_wp2_with fail
     rw[<-hW];refine(C1.out ()).mono ?_;rintro e w1 ⟨rfl,b1⟩;have B1:=BW.trans (b1.mono (by omega));have C4b:=C4a.out _ b1;have HC4:Hid _:=C4b;obtain⟨k0,k1,k2,k3⟩:=HK.out _ b1;clear hW n1 n2 n3 n4 C4b;go_wp2_with fail
     refine(C2a.out _).mono ?_;rintro e w2 ⟨rfl,rfl⟩;go_wp2_with fail
     refine(C3a.out _).mono ?_;rintro e w3 ⟨rfl,rfl⟩;go_wp2_with fail
     refine(Calls.mono HC4.out ?_);rintro e w4 ⟨rfl,rfl⟩;go_wp2;go_ret
     exact⟨z0x HS.out.symm,B1⟩
open Go.RowKit
theorem y0g{w:World}{g:Nat}(p:Addr)(u:Value)(h:p.block≠g)(k:Nat):(w.setCell p u).cell? ⟨g,k,none⟩=w.cell? ⟨g,k,none⟩:=
 World.cell?_setCell_other _ _ _ _ (by intro e;exact h (by rw[e]))
theorem u1H{w:World}{g j:Nat}{os:List q0E}(p:Addr)(u:Value)(h:x1h w g os j)(hp:p.block<g):x1h (w.setCell p u) g os j:=by intro i hi hij;obtain⟨f,h1,h2,h3⟩:=h i hi hij;exact⟨f,h1.keep (λk=>y0g p u (by omega) k),u0f p u h2 (by omega),λk hk=>by rw[World.frozen?_setCell];exact h3 k hk⟩
theorem v1p{w:World}{g j:Nat}{ds:List x0g}(p:Addr)(u:Value)(h:u0W w g ds j)(hp:p.block<g):u0W (w.setCell p u) g ds j:=
 λi hi hij=>⟨(h i hi hij).1.keep (λk=>y0g p u (by omega) k),λk hk=>by rw[World.frozen?_setCell];exact(h i hi hij).2 k hk⟩
theorem v3A{w:World}{B:Nat}{v:Value}{zs:List (List UInt8)}(p:Addr)(u:Value)(h:z0E w B v zs)(hp:p.block<B):z0E (w.setCell p u) B v zs:=by
 rcases h with⟨h1,h2|⟨g,cap,cur,h2,h3,h4,h5⟩⟩
 ·exact⟨h1,.inl h2⟩
 ·refine⟨h1,.inr ⟨g,cap,cur,h2,h3,?_,h5⟩⟩;rw[heap_setCell_other w p g u (by omega)];exact h4
def v1z(w:World)(B:Nat)(v:Value)(H:q0a):Prop:=∃go gw vb vs,v= .agg #[.slice (some ⟨go,0,none⟩) H.objs.length H.objs.length,.slice (some ⟨gw,0,none⟩) H.weaks.length H.weaks.length,vb,vs]/\
 B<=go/\go<w.heap.size/\x1h w go H.objs H.objs.length/\B<=gw/\gw<w.heap.size/\u0W w gw H.weaks H.weaks.length/\q0i w B vb H.buffer/\z0E w B vs H.sites
theorem q0X{w:World}{B:Nat}{v:Value}{H:q0a}(h:v1z w B v H):RdH w v H:=by obtain⟨go,gw,vb,vs,rfl,-,h1,h2,-,h3,h4,h5,h6⟩:=h;obtain⟨ab,cb,rfl,hb⟩:=z0e h5;obtain⟨sa,sc,rfl,hs⟩:=j0t h6;exact⟨_,_,_,_,ab,cb,sa,sc,rfl,j4r h2 h1,x3V h4 h3,hb,hs.out⟩
theorem v0m{w w' :World}{B:Nat}{v:Value}{H:q0a}(h:v1z w B v H)(hb:Below w.heap.size w w'):v1z w' B v H:=by obtain⟨go,gw,vb,vs,rfl,b1,h1,h2,b2,h3,h4,h5,h6⟩:=h;exact⟨go,gw,vb,vs,rfl,b1,Nat.lt_of_lt_of_le h1 hb.size,x1N h2 hb h1,b2,Nat.lt_of_lt_of_le h3 hb.size,z1B h4 hb h3,q0o h5 hb,x0V h6 hb⟩
structure Frm(s:Nat)(X:World)(ps xs:Array Value):Prop where
 p:∀k,X.cell? ⟨s,k,none⟩=ps[k]?
 r:∀k,X.cell? ⟨s+1,k,none⟩=(#[Value.slice none 0 0,.slice none 0 0,.slice none 0 0,.slice none 0 0]:Array Value)[k]?
 o:∀k,X.cell? ⟨s+1+1,k,none⟩=xs[k]?
 fr:∀k,X.frozen? ⟨s+1,k,none⟩=false
 fo:∀k,X.frozen? ⟨s+1+1,k,none⟩=false
 sz:s+1+1<X.heap.size
theorem Frm.later{s:Nat}{X Y:World}{ps xs:Array Value}(h:Frm s X ps xs)(hb:Below X.heap.size X Y):Frm s Y ps xs:=by
 have hs:=h.sz;refine⟨λk=> ?_,λk=> ?_,λk=> ?_,λk=> ?_,λk=> ?_,Nat.lt_of_lt_of_le hs hb.size⟩
 ·rw[hb.cell (p:=⟨s,k,none⟩) (by show s<_;omega)];exact h.p k
 ·rw[hb.cell (p:=⟨s+1,k,none⟩) (by show s+1<_;omega)];exact h.r k
 ·rw[hb.cell (p:=⟨s+1+1,k,none⟩) hs];exact h.o k
 ·rw[hb.frozen (p:=⟨s+1,k,none⟩) (by show s+1<_;omega)];exact h.fr k
 ·rw[hb.frozen (p:=⟨s+1+1,k,none⟩) hs];exact h.fo k
theorem Frm.set{s:Nat}{X:World}{ps xs:Array Value}(h:Frm s X ps xs)(i:Nat)(u:Value)(hi:i<xs.size):Frm s (X.setCell ⟨s+1+1,i,none⟩ u) ps (xs.setIfInBounds i u):=by
 have hs:=h.sz;refine⟨λk=> ?_,λk=> ?_,λk=> ?_,λk=> ?_,λk=> ?_,by simpa[World.setCell]using hs⟩
 ·rw[y0g _ _ (by show s+1+1≠s;omega)];exact h.p k
 ·rw[y0g _ _ (by show s+1+1≠s+1;omega)];exact h.r k
 ·by_cases e:i=k
  ·subst e;rw[World.cell?_setCell_same X _ u ((h.o i).trans (Array.getElem?_eq_getElem hi)),Array.getElem?_setIfInBounds_self_of_lt hi]
  ·rw[q0q _ _ _ _ _ e,h.o k,Array.getElem?_setIfInBounds_ne e]
 ·rw[World.frozen?_setCell];exact h.fr k
 ·rw[World.frozen?_setCell];exact h.fo k
theorem x0Z(w:World)(v:Value)(H:q0a)(h:RdH w v H)(hs:q0h H):
 Calls Tryz.prog 8 #[v] w λe w' =>∃u,e= .returned u/\v1z w' w.heap.size u H/\Below w.heap.size w w' :=by
 obtain⟨ao,co,aw,cw,ab,cb,sa,sc,rfl,ro,rwk,ri,rs⟩:=h;obtain⟨W,hW⟩:∃W,W=((w.alloc (.cells #[.slice ao H.objs.length co,.slice aw H.weaks.length cw,.slice ab H.buffer.length cb,.slice sa H.sites.length sc] 27)).alloc (.cells #[.slice none 0 0,.slice none 0 0,.slice none 0 0,.slice none 0 0] 35)).alloc (.cells #[.slice none 0 0,.slice none 0 0,.slice none 0 0,.slice none 0 0] 35):=⟨_,rfl⟩
 have BW:Below w.heap.size w W:=by rw[hW];exact((bl1 _).alloc (by simp) _).alloc (by simp;omega) _
 have hWs:W.heap.size=w.heap.size+1+1+1:=by rw[hW];simp
 have F0:Frm w.heap.size W #[.slice ao H.objs.length co,.slice aw H.weaks.length cw,.slice ab H.buffer.length cb,.slice sa H.sites.length sc] #[.slice none 0 0,.slice none 0 0,.slice none 0 0,.slice none 0 0]:=by
  refine⟨λk=> ?_,λk=> ?_,λk=> ?_,λk=> ?_,λk=> ?_,by omega⟩
  ·rw[hW,World.cell?_alloc_lt _ _ _ (by simp;omega),World.cell?_alloc_lt _ _ _ (by simp),World.cell?_alloc_mark]
  ·rw[hW,World.cell?_alloc_lt _ _ _ (by simp),show w.heap.size+1=(w.alloc (.cells #[.slice ao H.objs.length co,.slice aw H.weaks.length cw,.slice ab H.buffer.length cb,.slice sa H.sites.length sc] 27)).heap.size from by simp,World.cell?_alloc_mark]
  ·rw[hW,show w.heap.size+1+1=((w.alloc (.cells #[.slice ao H.objs.length co,.slice aw H.weaks.length cw,.slice ab H.buffer.length cb,.slice sa H.sites.length sc] 27)).alloc (.cells #[.slice none 0 0,.slice none 0 0,.slice none 0 0,.slice none 0 0] 35)).heap.size from by simp,World.cell?_alloc_mark]
  ·have e:W.frozen? ⟨w.heap.size+1,k,none⟩=((w.alloc (.cells #[.slice ao H.objs.length co,.slice aw H.weaks.length cw,.slice ab H.buffer.length cb,.slice sa H.sites.length sc] 27)).alloc (.cells #[.slice none 0 0,.slice none 0 0,.slice none 0 0,.slice none 0 0] 35)).frozen? ⟨w.heap.size+1,k,none⟩:=by
    rw[hW];exact(bl1 _).frozen (p:=⟨w.heap.size+1,k,none⟩) (by show w.heap.size+1<_;simp)
   rw[e,show w.heap.size+1=(w.alloc (.cells #[.slice ao H.objs.length co,.slice aw H.weaks.length cw,.slice ab H.buffer.length cb,.slice sa H.sites.length sc] 27)).heap.size from by simp,World.frozen?_alloc_mark];simp
  ·rw[hW,show w.heap.size+1+1=((w.alloc (.cells #[.slice ao H.objs.length co,.slice aw H.weaks.length cw,.slice ab H.buffer.length cb,.slice sa H.sites.length sc] 27)).alloc (.cells #[.slice none 0 0,.slice none 0 0,.slice none 0 0,.slice none 0 0] 35)).heap.size from by simp,World.frozen?_alloc_mark];simp
 have HF0:Hid (Frm _ _ _ _):=F0;clear F0;have RO:Hid (RdO W ao H.objs):=q0V ro BW;have RW:Hid (∀X,Below w.heap.size w X->RdW X aw H.weaks):=λX hX=>z0R rwk hX;have RI:Hid (∀X,Below w.heap.size w X->RdI X ab H.buffer):=λX hX=>q0t ri hX;have RS:Hid (∀X,Below w.heap.size w X->RdS X sa H.sites):=λX hX=>z0l rs hX;clear ro rwk ri rs;have s1:H.objs.length<=1677721:=by have:=hs.objs;omega
 have s2:∀z∈H.objs,z.field.length<=16777216:=λz hz=>by have:=hs.fields z hz;omega
 have s3:H.weaks.length<=1677721:=by have:=hs.weaks;omega
 have s4:H.buffer.length<=16777216:=by have:=hs.buffer;omega
 have s5:H.sites.length<=16777216:=by have:=hs.sites;omega
 have S2:Hid _:=s2;clear s2;go_enter Tryz.func8,Tryz.ntmps8;go_wp2_with fail
 rw[<-hW];refine(y3u W ao co H.objs RO.out s1 S2.out).mono ?_;rintro e w1 ⟨rfl,L1,g1,b1⟩;clear hW;have B1:=BW.trans (b1.mono (by omega));have F1:=HF0.out.later b1;obtain⟨go,hgo⟩:∃go,W.heap.size=go:=⟨_,rfl⟩;have Hgo:Hid (w.heap.size+1+1+1=go):=by show _=_;omega
 rw[hgo]at L1 g1 ⊢;clear hgo hWs b1 BW RO HF0;have c0:=F1.o 0;have f0:=F1.fo 0;have p1:=F1.p 1;have G1:=F1.set 0 (.slice (some ⟨go,0,none⟩) H.objs.length H.objs.length) (by simp);have M1:=u1H ⟨w.heap.size+1+1,0,none⟩ (.slice (some ⟨go,0,none⟩) H.objs.length H.objs.length) L1 (by show w.heap.size+1+1<go;have:=Hgo.out;omega);have D1:=B1.setCell (p:=⟨w.heap.size+1+1,0,none⟩) (by show w.heap.size<=w.heap.size+1+1;omega) (.slice (some ⟨go,0,none⟩) H.objs.length H.objs.length);have q1:go<(w1.setCell ⟨w.heap.size+1+1,0,none⟩ (.slice (some ⟨go,0,none⟩) H.objs.length H.objs.length)).heap.size:=by simpa[World.setCell]using g1
 simp at c0 p1;clear F1 L1 B1 g1;go_wp2_with fail
 generalize w1.setCell ⟨w.heap.size+1+1,0,none⟩ (.slice (some ⟨go,0,none⟩) H.objs.length H.objs.length)=X1 at*;clear c0 f0 p1;refine(x2h X1 aw cw H.weaks (RW.out X1 D1) s3).mono ?_;rintro e w2 ⟨rfl,L2,g2,b2⟩;have B2:=D1.trans (b2.mono D1.size);have F2:=G1.later b2;have M2:=x1N M1 b2 q1;have q2:go<w2.heap.size:=Nat.lt_of_lt_of_le q1 b2.size;obtain⟨gw,hgw⟩:∃gw,X1.heap.size=gw:=⟨_,rfl⟩;have Hgw:Hid (go<gw):=by show _<_;omega
 rw[hgw]at L2 g2 ⊢;clear hgw b2 G1 M1 D1 q1;have c0:=F2.o 1;have f0:=F2.fo 1;have p1:=F2.p 2;have G2:=F2.set 1 (.slice (some ⟨gw,0,none⟩) H.weaks.length H.weaks.length) (by simp);have N2:=u1H ⟨w.heap.size+1+1,1,none⟩ (.slice (some ⟨gw,0,none⟩) H.weaks.length H.weaks.length) M2 (by show w.heap.size+1+1<go;have:=Hgo.out;omega);have K2:=v1p ⟨w.heap.size+1+1,1,none⟩ (.slice (some ⟨gw,0,none⟩) H.weaks.length H.weaks.length) L2 (by show w.heap.size+1+1<gw;have:=Hgo.out;have:=Hgw.out;omega);have D2:=B2.setCell (p:=⟨w.heap.size+1+1,1,none⟩) (by show w.heap.size<=w.heap.size+1+1;omega) (.slice (some ⟨gw,0,none⟩) H.weaks.length H.weaks.length);have q3:go<(w2.setCell ⟨w.heap.size+1+1,1,none⟩ (.slice (some ⟨gw,0,none⟩) H.weaks.length H.weaks.length)).heap.size/\gw<(w2.setCell ⟨w.heap.size+1+1,1,none⟩ (.slice (some ⟨gw,0,none⟩) H.weaks.length H.weaks.length)).heap.size:=by simpa[World.setCell]using⟨q2,g2⟩
 simp at c0 p1;clear F2 L2 M2 B2 g2 q2;go_wp2_with fail
 generalize w2.setCell ⟨w.heap.size+1+1,1,none⟩ (.slice (some ⟨gw,0,none⟩) H.weaks.length H.weaks.length)=X2 at*;clear c0 f0 p1;refine(j0U X2 ab cb H.buffer (RI.out X2 D2) s4).mono ?_;rintro e w3 ⟨vb,rfl,O3,b3⟩;have B3:=D2.trans (b3.mono D2.size);have F3:=G2.later b3;have M3:=x1N N2 b3 q3.1;have K3:=z1B K2 b3 q3.2;have q4:go<w3.heap.size/\gw<w3.heap.size:=⟨Nat.lt_of_lt_of_le q3.1 b3.size,Nat.lt_of_lt_of_le q3.2 b3.size⟩;have P3:=q0A O3 (Nat.le_of_lt q3.1);clear b3 O3 G2 N2 K2 D2 q3;obtain⟨ba,bc,rfl,-⟩:=y0Q P3;have c0:=F3.o 2;have f0:=F3.fo 2;have p1:=F3.p 3;have G3:=F3.set 2 (.slice ba H.buffer.length bc) (by simp);have N3:=u1H ⟨w.heap.size+1+1,2,none⟩ (.slice ba H.buffer.length bc) M3 (by show w.heap.size+1+1<go;have:=Hgo.out;omega);have J3:=v1p ⟨w.heap.size+1+1,2,none⟩ (.slice ba H.buffer.length bc) K3 (by show w.heap.size+1+1<gw;have:=Hgo.out;have:=Hgw.out;omega);have Q3:=u0f ⟨w.heap.size+1+1,2,none⟩ (.slice ba H.buffer.length bc) P3 (by show w.heap.size+1+1<go;have:=Hgo.out;omega);have D3:=B3.setCell (p:=⟨w.heap.size+1+1,2,none⟩) (by show w.heap.size<=w.heap.size+1+1;omega) (.slice ba H.buffer.length bc);have q5:go<(w3.setCell ⟨w.heap.size+1+1,2,none⟩ (.slice ba H.buffer.length bc)).heap.size/\gw<(w3.setCell ⟨w.heap.size+1+1,2,none⟩ (.slice ba H.buffer.length bc)).heap.size:=by simpa[World.setCell]using q4
 simp at c0 p1;clear F3 M3 K3 P3 B3 q4;go_wp2_with fail
 generalize w3.setCell ⟨w.heap.size+1+1,2,none⟩ (.slice ba H.buffer.length bc)=X3 at*;clear c0 f0 p1;refine(y1d X3 sa sc H.sites (RS.out X3 D3) s5).mono ?_;rintro e w4 ⟨vs,rfl,O4,b4⟩;have B4:=D3.trans (b4.mono D3.size);have F4:=G3.later b4;have M4:=x1N N3 b4 q5.1;have K4:=z1B J3 b4 q5.2;have Q4:=q0o Q3 b4;have q6:go<w4.heap.size/\gw<w4.heap.size:=⟨Nat.lt_of_lt_of_le q5.1 b4.size,Nat.lt_of_lt_of_le q5.2 b4.size⟩;have P4:=q1Z O4 (Nat.le_of_lt q5.1);clear b4 O4 G3 N3 J3 Q3 D3 q5 RS RI RW;obtain⟨da,dc,rfl,-⟩:=j0t P4;have o0:=F4.o 0;have o1:=F4.o 1;have o2:=F4.o 2;have o3:=F4.o 3;have f3:=F4.fo 3;have r0:=F4.r 0;have r1:=F4.r 1;have r2:=F4.r 2;have r3:=F4.r 3;have e0:=F4.fr 0;have e1:=F4.fr 1;have e2:=F4.fr 2;have e3:=F4.fr 3;simp at o0 o1 o2 o3 r0 r1 r2 r3;have HM:Hid _:=M4;have HK:Hid _:=K4;have HQ:Hid _:=Q4;have HP:Hid _:=P4;have HB:Hid _:=B4;have Hq:Hid _:=q6;clear F4 M4 K4 Q4 P4 B4 q6;go_wp2;refine bodyPost_ret (v:= .agg #[.slice (some ⟨go,0,none⟩) H.objs.length H.objs.length,.slice (some ⟨gw,0,none⟩) H.weaks.length H.weaks.length,.slice ba H.buffer.length bc,.slice da H.sites.length dc]) (by simp[results,Tryz.results8,go_sem, *]) rfl ⟨_,rfl,⟨go,gw,_,_,rfl,?_,?_,?_,?_,?_,?_,?_,?_⟩,?_⟩;all_goals have hgo:=Hgo.out
 all_goals have hgw:=Hgw.out
 ·omega
 ·simpa[World.setCell]using Hq.out.1
 ·iterate 5 refine u1H _ _ ?_ (by show _<go;simp only;omega)
  exact HM.out
 ·omega
 ·simpa[World.setCell]using Hq.out.2
 ·iterate 5 refine v1p _ _ ?_ (by show _<gw;simp only;omega)
  exact HK.out
 ·refine q0A (B:=go) ?_ (by omega);iterate 5 refine u0f _ _ ?_ (by show _<go;simp only;omega)
  exact HQ.out
 ·refine q1Z (B:=go) ?_ (by omega);iterate 5 refine v3A _ _ ?_ (by show _<go;simp only;omega)
  exact HP.out
 ·iterate 5 refine Below.setCell ?_ (by simp only;omega) _
  exact HB.out
theorem x0H(w:World)(v u:Value)(H:q0a)(h1:RdH w v H)(h2:RdH w u H)(hs:q0h H):
 Calls Tryz.prog 11 #[v,u] w λe w' =>e= .returned (.bool true)/\Below w.heap.size w w' :=by
 obtain⟨ao,co,aw,cw,ab,cb,sa,sc,rfl,ro,rwk,ri,rs⟩:=h1;obtain⟨ao2,co2,aw2,cw2,ab2,cb2,sa2,sc2,rfl,ro2,rwk2,ri2,rs2⟩:=h2;obtain⟨W,hW⟩:∃W,W=(w.alloc (.cells #[.slice ao H.objs.length co,.slice aw H.weaks.length cw,.slice ab H.buffer.length cb,.slice sa H.sites.length sc] 35)).alloc (.cells #[.slice ao2 H.objs.length co2,.slice aw2 H.weaks.length cw2,.slice ab2 H.buffer.length cb2,.slice sa2 H.sites.length sc2] 35):=⟨_,rfl⟩
 have BW:Below w.heap.size w W:=by rw[hW];exact(bl1 _).alloc (by simp) _
 have hWs:W.heap.size=w.heap.size+1+1:=by rw[hW];simp
 have HP:Hid (∀X,Below W.heap.size W X->∀k,X.cell? ⟨w.heap.size,k,none⟩=(#[Value.slice ao H.objs.length co,.slice aw H.weaks.length cw,.slice ab H.buffer.length cb,.slice sa H.sites.length sc]:Array Value)[k]?):=by intro X hX k;rw[hX.cell (p:=⟨w.heap.size,k,none⟩) (by show w.heap.size<_;omega),hW,World.cell?_alloc_lt _ _ _ (by simp),World.cell?_alloc_mark]
 have HP2:Hid (∀X,Below W.heap.size W X->∀k,X.cell? ⟨w.heap.size+1,k,none⟩=(#[Value.slice ao2 H.objs.length co2,.slice aw2 H.weaks.length cw2,.slice ab2 H.buffer.length cb2,.slice sa2 H.sites.length sc2]:Array Value)[k]?):=by intro X hX k;rw[hX.cell (p:=⟨w.heap.size+1,k,none⟩) (by show w.heap.size+1<_;omega),hW,show w.heap.size+1=(w.alloc (.cells #[.slice ao H.objs.length co,.slice aw H.weaks.length cw,.slice ab H.buffer.length cb,.slice sa H.sites.length sc] 35)).heap.size from by simp,World.cell?_alloc_mark]
 have CO:Hid (∀X,Below w.heap.size w X->_):=λX hX=>x2q X ao ao2 co co2 H.objs (q0V ro hX) (q0V ro2 hX) (by have:=hs.objs;omega) (λz hz=>by have:=hs.fields z hz;omega);have CW:Hid (∀X,Below w.heap.size w X->_):=λX hX=>j1g X aw aw2 cw cw2 H.weaks (z0R rwk hX) (z0R rwk2 hX) (by have:=hs.weaks;omega);have CI:Hid (∀X,Below w.heap.size w X->_):=λX hX=>j0Q X ab ab2 cb cb2 H.buffer (q0t ri hX) (q0t ri2 hX) (by have:=hs.buffer;omega);have CS:Hid (∀X,Below w.heap.size w X->_):=λX hX=>z1O X sa sa2 sc sc2 H.sites (z0l rs hX) (z0l rs2 hX) (by have:=hs.sites;omega);clear ro rwk ri rs ro2 rwk2 ri2 rs2;go_enter Tryz.func11,Tryz.ntmps11;go_wp2_with fail
 rw[<-hW];have B0:=BW;have T0:Below W.heap.size W W:=bl0;refine(CO.out _ B0).mono ?_;rintro e w1 ⟨rfl,b1⟩;have B1:=B0.trans (b1.mono B0.size);have T1:=T0.trans (b1.mono T0.size);have k1:=HP.out _ T1 1;have l1:=HP2.out _ T1 1;simp at k1 l1;clear hW hWs;go_wp2_with fail
 refine(CW.out _ B1).mono ?_;rintro e w2 ⟨rfl,b2⟩;have B2:=B1.trans (b2.mono B1.size);have T2:=T1.trans (b2.mono T1.size);have k2:=HP.out _ T2 2;have l2:=HP2.out _ T2 2;simp at k2 l2;clear k1 l1;go_wp2_with fail
 refine(CI.out _ B2).mono ?_;rintro e w3 ⟨rfl,b3⟩;have B3:=B2.trans (b3.mono B2.size);have T3:=T2.trans (b3.mono T2.size);have k3:=HP.out _ T3 3;have l3:=HP2.out _ T3 3;simp at k3 l3;clear k2 l2;go_wp2_with fail
 refine(CS.out _ B3).mono ?_;rintro e w4 ⟨rfl,b4⟩;have B4:=B3.trans (b4.mono B3.size);have T4:=T3.trans (b4.mono T3.size);clear k3 l3;go_wp2;go_ret
 exact⟨rfl,B4⟩
open Go.RowKit Go.ChangeShapes Go.WideShapes Go.ChangeAt Go.Deep
theorem v0e{z:Int}(h:(Lit.int .i64 z).wf=true):q0w z:=by unfold q0w;simpa[Lit.wf,IntKind.min,IntKind.max,IntKind.signed,IntKind.bits]using h
section
variable {T : Type} {enc : TypeId × Value → T} {w : World} {held : Bool}
theorem j0L{fuel:Nat}{cs:List Value}{x:DataW T×List MemPlace}(h:DataW.trod enc Tryz.prog w 0 (λ_=>true) held fuel 24 cs=some x):
 ∃a zs cap,cs=[.slice a zs.length cap]/\RdI w a zs/\zs.length<=9223372036854775807/\∀z∈zs,q0w z:=by
 rcases open_ints Tryz.underlying24 Tryz.underlying3 (by kernel_rfl) h with⟨rfl,_⟩|⟨x,len,cap,zs,rfl,_,hl,hm,hz,_,hcell,hwf⟩
 ·exact⟨none,[],0,rfl,λj hj=>by simp at hj,by simp,by simp⟩
 ·have hz2:zs.length=cap:=by simpa using hz
  have ht:(zs.take len).length=len:=by rw[List.length_take];omega
  unfold maxLen at hm;refine⟨some x,zs.take len,cap,by rw[ht],?_,by omega,λz hz=>v0e (hwf z (List.mem_of_mem_take hz))⟩;intro j hj;rw[ht]at hj;obtain⟨b,off,rfl⟩:=z1p (hcell 0 (by omega));have hc:=hcell j (by omega);rw[u0s,List.getD_eq_getElem?_getD,List.getElem?_eq_getElem (by omega)]at hc;refine⟨b,off,rfl,World.block_lt_of_cell? w _ hc,?_⟩;rw[hc,List.getElem_take];rfl
theorem j3u{fuel:Nat}{cs:List Value}{x:DataW T×List MemPlace}(h:DataW.trod enc Tryz.prog w 0 (λ_=>true) held fuel 107 cs=some x):∃d:x0g,cs=[.bool d.used,.int .i64 d.target]/\q0w d.target:=by
 obtain⟨xs,n,_,_,hl,hlen,hf⟩:=DataW.trod_struct Tryz.underlying107 h;have hl2:cs.length=2:=hl.trans (by kernel_rfl)
 match cs,hl2,xs,hlen with
 |[c0,c1],_,[y0,y1],_=>
  have e4:Tryz.prog.cellsOf 4=1:=by kernel_rfl
  have e3:Tryz.prog.cellsOf 3=1:=by kernel_rfl
  have h0:=hf 0 {name:= "Used",type:=4,offset:=0,embedded:=false,tag:= "",pkgPath:= "",byteOffset:=0} rfl;have h1:=hf 1 {name:= "Target",type:=3,offset:=1,embedded:=false,tag:= "",pkgPath:= "",byteOffset:=8} rfl;simp only[e4,e3]at h0 h1;obtain⟨b,hb,_⟩:=DataW.trod_bool Tryz.underlying4 (x:=y0) (by simpa using h0);obtain⟨m,hm,_,wm⟩:=DataW.trod_int Tryz.underlying3 (x:=y1) (by simpa using h1);exact⟨⟨b,m⟩,by simp_all,v0e wm⟩
theorem z4g{fuel:Nat}{cs:List Value}{x:DataW T×List MemPlace}(h:DataW.trod enc Tryz.prog w 0 (λ_=>true) held fuel 89 cs=some x):
 ∃(o:q0E)(f:Option Addr)(cap:Nat),cs=[.bool o.live,.int .i64 o.gen,.int .i64 o.site,.int .i64 o.holds,.int .i64 o.roots,.int .i64 o.count,.slice f o.field.length cap,.bool o.purple]/\RdI w f o.field/\o.field.length<=9223372036854775807/\WfO o:=by
 obtain⟨xs,n,_,_,hl,hlen,hf⟩:=DataW.trod_struct Tryz.underlying89 h;have hl2:cs.length=8:=hl.trans (by kernel_rfl)
 match cs,hl2,xs,hlen with
 |[c0,c1,c2,c3,c4,c5,c6,c7],_,[y0,y1,y2,y3,y4,y5,y6,y7],_=>
  have e4:Tryz.prog.cellsOf 4=1:=by kernel_rfl
  have e3:Tryz.prog.cellsOf 3=1:=by kernel_rfl
  have e9:Tryz.prog.cellsOf 24=1:=by kernel_rfl
  have h0:=hf 0 {name:= "Live",type:=4,offset:=0,embedded:=false,tag:= "",pkgPath:= "",byteOffset:=0} rfl;have h1:=hf 1 {name:= "Gen",type:=3,offset:=1,embedded:=false,tag:= "",pkgPath:= "",byteOffset:=8} rfl;have h2:=hf 2 {name:= "Site",type:=3,offset:=2,embedded:=false,tag:= "",pkgPath:= "",byteOffset:=16} rfl;have h3:=hf 3 {name:= "Holds",type:=3,offset:=3,embedded:=false,tag:= "",pkgPath:= "",byteOffset:=24} rfl;have h4:=hf 4 {name:= "Roots",type:=3,offset:=4,embedded:=false,tag:= "",pkgPath:= "",byteOffset:=32} rfl;have h5:=hf 5 {name:= "Count",type:=3,offset:=5,embedded:=false,tag:= "",pkgPath:= "",byteOffset:=40} rfl;have h6:=hf 6 {name:= "Field",type:=24,offset:=6,embedded:=false,tag:= "",pkgPath:= "",byteOffset:=48} rfl;have h7:=hf 7 {name:= "Purple",type:=4,offset:=7,embedded:=false,tag:= "",pkgPath:= "",byteOffset:=72} rfl;simp only[e4,e3,e9]at h0 h1 h2 h3 h4 h5 h6 h7;obtain⟨b0,g0,_⟩:=DataW.trod_bool Tryz.underlying4 (x:=y0) (by simpa using h0);obtain⟨m1,g1,_,v1⟩:=DataW.trod_int Tryz.underlying3 (x:=y1) (by simpa using h1);obtain⟨m2,g2,_,v2⟩:=DataW.trod_int Tryz.underlying3 (x:=y2) (by simpa using h2);obtain⟨m3,g3,_,v3⟩:=DataW.trod_int Tryz.underlying3 (x:=y3) (by simpa using h3);obtain⟨m4,g4,_,v4⟩:=DataW.trod_int Tryz.underlying3 (x:=y4) (by simpa using h4);obtain⟨m5,g5,_,v5⟩:=DataW.trod_int Tryz.underlying3 (x:=y5) (by simpa using h5);obtain⟨f,zs,cap,g6,r6,l6,v6⟩:=j0L (x:=y6) (by simpa using h6);obtain⟨b7,g7,_⟩:=DataW.trod_bool Tryz.underlying4 (x:=y7) (by simpa using h7);exact⟨⟨b0,m1,m2,m3,m4,m5,zs,b7⟩,f,cap,by simp_all,r6,l6,v0e v1,v0e v2,v0e v3,v0e v4,v0e v5,v6⟩
theorem x2I{fuel:Nat}{cs:List Value}{x:DataW T×List MemPlace}(h:DataW.trod enc Tryz.prog w 0 (λ_=>true) held fuel 23 cs=some x):
 ∃a ds cap,cs=[.slice a ds.length cap]/\RdW w a ds/\ds.length<=9223372036854775807/\∀d∈ds,q0w d.target:=by
 rcases open_slice Tryz.underlying23 h with⟨rfl,_⟩|⟨a,len,cap,m,n,D,Pl,rfl,_,hl,hm,hmm,_,hx⟩
 ·exact⟨none,[],0,rfl,λj hj=>by simp at hj,by simp,by simp⟩
 ·have hm2:m=cap:=by simpa using hmm
  have e2:Tryz.prog.cellsOf 107=2:=by kernel_rfl
  rw[e2]at hx;have hin:Inhabited x0g:=⟨⟨false,0⟩⟩
  obtain⟨f,hf⟩:=choose_lt (α:=x0g) (n:=len) (p:=λi d=>q0w d.target/\∀k,k<2->w.cell? (Addr.add (a.add (i*2)) k)=([Value.bool d.used,.int .i64 d.target]:List Value)[k]?) (λi hi=>by
   obtain⟨cs',h1,h2⟩:=hx i (by omega);obtain⟨d,rfl,hd⟩:=j3u h2;exact⟨d,hd,(World.cells?_some h1).2.2⟩)
  unfold maxLen at hm;have ht:((List.range len).map f).length=len:=by simp
  refine⟨some a,(List.range len).map f,cap,by rw[ht],?_,by omega,λz hz=>by
   obtain⟨i,hi,rfl⟩:=List.mem_map.1 hz;exact(hf i (List.mem_range.1 hi)).1⟩
  intro j hj;rw[ht]at hj;have hc0:=(hf 0 (by omega)).2 0 (by omega)
  obtain⟨b,off,rfl⟩:∃b off,a=⟨b,off,none⟩:=by rw[Nat.zero_mul,show Addr.add (Addr.add a 0) 0=a.add 0 from by rw[add_add]]at hc0;exact z1p (v:= .bool (f 0).used) hc0
  have q0:=(hf j hj).2 0 (by omega);have q1:=(hf j hj).2 1 (by omega);rw[u0s,u0s]at q0 q1;simp at q0 q1;refine⟨b,off,rfl,World.block_lt_of_cell? w _ q0,?_⟩;rw[List.getElem_map,List.getElem_range];exact⟨q0,q1⟩
theorem j3t{fuel:Nat}{cs:List Value}{x:DataW T×List MemPlace}(h:DataW.trod enc Tryz.prog w 0 (λ_=>true) held fuel 22 cs=some x):
 ∃a os cap,cs=[.slice a os.length cap]/\RdO w a os/\os.length<=9223372036854775807/\∀z∈os,z.field.length<=9223372036854775807/\WfO z:=by
 rcases open_slice Tryz.underlying22 h with⟨rfl,_⟩|⟨a,len,cap,m,n,D,Pl,rfl,_,hl,hm,hmm,_,hx⟩
 ·exact⟨none,[],0,rfl,λj hj=>by simp at hj,by simp,by simp⟩
 ·have hm2:m=cap:=by simpa using hmm
  have e2:Tryz.prog.cellsOf 89=8:=by kernel_rfl
  rw[e2]at hx;have hin:Inhabited q0E:=⟨⟨false,0,0,0,0,0,[],false⟩⟩
  obtain⟨f,hf⟩:=choose_lt (α:=q0E) (n:=len) (p:=λi o=>(o.field.length<=9223372036854775807/\WfO o)/\∃(fa:Option Addr)(fc:Nat),RdI w fa o.field/\∀k,k<8->w.cell? (Addr.add (a.add (i*8)) k)=([Value.bool o.live,.int .i64 o.gen,.int .i64 o.site,.int .i64 o.holds,.int .i64 o.roots,.int .i64 o.count,.slice fa o.field.length fc,.bool o.purple]:List Value)[k]?) (λi hi=>by
   obtain⟨cs',h1,h2⟩:=hx i (by omega);obtain⟨o,fa,fc,rfl,hr,hl,hwf⟩:=z4g h2;exact⟨o,⟨hl,hwf⟩,fa,fc,hr,(World.cells?_some h1).2.2⟩)
  unfold maxLen at hm;have ht:((List.range len).map f).length=len:=by simp
  refine⟨some a,(List.range len).map f,cap,by rw[ht],?_,by omega,?_⟩
  ·intro j hj;rw[ht]at hj;obtain⟨_,_,_,_,hc0⟩:=hf 0 (by omega);have hc0:=hc0 0 (by omega)
   obtain⟨b,off,rfl⟩:∃b off,a=⟨b,off,none⟩:=by rw[Nat.zero_mul,show Addr.add (Addr.add a 0) 0=a.add 0 from by rw[add_add]]at hc0;exact z1p (v:= .bool (f 0).live) hc0
   obtain⟨_,fa,fc,hr,q⟩:=hf j hj;have q0:=q 0 (by omega);have q1:=q 1 (by omega);have q2:=q 2 (by omega);have q3:=q 3 (by omega);have q4:=q 4 (by omega);have q5:=q 5 (by omega);have q6:=q 6 (by omega);have q7:=q 7 (by omega);rw[u0s,u0s]at q0 q1 q2 q3 q4 q5 q6 q7;simp at q0 q1 q2 q3 q4 q5 q6 q7;refine⟨b,off,fa,fc,rfl,World.block_lt_of_cell? w _ q0,?_⟩;rw[List.getElem_map,List.getElem_range];exact⟨⟨q0,q1,q2,q3,q4,q5,q6,q7⟩,hr⟩
  ·intro z hz;obtain⟨i,hi,rfl⟩:=List.mem_map.1 hz;exact(hf i (List.mem_range.1 hi)).1
theorem v0Q{r:Reach}{b0:Nat}{v:Value}{d:DataW T}{ps:List MemPlace}(hv:Value.okWide Tryz.prog w r b0 27 v)(h:DataW.Trod enc Tryz.prog w 0 (λ_=>true) held 27 v d ps):∃H:q0a,RdH w v H/\v0W H:=by
 obtain⟨cs,rfl,hcs⟩:=okWide_struct Tryz.underlying27 hv;obtain⟨fuel,hf0⟩:=h;have ec:(Value.agg cs).cells.toList=cs.toList:=by simp[Value.cells]
 rw[ec]at hf0;obtain⟨xs,n,_,_,hl,hlen,hf⟩:=DataW.trod_struct Tryz.underlying27 hf0;have hl2:cs.size=4:=hcs.trans (by kernel_rfl);obtain⟨l⟩:=cs
 match l,hl2,xs,hlen with
 |[c0,c1,c2,c3],_,[y0,y1,y2,y3],_=>
  have e0:Tryz.prog.cellsOf 22=1:=by kernel_rfl
  have e1:Tryz.prog.cellsOf 23=1:=by kernel_rfl
  have e2:Tryz.prog.cellsOf 24=1:=by kernel_rfl
  have e3:Tryz.prog.cellsOf 25=1:=by kernel_rfl
  have h0:=hf 0 {name:= "Objs",type:=22,offset:=0,embedded:=false,tag:= "",pkgPath:= "",byteOffset:=0} rfl;have h1:=hf 1 {name:= "Weaks",type:=23,offset:=1,embedded:=false,tag:= "",pkgPath:= "",byteOffset:=24} rfl;have h2:=hf 2 {name:= "Buffer",type:=24,offset:=2,embedded:=false,tag:= "",pkgPath:= "",byteOffset:=48} rfl;have h3:=hf 3 {name:= "Sites",type:=25,offset:=3,embedded:=false,tag:= "",pkgPath:= "",byteOffset:=72} rfl;simp only[e0,e1,e2,e3]at h0 h1 h2 h3;obtain⟨ao,os,co,g0,ro,l0,l0'⟩:=j3t (x:=y0) (by simpa using h0);obtain⟨aw,ds,cw,g1,rwk,l1,v1⟩:=x2I (x:=y1) (by simpa using h1);obtain⟨ab,zs,cb,g2,ri,l2,v2⟩:=j0L (x:=y2) (by simpa using h2);obtain⟨sa,ss,sc,g3,rs,l3,l3'⟩:=q2h (x:=y3) (by simpa using h3);refine⟨⟨os,ds,zs,ss⟩,⟨ao,co,aw,cw,ab,cb,sa,sc,by simp_all,ro,rwk,ri,rs⟩,⟨⟨λo ho=>(l0' o ho).2,v1,v2⟩,l0,λo ho=>(l0' o ho).1,l1,l2,l3,l3'⟩⟩
end
open Go.RowKit
def v0B(v:Value):Prop:=∃a0 n0 k0 a1 n1 k1 a2 n2 k2 a3 n3 k3,v= .agg #[.slice a0 n0 k0,.slice a1 n1 k1,.slice a2 n2 k2,.slice a3 n3 k3]/\n0<=k0/\n1<=k1/\n2<=k2/\n3<=k3
theorem q1A{w:World}{B:Nat}{v:Value}{H:q0a}(h:v1z w B v H):v0B v:=by
 obtain⟨go,gw,vb,vs,rfl,-,-,-,-,-,-,h5,h6⟩:=h
 have hb:∃a n k,vb= .slice a n k/\n<=k:=by
  rcases x0N h5 with⟨rfl,-⟩|⟨g,cap,rfl,-,-,hc,-,-⟩
  ·exact⟨_,_,_,rfl,Nat.le_refl _⟩
  ·exact⟨_,_,_,rfl,hc⟩
 have hs:∃a n k,vs= .slice a n k/\n<=k:=by
  rcases j0S h6 with⟨rfl,-⟩|⟨g,cap,rfl,-,-,hc,-,-⟩
  ·exact⟨_,_,_,rfl,Nat.le_refl _⟩
  ·exact⟨_,_,_,rfl,hc⟩
 obtain⟨a,n,k,rfl,hn⟩:=hb;obtain⟨a',n',k',rfl,hn'⟩:=hs;exact⟨_,_,_,_,_,_,_,_,_,_,_,_,rfl,Nat.le_refl _,Nat.le_refl _,hn,hn'⟩
end
section
def v1n(u m:Nat)(P:List UInt8):Prop:=(m=0/\P=Lib.decDigits u)\/(0<m/\Lib.decDigits u=Lib.decDigits m++P)
theorem j1f(u:Nat)(h:0<u):v1n u u []:= .inr ⟨h,by simp⟩
theorem v1G(u m:Nat)(P:List UInt8)(h:v1n u m P)(hm:0<m):v1n u (m / 10) (UInt8.ofNat (48+m%10)::P):=by
 rcases h with⟨h,_⟩|⟨_,h⟩
 ·omega
 ·by_cases h10:m<10
  ·refine .inl ⟨by omega,?_⟩;rw[h,Lib.decDigits_one h10,show m%10=m from by omega];rfl
  ·refine .inr ⟨by omega,?_⟩;rw[h,Lib.decDigits,dif_neg h10];simp
theorem y1F(u m:Nat)(P:List UInt8)(h:v1n u m P)(hu:u<=9223372036854775808):P.length<=21:=by
 have h21:(Lib.decDigits u).length<=21:=by
  by_cases h9:u=9223372036854775808
  ·have:=Lib.itoa_length_le (-(u:Int)) (by omega) (by omega);rw[Lib.itoa_neg u (by omega)]at this;simp at this;omega
  ·have:=Lib.itoa_length_le (u:Int) (by omega) (by omega);rw[Lib.itoa_nonneg]at this;exact this
 rcases h with⟨_,rfl⟩|⟨_,h⟩
 ·exact h21
 ·have:=congrArg List.length h;rw[List.length_append]at this;omega
theorem u1Z(u:Nat)(P:List UInt8)(h:v1n u 0 P):P=Lib.decDigits u:=by
 rcases h with⟨_,h⟩|⟨h,_⟩
 ·exact h
 ·omega
def z2b(m:Nat):UInt8:=UInt8.ofNat (48+m%10)
theorem y2j(m:Nat):UInt8.ofNat (48+(m:Int)%10).toNat=z2b m:=by unfold z2b;congr 1
end
section
open Go.RowKit
theorem z0s(x lo hi:Int)(w:World)(h1:lo<=x)(h2:x<=hi):
 Calls Tryz.prog 63 #[.int .i64 x,.int .i64 lo,.int .i64 hi] w λe w' =>e= .returned (.bool true)/\w' =w:=by
 go_enter Tryz.func63,Tryz.ntmps63;go_wp2;go_ret
 exact⟨rfl,rfl⟩
theorem x0B(x lo hi:Int)(w:World)(h:x<lo\/hi<x):
 Calls Tryz.prog 63 #[.int .i64 x,.int .i64 lo,.int .i64 hi] w λe w' =>e= .returned (.bool false)/\w' =w:=by
 by_cases h1:lo<=x
 ·have h2:decide (x<=hi)=false:=by simp;omega
  go_enter Tryz.func63,Tryz.ntmps63;go_wp2;go_ret
  exact⟨by simp,rfl⟩
 ·have h2:x<lo:=by omega
  go_enter Tryz.func63,Tryz.ntmps63;go_wp2;go_ret
  exact⟨rfl,rfl⟩
end
section
open Go.RowKit
def q1T(u:Nat):List UInt8:=[109]++Lib.decDigits u
theorem x1s(u:Nat)(w:World)(h0:0<u)(h1:u<=9223372036854775807):
 Calls Tryz.prog 61 #[.int .i64 (u:Int)] w λe w' =>e= .returned (.string (txt (q1T u)))/\Below w.heap.size w w' :=by
 have g1:decide ((u:Int)<=0)=false:=by simp;omega
 go_enter Tryz.func61,Tryz.ntmps61;go_wp2;go_loopw[0,3] (λx o wr=>∃(m:Nat)(P:List UInt8),m<=9223372036854775807/\x= .int .i64 (m:Int)/\o= .string (txt P)/\Hid (v1n u m P)/\Below w.heap.size w wr) (λx _ _=>(intOf x).toNat)
 case atStart=>exact⟨u,[],h1,rfl,rfl,j1f u h0,bl0⟩
 case round=>
  obtain⟨m,P,hm,rfl,rfl,HD,hb⟩:=hrel;have hlen:(txt P).size<=21:=y1F u m P HD.out (by omega);by_cases hp:0<m
  ·have hcv:=λW=>y1k (P:=Tryz.prog) 124 9 5 Tryz.underlying124 Tryz.underlying5 Tryz.underlying9 W (48+(m:Int)%10) (by omega) (by omega);simp only[y2j]at hcv;have hone:(txt [z2b m]).size<=1:=by rw[q0L];exact Nat.le_refl 1
   go_wp2;go_roundw
   case rel=>exact⟨m / 10,z2b m::P,by omega,by go_num,by rw[q0M];rfl,v1G u m P HD.out hp,hb.alloc hb.size _⟩
   case measure=>simp[intOf];omega
  ·obtain rfl:m=0:=by omega
   have HE:Hid (_=_):=u1Z u P HD.out;have h45:(⟨#[109]⟩:ByteArray).size<=1:=Nat.le_refl 1;go_wp2;go_ret
   exact⟨z0Q (by rw[HE.out];exact q0M [109] _),hb⟩
theorem j2W{n:Nat}{w w' :World}(h:Below n w.drew w'):Below n w w' :=⟨h.os,h.tape,h.output,h.size,h.block⟩
end
section
open Go.RowKit
abbrev Sts:=List (Addr×Value)
def q0C(w:World):Sts->World
 |[]=>w
 |p::r=>q0C (w.setCell p.1 p.2) r
theorem x0v(L M:Sts):∀w,q0C w (L++M)=q0C (q0C w L) M:=by
 induction L with
 |nil=>intro w;rfl
 |cons p r ih=>intro w;exact ih _
theorem z1z(L:Sts)(a:Addr):∀w,(q0C w L).frozen? a=w.frozen? a:=by
 induction L with
 |nil=>intro w;rfl
 |cons p r ih=>intro w;rw[q0C,ih,World.frozen?_setCell]
theorem q0Z(L:Sts):∀w,(q0C w L).heap.size=w.heap.size:=by
 induction L with
 |nil=>intro w;rfl
 |cons p r ih=>intro w;rw[q0C,ih];simp[World.setCell]
theorem x1S(L:Sts)(a:Addr):∀w,(∃x,w.cell? a=some x)->∃x,(q0C w L).cell? a=some x:=by
 induction L with
 |nil=>intro w h;exact h
 |cons p r ih=>intro w h;exact ih _ (x1e _ _ _ _ h)
theorem y0E(L:Sts)(a:Addr)(h:∀p∈L,p.1≠a):∀w,(q0C w L).cell? a=w.cell? a:=by
 induction L with
 |nil=>intro w;rfl
 |cons p r ih=>intro w;rw[q0C,ih (λq hq=>h q (List.mem_cons_of_mem _ hq)),World.cell?_setCell_other _ _ _ _ (h p (List.mem_cons_self ..))]
theorem j1D(L:Sts)(hn:(L.map (·.1)).Nodup):∀w,(∀p∈L,∃x,w.cell? p.1=some x)->∀p∈L,(q0C w L).cell? p.1=some p.2:=by
 induction L with
 |nil=>intro w _ p hp;simp at hp
 |cons q r ih=>
  intro w hs p hp;rw[List.map_cons,List.nodup_cons]at hn;rcases List.mem_cons.1 hp with rfl|hp
  ·obtain⟨x,hx⟩:=hs p (List.mem_cons_self ..);rw[q0C,y0E _ _ (λz hz e=>hn.1 (by rw[<-e];exact List.mem_map_of_mem hz)),World.cell?_setCell_same w _ _ hx]
  ·exact ih hn.2 _ (λz hz=>x1e _ _ _ _ (hs z (List.mem_cons_of_mem _ hz))) p hp
theorem z0B(L:Sts)(i:Nat)(h:∀p∈L,p.1.block≠i):∀w,(q0C w L).heap[i]? =w.heap[i]?:=by
 induction L with
 |nil=>intro w;rfl
 |cons p r ih=>intro w;rw[q0C,ih (λq hq=>h q (List.mem_cons_of_mem _ hq)),heap_setCell_other w p.1 i p.2 (λe=>h p (List.mem_cons_self ..) e.symm)]
theorem z0M{B:Nat}{a:World}(L:Sts)(hL:∀p∈L,B<=p.1.block):∀w,Below B a w->Below B a (q0C w L):=by
 induction L with
 |nil=>intro w h;exact h
 |cons p r ih=>intro w h;exact ih (λq hq=>hL q (List.mem_cons_of_mem _ hq)) _ (h.setCell (hL p (List.mem_cons_self ..)) _)
def mkI(a:Option Addr)(k:Int)(n:Nat):Sts:=match a with
 |none=>[]
 |some x=>(List.range n).map λj=>(⟨x.block,x.off+j,none⟩,.int .i64 (k+(j:Int)))
theorem j4B(a:Option Addr)(k:Int):mkI a k 0=[]:=by unfold mkI;cases a<;>rfl
theorem j4A(g off:Nat)(k:Int)(j:Nat):mkI (some ⟨g,off,none⟩) k (j+1)=mkI (some ⟨g,off,none⟩) k j++[(⟨g,off+j,none⟩,.int .i64 (k+(j:Int)))]:=by simp[mkI,List.range_succ]
theorem x5i(g off:Nat)(k:Int)(n j:Nat)(h:j<n):((⟨g,off+j,none⟩,.int .i64 (k+(j:Int))):Addr×Value)∈mkI (some ⟨g,off,none⟩) k n:=by unfold mkI;exact List.mem_map.2 ⟨j,List.mem_range.2 h,rfl⟩
theorem x0M(a:Option Addr)(k:Int)(n:Nat)(p:Addr×Value)(h:p∈mkI a k n):0<n/\∃x,a=some x/\p.1.block=x.block:=by
 unfold mkI at h
 cases a with
 |none=>simp at h
 |some x=>obtain⟨j,hj,rfl⟩:=List.mem_map.1 h;have:=List.mem_range.1 hj;exact⟨by omega,x,rfl,rfl⟩
theorem v1r(a:Option Addr)(k:Int)(n:Nat):((mkI a k n).map (·.1)).Nodup:=by
 unfold mkI
 cases a with
 |none=>simp
 |some x=>rw[List.map_map];refine List.pairwise_map.2 (List.pairwise_lt_range.imp ?_);intro i j hij e;simp at e;omega
def v0I(w:World)(a:Option Addr)(n:Nat):Prop:=∀j,j<n->∃g off,a=some ⟨g,off,none⟩/\g<w.heap.size/\(∃x,w.cell? ⟨g,off+j,none⟩=some x)/\w.frozen? ⟨g,off+j,none⟩=false
theorem y1j{w:World}{a:Option Addr}{n:Nat}(p:Addr)(u:Value)(h:v0I w a n):v0I (w.setCell p u) a n:=by intro j hj;obtain⟨g,off,h1,h2,h3,h4⟩:=h j hj;exact⟨g,off,h1,by simpa[World.setCell]using h2,x1e _ _ _ _ h3,by rw[World.frozen?_setCell];exact h4⟩
theorem x4i{w:World}{a:Option Addr}{n:Nat}(p0 p1 p2 p3 p4 p5:Addr)(u0 u1 u2 u3 u4 u5:Value)(h:v0I w a n):v0I ((((((w.setCell p0 u0).setCell p1 u1).setCell p2 u2).setCell p3 u3).setCell p4 u4).setCell p5 u5) a n:=y1j _ _ (y1j _ _ (y1j _ _ (y1j _ _ (y1j _ _ (y1j _ _ h)))))
theorem j0H{w:World}{a:Option Addr}{n:Nat}(L:Sts)(h:v0I w a n):v0I (q0C w L) a n:=by intro j hj;obtain⟨g,off,h1,h2,h3,h4⟩:=h j hj;exact⟨g,off,h1,by rw[q0Z];exact h2,x1S _ _ _ h3,by rw[z1z];exact h4⟩
structure OSh where
 f:Option Addr
 n:Nat
 c:Nat
structure y2L(w:World)(g p:Nat)(s:OSh):Prop where
 lt:g<w.heap.size
 cell:∀k,k<8->(∃x,w.cell? ⟨g,p+k,none⟩=some x)/\w.frozen? ⟨g,p+k,none⟩=false
 head:w.cell? ⟨g,p+6,none⟩=some (.slice s.f s.n s.c)
 row:v0I w s.f s.n
 apart:∀x,s.f=some x->0<s.n->x.block≠g
def y2a(w:World)(a:Option Addr)(ss:List OSh):Prop:=∀j(h:j<ss.length),∃g off,a=some ⟨g,off,none⟩/\y2L w g (off+j*8) ss[j]
abbrev b3(k:Int):Bool:=k%3==0
def v1Q(g p:Nat)(s:OSh)(k:Int):Sts:=
 [(⟨g,p,none⟩,.bool (b3 k)),(⟨g,p+1,none⟩,.int .i64 (k+1)),(⟨g,p+2,none⟩,.int .i64 (k+1+1)),(⟨g,p+3,none⟩,.int .i64 (k+1+1+1)),(⟨g,p+4,none⟩,.int .i64 (k+1+1+1+1)),(⟨g,p+5,none⟩,.int .i64 (k+1+1+1+1+1))]++
 (mkI s.f (k+1+1+1+1+1+1) s.n++[(⟨g,p+7,none⟩,.bool (b3 (k+1+1+1+1+1+1+(s.n:Int))))])
def v0h(ss:List OSh):Nat:=(ss.map (λs=>7+s.n)).sum
def z1l(g:Nat):Nat->List OSh->Int->Sts
 |_,[],_=>[]
 |p,s::r,k=>v1Q g p s k++z1l g (p+8) r (k+((7+s.n:Nat):Int))
def mkO(a:Option Addr)(ss:List OSh)(k:Int):Sts:=match a with
 |none=>[]
 |some x=>z1l x.block x.off ss k
theorem v2K(g:Nat)(A B:List OSh):∀p k,z1l g p (A++B) k=z1l g p A k++z1l g (p+A.length*8) B (k+(v0h A:Int)):=by
 induction A with
 |nil=>intro p k;simp[z1l,v0h]
 |cons s r ih=>
  intro p k;simp only[List.cons_append,z1l,List.append_assoc];rw[ih];have e1:p+8+r.length*8=p+(s::r).length*8:=by simp;omega
  have e2:k+((7+s.n:Nat):Int)+(v0h r:Int)=k+(v0h (s::r):Int):=by simp[v0h];omega
  rw[e1,e2]
theorem q3m(ss:List OSh)(j:Nat)(h:j<ss.length):v0h (ss.take (j+1))=v0h (ss.take j)+(7+ss[j].n):=by unfold v0h;rw[List.take_succ_eq_append_getElem h,List.map_append,List.sum_append];simp
theorem q3F(g p:Nat)(ss:List OSh)(k:Int)(j:Nat)(h:j<ss.length):z1l g p (ss.take (j+1)) k=z1l g p (ss.take j) k++v1Q g (p+j*8) ss[j] (k+(v0h (ss.take j):Int)):=by rw[List.take_succ_eq_append_getElem h,v2K,List.length_take,Nat.min_eq_left (by omega)];simp[z1l]
theorem u2g(ss:List OSh)(m:Nat)(h:∀s∈ss,s.n<=m):v0h ss<=ss.length*(7+m):=by
 unfold v0h
 induction ss with
 |nil=>simp
 |cons o r ih=>have h1:=h o (by simp);have h2:=ih (λz hz=>h z (by simp[hz]));simp only[List.map_cons,List.sum_cons,List.length_cons,Nat.add_mul,Nat.one_mul]at*;omega
theorem j2s(g p:Nat)(s:OSh)(k:Int)(q:Addr×Value)(h:q∈v1Q g p s k):(∃i,i<8/\i≠6/\q.1=⟨g,p+i,none⟩)\/(0<s.n/\∃x,s.f=some x/\q.1.block=x.block):=by
 unfold v1Q at h;rcases List.mem_append.1 h with h|h
 ·simp only[List.mem_cons,List.not_mem_nil,or_false]at h;rcases h with rfl|rfl|rfl|rfl|rfl|rfl
  ·exact .inl ⟨0,by omega,by omega,rfl⟩
  ·exact .inl ⟨1,by omega,by omega,rfl⟩
  ·exact .inl ⟨2,by omega,by omega,rfl⟩
  ·exact .inl ⟨3,by omega,by omega,rfl⟩
  ·exact .inl ⟨4,by omega,by omega,rfl⟩
  ·exact .inl ⟨5,by omega,by omega,rfl⟩
 ·rcases List.mem_append.1 h with h|h
  ·exact .inr (x0M _ _ _ _ h)
  ·simp only[List.mem_singleton]at h;subst h;exact .inl ⟨7,by omega,by omega,rfl⟩
theorem x1t(g:Nat)(ss:List OSh):∀p k(q:Addr×Value),q∈z1l g p ss k->(∃j i,j<ss.length/\i<8/\i≠6/\q.1=⟨g,p+j*8+i,none⟩)\/(∃s∈ss,0<s.n/\∃x,s.f=some x/\q.1.block=x.block):=by
 induction ss with
 |nil=>intro p k q h;simp[z1l]at h
 |cons s r ih=>
  intro p k q h;rcases List.mem_append.1 h with h|h
  ·rcases j2s g p s k q h with⟨i,h1,h2,h3⟩|h
   ·exact .inl ⟨0,i,by simp,h1,h2,by rw[h3];simp⟩
   ·exact .inr ⟨s,by simp,h⟩
  ·rcases ih _ _ q h with⟨j,i,h0,h1,h2,h3⟩|⟨s',h0,h1⟩
   ·exact .inl ⟨j+1,i,by simp;omega,h1,h2,by rw[h3];congr 1;omega⟩
   ·exact .inr ⟨s',by simp[h0],h1⟩
theorem y2L.keep{w:World}{g p:Nat}{s:OSh}(L:Sts)(h:y2L w g p s)(hL:∀q∈L,q.1≠⟨g,p+6,none⟩):y2L (q0C w L) g p s:=
 ⟨by rw[q0Z];exact h.lt,λk hk=>⟨x1S _ _ _ (h.cell k hk).1,by rw[z1z];exact(h.cell k hk).2⟩,by rw[y0E _ _ hL];exact h.head,j0H _ h.row,h.apart⟩
def mkW(a:Option Addr)(k:Int)(n:Nat):Sts:=match a with
 |none=>[]
 |some x=>(List.range n).flatMap λj=>[(⟨x.block,x.off+j*2,none⟩,.bool (b3 (k+2*(j:Int)))),(⟨x.block,x.off+j*2+1,none⟩,.int .i64 (k+2*(j:Int)+1))]
theorem j4F(a:Option Addr)(k:Int):mkW a k 0=[]:=by unfold mkW;cases a<;>rfl
theorem v3h(g off:Nat)(k:Int)(j:Nat):mkW (some ⟨g,off,none⟩) k (j+1)=mkW (some ⟨g,off,none⟩) k j++[(⟨g,off+j*2,none⟩,.bool (b3 (k+2*(j:Int)))),(⟨g,off+j*2+1,none⟩,.int .i64 (k+2*(j:Int)+1))]:=by simp[mkW,List.range_succ]
theorem x4Y(g off:Nat)(k:Int)(n j:Nat)(h:j<n):((⟨g,off+j*2,none⟩,.bool (b3 (k+2*(j:Int)))):Addr×Value)∈mkW (some ⟨g,off,none⟩) k n/\((⟨g,off+j*2+1,none⟩,.int .i64 (k+2*(j:Int)+1)):Addr×Value)∈mkW (some ⟨g,off,none⟩) k n:=by unfold mkW;exact⟨List.mem_flatMap.2 ⟨j,List.mem_range.2 h,by simp⟩,List.mem_flatMap.2 ⟨j,List.mem_range.2 h,by simp⟩⟩
theorem z1U(a:Option Addr)(k:Int)(n:Nat)(p:Addr×Value)(h:p∈mkW a k n):0<n/\∃x,a=some x/\p.1.block=x.block:=by
 unfold mkW at h
 cases a with
 |none=>simp at h
 |some x=>obtain⟨j,hj,h2⟩:=List.mem_flatMap.1 h;have:=List.mem_range.1 hj;refine⟨by omega,x,rfl,?_⟩;simp only[List.mem_cons,List.not_mem_nil,or_false]at h2;rcases h2 with rfl|rfl<;>rfl
theorem v4a(g off:Nat)(k:Int)(n:Nat)(p:Addr×Value)(h:p∈mkW (some ⟨g,off,none⟩) k n):∃i,i<n*2/\p.1=⟨g,off+i,none⟩:=by
 unfold mkW at h;obtain⟨j,hj,h2⟩:=List.mem_flatMap.1 h;have:=List.mem_range.1 hj;simp only[List.mem_cons,List.not_mem_nil,or_false]at h2;rcases h2 with rfl|rfl
 ·exact⟨j*2,by omega,rfl⟩
 ·exact⟨j*2+1,by omega,rfl⟩
theorem x4Z(a:Option Addr)(k:Int):∀n,((mkW a k n).map (·.1)).Nodup:=by
 cases a with
 |none=>intro n;simp[mkW]
 |some x=>
  obtain⟨g,off,sp⟩:=x;intro n
  induction n with
  |zero=>simp[mkW]
  |succ n ih=>
   have e:mkW (some ⟨g,off,sp⟩) k (n+1)=mkW (some ⟨g,off,none⟩) k (n+1):=rfl;have e' :mkW (some ⟨g,off,sp⟩) k n=mkW (some ⟨g,off,none⟩) k n:=rfl;rw[e,v3h,List.map_append,List.nodup_append];rw[e']at ih;refine⟨ih,by simp,?_⟩;intro a ha b hb;obtain⟨q,hq,rfl⟩:=List.mem_map.1 ha;obtain⟨i,hi,hqe⟩:=v4a g off k n q hq;rw[hqe];simp only[List.map_cons,List.map_nil,List.mem_cons,List.not_mem_nil,or_false]at hb;rcases hb with rfl|rfl
   ·intro h;have h2:off+i=off+n*2:=by injection h
    omega
   ·intro h;have h2:off+i=off+n*2+1:=by injection h
    omega
def y2b(w:World)(a:Option Addr)(n:Nat):Prop:=∀j,j<n->∃g off,a=some ⟨g,off,none⟩/\g<w.heap.size/\(∃x,w.cell? ⟨g,off+j*2,none⟩=some x)/\w.frozen? ⟨g,off+j*2,none⟩=false/\(∃x,w.cell? ⟨g,off+j*2+1,none⟩=some x)/\w.frozen? ⟨g,off+j*2+1,none⟩=false
theorem v2y{w:World}{a:Option Addr}{n:Nat}(L:Sts)(h:y2b w a n):y2b (q0C w L) a n:=by intro j hj;obtain⟨g,off,h1,h2,h3,h4,h5,h6⟩:=h j hj;exact⟨g,off,h1,by rw[q0Z];exact h2,x1S _ _ _ h3,by rw[z1z];exact h4,x1S _ _ _ h5,by rw[z1z];exact h6⟩
open Go.RowKit
theorem u0x(w:World)(a:Option Addr)(n cap:Nat)(k:Int)(h:v0I w a n)(hz:n<=16777216)(h0:0<=k)(h1:k<=1000000000000000):
 Calls Tryz.prog 51 #[.slice a n cap,.int .i64 k] w λe w' =>e= .returned (.int .i64 (k+(n:Int)))/\w' =q0C w (mkI a k n):=by
 have HC:Hid (v0I w a n):=h;have HS:Hid (∀g off j,a=some ⟨g,off,none⟩->mkI a k (j+1)=mkI a k j++[(⟨g,off+j,none⟩,.int .i64 (k+(j:Int)))]):=λg off j e=>by rw[e];exact j4A g off k j
 have H0:Hid (w=q0C w (mkI a k 0)):=by show _=_;rw[j4B];rfl
 clear h;go_enter Tryz.func51,Tryz.ntmps51;go_wp2;go_loopw[1,5] (λx i wr=>∃j:Nat,j<=n/\i= .int .i64 j/\x= .int .i64 (k+(j:Int))/\Hid (wr=q0C w (mkI a k j))) (λ_ i _=>n - (intOf i).toNat)
 case atStart=>exact⟨0,by omega,rfl,by simp,H0⟩
 case round=>
  obtain⟨j,hj,rfl,rfl,HW⟩:=hrel;by_cases hlt:j<n
  ·have hc:=j0H (mkI a k j) HC.out;rw[<-HW.out]at hc;obtain⟨g,off,ha,-,⟨x,hx⟩,hf⟩:=hc j hlt
   have HN:Hid (wr.setCell ⟨g,off+j,none⟩ (.int .i64 (k+(j:Int)))=q0C w (mkI a k (j+1))):=by show _=_;rw[HS.out g off j ha,x0v,<-HW.out];rfl
   subst ha;clear hc;go_wp2;go_roundw
   case rel=>exact⟨j+1,by omega,by go_num,by go_num,HN⟩
   case measure=>simp[intOf];omega
  ·obtain rfl:j=n:=by omega
   go_wp2;go_ret
   exact⟨rfl,HW.out⟩
theorem q1s(w:World)(a:Option Addr)(n cap:Nat)(k:Int)(h:∀p∈mkI a k n,w.cell? p.1=some p.2)(ha:0<n->∃g off,a=some ⟨g,off,none⟩)(hz:n<=16777216)(h0:0<=k)(h1:k<=1000000000000000):
 Calls Tryz.prog 55 #[.slice a n cap,.int .i64 k] w λe w' =>e= .returned (.int .i64 (k+(n:Int)))/\w' =w:=by
 have HC:Hid (∀j,j<n->∃g off,a=some ⟨g,off,none⟩/\w.cell? ⟨g,off+j,none⟩=some (.int .i64 (k+(j:Int)))):=by intro j hj;obtain⟨g,off,e⟩:=ha (by omega);exact⟨g,off,e,h _ (by rw[e];exact x5i g off k n j hj)⟩
 clear h ha;go_enter Tryz.func55,Tryz.ntmps55;go_wp2;go_loop [1,5] (λx i=>∃j:Nat,j<=n/\i= .int .i64 j/\x= .int .i64 (k+(j:Int))) (λ_ i=>n - (intOf i).toNat)
 case atStart=>exact⟨0,by omega,rfl,by simp⟩
 case round=>
  obtain⟨j,hj,rfl,rfl⟩:=hrel;by_cases hlt:j<n
  ·obtain⟨g,off,rfl,hc1⟩:=HC.out j hlt;go_wp2;go_round
   case rel=>exact⟨j+1,by omega,by go_num,by go_num⟩
   case measure=>simp[intOf];omega
  ·obtain rfl:j=n:=by omega
   go_wp2;go_ret
   exact⟨rfl,rfl⟩
theorem v3g(w:World)(a:Option Addr)(n cap:Nat)(k:Int)(h:y2b w a n)(hz:n<=16777216)(h0:0<=k)(h1:k<=1000000000000000):
 Calls Tryz.prog 50 #[.slice a n cap,.int .i64 k] w λe w' =>e= .returned (.int .i64 (k+2*(n:Int)))/\w' =q0C w (mkW a k n):=by
 have HC:Hid (y2b w a n):=h;have HS:Hid (∀g off j,a=some ⟨g,off,none⟩->mkW a k (j+1)=mkW a k j++[(⟨g,off+j*2,none⟩,.bool (b3 (k+2*(j:Int)))),(⟨g,off+j*2+1,none⟩,.int .i64 (k+2*(j:Int)+1))]):=λg off j e=>by rw[e];exact v3h g off k j
 have H0:Hid (w=q0C w (mkW a k 0)):=by show _=_;rw[j4F];rfl
 clear h;go_enter Tryz.func50,Tryz.ntmps50;go_wp2;go_loopw[1,5] (λx i wr=>∃j:Nat,j<=n/\i= .int .i64 j/\x= .int .i64 (k+2*(j:Int))/\Hid (wr=q0C w (mkW a k j))) (λ_ i _=>n - (intOf i).toNat)
 case atStart=>exact⟨0,by omega,rfl,by simp,H0⟩
 case round=>
  obtain⟨j,hj,rfl,rfl,HW⟩:=hrel;by_cases hlt:j<n
  ·have hc:=v2y (mkW a k j) HC.out;rw[<-HW.out]at hc;obtain⟨g,off,ha,-,⟨x,hx⟩,hf,⟨y,hy⟩,hf2⟩:=hc j hlt
   have HN:Hid ((wr.setCell ⟨g,off+j*2,none⟩ (.bool (b3 (k+2*(j:Int))))).setCell ⟨g,off+j*2+1,none⟩ (.int .i64 (k+2*(j:Int)+1))=q0C w (mkW a k (j+1))):=by show _=_;rw[HS.out g off j ha,x0v,<-HW.out];rfl
   subst ha;clear hc;go_wp2;go_roundw
   case rel=>exact⟨j+1,by omega,by go_num,by go_num,HN⟩
   case measure=>simp[intOf];omega
  ·obtain rfl:j=n:=by omega
   go_wp2;go_ret
   exact⟨rfl,HW.out⟩
theorem x3D(w:World)(a:Option Addr)(n cap:Nat)(k:Int)(h:∀p∈mkW a k n,w.cell? p.1=some p.2)(ha:0<n->∃g off,a=some ⟨g,off,none⟩)(hz:n<=16777216)(h0:0<=k)(h1:k<=1000000000000000):
 Calls Tryz.prog 54 #[.slice a n cap,.int .i64 k] w λe w' =>e= .returned (.int .i64 (k+2*(n:Int)))/\Below w.heap.size w w' :=by
 have HC:Hid (∀j,j<n->∃g off,a=some ⟨g,off,none⟩/\g<w.heap.size/\w.cell? ⟨g,off+j*2,none⟩=some (.bool (b3 (k+2*(j:Int))))/\w.cell? ⟨g,off+j*2+1,none⟩=some (.int .i64 (k+2*(j:Int)+1))):=by intro j hj;obtain⟨g,off,e⟩:=ha (by omega);have h2:=h _ (by rw[e];exact(x4Y g off k n j hj).1);exact⟨g,off,e,World.block_lt_of_cell? w _ h2,h2,h _ (by rw[e];exact(x4Y g off k n j hj).2)⟩
 clear h ha;go_enter Tryz.func54,Tryz.ntmps54;go_wp2;go_loopw[1,5] (λx i wr=>∃j:Nat,j<=n/\i= .int .i64 j/\x= .int .i64 (k+2*(j:Int))/\Below w.heap.size w wr) (λ_ i _=>n - (intOf i).toNat)
 case atStart=>exact⟨0,by omega,rfl,by simp,bl0⟩
 case round=>
  obtain⟨j,hj,rfl,rfl,hb⟩:=hrel;by_cases hlt:j<n
  ·obtain⟨g,off,rfl,hg,hc1,hc2⟩:=HC.out j hlt;rw[<-hb.cell (p:=⟨g,off+j*2,none⟩) hg]at hc1;rw[<-hb.cell (p:=⟨g,off+j*2+1,none⟩) hg]at hc2;go_wp2;go_roundw
   case rel=>exact⟨j+1,by omega,by go_num,by go_num,hb⟩
   case measure=>simp[intOf];omega
  ·obtain rfl:j=n:=by omega
   go_wp2;go_ret
   exact⟨rfl,hb⟩
open Go.RowKit
theorem j3j(w:World)(a:Option Addr)(cap:Nat)(ss:List OSh)(k:Int)(h:y2a w a ss)(hz:ss.length<=16777216)(hm:∀s∈ss,s.n<=16777216)(h0:0<=k)(h1:k<=1000000000000)(hap:∀x s,a=some x->s∈ss->0<s.n->∀y,s.f=some y->y.block≠x.block):
 Calls Tryz.prog 49 #[.slice a ss.length cap,.int .i64 k] w λe w' =>e= .returned (.int .i64 (k+(v0h ss:Int)))/\w' =q0C w (mkO a ss k):=by
 have HC:Hid (y2a w a ss):=h;have HM:Hid (∀s∈ss,s.n<=16777216):=hm;have HA:Hid (∀x s,a=some x->s∈ss->0<s.n->∀y,s.f=some y->y.block≠x.block):=hap
 have HB:Hid (∀j,v0h (ss.take j)<=16777216*(7+16777216)):=by intro j;refine Nat.le_trans (u2g (ss.take j) 16777216 (λs hs=>hm s (List.mem_of_mem_take hs))) (Nat.mul_le_mul_right _ ?_);rw[List.length_take];omega
 obtain⟨L,hL⟩:∃L:Nat->Sts,L=λj=>mkO a (ss.take j) k:=⟨_,rfl⟩;have H0:Hid (w=q0C w (L 0)):=by show _=_;rw[hL];unfold mkO;cases a<;>rfl
 have HE:Hid (q0C w (L ss.length)=q0C w (mkO a ss k)):=by show _=_;rw[hL];simp only[List.take_length]
 have HEC:Hid (v0h (ss.take ss.length)=v0h ss):=by show _=_;rw[List.take_length]
 have HS:Hid (∀g off j(h:j<ss.length),a=some ⟨g,off,none⟩->L (j+1)=L j++v1Q g (off+j*8) ss[j] (k+(v0h (ss.take j):Int))):=by intro g off j h e;rw[hL,e];exact q3F g off ss k j h
 have HW0:Hid (∀g off j(h:j<ss.length),a=some ⟨g,off,none⟩->∀q∈L j,q.1≠⟨g,off+j*8+6,none⟩):=by
  intro g off j h e q hq;rw[hL,e]at hq;rcases x1t g (ss.take j) off k q hq with⟨j',i,h1,h2,h3,h4⟩|⟨s,h1,h2,x,h3,h4⟩
  ·rw[h4];intro e2;have e3:off+j' *8+i=off+j*8+6:=by injection e2
   omega
  ·intro e2;exact HA.out _ s e (List.mem_of_mem_take h1) h2 x h3 (by rw[<-h4,e2])
 have HCS:Hid (∀j(h:j<ss.length),v0h (ss.take (j+1))=v0h (ss.take j)+(7+ss[j].n)):=λj h=>q3m ss j h;obtain⟨N,hN⟩:∃N,ss.length=N:=⟨_,rfl⟩;have HNn:Hid (ss.length=N):=hN;rw[hN]at hz HE HEC ⊢;clear h hm hap hL hN;go_enter Tryz.func49,Tryz.ntmps49;go_wp2;go_loopw[1,5] (λx i wr=>∃j:Nat,j<=N/\i= .int .i64 j/\x= .int .i64 (k+(v0h (ss.take j):Int))/\Hid (wr=q0C w (L j))) (λ_ i _=>N - (intOf i).toNat)
 case atStart=>exact⟨0,by omega,rfl,by simp[v0h],H0⟩
 case round=>
  obtain⟨j,hj,rfl,rfl,HW⟩:=hrel;by_cases hlt:j<N
  ·have hj2:j<ss.length:=by have:=HNn.out;omega
   obtain⟨g,off,ha,hc0⟩:=HC.out j hj2;have hc:=hc0.keep (L j) (HW0.out g off j hj2 ha);rw[<-HW.out]at hc;have hmn:=HM.out _ (List.getElem_mem hj2);have hbd:=HB.out j
   have HN1:Hid (∀X,X=wr->q0C X (v1Q g (off+j*8) ss[j] (k+(v0h (ss.take j):Int)))=q0C w (L (j+1))):=by intro X hX;rw[hX,HS.out g off j hj2 ha,x0v,<-HW.out]
   have HK:Hid (k+(v0h (ss.take (j+1)):Int)=k+(v0h (ss.take j):Int)+7+(ss[j].n:Int)):=by show _=_;rw[HCS.out j hj2];omega
   generalize ss[j]=s at*;obtain⟨sf,sn,sc⟩:=s;obtain⟨c,hcc⟩:∃c:Int,c=k+(v0h (ss.take j):Int):=⟨_,rfl⟩;rw[<-hcc]at HK HN1 ⊢;have hc0' :0<=c:=by omega
   have hc1' :c<=1000000000000000 - 10:=by omega
   clear hcc hbd hc0;obtain⟨hlt8,hcell,hhead,hrow,hapart⟩:=hc;simp only at hhead hrow hmn HK;obtain⟨⟨x0,d0⟩,f0⟩:=hcell 0 (by omega);obtain⟨⟨x1,d1⟩,f1⟩:=hcell 1 (by omega);obtain⟨⟨x2,d2⟩,f2⟩:=hcell 2 (by omega);obtain⟨⟨x3,d3⟩,f3⟩:=hcell 3 (by omega);obtain⟨⟨x4,d4⟩,f4⟩:=hcell 4 (by omega);obtain⟨⟨x5,d5⟩,f5⟩:=hcell 5 (by omega);have h7:=hcell 7 (by omega);have H7:Hid _:=h7;have HR:Hid (v0I wr sf sn):=hrow;rw[Nat.add_zero]at d0 f0;subst ha;clear hcell h7 hrow hapart;go_wp2_with fail
   refine(u0x _ sf sn sc (c+1+1+1+1+1+1) (x4i _ _ _ _ _ _ _ _ _ _ _ _ HR.out) hmn (by omega) (by omega)).mono ?_;rintro e w1 ⟨rfl,hw1⟩
   obtain⟨x7,d7⟩:∃x,w1.cell? ⟨g,off+j*8+7,none⟩=some x:=by
    rw[hw1];refine x1S _ _ _ ?_;iterate 6 refine x1e _ _ _ _ ?_
    exact H7.out.1
   have f7:w1.frozen? ⟨g,off+j*8+7,none⟩=false:=by rw[hw1,z1z];simp only[World.frozen?_setCell];exact H7.out.2
   have HF:Hid (w1.setCell ⟨g,off+j*8+7,none⟩ (.bool (b3 (c+1+1+1+1+1+1+(sn:Int))))=q0C w (L (j+1))):=by have e:=HN1.out wr rfl;unfold v1Q at e;rw[x0v,x0v]at e;show _=_;rw[<-e,hw1];rfl
   clear hw1 d0 d1 d2 d3 d4 d5 f0 f1 f2 f3 f4 f5 hhead H7 HR HN1;go_wp2;go_roundw
   case rel=>exact⟨j+1,by omega,by go_num,by rw[HK.out];go_num,HF⟩
   case measure=>simp[intOf];omega
  ·obtain rfl:j=N:=by omega
   go_wp2;go_ret
   exact⟨z0x (by rw[HEC.out]),by rw[HW.out,HE.out]⟩
theorem q5M(g off:Nat)(ss:List OSh)(k:Int)(j:Nat)(h:j<ss.length)(q:Addr×Value)(hq:q∈v1Q g (off+j*8) ss[j] (k+(v0h (ss.take j):Int))):q∈mkO (some ⟨g,off,none⟩) ss k:=by have e:ss=ss.take (j+1)++ss.drop (j+1):=(List.take_append_drop _ _).symm;show q∈z1l g off ss k;rw[e,v2K,q3F g off ss k j h];exact List.mem_append_left _ (List.mem_append_right _ hq)
theorem y3T(w:World)(a:Option Addr)(cap:Nat)(ss:List OSh)(k:Int)(h:∀q∈mkO a ss k,w.cell? q.1=some q.2)(hz:ss.length<=16777216)(hm:∀s∈ss,s.n<=16777216)(h0:0<=k)(h1:k<=1000000000000)
 (hh:∀j(h:j<ss.length),∃g off,a=some ⟨g,off,none⟩/\w.cell? ⟨g,off+j*8+6,none⟩=some (.slice ss[j].f ss[j].n ss[j].c)/\(0<ss[j].n->∃g' off',ss[j].f=some ⟨g',off',none⟩)):
 Calls Tryz.prog 53 #[.slice a ss.length cap,.int .i64 k] w λe w' =>e= .returned (.int .i64 (k+(v0h ss:Int)))/\w' =w:=by
 have HC:Hid (∀j(h:j<ss.length),∃g off,a=some ⟨g,off,none⟩/\w.cell? ⟨g,off+j*8+6,none⟩=some (.slice ss[j].f ss[j].n ss[j].c)/\(0<ss[j].n->∃g' off',ss[j].f=some ⟨g',off',none⟩)/\∀q∈v1Q g (off+j*8) ss[j] (k+(v0h (ss.take j):Int)),w.cell? q.1=some q.2):=by intro j hj;obtain⟨g,off,e,h2,h3⟩:=hh j hj;exact⟨g,off,e,h2,h3,λq hq=>h q (by rw[e];exact q5M g off ss k j hj q hq)⟩
 have HM:Hid (∀s∈ss,s.n<=16777216):=hm
 have HB:Hid (∀j,v0h (ss.take j)<=16777216*(7+16777216)):=by intro j;refine Nat.le_trans (u2g (ss.take j) 16777216 (λs hs=>hm s (List.mem_of_mem_take hs))) (Nat.mul_le_mul_right _ ?_);rw[List.length_take];omega
 have HEC:Hid (v0h (ss.take ss.length)=v0h ss):=by show _=_;rw[List.take_length]
 have HCS:Hid (∀j(h:j<ss.length),v0h (ss.take (j+1))=v0h (ss.take j)+(7+ss[j].n)):=λj h=>q3m ss j h;obtain⟨N,hN⟩:∃N,ss.length=N:=⟨_,rfl⟩;have HNn:Hid (ss.length=N):=hN;rw[hN]at hz HEC ⊢;clear h hm hh hN;go_enter Tryz.func53,Tryz.ntmps53;go_wp2;go_loop [1,5] (λx i=>∃j:Nat,j<=N/\i= .int .i64 j/\x= .int .i64 (k+(v0h (ss.take j):Int))) (λ_ i=>N - (intOf i).toNat)
 case atStart=>exact⟨0,by omega,rfl,by simp[v0h]⟩
 case round=>
  obtain⟨j,hj,rfl,rfl⟩:=hrel;by_cases hlt:j<N
  ·have hj2:j<ss.length:=by have:=HNn.out;omega
   obtain⟨g,off,rfl,hhead,hrow,hall⟩:=HC.out j hj2;have hmn:=HM.out _ (List.getElem_mem hj2);have hbd:=HB.out j;have HK:Hid (k+(v0h (ss.take (j+1)):Int)=k+(v0h (ss.take j):Int)+7+(ss[j].n:Int)):=by show _=_;rw[HCS.out j hj2];omega
   generalize ss[j]=s at*;obtain⟨sf,sn,sc⟩:=s;obtain⟨c,hcc⟩:∃c:Int,c=k+(v0h (ss.take j):Int):=⟨_,rfl⟩;rw[<-hcc]at HK hall ⊢;have hc0' :0<=c:=by omega
   have hc1' :c<=1000000000000000 - 10:=by omega
   clear hcc hbd;simp only at hhead hrow hmn HK;unfold v1Q at hall;have d0:=hall (⟨g,off+j*8,none⟩,.bool (b3 c)) (by simp);have d1:=hall (⟨g,off+j*8+1,none⟩,.int .i64 (c+1)) (by simp);have d2:=hall (⟨g,off+j*8+2,none⟩,.int .i64 (c+1+1)) (by simp);have d3:=hall (⟨g,off+j*8+3,none⟩,.int .i64 (c+1+1+1)) (by simp);have d4:=hall (⟨g,off+j*8+4,none⟩,.int .i64 (c+1+1+1+1)) (by simp);have d5:=hall (⟨g,off+j*8+5,none⟩,.int .i64 (c+1+1+1+1+1)) (by simp);have d7:=hall (⟨g,off+j*8+7,none⟩,.bool (b3 (c+1+1+1+1+1+1+(sn:Int)))) (by simp);have C:Hid (∀u:Unit,_):=λ(_:Unit)=>q1s w sf sn sc (c+1+1+1+1+1+1) (λq hq=>hall q (List.mem_append_right _ (List.mem_append_left _ hq))) hrow hmn (by omega) (by omega);simp only at d0 d1 d2 d3 d4 d5 d7;clear hall hrow;go_wp2_with fail
   refine(C.out ()).mono ?_;rintro e w1 ⟨rfl,rfl⟩;go_wp2;go_round
   case rel=>exact⟨j+1,by omega,by go_num,by rw[HK.out];go_num⟩
   case measure=>simp[intOf];omega
  ·obtain rfl:j=N:=by omega
   go_wp2;go_ret
   exact⟨z0x (by rw[HEC.out]),rfl⟩
open Go.RowKit
theorem y2P{n:Nat}{A B:World}(h:Below n A B)(p:Addr)(v:Value):Below n (A.setCell p v) (B.setCell p v):=by
 refine⟨h.os,h.tape,h.output,by simpa[World.setCell]using h.size,λk hk=> ?_⟩;by_cases e:k=p.block
 ·subst e;have hb:=h.block p.block hk;simp only[World.setCell];rw[Array.getElem?_modify,Array.getElem?_modify,if_pos rfl,if_pos rfl,hb]
 ·rw[heap_setCell_other _ _ _ _ e,heap_setCell_other _ _ _ _ e,h.block k hk]
theorem v2Y{n:Nat}(L:Sts):∀{A B:World},Below n A B->Below n (q0C A L) (q0C B L):=by
 induction L with
 |nil=>intro A B h;exact h
 |cons p r ih=>intro A B h;exact ih (y2P h _ _)
def mkS(a:Option Addr)(k n:Nat):Sts:=match a with
 |none=>[]
 |some x=>(List.range n).map λj=>(⟨x.block,x.off+j,none⟩,.string (txt (q1T (k+j))))
theorem j4E(a:Option Addr)(k:Nat):mkS a k 0=[]:=by unfold mkS;cases a<;>rfl
theorem j4D(g off k j:Nat):mkS (some ⟨g,off,none⟩) k (j+1)=mkS (some ⟨g,off,none⟩) k j++[(⟨g,off+j,none⟩,.string (txt (q1T (k+j))))]:=by simp[mkS,List.range_succ]
theorem x5j(g off k n j:Nat)(h:j<n):((⟨g,off+j,none⟩,.string (txt (q1T (k+j)))):Addr×Value)∈mkS (some ⟨g,off,none⟩) k n:=by unfold mkS;exact List.mem_map.2 ⟨j,List.mem_range.2 h,rfl⟩
theorem z1T(a:Option Addr)(k n:Nat)(p:Addr×Value)(h:p∈mkS a k n):0<n/\∃x,a=some x/\p.1.block=x.block:=by
 unfold mkS at h
 cases a with
 |none=>simp at h
 |some x=>obtain⟨j,hj,rfl⟩:=List.mem_map.1 h;have:=List.mem_range.1 hj;exact⟨by omega,x,rfl,rfl⟩
theorem x4X(a:Option Addr)(k n:Nat):((mkS a k n).map (·.1)).Nodup:=by
 unfold mkS
 cases a with
 |none=>simp
 |some x=>rw[List.map_map];refine List.pairwise_map.2 (List.pairwise_lt_range.imp ?_);intro i j hij e;simp at e;omega
theorem u2z(w:World)(a:Option Addr)(n cap k:Nat)(h:v0I w a n)(hz:n<=16777216)(h0:0<k)(h1:k<=1000000000000000):
 Calls Tryz.prog 52 #[.slice a n cap,.int .i64 (k:Int)] w λe w' =>e= .returned (.int .i64 ((k:Int)+(n:Int)))/\Below w.heap.size (q0C w (mkS a k n)) w' :=by
 have HC:Hid (v0I w a n):=h;have HS:Hid (∀g off j,a=some ⟨g,off,none⟩->mkS a k (j+1)=mkS a k j++[(⟨g,off+j,none⟩,.string (txt (q1T (k+j))))]):=λg off j e=>by rw[e];exact j4D g off k j
 have H0:Hid (Below w.heap.size (q0C w (mkS a k 0)) w):=by rw[j4E];exact bl0
 clear h;go_enter Tryz.func52,Tryz.ntmps52;go_wp2;go_loopw[1,5] (λx i wr=>∃j:Nat,j<=n/\i= .int .i64 j/\x= .int .i64 ((k:Int)+(j:Int))/\Hid (Below w.heap.size (q0C w (mkS a k j)) wr)) (λ_ i _=>n - (intOf i).toNat)
 case atStart=>exact⟨0,by omega,rfl,by simp,H0⟩
 case round=>
  obtain⟨j,hj,rfl,rfl,HW⟩:=hrel;by_cases hlt:j<n
  ·have C:Hid (∀X,_):=λX=>x1s (k+j) X (by omega) (by omega);have e1:((k+j:Nat):Int)=(k:Int)+(j:Int):=by omega
   rw[e1]at C;clear e1;go_wp2_with fail
   refine(C.out _).mono ?_;rintro e w1 ⟨rfl,b1⟩;have hsz:w.heap.size<=wr.heap.size:=by have:=HW.out.size;rw[q0Z]at this;exact this
   have HW1:Hid (Below w.heap.size (q0C w (mkS a k j)) w1):=HW.out.trans (b1.mono hsz);have hc:=j0H (mkS a k j) HC.out;obtain⟨g,off,ha,hg,⟨x,hx⟩,hf⟩:=hc j hlt;rw[q0Z]at hg;rw[<-HW1.out.cell (p:=⟨g,off+j,none⟩) hg]at hx;rw[<-HW1.out.frozen (p:=⟨g,off+j,none⟩) hg]at hf
   have HN:Hid (Below w.heap.size (q0C w (mkS a k (j+1))) (w1.setCell ⟨g,off+j,none⟩ (.string (txt (q1T (k+j)))))):=by rw[HS.out g off j ha,x0v];exact y2P HW1.out _ _
   subst ha;generalize q1T (k+j)=T at*;clear hc b1;go_wp2;go_roundw
   case rel=>exact⟨j+1,by omega,by go_num,by go_num,HN⟩
   case measure=>simp[intOf];omega
  ·obtain rfl:j=n:=by omega
   go_wp2;go_ret
   exact⟨rfl,HW.out⟩
theorem u2m(w:World)(a:Option Addr)(n cap k:Nat)(h:∀p∈mkS a k n,w.cell? p.1=some p.2)(ha:0<n->∃g off,a=some ⟨g,off,none⟩)(hz:n<=16777216)(h0:0<k)(h1:k<=1000000000000000):
 Calls Tryz.prog 56 #[.slice a n cap,.int .i64 (k:Int)] w λe w' =>e= .returned (.int .i64 ((k:Int)+(n:Int)))/\Below w.heap.size w w' :=by
 have HA:Hid (∀j,j<n->∃g off,a=some ⟨g,off,none⟩/\g<w.heap.size/\w.cell? ⟨g,off+j,none⟩=some (.string (txt (q1T (k+j))))):=by intro j hj;obtain⟨g,off,e⟩:=ha (by omega);have h2:=h _ (by rw[e];exact x5j g off k n j hj);exact⟨g,off,e,World.block_lt_of_cell? w _ h2,h2⟩
 clear h ha;go_enter Tryz.func56,Tryz.ntmps56;go_wp2;go_loopw[1,5] (λx i wr=>∃j:Nat,j<=n/\i= .int .i64 j/\x= .int .i64 ((k:Int)+(j:Int))/\Below w.heap.size w wr) (λ_ i _=>n - (intOf i).toNat)
 case atStart=>exact⟨0,by omega,rfl,by simp,bl0⟩
 case round=>
  obtain⟨j,hj,rfl,rfl,hb⟩:=hrel;by_cases hlt:j<n
  ·obtain⟨g,off,rfl,hg0,hc0⟩:=HA.out j hlt;have hg:g<wr.heap.size:=Nat.lt_of_lt_of_le hg0 hb.size;have hc1:=(hb.cell (p:=⟨g,off+j,none⟩) hg0).trans hc0;have C:Hid (∀X,_):=λX=>x1s (k+j) X (by omega) (by omega);have e1:((k+j:Nat):Int)=(k:Int)+(j:Int):=by omega
   rw[e1]at C;clear e1 hc0;have hbs:=hb.size;have HCL:Hid (∀X,Below wr.heap.size wr X->X.cell? ⟨g,off+j,none⟩=some (.string (txt (q1T (k+j))))):=λX hX=>(hX.cell (p:=⟨g,off+j,none⟩) hg).trans hc1;generalize q1T (k+j)=T at*;go_wp2;go_region_with (go_at_call 61;refine(C.out _).mono ?_;rintro e w1 ⟨rfl,b1⟩;have hc2:=HCL.out w1 (j2W b1))
   all_goals
    go_wp2;go_roundw
    case rel=>exact⟨j+1,by omega,by go_num,by go_num,hb.trans ((j2W b1).mono hbs)⟩
    case measure=>simp[intOf];omega
  ·obtain rfl:j=n:=by omega
   go_wp2;go_ret
   exact⟨rfl,hb⟩
open Go.RowKit
structure HSh where
 oa:Option Addr
 oc:Nat
 os:List OSh
 wa:Option Addr
 wn:Nat
 wc:Nat
 ba:Option Addr
 bn:Nat
 bc:Nat
 sa:Option Addr
 sn:Nat
 sc:Nat
def HSh.v(s:HSh):Value:= .agg #[.slice s.oa s.os.length s.oc,.slice s.wa s.wn s.wc,.slice s.ba s.bn s.bc,.slice s.sa s.sn s.sc]
structure y0D(w:World)(s:HSh):Prop where
 o:y2a w s.oa s.os
 ap:∀x t,s.oa=some x->t∈s.os->0<t.n->∀y,t.f=some y->y.block≠x.block
 wk:y2b w s.wa s.wn
 b:v0I w s.ba s.bn
 st:v0I w s.sa s.sn
 lo:s.os.length<=16777216
 lf:∀t∈s.os,t.n<=16777216
 lw:s.wn<=16777216
 lb:s.bn<=16777216
 ls:s.sn<=16777216
def HSh.k1(s:HSh):Int:=1+(v0h s.os:Int)
def HSh.k2(s:HSh):Int:=s.k1+2*(s.wn:Int)
def HSh.k3(s:HSh):Nat:=1+v0h s.os+2*s.wn+s.bn
def z0q(s:HSh):Sts:=mkO s.oa s.os 1++(mkW s.wa s.k1 s.wn++(mkI s.ba s.k2 s.bn++mkS s.sa s.k3 s.sn))
theorem u0X{w w' :World}{a:Option Addr}{n:Nat}(h:v0I w a n)(hb:Below w.heap.size w w'):v0I w' a n:=by intro j hj;obtain⟨g,off,h1,h2,⟨x,h3⟩,h4⟩:=h j hj;exact⟨g,off,h1,Nat.lt_of_lt_of_le h2 hb.size,⟨x,(hb.cell (p:=⟨g,off+j,none⟩) h2).trans h3⟩,(hb.frozen (p:=⟨g,off+j,none⟩) h2).trans h4⟩
theorem q4a{w w' :World}{a:Option Addr}{n:Nat}(h:y2b w a n)(hb:Below w.heap.size w w'):y2b w' a n:=by intro j hj;obtain⟨g,off,h1,h2,⟨x,h3⟩,h4,⟨y,h5⟩,h6⟩:=h j hj;exact⟨g,off,h1,Nat.lt_of_lt_of_le h2 hb.size,⟨x,(hb.cell (p:=⟨g,off+j*2,none⟩) h2).trans h3⟩,(hb.frozen (p:=⟨g,off+j*2,none⟩) h2).trans h4,⟨y,(hb.cell (p:=⟨g,off+j*2+1,none⟩) h2).trans h5⟩,(hb.frozen (p:=⟨g,off+j*2+1,none⟩) h2).trans h6⟩
theorem u3Z{w w' :World}{a:Option Addr}{ss:List OSh}(h:y2a w a ss)(hb:Below w.heap.size w w'):y2a w' a ss:=by intro j hj;obtain⟨g,off,h1,h2⟩:=h j hj;refine⟨g,off,h1,Nat.lt_of_lt_of_le h2.lt hb.size,λk hk=> ?_,(hb.cell (p:=⟨g,off+j*8+6,none⟩) h2.lt).trans h2.head,u0X h2.row hb,h2.apart⟩;obtain⟨⟨x,hx⟩,hf⟩:=h2.cell k hk;exact⟨⟨x,(hb.cell (p:=⟨g,off+j*8+k,none⟩) h2.lt).trans hx⟩,(hb.frozen (p:=⟨g,off+j*8+k,none⟩) h2.lt).trans hf⟩
theorem j0G{w w' :World}{s:HSh}(h:y0D w s)(hb:Below w.heap.size w w'):y0D w' s:=
 ⟨u3Z h.o hb,h.ap,q4a h.wk hb,u0X h.b hb,u0X h.st hb,h.lo,h.lf,h.lw,h.lb,h.ls⟩
theorem j4C(g:Nat)(ss:List OSh):∀p k(q:Addr×Value),q∈z1l g p ss k->∃j,∃(h:j<ss.length),∃k',q∈v1Q g (p+j*8) ss[j] k' :=by
 induction ss with
 |nil=>intro p k q h;simp[z1l]at h
 |cons s r ih=>
  intro p k q h;rcases List.mem_append.1 h with h|h
  ·exact⟨0,by simp,k,by simpa using h⟩
  ·obtain⟨j,hj,k',hq⟩:=ih _ _ q h;refine⟨j+1,by simp;omega,k',?_⟩;rw[show p+(j+1)*8=p+8+j*8 from by omega];simpa using hq
theorem u1d{w:World}{a:Option Addr}{n:Nat}{k:Int}(h:v0I w a n)(q:Addr×Value)(hq:q∈mkI a k n):∃x,w.cell? q.1=some x:=by obtain⟨h1,x,h2,h3⟩:=x0M _ _ _ _ hq;rw[h2]at hq;unfold mkI at hq;obtain⟨j,hj,rfl⟩:=List.mem_map.1 hq;obtain⟨g',off',e',_,hx,_⟩:=h j (List.mem_range.1 hj);rw[h2]at e';injection e' with e';subst e';exact hx
theorem x4W{w:World}{g off:Nat}{sp:Option Nat}{ss:List OSh}{k:Int}(h:y2a w (some ⟨g,off,sp⟩) ss)(q:Addr×Value)(hq:q∈z1l g off ss k):∃x,w.cell? q.1=some x:=by
 obtain⟨j,hj,k',hq⟩:=j4C g ss off k q hq;obtain⟨g',off',e,hc⟩:=h j hj;injection e with e;injection e with e1 e2 e3;subst e1 e2;unfold v1Q at hq;rcases List.mem_append.1 hq with hq|hq
 ·simp only[List.mem_cons,List.not_mem_nil,or_false]at hq;rcases hq with rfl|rfl|rfl|rfl|rfl|rfl
  ·exact(hc.cell 0 (by omega)).1
  ·exact(hc.cell 1 (by omega)).1
  ·exact(hc.cell 2 (by omega)).1
  ·exact(hc.cell 3 (by omega)).1
  ·exact(hc.cell 4 (by omega)).1
  ·exact(hc.cell 5 (by omega)).1
 ·rcases List.mem_append.1 hq with hq|hq
  ·exact u1d hc.row q hq
  ·simp only[List.mem_singleton]at hq;subst hq;exact(hc.cell 7 (by omega)).1
theorem x2Y{w:World}{a:Option Addr}{n:Nat}(h:v0I w a n)(hn:0<n)(x:Addr)(hx:a=some x):x.block<w.heap.size:=by obtain⟨g,off,h1,h2,_⟩:=h 0 hn;rw[hx]at h1;injection h1 with h1;rw[h1];exact h2
theorem j0A{w:World}{s:HSh}(h:y0D w s):∀q∈z0q s,q.1.block<w.heap.size/\∃x,w.cell? q.1=some x:=by
 intro q hq;unfold z0q at hq;rcases List.mem_append.1 hq with hq|hq
 ·cases ho:s.oa with
  |none=>rw[ho]at hq;simp[mkO]at hq
  |some x=>
   obtain⟨xg,xo,xs⟩:=x;rw[ho]at hq;unfold mkO at hq;simp only at hq;have HO:=h.o;rw[ho]at HO;rcases x1t xg s.os xo 1 q hq with⟨j,i,h1,h2,h3,h4⟩|⟨t,h1,h2,y,h3,h4⟩
   ·obtain⟨g,off,e,hc⟩:=HO j h1;injection e with e;injection e with e1 e2 e3;subst e1 e2;rw[h4];exact⟨hc.lt,(hc.cell i h2).1⟩
   ·obtain⟨j,hj,rfl⟩:=List.mem_iff_getElem.1 h1;obtain⟨g,off,e,hc⟩:=HO j hj;refine⟨by rw[h4];exact x2Y hc.row h2 y h3,?_⟩;exact x4W HO q hq
 ·rcases List.mem_append.1 hq with hq|hq
  ·obtain⟨h1,x,h2,h3⟩:=z1U _ _ _ _ hq;obtain⟨g,off,e,hg,_⟩:=h.wk 0 h1;rw[h2]at e;injection e with e;refine⟨by rw[h3,e];exact hg,?_⟩;rw[h2,e]at hq;unfold mkW at hq;obtain⟨j,hj,hq⟩:=List.mem_flatMap.1 hq;obtain⟨g',off',e',_,hx,_,hy,_⟩:=h.wk j (List.mem_range.1 hj);rw[h2,e]at e';injection e' with e';injection e' with e1 e2;subst e1 e2;simp only[List.mem_cons,List.not_mem_nil,or_false]at hq;rcases hq with rfl|rfl
   ·exact hx
   ·exact hy
  ·rcases List.mem_append.1 hq with hq|hq
   ·obtain⟨h1,x,h2,h3⟩:=x0M _ _ _ _ hq;refine⟨by rw[h3];exact x2Y h.b h1 x h2,?_⟩;rw[h2]at hq;unfold mkI at hq;obtain⟨j,hj,rfl⟩:=List.mem_map.1 hq;obtain⟨g',off',e',_,hx,_⟩:=h.b j (List.mem_range.1 hj);rw[h2]at e';injection e' with e';subst e';exact hx
   ·obtain⟨h1,x,h2,h3⟩:=z1T _ _ _ _ hq;refine⟨by rw[h3];exact x2Y h.st h1 x h2,?_⟩;rw[h2]at hq;unfold mkS at hq;obtain⟨j,hj,rfl⟩:=List.mem_map.1 hq;obtain⟨g',off',e',_,hx,_⟩:=h.st j (List.mem_range.1 hj);rw[h2]at e';injection e' with e';subst e';exact hx
open Go.RowKit
variable{H:q0a}
theorem x0R{w:World}{v:Value}(r:RdH w v H):∃a0 n0 k0 a1 n1 k1 a2 n2 k2 a3 n3 k3,v= .agg #[.slice a0 n0 k0,.slice a1 n1 k1,.slice a2 n2 k2,.slice a3 n3 k3]:=by obtain⟨ao,co,aw,cw,ab,cb,sa,sc,h,_⟩:=r;exact⟨_,_,_,_,_,_,_,_,_,_,_,_,h⟩
open Go.RowKit
theorem v1m(ss:List OSh)(h1:ss.length<=16777216)(h2:∀t∈ss,t.n<=16777216):v0h ss<=16777216*(7+16777216):=
 Nat.le_trans (u2g ss 16777216 h2) (Nat.mul_le_mul_right _ h1)
theorem q2d(w:World)(t:TypeId)(x0 x1 x2 x3:Value)(L:Sts)(hL:∀q∈L,q.1.block<w.heap.size)(X:World)(hX:X=q0C (w.alloc (.cells #[x0,x1,x2,x3] t)) L):
 X.cell? ⟨w.heap.size,0,none⟩=some x0/\X.cell? ⟨w.heap.size,1,none⟩=some x1/\X.cell? ⟨w.heap.size,2,none⟩=some x2/\X.cell? ⟨w.heap.size,3,none⟩=some x3:=by
 have h:∀k,X.cell? ⟨w.heap.size,k,none⟩=(#[x0,x1,x2,x3]:Array Value)[k]?:=λk=>by
  rw[hX,y0E _ _ (λq hq e=>by have:=hL q hq;rw[e]at this;exact Nat.lt_irrefl _ this),World.cell?_alloc_mark]
 exact⟨h 0,h 1,h 2,h 3⟩
theorem v0P(w:World)(s:HSh)(h:y0D w s):
 Calls Tryz.prog 13 #[s.v,.int .i64 1] w λe w' =>e= .returned (.int .i64 ((s.k3:Int)+(s.sn:Int)))/\Below w.heap.size (q0C w (z0q s)) w' :=by
 have hcn:=v1m s.os h.lo h.lf;have hlw:=h.lw;have hlb:=h.lb;have HLT:Hid (∀q∈z0q s,q.1.block<w.heap.size):=λq hq=>(j0A h q hq).1;obtain⟨W,hW⟩:∃W,W=w.alloc (.cells #[.slice s.oa s.os.length s.oc,.slice s.wa s.wn s.wc,.slice s.ba s.bn s.bc,.slice s.sa s.sn s.sc] 35):=⟨_,rfl⟩;have BW:Below w.heap.size w W:=by rw[hW];exact bl1 _
 have h' :=j0G h BW;have C1:Hid (∀u:Unit,_):=λ(_:Unit)=>j3j W s.oa s.oc s.os 1 h'.o h.lo h.lf (by omega) (by omega) h.ap;have C2:Hid (∀u:Unit,_):=λ(_:Unit)=>v3g (q0C W (mkO s.oa s.os 1)) s.wa s.wn s.wc s.k1 (v2y _ h'.wk) h.lw (by unfold HSh.k1;omega) (by unfold HSh.k1;omega);have C3:Hid (∀u:Unit,_):=λ(_:Unit)=>u0x (q0C (q0C W (mkO s.oa s.os 1)) (mkW s.wa s.k1 s.wn)) s.ba s.bn s.bc s.k2 (j0H _ (j0H _ h'.b)) h.lb (by unfold HSh.k2 HSh.k1;omega) (by unfold HSh.k2 HSh.k1;omega);have C4:Hid (∀u:Unit,_):=λ(_:Unit)=>u2z (q0C (q0C (q0C W (mkO s.oa s.os 1)) (mkW s.wa s.k1 s.wn)) (mkI s.ba s.k2 s.bn)) s.sa s.sn s.sc s.k3 (j0H _ (j0H _ (j0H _ h'.st))) h.ls (by unfold HSh.k3;omega) (by unfold HSh.k3;omega);have e1:(1:Int)+(v0h s.os:Int)=s.k1:=rfl;have e2:s.k1+2*(s.wn:Int)=s.k2:=rfl;have e3:s.k2+(s.bn:Int)=(s.k3:Int):=by unfold HSh.k2 HSh.k1 HSh.k3;omega
 rw[e1]at C1;rw[e2]at C2;rw[e3]at C3;have F1:Hid (∀X,X=q0C W (mkO s.oa s.os 1)->_):=λX hX=>q2d w 35 (.slice s.oa s.os.length s.oc) (.slice s.wa s.wn s.wc) (.slice s.ba s.bn s.bc) (.slice s.sa s.sn s.sc) (mkO s.oa s.os 1) (λq hq=>HLT.out q (List.mem_append_left _ hq)) X (by rw[hX,hW])
 have F2:Hid (∀X,X=q0C (q0C W (mkO s.oa s.os 1)) (mkW s.wa s.k1 s.wn)->_):=λX hX=>q2d w 35 (.slice s.oa s.os.length s.oc) (.slice s.wa s.wn s.wc) (.slice s.ba s.bn s.bc) (.slice s.sa s.sn s.sc) (mkO s.oa s.os 1++mkW s.wa s.k1 s.wn)
  (λq hq=>HLT.out q (by rcases List.mem_append.1 hq with hq|hq;exact List.mem_append_left _ hq;exact List.mem_append_right _ (List.mem_append_left _ hq))) X (by rw[hX,x0v,hW])
 have F3:Hid (∀X,X=q0C (q0C (q0C W (mkO s.oa s.os 1)) (mkW s.wa s.k1 s.wn)) (mkI s.ba s.k2 s.bn)->_):=λX hX=>q2d w 35 (.slice s.oa s.os.length s.oc) (.slice s.wa s.wn s.wc) (.slice s.ba s.bn s.bc) (.slice s.sa s.sn s.sc) (mkO s.oa s.os 1++(mkW s.wa s.k1 s.wn++mkI s.ba s.k2 s.bn))
  (λq hq=>HLT.out q (by
    rcases List.mem_append.1 hq with hq|hq
    ·exact List.mem_append_left _ hq
    ·rcases List.mem_append.1 hq with hq|hq
     ·exact List.mem_append_right _ (List.mem_append_left _ hq)
     ·exact List.mem_append_right _ (List.mem_append_right _ (List.mem_append_left _ hq)))) X (by rw[hX,x0v,x0v,hW])
 have HE:Hid (∀X,Below W.heap.size (q0C (q0C (q0C (q0C W (mkO s.oa s.os 1)) (mkW s.wa s.k1 s.wn)) (mkI s.ba s.k2 s.bn)) (mkS s.sa s.k3 s.sn)) X->Below w.heap.size (q0C w (z0q s)) X):=by
  intro X hX;have b:=v2Y (z0q s) BW
  have e:q0C W (z0q s)=q0C (q0C (q0C (q0C W (mkO s.oa s.os 1)) (mkW s.wa s.k1 s.wn)) (mkI s.ba s.k2 s.bn)) (mkS s.sa s.k3 s.sn):=by unfold z0q;rw[x0v,x0v,x0v]
  rw[e]at b;exact b.trans (hX.mono BW.size)
 have hS:∀(A:World)(L1 L2 L3:Sts),(q0C (q0C (q0C A L1) L2) L3).heap.size=A.heap.size:=λA L1 L2 L3=>by rw[q0Z,q0Z,q0Z]
 have HS:Hid ((q0C (q0C (q0C W (mkO s.oa s.os 1)) (mkW s.wa s.k1 s.wn)) (mkI s.ba s.k2 s.bn)).heap.size=W.heap.size):=hS _ _ _ _;rw[HS.out]at C4;generalize s.k1=q1 at*;generalize s.k2=q2 at*;generalize s.k3=q3 at*;generalize mkO s.oa s.os 1=L1 at*;generalize mkW s.wa q1 s.wn=L2 at*;generalize mkI s.ba q2 s.bn=L3 at*;generalize mkS s.sa q3 s.sn=L4 at*;unfold HSh.v;clear h h' e1 e2 e3 hS HLT;go_enter Tryz.func13,Tryz.ntmps13;go_wp2_with fail
 rw[<-hW];refine(C1.out ()).mono ?_;rintro e w1 ⟨rfl,hw1⟩;obtain⟨c0,c1,c2,c3⟩:=F1.out _ hw1;rw[<-hw1]at C2 C3 C4 F2 F3 HE;clear hW hw1 C1 F1 hcn;go_wp2_with fail
 refine(C2.out ()).mono ?_;rintro e w2 ⟨rfl,hw2⟩;obtain⟨d0,d1,d2,d3⟩:=F2.out _ hw2;rw[<-hw2]at C3 C4 F3 HE;clear hw2 C2 F2 c0 c1 c2 c3;go_wp2_with fail
 refine(C3.out ()).mono ?_;rintro e w3 ⟨rfl,hw3⟩;obtain⟨c0,c1,c2,c3⟩:=F3.out _ hw3;rw[<-hw3]at C4 HE;clear hw3 C3 F3 d0 d1 d2 d3;go_wp2_with fail
 refine(C4.out ()).mono ?_;rintro e w4 ⟨rfl,b4⟩;go_wp2;go_ret
 exact⟨rfl,HE.out _ b4⟩
structure v0G(w:World)(s:HSh):Prop where
 all:∀q∈z0q s,w.cell? q.1=some q.2
 head:∀j(h:j<s.os.length),∃g off,s.oa=some ⟨g,off,none⟩/\g<w.heap.size/\w.cell? ⟨g,off+j*8+6,none⟩=some (.slice s.os[j].f s.os[j].n s.os[j].c)/\(0<s.os[j].n->∃g' off',s.os[j].f=some ⟨g',off',none⟩)
 wk:0<s.wn->∃g off,s.wa=some ⟨g,off,none⟩
 b:0<s.bn->∃g off,s.ba=some ⟨g,off,none⟩
 st:0<s.sn->∃g off,s.sa=some ⟨g,off,none⟩
theorem q1r{w w' :World}{s:HSh}(h:v0G w s)(hb:Below w.heap.size w w'):v0G w' s:=by
 refine⟨λq hq=> ?_,λj hj=> ?_,h.wk,h.b,h.st⟩
 ·rw[hb.cell (World.block_lt_of_cell? w _ (h.all q hq))];exact h.all q hq
 ·obtain⟨g,off,h1,h2,h3,h4⟩:=h.head j hj;exact⟨g,off,h1,Nat.lt_of_lt_of_le h2 hb.size,(hb.cell (p:=⟨g,off+j*8+6,none⟩) h2).trans h3,h4⟩
theorem x1K(w:World)(s:HSh)(h:v0G w s)(hl:s.os.length<=16777216/\(∀t∈s.os,t.n<=16777216)/\s.wn<=16777216/\s.bn<=16777216/\s.sn<=16777216):
 Calls Tryz.prog 15 #[s.v,.int .i64 1] w λe w' =>e= .returned (.int .i64 ((s.k3:Int)+(s.sn:Int)))/\Below w.heap.size w w' :=by
 obtain⟨lo,lf,lw,lb,ls⟩:=hl;have hcn:=v1m s.os lo lf;obtain⟨W,hW⟩:∃W,W=w.alloc (.cells #[.slice s.oa s.os.length s.oc,.slice s.wa s.wn s.wc,.slice s.ba s.bn s.bc,.slice s.sa s.sn s.sc] 35):=⟨_,rfl⟩;have BW:Below w.heap.size w W:=by rw[hW];exact bl1 _
 have hWs:W.heap.size=w.heap.size+1:=by rw[hW];simp
 have HK:Hid (∀X,Below W.heap.size W X->_):=λX(hX:Below W.heap.size W X)=>z0z w 35 (.slice s.oa s.os.length s.oc) (.slice s.wa s.wn s.wc) (.slice s.ba s.bn s.bc) (.slice s.sa s.sn s.sc) X (by rw[hWs,hW]at hX;exact hX);have H:Hid (∀X,Below w.heap.size w X->v0G X s):=λX hX=>q1r h hX
 have C1:Hid (∀X,Below w.heap.size w X->_):=λX hX=>y3T X s.oa s.oc s.os 1 (λq hq=>(H.out X hX).all q (List.mem_append_left _ hq)) lo lf (by omega) (by omega) (λj hj=>by
  obtain⟨g,off,h1,h2,h3,h4⟩:=(H.out X hX).head j hj;exact⟨g,off,h1,h3,h4⟩)
 have C2:Hid (∀X,Below w.heap.size w X->_):=λX hX=>x3D X s.wa s.wn s.wc s.k1 (λq hq=>(H.out X hX).all q (List.mem_append_right _ (List.mem_append_left _ hq))) h.wk lw (by unfold HSh.k1;omega) (by unfold HSh.k1;omega);have C3:Hid (∀X,Below w.heap.size w X->_):=λX hX=>q1s X s.ba s.bn s.bc s.k2 (λq hq=>(H.out X hX).all q (List.mem_append_right _ (List.mem_append_right _ (List.mem_append_left _ hq)))) h.b lb (by unfold HSh.k2 HSh.k1;omega) (by unfold HSh.k2 HSh.k1;omega);have C4:Hid (∀X,Below w.heap.size w X->_):=λX hX=>u2m X s.sa s.sn s.sc s.k3 (λq hq=>(H.out X hX).all q (List.mem_append_right _ (List.mem_append_right _ (List.mem_append_right _ hq)))) h.st ls (by unfold HSh.k3;omega) (by unfold HSh.k3;omega);have e1:(1:Int)+(v0h s.os:Int)=s.k1:=rfl;have e2:s.k1+2*(s.wn:Int)=s.k2:=rfl;have e3:s.k2+(s.bn:Int)=(s.k3:Int):=by unfold HSh.k2 HSh.k1 HSh.k3;omega
 have p1:0<=s.k1:=by unfold HSh.k1;omega
 have p2:0<=s.k2:=by unfold HSh.k2 HSh.k1;omega
 rw[e1]at C1;rw[e2]at C2;rw[e3]at C3;generalize s.k1=q1 at*;generalize s.k2=q2 at*;generalize s.k3=q3 at*;unfold HSh.v;clear h H e1 e2 e3 hcn;go_enter Tryz.func15,Tryz.ntmps15;go_wp2_with fail
 rw[<-hW];refine(C1.out _ BW).mono ?_;rintro e W1 ⟨rfl,hw1⟩;subst hw1;obtain⟨c0,c1,c2,c3⟩:=HK.out _ bl0;clear hW C1;go_wp2_with fail
 refine(C2.out _ BW).mono ?_;rintro e w2 ⟨rfl,b2⟩;have B2:=BW.trans (b2.mono BW.size);obtain⟨d0,d1,d2,d3⟩:=HK.out _ b2;clear C2 c0 c1 c2 c3;go_wp2_with fail
 refine(C3.out _ B2).mono ?_;rintro e W3 ⟨rfl,hw3⟩;subst hw3;clear C3;go_wp2_with fail
 refine(C4.out _ B2).mono ?_;rintro e w4 ⟨rfl,b4⟩;have B4:=B2.trans (b4.mono B2.size);go_wp2;go_ret
 exact⟨rfl,B4⟩
theorem j3k{w w' :World}{s:HSh}(h:y0D w s)(hn:((z0q s).map (·.1)).Nodup)(hb:Below w.heap.size (q0C w (z0q s)) w')(hd:∀j(hj:j<s.os.length),∀g off,s.oa=some ⟨g,off,none⟩->∀q∈z0q s,q.1≠⟨g,off+j*8+6,none⟩):v0G w' s:=by
 refine⟨λq hq=> ?_,λj hj=> ?_,λhp=> ?_,λhp=> ?_,λhp=> ?_⟩
 ·rw[hb.cell (j0A h q hq).1];exact j1D _ hn w (λp hp=>(j0A h p hp).2) q hq
 ·obtain⟨g,off,h1,h2⟩:=h.o j hj;refine⟨g,off,h1,?_,?_,λhp=> ?_⟩
  ·have:=hb.size;rw[q0Z]at this;exact Nat.lt_of_lt_of_le h2.lt this
  ·rw[hb.cell (p:=⟨g,off+j*8+6,none⟩) h2.lt,y0E _ _ (hd j hj g off h1)];exact h2.head
  ·obtain⟨g',off',e,_⟩:=h2.row 0 hp;exact⟨g',off',e⟩
 ·obtain⟨g,off,e,_⟩:=h.wk 0 hp;exact⟨g,off,e⟩
 ·obtain⟨g,off,e,_⟩:=h.b 0 hp;exact⟨g,off,e⟩
 ·obtain⟨g,off,e,_⟩:=h.st 0 hp;exact⟨g,off,e⟩
open Go.RowKit
variable{H:q0a}
theorem j0B{w:World}{B:Nat}{v:Value}{zs:List Int}(h:q0i w B v zs):∃a c,v= .slice a zs.length c/\v0I w a zs.length/\∀x,a=some x->B<=x.block:=by
 rcases x0N h with⟨rfl,rfl⟩|⟨g,cap,rfl,hB,hg,_,_,HC⟩
 ·exact⟨none,0,rfl,λj hj=>by simp at hj,λx hx=>by cases hx⟩
 ·exact⟨_,cap,rfl,λj hj=>⟨g,0,rfl,hg,⟨_,by rw[Nat.zero_add];exact(HC.out j hj).1⟩,by rw[Nat.zero_add];exact(HC.out j hj).2⟩,λx hx=>by injection hx with hx;subst hx;exact hB⟩
theorem v3z{w:World}{B:Nat}{v:Value}{zs:List (List UInt8)}(h:z0E w B v zs):∃a c,v= .slice a zs.length c/\v0I w a zs.length/\∀x,a=some x->B<=x.block:=by
 rcases j0S h with⟨rfl,rfl⟩|⟨g,cap,rfl,hB,hg,_,_,HC⟩
 ·exact⟨none,0,rfl,λj hj=>by simp at hj,λx hx=>by cases hx⟩
 ·exact⟨_,cap,rfl,λj hj=>⟨g,0,rfl,hg,⟨_,by rw[Nat.zero_add];exact(HC.out j hj).1⟩,by rw[Nat.zero_add];exact(HC.out j hj).2⟩,λx hx=>by injection hx with hx;subst hx;exact hB⟩
theorem q0H{w:World}{g p:Nat}{o:q0E}{f:Value}(h:x0G w g p o f):∀k,k<8->∃x,w.cell? ⟨g,p+k,none⟩=some x:=by
 intro k hk
 match k,hk with
 |0,_=>exact⟨_,h.c0⟩
 |1,_=>exact⟨_,h.c1⟩
 |2,_=>exact⟨_,h.c2⟩
 |3,_=>exact⟨_,h.c3⟩
 |4,_=>exact⟨_,h.c4⟩
 |5,_=>exact⟨_,h.c5⟩
 |6,_=>exact⟨_,h.c6⟩
 |7,_=>exact⟨_,h.c7⟩
theorem x4J{w:World}{g:Nat}{os:List q0E}(h:x1h w g os os.length)(hg:g<w.heap.size):
 ∃ss:List OSh,ss.length=os.length/\y2a w (some ⟨g,0,none⟩) ss/\(∀t∈ss,∀y,t.f=some y->g+1<=y.block)/\∀i(h1:i<ss.length)(h2:i<os.length),ss[i].n=os[i].field.length:=by
 have key:∀i:Fin os.length,∃s:OSh,s.n=os[i].field.length/\y2L w g (0+i.1*8) s/\∀y,s.f=some y->g+1<=y.block:=by
  intro i;obtain⟨f,h1,h2,h3⟩:=h i.1 i.2 i.2;obtain⟨a,c,rfl,h4,h5⟩:=j0B h2;refine⟨⟨a,_,c⟩,rfl,⟨hg,λk hk=>⟨?_,?_⟩,?_,h4,λx hx _=>by have:=h5 x hx;omega⟩,h5⟩
  ·rw[Nat.zero_add];exact q0H h1 k hk
  ·rw[Nat.zero_add];exact h3 k hk
  ·rw[Nat.zero_add];exact h1.c6
 refine⟨List.ofFn (λi=>Classical.choose (key i)),by simp,?_,?_,?_⟩
 ·intro j hj;refine⟨g,0,rfl,?_⟩;rw[List.getElem_ofFn];exact(Classical.choose_spec (key ⟨j,by simpa using hj⟩)).2.1
 ·intro t ht;obtain⟨j,hj,rfl⟩:=List.mem_iff_getElem.1 ht;rw[List.getElem_ofFn];exact(Classical.choose_spec (key ⟨j,by simpa using hj⟩)).2.2
 ·intro i h1 h2;rw[List.getElem_ofFn];exact(Classical.choose_spec (key ⟨i,h2⟩)).1
theorem z1V{w:World}{B:Nat}{v:Value}(h:v1z w B v H)(hs:q0h H):∃s:HSh,v=s.v/\y0D w s/\∀q∈z0q s,B<=q.1.block:=by
 obtain⟨go,gw,vb,vs,rfl,b1,h1,h2,b2,h3,h4,h5,h6⟩:=h;obtain⟨ss,e1,e2,e3,e4⟩:=x4J h2 h1;obtain⟨ba,bc,rfl,e5,e6⟩:=j0B h5;obtain⟨sa,sc,rfl,e7,e8⟩:=v3z h6;have hso:=hs.objs;have hsw:=hs.weaks;have hsb:=hs.buffer;have hss:=hs.sites;refine⟨⟨some ⟨go,0,none⟩,H.objs.length,ss,some ⟨gw,0,none⟩,H.weaks.length,H.weaks.length,ba,H.buffer.length,bc,sa,H.sites.length,sc⟩,by rw[HSh.v,e1],⟨e2,?_,?_,e5,e7,by simp only[e1];omega,?_,by simp only;omega,by simp only;omega,by simp only;omega⟩,?_⟩
 ·intro x t hx ht _ y hy;have:=e3 t ht y hy;injection hx with hx;subst hx;simp only;omega
 ·intro j hj;obtain⟨h7,h8⟩:=h4 j hj hj;exact⟨gw,0,rfl,h3,⟨_,by rw[Nat.zero_add];exact h7.c0⟩,by rw[Nat.zero_add];exact h8 0 (by omega),⟨_,by rw[Nat.zero_add];exact h7.c1⟩,by rw[Nat.zero_add];exact h8 1 (by omega)⟩
 ·intro t ht;obtain⟨j,hj,rfl⟩:=List.mem_iff_getElem.1 ht;simp only at hj ⊢;rw[e4 j hj (by omega)];have:=hs.fields _ (List.getElem_mem (l:=H.objs) (n:=j) (by omega));omega
 ·intro q hq;unfold z0q at hq;simp only[List.mem_append]at hq;rcases hq with hq|hq|hq|hq
  ·rcases x1t go ss 0 1 q hq with⟨j,i,_,_,_,e⟩|⟨t,ht,_,y,hy,e⟩
   ·rw[e];exact b1
   ·have:=e3 t ht y hy;rw[e];omega
  ·obtain⟨_,x,hx,e⟩:=z1U _ _ _ _ hq;injection hx with hx;subst hx;rw[e];exact b2
  ·obtain⟨_,x,hx,e⟩:=x0M _ _ _ _ hq;rw[e];exact e6 x hx
  ·obtain⟨_,x,hx,e⟩:=z1T _ _ _ _ hq;rw[e];exact e8 x hx
open Go.RowKit
variable{H:q0a}
def Ap(a:Option Addr)(n:Nat)(b:Option Addr)(m:Nat):Prop:=0<n->0<m->∀x y,a=some x->b=some y->x.block≠y.block
theorem Ap.symm{a b:Option Addr}{n m:Nat}(h:Ap a n b m):Ap b m a n:=λh1 h2 x y hx hy e=>h h2 h1 y x hy hx e.symm
structure u3U(s:HSh):Prop where
 ow:Ap s.oa s.os.length s.wa s.wn
 ob:Ap s.oa s.os.length s.ba s.bn
 os:Ap s.oa s.os.length s.sa s.sn
 wb:Ap s.wa s.wn s.ba s.bn
 ws:Ap s.wa s.wn s.sa s.sn
 bs:Ap s.ba s.bn s.sa s.sn
 ofl:∀t∈s.os,Ap s.oa s.os.length t.f t.n
 wf:∀t∈s.os,Ap s.wa s.wn t.f t.n
 bf:∀t∈s.os,Ap s.ba s.bn t.f t.n
 sf:∀t∈s.os,Ap s.sa s.sn t.f t.n
 ff:s.os.Pairwise (λt u=>Ap t.f t.n u.f u.n)
theorem q4T(g p:Nat)(s:OSh)(k:Int)(h:0<s.n->∀x,s.f=some x->x.block≠g):((v1Q g p s k).map (·.1)).Nodup:=by
 have hI:=v1r s.f (k+1+1+1+1+1+1) s.n
 have hb:∀a∈(mkI s.f (k+1+1+1+1+1+1) s.n).map (·.1),a.block≠g:=by intro a ha;obtain⟨q,hq,rfl⟩:=List.mem_map.1 ha;obtain⟨h1,x,h2,h3⟩:=x0M _ _ _ _ hq;rw[h3];exact h h1 x h2
 unfold v1Q;rw[List.map_append,List.map_append];generalize (mkI s.f (k+1+1+1+1+1+1) s.n).map (·.1)=M at*;refine List.nodup_append.2 ⟨?_,List.nodup_append.2 ⟨hI,?_,?_⟩,?_⟩
 ·simp
 ·simp
 ·intro a ha b hbm e;simp only[List.map_cons,List.map_nil,List.mem_singleton]at hbm;have:=hb a ha;rw[e,hbm]at this;exact this rfl
 ·intro a ha b hbm e;simp only[List.map_cons,List.map_nil,List.mem_cons,List.not_mem_nil,or_false]at ha;rcases List.mem_append.1 hbm with hm|hm
  ·have:=hb b hm;rw[<-e]at this;rcases ha with rfl|rfl|rfl|rfl|rfl|rfl<;>exact this rfl
  ·simp only[List.map_cons,List.map_nil,List.mem_singleton]at hm;subst hm;rcases ha with rfl|rfl|rfl|rfl|rfl|rfl<;>simp at e
theorem q4U(g:Nat)(ss:List OSh)(h:∀t∈ss,0<t.n->∀x,t.f=some x->x.block≠g)(hp:ss.Pairwise (λt u=>Ap t.f t.n u.f u.n)):∀p k,((z1l g p ss k).map (·.1)).Nodup:=by
 induction ss with
 |nil=>intro p k;simp[z1l]
 |cons s r ih=>
  intro p k;rw[List.pairwise_cons]at hp;unfold z1l;rw[List.map_append];refine List.nodup_append.2 ⟨q4T g p s k (h s (by simp)),ih (λt ht=>h t (by simp[ht])) hp.2 _ _,?_⟩;intro a ha b hb e;obtain⟨q,hq,rfl⟩:=List.mem_map.1 ha;obtain⟨q2,hq2,rfl⟩:=List.mem_map.1 hb;rcases j2s g p s k q hq with⟨i,h1,_,h3⟩|⟨h1,x,h2,h3⟩
  ·rcases x1t g r _ _ q2 hq2 with⟨j,i2,_,_,_,h6⟩|⟨t,ht,h4,y,h5,h6⟩
   ·rw[h3,h6]at e;simp at e<;>omega
   ·have:=h t (by simp[ht]) h4 y h5;rw[<-h6,<-e,h3]at this;exact this rfl
  ·rcases x1t g r _ _ q2 hq2 with⟨j,i2,_,_,_,h6⟩|⟨t,ht,h4,y,h5,h6⟩
   ·have:=h s (by simp) h1 x h2;rw[<-h3,e,h6]at this;exact this rfl
   ·exact hp.1 t ht h1 h4 x y h2 h5 (by rw[<-h3,<-h6,e])
theorem y1Z(s:HSh)(k:Int)(q:Addr×Value)(h:q∈mkO s.oa s.os k):∃x,s.oa=some x/\((∃j i,j<s.os.length/\i<8/\i≠6/\q.1=⟨x.block,x.off+j*8+i,none⟩)\/∃t∈s.os,0<t.n/\∃y,t.f=some y/\q.1.block=y.block):=by
 unfold mkO at h
 cases ho:s.oa with
 |none=>rw[ho]at h;simp at h
 |some x=>rw[ho]at h;exact⟨x,rfl,x1t _ _ _ _ q h⟩
theorem v4Y{s:HSh}(h:u3U s):((z0q s).map (·.1)).Nodup:=by
 unfold z0q;rw[List.map_append,List.map_append,List.map_append]
 have hO:((mkO s.oa s.os 1).map (·.1)).Nodup:=by
  unfold mkO
  cases ho:s.oa with
  |none=>simp
  |some x=>refine q4U _ _ (λt ht h1 y hy=> ?_) h.ff _ _;have hl:0<s.os.length:=List.length_pos_of_mem ht;exactλe=>h.ofl t ht hl h1 x y ho hy e.symm
 have key:∀(A M:Sts),(∀q∈A,∀q2∈M,q.1≠q2.1)->∀a∈A.map (·.1),∀b∈M.map (·.1),a≠b:=by intro A M hh a ha b hb;obtain⟨q,hq,rfl⟩:=List.mem_map.1 ha;obtain⟨q2,hq2,rfl⟩:=List.mem_map.1 hb;exact hh q hq q2 hq2
 have kO:∀(M:Sts)(m:Option Addr)(n:Nat),(∀q∈M,0<n/\∃x,m=some x/\q.1.block=x.block)->Ap s.oa s.os.length m n->(∀t∈s.os,Ap m n t.f t.n)->∀q∈mkO s.oa s.os 1,∀q2∈M,q.1≠q2.1:=by
  intro M m n hM h1 h2 q hq q2 hq2 e;obtain⟨hn,z,hz,hzb⟩:=hM q2 hq2;obtain⟨x,hx,⟨j,i,hj,_,_,h3⟩|⟨t,ht,h4,y,h5,h6⟩⟩:=y1Z s 1 q hq
  ·refine h1 (by omega) hn x z hx hz ?_;rw[<-hzb,<-e,h3]
  ·exact h2 t ht hn h4 z y hz h5 (by rw[<-hzb,<-h6,e])
 have kR:∀(A M:Sts)(a m:Option Addr)(na nm:Nat),(∀q∈A,0<na/\∃x,a=some x/\q.1.block=x.block)->(∀q∈M,0<nm/\∃x,m=some x/\q.1.block=x.block)->Ap a na m nm->∀q∈A,∀q2∈M,q.1≠q2.1:=by intro A M a m na nm hA hM hap q hq q2 hq2 e;obtain⟨h1,x,hx,hxb⟩:=hA q hq;obtain⟨h2,y,hy,hyb⟩:=hM q2 hq2;exact hap h1 h2 x y hx hy (by rw[<-hxb,<-hyb,e])
 have bW:∀q∈mkW s.wa s.k1 s.wn,0<s.wn/\∃x,s.wa=some x/\q.1.block=x.block:=λq hq=>z1U _ _ _ _ hq;have bI:∀q∈mkI s.ba s.k2 s.bn,0<s.bn/\∃x,s.ba=some x/\q.1.block=x.block:=λq hq=>x0M _ _ _ _ hq;have bS:∀q∈mkS s.sa s.k3 s.sn,0<s.sn/\∃x,s.sa=some x/\q.1.block=x.block:=λq hq=>z1T _ _ _ _ hq;refine List.nodup_append.2 ⟨hO,List.nodup_append.2 ⟨x4Z _ _ _,List.nodup_append.2 ⟨v1r _ _ _,x4X _ _ _,key _ _ (kR _ _ _ _ _ _ bI bS h.bs)⟩,?_⟩,?_⟩
 ·rw[<-List.map_append];refine key _ _ (λq hq q2 hq2=> ?_);rcases List.mem_append.1 hq2 with hq2|hq2
  ·exact kR _ _ _ _ _ _ bW bI h.wb q hq q2 hq2
  ·exact kR _ _ _ _ _ _ bW bS h.ws q hq q2 hq2
 ·rw[<-List.map_append,<-List.map_append];refine key _ _ (λq hq q2 hq2=> ?_);rcases List.mem_append.1 hq2 with hq2|hq2
  ·exact kO _ _ _ bW h.ow h.wf q hq q2 hq2
  ·rcases List.mem_append.1 hq2 with hq2|hq2
   ·exact kO _ _ _ bI h.ob h.bf q hq q2 hq2
   ·exact kO _ _ _ bS h.os h.sf q hq q2 hq2
theorem u4F{s:HSh}(h:u3U s):∀j,j<s.os.length->∀g off,s.oa=some ⟨g,off,none⟩->∀q∈z0q s,q.1≠⟨g,off+j*8+6,none⟩:=by
 intro j hj g off ho q hq e;unfold z0q at hq;simp only[List.mem_append]at hq;rcases hq with hq|hq|hq|hq
 ·obtain⟨x,hx,⟨j2,i,hj2,h1,h2,h3⟩|⟨t,ht,h4,y,h5,h6⟩⟩:=y1Z s 1 q hq
  ·rw[ho]at hx;injection hx with hx;subst hx;rw[e]at h3;simp at h3;omega
  ·refine h.ofl t ht (by omega) h4 _ y ho h5 ?_;rw[<-h6,e]
 ·obtain⟨h1,x,h2,h3⟩:=z1U _ _ _ _ hq;exact h.ow (by omega) h1 _ x ho h2 (by rw[<-h3,e])
 ·obtain⟨h1,x,h2,h3⟩:=x0M _ _ _ _ hq;exact h.ob (by omega) h1 _ x ho h2 (by rw[<-h3,e])
 ·obtain⟨h1,x,h2,h3⟩:=z1T _ _ _ _ hq;exact h.os (by omega) h1 _ x ho h2 (by rw[<-h3,e])
structure LoH(B:Nat)(s:HSh):Prop where
 lo:0<s.os.length->∀x,s.oa=some x->B<=x.block
 lw:0<s.wn->∀x,s.wa=some x->B<=x.block
 lb:0<s.bn->∀x,s.ba=some x->B<=x.block
 ls:0<s.sn->∀x,s.sa=some x->B<=x.block
 lf:∀t∈s.os,0<t.n->∀x,t.f=some x->B<=x.block
theorem q2E{B:Nat}{s:HSh}(h:LoH B s):∀q∈z0q s,B<=q.1.block:=by
 intro q hq;unfold z0q at hq;simp only[List.mem_append]at hq;rcases hq with hq|hq|hq|hq
 ·obtain⟨x,hx,⟨j2,i,hj2,h1,h2,h3⟩|⟨t,ht,h4,y,h5,h6⟩⟩:=y1Z s 1 q hq
  ·rw[h3];exact h.lo (by omega) x hx
  ·rw[h6];exact h.lf t ht h4 y h5
 ·obtain⟨h1,x,h2,h3⟩:=z1U _ _ _ _ hq;rw[h3];exact h.lw h1 x h2
 ·obtain⟨h1,x,h2,h3⟩:=x0M _ _ _ _ hq;rw[h3];exact h.lb h1 x h2
 ·obtain⟨h1,x,h2,h3⟩:=z1T _ _ _ _ hq;rw[h3];exact h.ls h1 x h2
structure z1d(w:World)(B:Nat)(s:HSh)(H:q0a):Prop where
 rd:RdH w s.v H
 can:y0D w s
 sep:u3U s
 lo:LoH B s
theorem y1Y{w w' :World}{B:Nat}{s:HSh}(h:z1d w B s H)(hb:Below w.heap.size (q0C w (z0q s)) w'):v0G w' s:=
 j3k h.can (v4Y h.sep) hb (u4F h.sep)
def y0j(B:Nat)(w w' :World):Prop:=w.heap.size<=w'.heap.size/\∀g,B<=g->g<w.heap.size->w'.heap[g]? =w.heap[g]?
theorem q0G(B:Nat)(w:World)(p:Addr)(u:Value)(h:p.block<B):y0j B w (w.setCell p u):=
 ⟨by simp[World.setCell],λg hg _=>heap_setCell_other w p g u (by omega)⟩
theorem y0j.trans{B:Nat}{a b c:World}(h1:y0j B a b)(h2:y0j B b c):y0j B a c:=
 ⟨Nat.le_trans h1.1 h2.1,λg hg hl=>(h2.2 g hg (Nat.lt_of_lt_of_le hl h1.1)).trans (h1.2 g hg hl)⟩
theorem y0j.cell{B:Nat}{w w' :World}(h:y0j B w w'){p:Addr}(hp:B<=p.block)(hl:p.block<w.heap.size):w'.cell? p=w.cell? p:=World.cell?_of_block (h.2 _ hp hl)
theorem y0j.frozen{B:Nat}{w w' :World}(h:y0j B w w'){p:Addr}(hp:B<=p.block)(hl:p.block<w.heap.size):w'.frozen? p=w.frozen? p:=World.frozen?_of_block (h.2 _ hp hl)
theorem u2A{w:World}{B:Nat}{s:HSh}(l1:H.objs.length=s.os.length)(l2:H.weaks.length=s.wn)(l3:H.buffer.length=s.bn)(l4:H.sites.length=s.sn)(h1:RdO w s.oa H.objs)(h2:RdW w s.wa H.weaks)(h3:RdI w s.ba H.buffer)(h4:RdS w s.sa H.sites)(hc:y0D w s)(hs:u3U s)(hl:LoH B s):z1d w B s H:=
 ⟨⟨_,_,_,_,_,_,_,_,by rw[l1,l2,l3,l4];rfl,h1,h2,h3,h4⟩,hc,hs,hl⟩
open Go.RowKit
variable{H:q0a}
def Dif(a b:Option Addr):Prop:=∀x y,a=some x->b=some y->x.block≠y.block
theorem Dif.symm{a b:Option Addr}(h:Dif a b):Dif b a:=λx y hx hy e=>h y x hy hx e.symm
theorem Dif.ap{a b:Option Addr}(h:Dif a b)(n m:Nat):Ap a n b m:=λ_ _ x y hx hy=>h x y hx hy
structure v5r(s:HSh):Prop where
 ow:Dif s.oa s.wa
 ob:Dif s.oa s.ba
 os:Dif s.oa s.sa
 wb:Dif s.wa s.ba
 ws:Dif s.wa s.sa
 bs:Dif s.ba s.sa
 fo:∀t∈s.os,Dif s.oa t.f
 fw:∀t∈s.os,Dif s.wa t.f
 fb:∀t∈s.os,Dif s.ba t.f
 fs:∀t∈s.os,Dif s.sa t.f
 ff:s.os.Pairwise (λt u=>Dif t.f u.f)
structure HM(w:World)(B:Nat)(s:HSh)(H:q0a):Prop where
 lo:s.os.length=H.objs.length
 lw:s.wn=H.weaks.length
 lb:s.bn=H.buffer.length
 ls:s.sn=H.sites.length
 o:∀j(h:j<H.objs.length)(h2:j<s.os.length),∃g,s.oa=some ⟨g,0,none⟩/\x0G w g (j*8) H.objs[j] (.slice s.os[j].f s.os[j].n s.os[j].c)/\∀k,k<8->w.frozen? ⟨g,j*8+k,none⟩=false
 f:∀j(h:j<H.objs.length)(h2:j<s.os.length),s.os[j].n=H.objs[j].field.length/\q0i w B (.slice s.os[j].f s.os[j].n s.os[j].c) H.objs[j].field
 og:∀x,s.oa=some x->B<=x.block/\x.block<w.heap.size
 wk:∀j(h:j<H.weaks.length),∃g,s.wa=some ⟨g,0,none⟩/\j0y w g (j*2) H.weaks[j]/\∀k,k<2->w.frozen? ⟨g,j*2+k,none⟩=false
 wg:∀x,s.wa=some x->B<=x.block/\x.block<w.heap.size
 b:q0i w B (.slice s.ba s.bn s.bc) H.buffer
 st:z0E w B (.slice s.sa s.sn s.sc) H.sites
 sep:v5r s
 co:s.os.length<=s.oc
 cw:s.wn<=s.wc
def q0u(s:HSh)(g:Nat):Prop:=(∃x,s.oa=some x/\x.block=g)\/(∃x,s.wa=some x/\x.block=g)\/(∃x,s.ba=some x/\x.block=g)\/(∃x,s.sa=some x/\x.block=g)\/∃t∈s.os,∃x,t.f=some x/\x.block=g
theorem x0b{a:Option Addr}{n c:Nat}{x:Addr}(h:a=some x):(Value.slice a n c).ownBlock=some x.block:=by rw[h];rfl
theorem z0L{a:Option Addr}{n c g:Nat}(h:(Value.slice a n c).ownBlock=some g):∃x,a=some x/\x.block=g:=by
 cases a with
 |none=>simp[Value.ownBlock]at h
 |some x=>exact⟨x,rfl,by simpa[Value.ownBlock]using h⟩
theorem z0X{w:World}{B:Nat}{s:HSh}(h:HM w B s H){g:Nat}(hg:q0u s g):B<=g/\g<w.heap.size:=by
 rcases hg with⟨x,hx,rfl⟩|⟨x,hx,rfl⟩|⟨x,hx,rfl⟩|⟨x,hx,rfl⟩|⟨t,ht,x,hx,rfl⟩
 ·exact h.og x hx
 ·exact h.wg x hx
 ·exact q0n h.b _ (x0b hx)
 ·exact q2K h.st _ (x0b hx)
 ·obtain⟨j,hj,rfl⟩:=List.mem_iff_getElem.1 ht;exact q0n (h.f j (by rw[<-h.lo];exact hj) hj).2 _ (x0b hx)
theorem q0v{w w' :World}{B:Nat}{v:Value}{zs:List Int}(h:q0i w B v zs)(hs:∀g,v.ownBlock=some g->w'.heap[g]? =w.heap[g]?):q0i w' B v zs:=by
 rcases h with⟨h1,h2|⟨g,cap,cur,h2,h3,h4,h5⟩⟩
 ·exact⟨h1,.inl h2⟩
 ·exact⟨h1,.inr ⟨g,cap,cur,h2,h3,by rw[hs g (by rw[h2];rfl)];exact h4,h5⟩⟩
theorem j1a{w w' :World}{B:Nat}{v:Value}{zs:List (List UInt8)}(h:z0E w B v zs)(hs:∀g,v.ownBlock=some g->w'.heap[g]? =w.heap[g]?):z0E w' B v zs:=by
 rcases h with⟨h1,h2|⟨g,cap,cur,h2,h3,h4,h5⟩⟩
 ·exact⟨h1,.inl h2⟩
 ·exact⟨h1,.inr ⟨g,cap,cur,h2,h3,by rw[hs g (by rw[h2];rfl)];exact h4,h5⟩⟩
theorem x1u{w w' :World}{g p:Nat}{o:q0E}{f:Value}(h:x0G w g p o f)(hs:w'.heap[g]? =w.heap[g]?):x0G w' g p o f:=h.keep (λk=>World.cell?_of_block (a:=⟨g,k,none⟩) hs)
theorem y0l{w w' :World}{B:Nat}{s:HSh}(h:HM w B s H)(hsz:w.heap.size<=w'.heap.size)(hs:∀g,q0u s g->w'.heap[g]? =w.heap[g]?):HM w' B s H where
 lo:=h.lo
 lw:=h.lw
 lb:=h.lb
 ls:=h.ls
 o:=λj hj hj2=>by
  obtain⟨g,h1,h2,h3⟩:=h.o j hj hj2;have hg:=hs g (.inl ⟨_,h1,rfl⟩);exact⟨g,h1,x1u h2 hg,λk hk=>(World.frozen?_of_block (a:=⟨g,j*8+k,none⟩) hg).trans (h3 k hk)⟩
 f:=λj hj hj2=>⟨(h.f j hj hj2).1,q0v (h.f j hj hj2).2 (λg hg=>by obtain⟨x,hx,e⟩:=z0L hg;exact hs g (.inr (.inr (.inr (.inr ⟨_,List.getElem_mem hj2,x,hx,e⟩)))))⟩
 og:=λx hx=>⟨(h.og x hx).1,Nat.lt_of_lt_of_le (h.og x hx).2 hsz⟩
 wk:=λj hj=>by
  obtain⟨g,h1,h2,h3⟩:=h.wk j hj;have hg:=hs g (.inr (.inl ⟨_,h1,rfl⟩));exact⟨g,h1,h2.keep (λk=>World.cell?_of_block (a:=⟨g,k,none⟩) hg),λk hk=>(World.frozen?_of_block (a:=⟨g,j*2+k,none⟩) hg).trans (h3 k hk)⟩
 wg:=λx hx=>⟨(h.wg x hx).1,Nat.lt_of_lt_of_le (h.wg x hx).2 hsz⟩
 b:=q0v h.b (λg hg=>by obtain⟨x,hx,e⟩:=z0L hg;exact hs g (.inr (.inr (.inl ⟨x,hx,e⟩))))
 st:=j1a h.st (λg hg=>by obtain⟨x,hx,e⟩:=z0L hg;exact hs g (.inr (.inr (.inr (.inl ⟨x,hx,e⟩)))))
 sep:=h.sep
 co:=h.co
 cw:=h.cw
theorem q0c{w w' :World}{B:Nat}{s:HSh}(h:HM w B s H)(hb:Below w.heap.size w w'):HM w' B s H:=y0l h hb.size (λg hg=>hb.block g (z0X h hg).2)
theorem v0V{w w' :World}{B:Nat}{s:HSh}(h:HM w B s H)(hb:y0j B w w'):HM w' B s H:=y0l h hb.1 (λg hg=>hb.2 g (z0X h hg).1 (z0X h hg).2)
theorem z0G{w:World}{B C:Nat}{s:HSh}(h:HM w B s H)(hC:C<=B):HM w C s H where
 lo:=h.lo
 lw:=h.lw
 lb:=h.lb
 ls:=h.ls
 o:=h.o
 f:=λj hj hj2=>⟨(h.f j hj hj2).1,q0A (h.f j hj hj2).2 hC⟩
 og:=λx hx=>⟨Nat.le_trans hC (h.og x hx).1,(h.og x hx).2⟩
 wk:=h.wk
 wg:=λx hx=>⟨Nat.le_trans hC (h.wg x hx).1,(h.wg x hx).2⟩
 b:=q0A h.b hC
 st:=q1Z h.st hC
 sep:=h.sep
 co:=h.co
 cw:=h.cw
theorem q1t{w:World}{B:Nat}{s:HSh}(h:HM w B s H):RdO w s.oa H.objs/\RdW w s.wa H.weaks/\RdI w s.ba H.buffer/\RdS w s.sa H.sites:=by
 refine⟨λj hj=> ?_,λj hj=> ?_,?_,?_⟩
 ·have hj2:j<s.os.length:=by rw[h.lo];exact hj
  obtain⟨g,h1,h2,_⟩:=h.o j hj hj2;obtain⟨h4,h5⟩:=h.f j hj hj2;obtain⟨a,c,h6,h7⟩:=z0e h5;simp only[Value.slice.injEq]at h6;refine⟨g,0,s.os[j].f,s.os[j].c,h1,(h.og _ h1).2,?_,?_⟩
  ·rw[Nat.zero_add,<-h4];exact h2
  ·rw[h6.1];exact h7
 ·obtain⟨g,h1,h2,_⟩:=h.wk j hj;exact⟨g,0,h1,(h.wg _ h1).2,by rw[Nat.zero_add];exact h2⟩
 ·obtain⟨a,c,h6,h7⟩:=z0e h.b;simp only[Value.slice.injEq]at h6;rw[h6.1];exact h7
 ·obtain⟨a,c,h6,h7⟩:=j0t h.st;simp only[Value.slice.injEq]at h6;rw[h6.1];exact h7.out
theorem q0K{w:World}{B:Nat}{s:HSh}(h:HM w B s H):RdH w s.v H:=by obtain⟨h1,h2,h3,h4⟩:=q1t h;exact⟨_,_,_,_,_,_,_,_,by rw[HSh.v,h.lo,h.lw,h.lb,h.ls],h1,h2,h3,h4⟩
theorem x2v{w:World}{B:Nat}{s:HSh}(h:HM w B s H)(l0:H.objs.length<=16777216)(l1:∀z∈H.objs,z.field.length<=16777216)(l2:H.weaks.length<=16777216)(l3:H.buffer.length<=16777216)(l4:H.sites.length<=16777216):z1d w B s H:=by
 obtain⟨h1,h2,h3,h4⟩:=q1t h;have hp:=h.sep
 refine u2A h.lo.symm h.lw.symm h.lb.symm h.ls.symm h1 h2 h3 h4 ⟨?_,?_,?_,?_,?_,by rw[h.lo];exact l0,?_,by rw[h.lw];exact l2,by rw[h.lb];exact l3,by rw[h.ls];exact l4⟩
  ⟨hp.ow.ap _ _,hp.ob.ap _ _,hp.os.ap _ _,hp.wb.ap _ _,hp.ws.ap _ _,hp.bs.ap _ _,λt ht=>(hp.fo t ht).ap _ _,λt ht=>(hp.fw t ht).ap _ _,λt ht=>(hp.fb t ht).ap _ _,λt ht=>(hp.fs t ht).ap _ _,hp.ff.imp (λhd=>hd.ap _ _)⟩
  ⟨λ_ x hx=>(h.og x hx).1,λ_ x hx=>(h.wg x hx).1,λ_ x hx=>(q0n h.b _ (x0b hx)).1,λ_ x hx=>(q2K h.st _ (x0b hx)).1,λt ht _ x hx=>(z0X h (.inr (.inr (.inr (.inr ⟨t,ht,x,hx,rfl⟩))))).1⟩
 ·intro j hj;have hj2:j<H.objs.length:=by rw[<-h.lo];exact hj
  obtain⟨g,e1,e2,e3⟩:=h.o j hj2 hj;obtain⟨e4,e5⟩:=h.f j hj2 hj;obtain⟨a,c,e6,e7,_⟩:=j0B e5;simp only[Value.slice.injEq]at e6;refine⟨g,0,e1,(h.og _ e1).2,λk hk=> ?_,?_,?_,λx hx _ e=> ?_⟩
  ·rw[Nat.zero_add];exact⟨q0H e2 k hk,e3 k hk⟩
  ·rw[Nat.zero_add];exact e2.c6
  ·rw[e6.1,e6.2.1];exact e7
  ·exact hp.fo _ (List.getElem_mem hj) _ x e1 hx e.symm
 ·intro x t hx ht _ y hy e;exact hp.fo t ht x y hx hy e.symm
 ·intro j hj;obtain⟨g,e1,e2,e3⟩:=h.wk j (by rw[<-h.lw];exact hj);exact⟨g,0,e1,(h.wg _ e1).2,⟨_,by rw[Nat.zero_add];exact e2.c0⟩,by rw[Nat.zero_add];exact e3 0 (by omega),⟨_,by rw[Nat.zero_add];exact e2.c1⟩,by rw[Nat.zero_add];exact e3 1 (by omega)⟩
 ·obtain⟨a,c,e6,e7,_⟩:=j0B h.b;simp only[Value.slice.injEq]at e6;rw[e6.1,e6.2.1];exact e7
 ·obtain⟨a,c,e6,e7,_⟩:=v3z h.st;simp only[Value.slice.injEq]at e6;rw[e6.1,e6.2.1];exact e7
 ·intro t ht;obtain⟨j,hj,rfl⟩:=List.mem_iff_getElem.1 ht;have hj2:j<H.objs.length:=by rw[<-h.lo];exact hj
  rw[(h.f j hj2 hj).1];exact l1 _ (List.getElem_mem hj2)
theorem u3k{w w' :World}{B:Nat}{s:HSh}(h:HM w B s H)(k:Nat)(hk:k<H.objs.length)(g:Nat)(hg:s.oa=some ⟨g,0,none⟩)(o' :q0E)(t' :OSh)(hsz:w.heap.size<=w'.heap.size)(hblk:∀i,i≠g->i<w.heap.size->w'.heap[i]? =w.heap[i]?)(hobj:x0G w' g (k*8) o' (.slice t'.f t'.n t'.c))(hoth:∀q,q<k*8\/k*8+8<=q->w'.cell? ⟨g,q,none⟩=w.cell? ⟨g,q,none⟩)(hfr:∀q,w'.frozen? ⟨g,q,none⟩=w.frozen? ⟨g,q,none⟩)(hn:t'.n=o'.field.length)(hown:q0i w' B (.slice t'.f t'.n t'.c) o'.field)(d0:Dif s.oa t'.f)(d1:Dif s.wa t'.f)(d2:Dif s.ba t'.f)(d3:Dif s.sa t'.f)(d4:∀j(h:j<s.os.length),j≠k->Dif s.os[j].f t'.f):
 HM w' B {s with os:=s.os.set k t' } {H with objs:=H.objs.set k o' }:=by
 have hp:=h.sep
 have hmem:∀t∈s.os.set k t',t=t' \/∃j,∃hj:j<s.os.length,j≠k/\t=s.os[j]:=by
  intro t ht;obtain⟨j,hj,rfl⟩:=List.mem_iff_getElem.1 ht;rw[List.getElem_set];split
  ·exact .inl rfl
  ·rename_i e;exact .inr ⟨j,by simpa using hj,λe2=>e e2.symm,rfl⟩
 have hin:∀{P:OSh->Prop},(∀t∈s.os,P t)->P t' ->∀t∈s.os.set k t',P t:=by
  intro P h1 h2 t ht;rcases hmem t ht with rfl|⟨j,hj,_,rfl⟩
  ·exact h2
  ·exact h1 _ (List.getElem_mem hj)
 have hne:∀x,q0u s x->(x≠g)->w'.heap[x]? =w.heap[x]?:=λx hx hxg=>hblk x hxg (z0X h hx).2
 exact{
  lo:=by simp[h.lo]
  lw:=h.lw
  lb:=h.lb
  ls:=h.ls
  o:=λj hj hj2=>by
   simp only[List.length_set]at hj hj2;refine⟨g,hg,?_,?_⟩
   ·by_cases e:k=j
    ·subst e;simp only[List.getElem_set_self];exact hobj
    ·simp only[List.getElem_set_ne e];obtain⟨g2,h1,h2,_⟩:=h.o j hj hj2;rw[hg]at h1;injection h1 with h1;injection h1 with h1 _ _;subst h1;refine⟨?_,?_,?_,?_,?_,?_,?_,?_⟩
     ·rw[hoth _ (by omega)];exact h2.c0
     ·rw[hoth _ (by omega)];exact h2.c1
     ·rw[hoth _ (by omega)];exact h2.c2
     ·rw[hoth _ (by omega)];exact h2.c3
     ·rw[hoth _ (by omega)];exact h2.c4
     ·rw[hoth _ (by omega)];exact h2.c5
     ·rw[hoth _ (by omega)];exact h2.c6
     ·rw[hoth _ (by omega)];exact h2.c7
   ·intro q hq;obtain⟨g2,h1,_,h3⟩:=h.o j hj hj2;rw[hg]at h1;injection h1 with h1;injection h1 with h1 _ _;subst h1;rw[hfr];exact h3 q hq
  f:=λj hj hj2=>by
   simp only[List.length_set]at hj hj2;by_cases e:k=j
   ·subst e;simp only[List.getElem_set_self];exact⟨hn,hown⟩
   ·simp only[List.getElem_set_ne e];refine⟨(h.f j hj hj2).1,q0v (h.f j hj hj2).2 (λx hx=> ?_)⟩;obtain⟨y,hy,e2⟩:=z0L hx;refine hne x (.inr (.inr (.inr (.inr ⟨_,List.getElem_mem hj2,y,hy,e2⟩)))) (λe3=> ?_);exact hp.fo _ (List.getElem_mem hj2) _ y hg hy (by simp only;rw[e2,e3])
  og:=λx hx=>⟨(h.og x hx).1,Nat.lt_of_lt_of_le (h.og x hx).2 hsz⟩
  wk:=λj hj=>by
   obtain⟨g2,h1,h2,h3⟩:=h.wk j hj;have hb:=hne g2 (.inr (.inl ⟨_,h1,rfl⟩)) (λe=>hp.ow _ _ hg h1 e.symm);exact⟨g2,h1,h2.keep (λq=>World.cell?_of_block (a:=⟨g2,q,none⟩) hb),λq hq=>(World.frozen?_of_block (a:=⟨g2,j*2+q,none⟩) hb).trans (h3 q hq)⟩
  wg:=λx hx=>⟨(h.wg x hx).1,Nat.lt_of_lt_of_le (h.wg x hx).2 hsz⟩
  b:=q0v h.b (λx hx=>by obtain⟨y,hy,e2⟩:=z0L hx;exact hne x (.inr (.inr (.inl ⟨y,hy,e2⟩))) (λe3=>hp.ob _ y hg hy (by simp only;rw[e2,e3])))
  st:=j1a h.st (λx hx=>by obtain⟨y,hy,e2⟩:=z0L hx;exact hne x (.inr (.inr (.inr (.inl ⟨y,hy,e2⟩)))) (λe3=>hp.os _ y hg hy (by simp only;rw[e2,e3])))
  sep:=⟨hp.ow,hp.ob,hp.os,hp.wb,hp.ws,hp.bs,hin hp.fo d0,hin hp.fw d1,hin hp.fb d2,hin hp.fs d3,by
   rw[List.pairwise_iff_getElem];intro i j hi hj hij;simp only[List.length_set]at hi hj;rw[List.getElem_set,List.getElem_set];split
   ·rename_i e;subst e
    rw[if_neg (by omega)];exact(d4 j hj (by omega)).symm
   ·rename_i e
    split
    ·exact d4 i hi (λe2=>e e2.symm)
    ·exact(List.pairwise_iff_getElem.1 hp.ff) i j hi hj hij⟩
  co:=by simp only[List.length_set];exact h.co
  cw:=h.cw}
theorem z0o{w:World}{B:Nat}{s:HSh}(h:HM w B s H)(k:Nat)(hk:k<H.objs.length)(g:Nat)(hg:s.oa=some ⟨g,0,none⟩):∃hk2:k<s.os.length,x0G w g (k*8) H.objs[k] (.slice s.os[k].f s.os[k].n s.os[k].c)/\∀q,q<8->w.frozen? ⟨g,k*8+q,none⟩=false:=by
 have hk2:k<s.os.length:=by rw[h.lo];exact hk
 obtain⟨g2,h1,h2,h3⟩:=h.o k hk hk2;rw[hg]at h1;injection h1 with h1;injection h1 with h1 _ _;subst h1;exact⟨hk2,h2,h3⟩
theorem v0E{w:World}{B:Nat}{s:HSh}(h:HM w B s H)(k:Nat)(hk:k<H.objs.length):∃g,s.oa=some ⟨g,0,none⟩/\B<=g/\g<w.heap.size:=by obtain⟨g,h1,_⟩:=h.o k hk (by rw[h.lo];exact hk);exact⟨g,h1,h.og _ h1⟩
theorem j1I{w:World}{B:Nat}{s:HSh}(h:HM w B s H)(k:Nat)(hk:k<H.objs.length)(g:Nat)(hg:s.oa=some ⟨g,0,none⟩)(i:Nat)(u:Value)(hi:i<8)(o' :q0E)(hf:o'.field=H.objs[k].field)(ho:∀f,x0G w g (k*8) H.objs[k] f->x0G (w.setCell ⟨g,k*8+i,none⟩ u) g (k*8) o' f):HM (w.setCell ⟨g,k*8+i,none⟩ u) B s {H with objs:=H.objs.set k o' }:=by
 obtain⟨hk2,h1,h2⟩:=z0o h k hk g hg;have hp:=h.sep;have hm:=List.getElem_mem hk2;have hfk:=h.f k hk hk2
 have key:=u3k (w' :=w.setCell ⟨g,k*8+i,none⟩ u) h k hk g hg o' s.os[k] (by simp[World.setCell]) (λj hj _=>heap_setCell_other w _ j u (by simpa using hj)) (ho _ h1)
  (λq hq=>q0q w g _ _ u (by omega)) (λq=>World.frozen?_setCell _ _ _ _) (by rw[hf];exact hfk.1)
  (by rw[hf];exact q0v hfk.2 (λx hx=>heap_setCell_other w _ x u (by obtain⟨y,hy,e⟩:=z0L hx;simp only;intro e2;exact hp.fo _ hm _ y hg hy (by simp only;rw[e,e2]))))
  (hp.fo _ hm) (hp.fw _ hm) (hp.fb _ hm) (hp.fs _ hm)
  (λj hj hne=>by
    rcases Nat.lt_or_gt_of_ne hne with hl|hl
    ·exact(List.pairwise_iff_getElem.1 hp.ff) j k hj hk2 hl
    ·exact((List.pairwise_iff_getElem.1 hp.ff) k j hk2 hj hl).symm)
 rw[List.set_getElem_self]at key;exact key
theorem z1h{w:World}{B:Nat}{s:HSh}(h:HM w B s H)(k:Nat)(hk:k<H.objs.length)(g:Nat)(hg:s.oa=some ⟨g,0,none⟩)(z:Int):HM (w.setCell ⟨g,k*8+5,none⟩ (.int .i64 z)) B s {H with objs:=H.objs.set k {H.objs[k]with count:=z}}:=
 j1I h k hk g hg 5 (.int .i64 z) (by omega) _ rfl (λf ho=>
  ⟨by rw[q0q _ _ _ _ _ (by omega)];exact ho.c0,by rw[q0q _ _ _ _ _ (by omega)];exact ho.c1,by rw[q0q _ _ _ _ _ (by omega)];exact ho.c2,by rw[q0q _ _ _ _ _ (by omega)];exact ho.c3,by rw[q0q _ _ _ _ _ (by omega)];exact ho.c4,
   World.cell?_setCell_same w _ _ ho.c5,by rw[q0q _ _ _ _ _ (by omega)];exact ho.c6,by rw[q0q _ _ _ _ _ (by omega)];exact ho.c7⟩)
theorem y1U{w:World}{B:Nat}{s:HSh}(h:HM w B s H)(k:Nat)(hk:k<H.objs.length)(g:Nat)(hg:s.oa=some ⟨g,0,none⟩)(b:Bool):HM (w.setCell ⟨g,k*8+7,none⟩ (.bool b)) B s {H with objs:=H.objs.set k {H.objs[k]with purple:=b}}:=
 j1I h k hk g hg 7 (.bool b) (by omega) _ rfl (λf ho=>
  ⟨by rw[q0q _ _ _ _ _ (by omega)];exact ho.c0,by rw[q0q _ _ _ _ _ (by omega)];exact ho.c1,by rw[q0q _ _ _ _ _ (by omega)];exact ho.c2,by rw[q0q _ _ _ _ _ (by omega)];exact ho.c3,by rw[q0q _ _ _ _ _ (by omega)];exact ho.c4,
   by rw[q0q _ _ _ _ _ (by omega)];exact ho.c5,by rw[q0q _ _ _ _ _ (by omega)];exact ho.c6,World.cell?_setCell_same w _ _ ho.c7⟩)
def q2U(s:HSh)(g:Nat):Prop:=(∃x,s.oa=some x/\x.block=g)\/(∃x,s.wa=some x/\x.block=g)\/(∃x,s.sa=some x/\x.block=g)\/∃t∈s.os,∃x,t.f=some x/\x.block=g
theorem q2U.has{s:HSh}{g:Nat}(h:q2U s g):q0u s g:=by
 rcases h with h|h|h|h
 ·exact .inl h
 ·exact .inr (.inl h)
 ·exact .inr (.inr (.inr (.inl h)))
 ·exact .inr (.inr (.inr (.inr h)))
theorem u3i{w:World}{B:Nat}{s:HSh}(h:HM w B s H){g:Nat}(hg:q2U s g)(x:Addr)(hx:s.ba=some x):x.block≠g:=by
 have hp:=h.sep;rcases hg with⟨y,hy,rfl⟩|⟨y,hy,rfl⟩|⟨y,hy,rfl⟩|⟨t,ht,y,hy,rfl⟩
 ·exact hp.ob.symm x y hx hy
 ·exact hp.wb.symm x y hx hy
 ·exact hp.bs x y hx hy
 ·exact hp.fb t ht x y hx hy
theorem x5b{w w' :World}{B:Nat}{s:HSh}(h:HM w B s H)(hsz:w.heap.size<=w'.heap.size)(hs:∀g,q2U s g->w'.heap[g]? =w.heap[g]?)(ba:Option Addr)(bn bc:Nat)(Z:List Int)(hn:bn=Z.length)(hb:q0i w' B (.slice ba bn bc) Z)(hd:∀x,ba=some x->¬q2U s x.block):
 HM w' B {s with ba:=ba,bn:=bn,bc:=bc} {H with buffer:=Z} where
 lo:=h.lo
 lw:=h.lw
 lb:=hn
 ls:=h.ls
 o:=λj hj hj2=>by
  obtain⟨g,h1,h2,h3⟩:=h.o j hj hj2;have hg:=hs g (.inl ⟨_,h1,rfl⟩);exact⟨g,h1,x1u h2 hg,λk hk=>(World.frozen?_of_block (a:=⟨g,j*8+k,none⟩) hg).trans (h3 k hk)⟩
 f:=λj hj hj2=>⟨(h.f j hj hj2).1,q0v (h.f j hj hj2).2 (λg hg=>by obtain⟨x,hx,e⟩:=z0L hg;exact hs g (.inr (.inr (.inr ⟨_,List.getElem_mem hj2,x,hx,e⟩))))⟩
 og:=λx hx=>⟨(h.og x hx).1,Nat.lt_of_lt_of_le (h.og x hx).2 hsz⟩
 wk:=λj hj=>by
  obtain⟨g,h1,h2,h3⟩:=h.wk j hj;have hg:=hs g (.inr (.inl ⟨_,h1,rfl⟩));exact⟨g,h1,h2.keep (λk=>World.cell?_of_block (a:=⟨g,k,none⟩) hg),λk hk=>(World.frozen?_of_block (a:=⟨g,j*2+k,none⟩) hg).trans (h3 k hk)⟩
 wg:=λx hx=>⟨(h.wg x hx).1,Nat.lt_of_lt_of_le (h.wg x hx).2 hsz⟩
 b:=hb
 st:=j1a h.st (λg hg=>by obtain⟨x,hx,e⟩:=z0L hg;exact hs g (.inr (.inr (.inl ⟨x,hx,e⟩))))
 sep:=⟨h.sep.ow,λx y hx hy e=>hd y hy (.inl ⟨x,hx,e⟩),h.sep.os,λx y hx hy e=>hd y hy (.inr (.inl ⟨x,hx,e⟩)),h.sep.ws,λx y hx hy e=>hd x hx (.inr (.inr (.inl ⟨y,hy,e.symm⟩))),h.sep.fo,h.sep.fw,λt ht x y hx hy e=>hd x hx (.inr (.inr (.inr ⟨t,ht,y,hy,e.symm⟩))),h.sep.fs,h.sep.ff⟩
 co:=h.co
 cw:=h.cw
open Go.RowKit
theorem j1q(w:World)(v u:Value)(H:q0a)(h1:RdH w v H)(h2:RdH w u H)(m0:H.objs.length<=16777216)(m1:∀z∈H.objs,z.field.length<=16777216)(m2:H.weaks.length<=16777216)(m3:H.buffer.length<=16777216)(m4:H.sites.length<=16777216):
 Calls Tryz.prog 11 #[v,u] w λe w' =>e= .returned (.bool true)/\Below w.heap.size w w' :=by
 obtain⟨ao,co,aw,cw,ab,cb,sa,sc,rfl,ro,rwk,ri,rs⟩:=h1;obtain⟨ao2,co2,aw2,cw2,ab2,cb2,sa2,sc2,rfl,ro2,rwk2,ri2,rs2⟩:=h2;obtain⟨W,hW⟩:∃W,W=(w.alloc (.cells #[.slice ao H.objs.length co,.slice aw H.weaks.length cw,.slice ab H.buffer.length cb,.slice sa H.sites.length sc] 35)).alloc (.cells #[.slice ao2 H.objs.length co2,.slice aw2 H.weaks.length cw2,.slice ab2 H.buffer.length cb2,.slice sa2 H.sites.length sc2] 35):=⟨_,rfl⟩
 have BW:Below w.heap.size w W:=by rw[hW];exact(bl1 _).alloc (by simp) _
 have hWs:W.heap.size=w.heap.size+1+1:=by rw[hW];simp
 have HP:Hid (∀X,Below W.heap.size W X->∀k,X.cell? ⟨w.heap.size,k,none⟩=(#[Value.slice ao H.objs.length co,.slice aw H.weaks.length cw,.slice ab H.buffer.length cb,.slice sa H.sites.length sc]:Array Value)[k]?):=by intro X hX k;rw[hX.cell (p:=⟨w.heap.size,k,none⟩) (by show w.heap.size<_;omega),hW,World.cell?_alloc_lt _ _ _ (by simp),World.cell?_alloc_mark]
 have HP2:Hid (∀X,Below W.heap.size W X->∀k,X.cell? ⟨w.heap.size+1,k,none⟩=(#[Value.slice ao2 H.objs.length co2,.slice aw2 H.weaks.length cw2,.slice ab2 H.buffer.length cb2,.slice sa2 H.sites.length sc2]:Array Value)[k]?):=by intro X hX k;rw[hX.cell (p:=⟨w.heap.size+1,k,none⟩) (by show w.heap.size+1<_;omega),hW,show w.heap.size+1=(w.alloc (.cells #[.slice ao H.objs.length co,.slice aw H.weaks.length cw,.slice ab H.buffer.length cb,.slice sa H.sites.length sc] 35)).heap.size from by simp,World.cell?_alloc_mark]
 have CO:Hid (∀X,Below w.heap.size w X->_):=λX hX=>x2q X ao ao2 co co2 H.objs (q0V ro hX) (q0V ro2 hX) m0 m1;have CW:Hid (∀X,Below w.heap.size w X->_):=λX hX=>j1g X aw aw2 cw cw2 H.weaks (z0R rwk hX) (z0R rwk2 hX) m2;have CI:Hid (∀X,Below w.heap.size w X->_):=λX hX=>j0Q X ab ab2 cb cb2 H.buffer (q0t ri hX) (q0t ri2 hX) m3;have CS:Hid (∀X,Below w.heap.size w X->_):=λX hX=>z1O X sa sa2 sc sc2 H.sites (z0l rs hX) (z0l rs2 hX) m4;clear ro rwk ri rs ro2 rwk2 ri2 rs2;go_enter Tryz.func11,Tryz.ntmps11;go_wp2_with fail
 rw[<-hW];have B0:=BW;have T0:Below W.heap.size W W:=bl0;refine(CO.out _ B0).mono ?_;rintro e w1 ⟨rfl,b1⟩;have B1:=B0.trans (b1.mono B0.size);have T1:=T0.trans (b1.mono T0.size);have k1:=HP.out _ T1 1;have l1:=HP2.out _ T1 1;simp at k1 l1;clear hW hWs;go_wp2_with fail
 refine(CW.out _ B1).mono ?_;rintro e w2 ⟨rfl,b2⟩;have B2:=B1.trans (b2.mono B1.size);have T2:=T1.trans (b2.mono T1.size);have k2:=HP.out _ T2 2;have l2:=HP2.out _ T2 2;simp at k2 l2;clear k1 l1;go_wp2_with fail
 refine(CI.out _ B2).mono ?_;rintro e w3 ⟨rfl,b3⟩;have B3:=B2.trans (b3.mono B2.size);have T3:=T2.trans (b3.mono T2.size);have k3:=HP.out _ T3 3;have l3:=HP2.out _ T3 3;simp at k3 l3;clear k2 l2;go_wp2_with fail
 refine(CS.out _ B3).mono ?_;rintro e w4 ⟨rfl,b4⟩;have B4:=B3.trans (b4.mono B3.size);have T4:=T3.trans (b4.mono T3.size);clear k3 l3;go_wp2;go_ret
 exact⟨rfl,B4⟩
end
section
open Go.RowKit
variable{a:Act}{Q:Exit → Act → World → Prop}
structure q0b(w:World)where
 on:World
 bel:Below w.heap.size w on
theorem q0b.some_(w:World):Nonempty (q0b w):=⟨⟨w,bl0⟩⟩
theorem q0b.step{w:World}(n:q0b w){X:World}(h:Below n.on.heap.size n.on X):∃m:q0b w,X=m.on:=⟨⟨X,n.bel.trans (h.mono n.bel.size)⟩,rfl⟩
theorem q0j{P:Program}{id:Nat}{w:World}{l:List Oper}(w0:World)(hw:Below w0.heap.size w0 w)(hm:P.follows .mixedOrders=true)(hB:Region.lexB .any l.toArray=true)(h:wpQuiet P l.toArray (λX=>∃n:q0b w0,X=n.on) (λa' =>∀w',(∃n:q0b w0,w' =n.on)->Q .normal a' w') l a):(Code.region id l.toArray true).wp P Q a w:=
 wp_region_quiet (C:=λX=>∃n:q0b w0,X=n.on) hm hB ⟨⟨_,hw.drew⟩,rfl⟩ (by simpa using h)
open Go.RowKit
variable{a:Act}{ops:Array Oper}{Q:Exit → Act → World → Prop}
theorem z2z{md:Region.Mode}{l:Array Bool}(h:l.toList.countP (λb=> !b)=0):Region.ready md ops l=[]:=by
 unfold Region.ready;rw[List.filter_eq_nil_iff];intro i _ hc;simp only[Bool.and_eq_true,Bool.not_eq_true']at hc
 have hi:i<l.size:=by
  rcases Nat.lt_or_ge i l.size with h1|h1
  ·exact h1
  ·simp[h1]at hc
 have h1:l[i]=false:=by have:=hc.1;simpa[hi]using this
 have:=(List.countP_eq_zero.1 h) (l[i]) (by simp);rw[h1]at this;simp at this
theorem v1y{P:Program}{md:Region.Mode}(I:Array Bool->Act->World->Prop)(hd:∀l a w,I l a w->Region.ready md ops l=[]->Q .normal a w)(hs:∀l a w i,I l a w->i∈Region.ready md ops l->wpOp P ops Q i (λa' w' =>I (l.setIfInBounds i true) a' w') a w):
 ∀(fuel:Nat)(l:Array Bool)(a:Act)(w:World),l.toList.countP (λb=> !b)<=fuel->I l a w->wpAny P md ops Q fuel l a w:=by
 intro fuel
 induction fuel with
 |zero=>intro l a w hl hI;have hr:=z2z (md:=md) (ops:=ops) (l:=l) (by omega);exact⟨hr,hd l a w hI hr⟩
 |succ fuel ih=>
  intro l a w hl hI;refine⟨hd l a w hI,λi hi=>wpOp_mono (λa' w' h=>ih _ a' w' ?_ h) (hs l a w i hI hi)⟩;have h0:=(mem_ready.1 hi).1
  have hi2:i<l.size:=by
   rcases Nat.lt_or_ge i l.size with h1|h1
   ·exact h1
   ·simp[h1]at h0
  have h1:l.toList[i]'(by simpa using hi2)=false:=by simpa[hi2]using h0
  have h2:(l.setIfInBounds i true).toList=l.toList.set i true:=by simp
  rw[h2];have h3:=List.countP_set (p:=λb=> !b) (l:=l.toList) (i:=i) (a:=true) (by simpa using hi2);have h4:0<l.toList.countP (λb=> !b):=List.countP_pos_iff.2 ⟨false,by rw[<-h1];exact List.getElem_mem _,rfl⟩;rw[h3,h1];simp only[Bool.not_false,Bool.not_true,if_true,Bool.false_eq_true,if_false];omega
def z0a(ops:Array Oper)(i:Nat):Option Tmp:=(ops[i]?).bind (·.dst)
structure x0U(ops:Array Oper)(a0 a:Act):Prop where
 defers:a.defers=a0.defers
 size:a.tmps.size=a0.tmps.size
 same:∀t,(∀i,z0a ops i≠some t)->a.eval (.tmp t)=a0.eval (.tmp t)
theorem x0U.refl(ops:Array Oper)(a:Act):x0U ops a a:=⟨rfl,rfl,λ_ _=>rfl⟩
theorem x0U.put{a0:Act}(h:x0U ops a0 a)(i:Nat)(v:Value):x0U ops a0 (a.put (z0a ops i) v):=by
 cases hd:z0a ops i with
 |none=>exact h
 |some d=>refine⟨h.defers,by simp[Act.put,h.size],λt ht=> ?_⟩;rw[<-h.same t ht];have hne:d≠t:=λe=>ht i (by rw[hd,e]);simp[Act.put,Act.eval,Array.getD_eq_getD_getElem?,Array.getElem?_setIfInBounds_ne hne]
theorem u0F{d t:Tmp}{v:Value}:(a.put (some d) v).eval (.tmp t)=if d=t/\d<a.tmps.size then v else a.eval (.tmp t):=by
 by_cases e:d=t
 ·subst e;by_cases hl:d<a.tmps.size
  ·simp[Act.put,Act.eval,Array.getD_eq_getD_getElem?,hl]
  ·simp[Act.put,Act.eval,Array.getD_eq_getD_getElem?,hl]
 ·simp[Act.put,Act.eval,Array.getD_eq_getD_getElem?,Array.getElem?_setIfInBounds_ne e,e]
def v1J(ops:Array Oper)(n sz:Nat):Bool:=
 ops.size==n+1&&((List.range (n+1)).all λi=>((ops[i]?).map λo=>o.guard.isNone&&o.after.all λe=> !Region.binds .any e||decide (e.on<i)).getD false)&&
 ((List.range n).all λj=>(List.range (n+1)).any λi=>decide (j<i)&&((ops[i]?).map λo=>o.after.any λe=>Region.binds .any e&&e.on==j).getD false)&&
 ((List.range (n+1)).all λi=>(List.range (n+1)).all λj=>i==j||(match z0a ops i,z0a ops j with|some d,some e=>d !=e|_,_=>true))&&
 ((List.range (n+1)).all λi=>match z0a ops i with|some d=>decide (d<sz)|none=>true)
theorem v1q{l:Array Bool}{n:Nat}(hord:∀i o,ops[i]? =some o->∀e∈o.after,Region.binds .any e=true->e.on<i)(hl:l.size=n)(hn:ops.size=n)(hr:Region.ready .any ops l=[]):∀i,i<n->l.getD i false=true:=by
 intro i
 induction i using Nat.strongRecOn with
 |_ i ih=>
  intro hi;rcases hb:l.getD i false with _|_
  ·exfalso;obtain⟨o,ho⟩:∃o,ops[i]? =some o:=⟨ops[i]'(by omega),Array.getElem?_eq_getElem (by omega)⟩
   have hm:i∈Region.ready .any ops l:=by
    refine mem_ready.2 ⟨?_,o,ho,λe he hbn=> ?_⟩
    ·have h1:i<l.size:=by omega
     simp only[Array.getD_eq_getD_getElem?,Array.getElem?_eq_getElem h1,Option.getD_some]at hb ⊢;exact hb
    ·have:=hord i o ho e he hbn;exact ih e.on this (by omega)
   rw[hr]at hm
   cases hm
  ·rfl
theorem q0R{P:Program}{id:Nat}{a0:Act}{w0:World}(n:Nat)(hm:P.follows .mixedOrders=true)(hg:v1J ops n a0.tmps.size=true)(R:Nat->World->Value->Prop)(hmono:∀i X Y v,R i X v->Below X.heap.size X Y->R i Y v)(hstep:∀i o,i<n->ops[i]? =some o->∀(a:Act)(X:World),Below w0.heap.size w0 X->x0U ops a0 a->(∀e∈o.after,Region.binds .any e=true->∀t,z0a ops e.on=some t->R e.on X (a.eval (.tmp t)))->
 o.wp P a X (λa' X' =>∃v,a' =a.put o.dst v/\Below X.heap.size X X' /\R i X' v) Q) (hlast:∀o,ops[n]? =some o->∀(a:Act)(X:World),Below w0.heap.size w0 X->x0U ops a0 a->(∀e∈o.after,Region.binds .any e=true->∀t,z0a ops e.on=some t->R e.on X (a.eval (.tmp t)))->
 o.wp P a X (λa' X' =>Q .normal a' X') Q):(Code.region id ops true).wp P Q a0 w0:=by
 unfold v1J at hg;simp only[Bool.and_eq_true,beq_iff_eq,List.all_eq_true,List.any_eq_true,List.mem_range,decide_eq_true_eq]at hg;obtain⟨⟨⟨⟨hsz,hord⟩,huse⟩,hdis⟩,hin⟩:=hg
 have hord2:∀i o,ops[i]? =some o->o.guard=none/\∀e∈o.after,Region.binds .any e=true->e.on<i:=by
  intro i o ho;have hi:i<n+1:=by have:=(Array.getElem?_eq_some_iff.1 ho).1;omega
  have h:=hord i hi;rw[ho]at h;simp only[Option.map_some,Option.getD_some,Bool.and_eq_true,Option.isNone_iff_eq_none,Array.all_eq_true']at h;refine⟨h.1,λe he hb=> ?_⟩;have:=h.2 e he;rw[hb]at this;simpa using this
 have huse2:∀j,j<n->∃i o e,j<i/\ops[i]? =some o/\e∈o.after/\Region.binds .any e=true/\e.on=j:=by
  intro j hj;obtain⟨i,hi,hji,h⟩:=huse j hj
  cases ho:ops[i]?with
  |none=>rw[ho]at h;simp at h
  |some o=>rw[ho]at h;simp only[Option.map_some,Option.getD_some,Array.any_eq_true']at h;obtain⟨e,he,hb⟩:=h;simp only[Bool.and_eq_true,beq_iff_eq]at hb;exact⟨i,o,e,hji,ho,he,hb.1,hb.2⟩
 have hdis2:∀i j d,i<n+1->j<n+1->z0a ops i=some d->z0a ops j=some d->i=j:=by intro i j d hi hj h1 h2;have h:=hdis i hi j hj;rw[h1,h2]at h;simpa using h
 have hin2:∀i d,i<n+1->z0a ops i=some d->d<a0.tmps.size:=by intro i d hi h1;have h:=hin i hi;rw[h1]at h;simpa using h
 have inR:∀{l:Array Bool}{i:Nat},i∈Region.ready .any ops l->l.getD i true=false/\∃o,ops[i]? =some o/\∀e∈o.after,Region.binds .any e=true->l.getD e.on false=true:=λh=>mem_ready.1 h;refine wp_region_any hm ?_
 refine v1y (λl a w=>l.size=n+1/\(∀i o,ops[i]? =some o->l.getD i false=true->∀e∈o.after,Region.binds .any e=true->l.getD e.on false=true)/\
  ((l.getD n false=false/\x0U ops a0 a/\Below w0.heap.size w0 w/\∀i,i<n->l.getD i false=true->∀t,z0a ops i=some t->R i w (a.eval (.tmp t)))\/((∀i,i<n+1->l.getD i false=true)/\Q .normal a w))) ?_ ?_ _ _ _ _ ?_ ?_
 ·rintro l a w ⟨h1,h2,h3⟩ hr;have hall:=v1q (λi o ho=>(hord2 i o ho).2) h1 hsz hr;rcases h3 with⟨h3,_⟩|⟨_,h3⟩
  ·rw[hall n (by omega)]at h3;cases h3
  ·exact h3
 ·rintro l a w i ⟨h1,h2,h3⟩ hi;obtain⟨hu,o,ho,hdep⟩:=inR hi;have hil:i<n+1:=by have:=(Array.getElem?_eq_some_iff.1 ho).1;omega
  have hil2:i<l.size:=by omega
  have hset:∀j,(l.setIfInBounds i true).getD j false=if i=j then true else l.getD j false:=by
   intro j;by_cases e:i=j
   ·subst e;simp[Array.getD_eq_getD_getElem?,hil2]
   ·simp[Array.getD_eq_getD_getElem?,Array.getElem?_setIfInBounds_ne e,e]
  have hcl:∀k o,ops[k]? =some o->(l.setIfInBounds i true).getD k false=true->∀e∈o.after,Region.binds .any e=true->(l.setIfInBounds i true).getD e.on false=true:=by
   intro k o2 hk hkl e he hb;rw[hset];split
   ·rfl
   ·rw[hset]at hkl;split at hkl
    ·rename_i hik
     subst hik;rw[ho]at hk;injection hk with hk;subst hk;exact hdep e he hb
    ·exact h2 k o2 hk hkl e he hb
  have hui:l.getD i false=false:=by simp only[Array.getD_eq_getD_getElem?,Array.getElem?_eq_getElem hil2,Option.getD_some]at hu ⊢;exact hu
  rcases h3 with⟨h3,h4,h5,h6⟩|⟨h3,_⟩
  rotate_left
  ·rw[h3 i hil]at hui;cases hui
  have hdst:z0a ops i=o.dst:=by unfold z0a;rw[ho];rfl
  have hdeps:∀e∈o.after,Region.binds .any e=true->∀t,z0a ops e.on=some t->R e.on w (a.eval (.tmp t)):=by intro e he hb t ht;have h7:=(hord2 i o ho).2 e he hb;exact h6 e.on (by omega) (hdep e he hb) t ht
  unfold wpOp;rw[ho];simp only[Region.wanted,(hord2 i o ho).1,if_true];by_cases hin3:i<n
  ·refine .inl (Oper.wp_mono (λa' w' h=> ?_) (hstep i o hin3 ho a w h5 h4 hdeps));obtain⟨v,rfl,hb,hR⟩:=h;refine⟨by simpa using h1,hcl,.inl ⟨?_,by rw[<-hdst];exact h4.put i v,h5.trans (hb.mono h5.size),?_⟩⟩
   ·rw[hset,if_neg (by omega)];exact h3
   ·intro j hj hjl t ht;rw[<-hdst];by_cases e:i=j
    ·subst e;rw[ht,u0F,if_pos ⟨rfl,by rw[h4.size];exact hin2 i t (by omega) ht⟩];exact hR
    ·rw[hset,if_neg e]at hjl;have hne:∀d,z0a ops i=some d->d≠t:=λd hd e2=>e (hdis2 i j d (by omega) (by omega) hd (by rw[e2];exact ht))
     have hev:(a.put (z0a ops i) v).eval (.tmp t)=a.eval (.tmp t):=by
      cases hd:z0a ops i with
      |none=>rfl
      |some d=>rw[u0F,if_neg (λh=>hne d hd h.1)]
     rw[hev];exact hmono j w w' _ (h6 j hj hjl t ht) hb
  ·obtain rfl:i=n:=by omega
   refine .inl (Oper.wp_mono (λa' w' h=> ?_) (hlast o ho a w h5 h4 hdeps));refine⟨by simpa using h1,hcl,.inr ⟨?_,h⟩⟩
   have key:∀m j,j+m=i->(l.setIfInBounds i true).getD j false=true:=by
    intro m
    induction m using Nat.strongRecOn with
    |_ m ih=>
     intro j hj;by_cases e:m=0
     ·rw[hset,if_pos (by omega)]
     ·obtain⟨k,o2,e2,hjk,hk,he2,hb2,hon⟩:=huse2 j (by omega);have hk2:k<i+1:=by have:=(Array.getElem?_eq_some_iff.1 hk).1;omega
      have:=hcl k o2 hk (ih (i - k) (by omega) k (by omega)) e2 he2 hb2;rw[hon]at this;exact this
   intro j hj;exact key (i - j) j (by omega)
 ·simp[hsz,List.countP_replicate]
 ·refine⟨by simp[hsz],λi o _ hl=> ?_,.inl ⟨?_,x0U.refl _ _,bl0.drew,λi _ hl=> ?_⟩⟩
  ·simp only[Array.getD_eq_getD_getElem?,Array.getElem?_replicate]at hl;split at hl<;>simp at hl
  ·simp only[Array.getD_eq_getD_getElem?,Array.getElem?_replicate];split<;>rfl
  ·simp only[Array.getD_eq_getD_getElem?,Array.getElem?_replicate]at hl;split at hl<;>simp at hl
def y4N(ops:Array Oper)(ds:List Nat):Bool:=ops.toList.all λo=>match o.dst with|some d=>ds.contains d|none=>true
theorem q0F{a0:Act}(h:x0U ops a0 a)(ds:List Nat)(hds:y4N ops ds=true):
 ∃us:Nat->Value,(∀t,a.eval (.tmp t)=us t)/\a=⟨(a0.tmps.toList.mapIdx λt v=>if ds.contains t then us t else v).toArray,a0.defers⟩:=by
 refine⟨λt=>a.eval (.tmp t),λ_=>rfl,?_⟩
 have hds2:∀i d,z0a ops i=some d->ds.contains d=true:=by
  intro i d hd;unfold z0a at hd
  cases ho:ops[i]?with
  |none=>rw[ho]at hd;simp at hd
  |some o=>
   rw[ho]at hd;have h1:o∈ops.toList:=by simpa using Array.mem_of_getElem? ho
   have h2:=(List.all_eq_true.1 hds) o h1;simp only[Option.bind_some]at hd;rw[hd]at h2;exact h2
 obtain⟨ts,df⟩:=a;have h1:=h.defers;have h2:=h.size;simp only at h1 h2;rw[h1];congr 1;apply Array.ext
 ·simp[h2]
 ·intro i hi1 hi2;simp only[List.getElem_toArray,List.getElem_mapIdx];split
  ·simp[Act.eval,Array.getD_eq_getD_getElem?,hi1]
  ·rename_i hn
   have:=h.same i (λk hk=>hn (hds2 k i hk));have h3:i<a0.tmps.size:=by omega
   simp only[Act.eval,Array.getD_eq_getD_getElem?,Array.getElem?_eq_getElem hi1,Array.getElem?_eq_getElem h3,Option.getD_some]at this;rw[this];simp
def q4Y(ops:Array Oper)(t:Tmp):Bool:=ops.toList.all λo=>match o.dst with|some d=>d !=t|none=>true
theorem q0f{a0:Act}(h:x0U ops a0 a){t:Tmp}(hn:q4Y ops t=true):a.eval (.tmp t)=a0.eval (.tmp t):=by
 refine h.same t (λi hd=> ?_);unfold z0a at hd
 cases ho:ops[i]?with
 |none=>rw[ho]at hd;simp at hd
 |some o=>
  rw[ho]at hd;have h1:o∈ops.toList:=by simpa using Array.mem_of_getElem? ho
  have h2:=(List.all_eq_true.1 hn) o h1;simp only[Option.bind_some]at hd;rw[hd]at h2;simp at h2
open Go.RowKit
variable{ops:Array Oper}{Q:Exit → Act → World → Prop}
structure u2c(ops:Array Oper)(n:Nat)(R:Nat->World->Value->Prop)(D:Nat->Nat->Value->Value->Prop)(a:Act)(X:World)(dn:Nat->Prop):Prop where
 lt:∀j,dn j->j<n
 yields:∀j,dn j->∀t,z0a ops j=some t->R j X (a.eval (.tmp t))
 pairs:∀j k,dn j->dn k->j≠k->∀t s,z0a ops j=some t->z0a ops k=some s->D j k (a.eval (.tmp t)) (a.eval (.tmp s))
theorem u0D{P:Program}{id:Nat}{a0:Act}{w0:World}(n:Nat)(hm:P.follows .mixedOrders=true)(hg:v1J ops n a0.tmps.size=true)(R:Nat->World->Value->Prop)(D:Nat->Nat->Value->Value->Prop)(hmono:∀i X Y v,R i X v->Below X.heap.size X Y->R i Y v)(hstep:∀i o,i<n->ops[i]? =some o->∀(a:Act)(X:World),Below w0.heap.size w0 X->x0U ops a0 a->∀dn:Nat->Prop,u2c ops n R D a X dn->(∀e∈o.after,Region.binds .any e=true->dn e.on)->
 o.wp P a X (λa' X' =>∃v,a' =a.put o.dst v/\Below X.heap.size X X' /\R i X' v/\∀j,dn j->j≠i->∀t,z0a ops j=some t->D i j v (a.eval (.tmp t))/\D j i (a.eval (.tmp t)) v) Q) (hlast:∀o,ops[n]? =some o->∀(a:Act)(X:World),Below w0.heap.size w0 X->x0U ops a0 a->∀dn:Nat->Prop,u2c ops n R D a X dn->(∀j,j<n->dn j)->
 o.wp P a X (λa' X' =>Q .normal a' X') Q):(Code.region id ops true).wp P Q a0 w0:=by
 unfold v1J at hg;simp only[Bool.and_eq_true,beq_iff_eq,List.all_eq_true,List.any_eq_true,List.mem_range,decide_eq_true_eq]at hg;obtain⟨⟨⟨⟨hsz,hord⟩,huse⟩,hdis⟩,hin⟩:=hg
 have hord2:∀i o,ops[i]? =some o->o.guard=none/\∀e∈o.after,Region.binds .any e=true->e.on<i:=by
  intro i o ho;have hi:i<n+1:=by have:=(Array.getElem?_eq_some_iff.1 ho).1;omega
  have h:=hord i hi;rw[ho]at h;simp only[Option.map_some,Option.getD_some,Bool.and_eq_true,Option.isNone_iff_eq_none,Array.all_eq_true']at h;refine⟨h.1,λe he hb=> ?_⟩;have:=h.2 e he;rw[hb]at this;simpa using this
 have huse2:∀j,j<n->∃i o e,j<i/\ops[i]? =some o/\e∈o.after/\Region.binds .any e=true/\e.on=j:=by
  intro j hj;obtain⟨i,hi,hji,h⟩:=huse j hj
  cases ho:ops[i]?with
  |none=>rw[ho]at h;simp at h
  |some o=>rw[ho]at h;simp only[Option.map_some,Option.getD_some,Array.any_eq_true']at h;obtain⟨e,he,hb⟩:=h;simp only[Bool.and_eq_true,beq_iff_eq]at hb;exact⟨i,o,e,hji,ho,he,hb.1,hb.2⟩
 have hdis2:∀i j d,i<n+1->j<n+1->z0a ops i=some d->z0a ops j=some d->i=j:=by intro i j d hi hj h1 h2;have h:=hdis i hi j hj;rw[h1,h2]at h;simpa using h
 have hin2:∀i d,i<n+1->z0a ops i=some d->d<a0.tmps.size:=by intro i d hi h1;have h:=hin i hi;rw[h1]at h;simpa using h
 have inR:∀{l:Array Bool}{i:Nat},i∈Region.ready .any ops l->l.getD i true=false/\∃o,ops[i]? =some o/\∀e∈o.after,Region.binds .any e=true->l.getD e.on false=true:=λh=>mem_ready.1 h;refine wp_region_any hm ?_
 refine v1y (λl a w=>l.size=n+1/\(∀i o,ops[i]? =some o->l.getD i false=true->∀e∈o.after,Region.binds .any e=true->l.getD e.on false=true)/\
  ((l.getD n false=false/\x0U ops a0 a/\Below w0.heap.size w0 w/\u2c ops n R D a w (λi=>i<n/\l.getD i false=true))\/((∀i,i<n+1->l.getD i false=true)/\Q .normal a w))) ?_ ?_ _ _ _ _ ?_ ?_
 ·rintro l a w ⟨h1,h2,h3⟩ hr;have hall:=v1q (λi o ho=>(hord2 i o ho).2) h1 hsz hr;rcases h3 with⟨h3,_⟩|⟨_,h3⟩
  ·rw[hall n (by omega)]at h3;cases h3
  ·exact h3
 ·rintro l a w i ⟨h1,h2,h3⟩ hi;obtain⟨hu,o,ho,hdep⟩:=inR hi;have hil:i<n+1:=by have:=(Array.getElem?_eq_some_iff.1 ho).1;omega
  have hil2:i<l.size:=by omega
  have hset:∀j,(l.setIfInBounds i true).getD j false=if i=j then true else l.getD j false:=by
   intro j;by_cases e:i=j
   ·subst e;simp[Array.getD_eq_getD_getElem?,hil2]
   ·simp[Array.getD_eq_getD_getElem?,Array.getElem?_setIfInBounds_ne e,e]
  have hcl:∀k o,ops[k]? =some o->(l.setIfInBounds i true).getD k false=true->∀e∈o.after,Region.binds .any e=true->(l.setIfInBounds i true).getD e.on false=true:=by
   intro k o2 hk hkl e he hb;rw[hset];split
   ·rfl
   ·rw[hset]at hkl;split at hkl
    ·rename_i hik
     subst hik;rw[ho]at hk;injection hk with hk;subst hk;exact hdep e he hb
    ·exact h2 k o2 hk hkl e he hb
  have hui:l.getD i false=false:=by simp only[Array.getD_eq_getD_getElem?,Array.getElem?_eq_getElem hil2,Option.getD_some]at hu ⊢;exact hu
  rcases h3 with⟨h3,h4,h5,h6⟩|⟨h3,_⟩
  rotate_left
  ·rw[h3 i hil]at hui;cases hui
  have hdst:z0a ops i=o.dst:=by unfold z0a;rw[ho];rfl
  have hdeps:∀e∈o.after,Region.binds .any e=true->e.on<n/\l.getD e.on false=true:=by intro e he hb;have h7:=(hord2 i o ho).2 e he hb;exact⟨by omega,hdep e he hb⟩
  unfold wpOp;rw[ho];simp only[Region.wanted,(hord2 i o ho).1,if_true];by_cases hin3:i<n
  ·refine .inl (Oper.wp_mono (λa' w' h=> ?_) (hstep i o hin3 ho a w h5 h4 _ h6 hdeps));obtain⟨v,rfl,hb,hR,hD⟩:=h;refine⟨by simpa using h1,hcl,.inl ⟨?_,by rw[<-hdst];exact h4.put i v,h5.trans (hb.mono h5.size),?_⟩⟩
   ·rw[hset,if_neg (by omega)];exact h3
   ·have hself:∀t,z0a ops i=some t->(a.put (z0a ops i) v).eval (.tmp t)=v:=by
     intro t ht;rw[ht,u0F,if_pos ⟨rfl,by rw[h4.size];exact hin2 i t (by omega) ht⟩]
    have hoth:∀j,i≠j->j<n->∀t,z0a ops j=some t->(a.put (z0a ops i) v).eval (.tmp t)=a.eval (.tmp t):=by
     intro j e hj t ht;have hne:∀d,z0a ops i=some d->d≠t:=λd hd e2=>e (hdis2 i j d (by omega) (by omega) hd (by rw[e2];exact ht))
     cases hd:z0a ops i with
     |none=>rfl
     |some d=>rw[u0F,if_neg (λh=>hne d hd h.1)]
    have hwas:∀j,i≠j->(l.setIfInBounds i true).getD j false=true->l.getD j false=true:=λj e h=>by rw[hset,if_neg e]at h;exact h
    rw[<-hdst];refine⟨λj hj=>hj.1,λj hj t ht=> ?_,λj k hj hk hjk t s ht hs=> ?_⟩
    ·by_cases e:i=j
     ·subst e;rw[hself t ht];exact hR
     ·rw[hoth j e hj.1 t ht];exact hmono j w w' _ (h6.yields j ⟨hj.1,hwas j e hj.2⟩ t ht) hb
    ·by_cases e:i=j
     ·subst e;rw[hself t ht,hoth k hjk hk.1 s hs];exact(hD k ⟨hk.1,hwas k hjk hk.2⟩ (λh=>hjk h.symm) s hs).1
     ·by_cases e2:i=k
      ·subst e2;rw[hself s hs,hoth j e hj.1 t ht];exact(hD j ⟨hj.1,hwas j e hj.2⟩ hjk t ht).2
      ·rw[hoth j e hj.1 t ht,hoth k e2 hk.1 s hs];exact h6.pairs j k ⟨hj.1,hwas j e hj.2⟩ ⟨hk.1,hwas k e2 hk.2⟩ hjk t s ht hs
  ·obtain rfl:i=n:=by omega
   have key:∀m j,j+m=i->(l.setIfInBounds i true).getD j false=true:=by
    intro m
    induction m using Nat.strongRecOn with
    |_ m ih=>
     intro j hj;by_cases e:m=0
     ·rw[hset,if_pos (by omega)]
     ·obtain⟨k,o2,e2,hjk,hk,he2,hb2,hon⟩:=huse2 j (by omega);have hk2:k<i+1:=by have:=(Array.getElem?_eq_some_iff.1 hk).1;omega
      have:=hcl k o2 hk (ih (i - k) (by omega) k (by omega)) e2 he2 hb2;rw[hon]at this;exact this
   have hall:∀j,j<i->j<i/\l.getD j false=true:=λj hj=>⟨hj,by
    have:=key (i - j) j (by omega);rw[hset,if_neg (by omega)]at this;exact this⟩
   refine .inl (Oper.wp_mono (λa' w' h=> ?_) (hlast o ho a w h5 h4 _ h6 hall));refine⟨by simpa using h1,hcl,.inr ⟨?_,h⟩⟩;intro j hj;exact key (i - j) j (by omega)
 ·simp[hsz,List.countP_replicate]
 ·refine⟨by simp[hsz],λi o _ hl=> ?_,.inl ⟨?_,x0U.refl _ _,bl0.drew,?_⟩⟩
  ·simp only[Array.getD_eq_getD_getElem?,Array.getElem?_replicate]at hl;split at hl<;>simp at hl
  ·simp only[Array.getD_eq_getD_getElem?,Array.getElem?_replicate];split<;>rfl
  ·have hno:∀i,¬(i<n/\(Array.replicate ops.size false).getD i false=true):=by
    rintro i ⟨_,hl⟩;simp only[Array.getD_eq_getD_getElem?,Array.getElem?_replicate]at hl;split at hl<;>simp at hl
   exact⟨λi h=>h.1,λi h=>absurd h (hno i),λi j h=>absurd h (hno i)⟩
open Go.RowKit
variable{ops:Array Oper}{Q:Exit → Act → World → Prop}
theorem x0u{P:Program}{id:Nat}{a0:Act}{w0:World}(n:Nat)(hm:P.follows .mixedOrders=true)(hg:v1J ops n a0.tmps.size=true)(J:(Nat->Prop)->World->Prop)(R:Nat->World->Value->Prop)(D:Nat->Nat->Value->Value->Prop)(hJ:J (λ_=>False) w0.drew)(hstep:∀i o,i<n->ops[i]? =some o->∀(a:Act)(X:World)(dn:Nat->Prop),J dn X->x0U ops a0 a->u2c ops n R D a X dn->¬dn i->(∀e∈o.after,Region.binds .any e=true->dn e.on)->
 o.wp P a X (λa' X' =>∃v,a' =a.put o.dst v/\J (λj=>dn j\/j=i) X' /\R i X' v/\∀j,dn j->j≠i->∀t,z0a ops j=some t->R j X' (a.eval (.tmp t))/\D i j v (a.eval (.tmp t))/\D j i (a.eval (.tmp t)) v) Q) (hlast:∀o,ops[n]? =some o->∀(a:Act)(X:World)(dn:Nat->Prop),J dn X->x0U ops a0 a->u2c ops n R D a X dn->(∀j,j<n->dn j)->
 o.wp P a X (λa' X' =>Q .normal a' X') Q):(Code.region id ops true).wp P Q a0 w0:=by
 unfold v1J at hg;simp only[Bool.and_eq_true,beq_iff_eq,List.all_eq_true,List.any_eq_true,List.mem_range,decide_eq_true_eq]at hg;obtain⟨⟨⟨⟨hsz,hord⟩,huse⟩,hdis⟩,hin⟩:=hg
 have hord2:∀i o,ops[i]? =some o->o.guard=none/\∀e∈o.after,Region.binds .any e=true->e.on<i:=by
  intro i o ho;have hi:i<n+1:=by have:=(Array.getElem?_eq_some_iff.1 ho).1;omega
  have h:=hord i hi;rw[ho]at h;simp only[Option.map_some,Option.getD_some,Bool.and_eq_true,Option.isNone_iff_eq_none,Array.all_eq_true']at h;refine⟨h.1,λe he hb=> ?_⟩;have:=h.2 e he;rw[hb]at this;simpa using this
 have huse2:∀j,j<n->∃i o e,j<i/\ops[i]? =some o/\e∈o.after/\Region.binds .any e=true/\e.on=j:=by
  intro j hj;obtain⟨i,hi,hji,h⟩:=huse j hj
  cases ho:ops[i]?with
  |none=>rw[ho]at h;simp at h
  |some o=>rw[ho]at h;simp only[Option.map_some,Option.getD_some,Array.any_eq_true']at h;obtain⟨e,he,hb⟩:=h;simp only[Bool.and_eq_true,beq_iff_eq]at hb;exact⟨i,o,e,hji,ho,he,hb.1,hb.2⟩
 have hdis2:∀i j d,i<n+1->j<n+1->z0a ops i=some d->z0a ops j=some d->i=j:=by intro i j d hi hj h1 h2;have h:=hdis i hi j hj;rw[h1,h2]at h;simpa using h
 have hin2:∀i d,i<n+1->z0a ops i=some d->d<a0.tmps.size:=by intro i d hi h1;have h:=hin i hi;rw[h1]at h;simpa using h
 have inR:∀{l:Array Bool}{i:Nat},i∈Region.ready .any ops l->l.getD i true=false/\∃o,ops[i]? =some o/\∀e∈o.after,Region.binds .any e=true->l.getD e.on false=true:=λh=>mem_ready.1 h;refine wp_region_any hm ?_
 refine v1y (λl a w=>l.size=n+1/\(∀i o,ops[i]? =some o->l.getD i false=true->∀e∈o.after,Region.binds .any e=true->l.getD e.on false=true)/\
  ((l.getD n false=false/\x0U ops a0 a/\J (λi=>i<n/\l.getD i false=true) w/\u2c ops n R D a w (λi=>i<n/\l.getD i false=true))\/((∀i,i<n+1->l.getD i false=true)/\Q .normal a w))) ?_ ?_ _ _ _ _ ?_ ?_
 ·rintro l a w ⟨h1,h2,h3⟩ hr;have hall:=v1q (λi o ho=>(hord2 i o ho).2) h1 hsz hr;rcases h3 with⟨h3,_⟩|⟨_,h3⟩
  ·rw[hall n (by omega)]at h3;cases h3
  ·exact h3
 ·rintro l a w i ⟨h1,h2,h3⟩ hi;obtain⟨hu,o,ho,hdep⟩:=inR hi;have hil:i<n+1:=by have:=(Array.getElem?_eq_some_iff.1 ho).1;omega
  have hil2:i<l.size:=by omega
  have hset:∀j,(l.setIfInBounds i true).getD j false=if i=j then true else l.getD j false:=by
   intro j;by_cases e:i=j
   ·subst e;simp[Array.getD_eq_getD_getElem?,hil2]
   ·simp[Array.getD_eq_getD_getElem?,Array.getElem?_setIfInBounds_ne e,e]
  have hcl:∀k o,ops[k]? =some o->(l.setIfInBounds i true).getD k false=true->∀e∈o.after,Region.binds .any e=true->(l.setIfInBounds i true).getD e.on false=true:=by
   intro k o2 hk hkl e he hb;rw[hset];split
   ·rfl
   ·rw[hset]at hkl;split at hkl
    ·rename_i hik
     subst hik;rw[ho]at hk;injection hk with hk;subst hk;exact hdep e he hb
    ·exact h2 k o2 hk hkl e he hb
  have hui:l.getD i false=false:=by simp only[Array.getD_eq_getD_getElem?,Array.getElem?_eq_getElem hil2,Option.getD_some]at hu ⊢;exact hu
  rcases h3 with⟨h3,h4,h5,h6⟩|⟨h3,_⟩
  rotate_left
  ·rw[h3 i hil]at hui;cases hui
  have hdst:z0a ops i=o.dst:=by unfold z0a;rw[ho];rfl
  have hdeps:∀e∈o.after,Region.binds .any e=true->e.on<n/\l.getD e.on false=true:=by intro e he hb;have h7:=(hord2 i o ho).2 e he hb;exact⟨by omega,hdep e he hb⟩
  unfold wpOp;rw[ho];simp only[Region.wanted,(hord2 i o ho).1,if_true];by_cases hin3:i<n
  ·refine .inl (Oper.wp_mono (λa' w' h=> ?_) (hstep i o hin3 ho a w _ h5 h4 h6 (λh=>by rw[h.2]at hui;cases hui) hdeps));obtain⟨v,rfl,hb,hR,hD⟩:=h;refine⟨by simpa using h1,hcl,.inl ⟨?_,by rw[<-hdst];exact h4.put i v,?_,?_⟩⟩
   ·rw[hset,if_neg (by omega)];exact h3
   ·have hdn:(λj=>j<n/\(l.setIfInBounds i true).getD j false=true)=(λj=>(j<n/\l.getD j false=true)\/j=i):=funext λj=>propext (by
     rw[hset];by_cases e:i=j
     ·subst e;simp[hin3]
     ·rw[if_neg e];constructor
      ·exactλh=> .inl h
      ·rintro(h|h)
       ·exact h
       ·exact absurd h.symm e)
    rw[hdn];exact hb
   ·have hself:∀t,z0a ops i=some t->(a.put (z0a ops i) v).eval (.tmp t)=v:=by
     intro t ht;rw[ht,u0F,if_pos ⟨rfl,by rw[h4.size];exact hin2 i t (by omega) ht⟩]
    have hoth:∀j,i≠j->j<n->∀t,z0a ops j=some t->(a.put (z0a ops i) v).eval (.tmp t)=a.eval (.tmp t):=by
     intro j e hj t ht;have hne:∀d,z0a ops i=some d->d≠t:=λd hd e2=>e (hdis2 i j d (by omega) (by omega) hd (by rw[e2];exact ht))
     cases hd:z0a ops i with
     |none=>rfl
     |some d=>rw[u0F,if_neg (λh=>hne d hd h.1)]
    have hwas:∀j,i≠j->(l.setIfInBounds i true).getD j false=true->l.getD j false=true:=λj e h=>by rw[hset,if_neg e]at h;exact h
    rw[<-hdst];refine⟨λj hj=>hj.1,λj hj t ht=> ?_,λj k hj hk hjk t s ht hs=> ?_⟩
    ·by_cases e:i=j
     ·subst e;rw[hself t ht];exact hR
     ·rw[hoth j e hj.1 t ht];exact(hD j ⟨hj.1,hwas j e hj.2⟩ (λh=>e h.symm) t ht).1
    ·by_cases e:i=j
     ·subst e;rw[hself t ht,hoth k hjk hk.1 s hs];exact(hD k ⟨hk.1,hwas k hjk hk.2⟩ (λh=>hjk h.symm) s hs).2.1
     ·by_cases e2:i=k
      ·subst e2;rw[hself s hs,hoth j e hj.1 t ht];exact(hD j ⟨hj.1,hwas j e hj.2⟩ hjk t ht).2.2
      ·rw[hoth j e hj.1 t ht,hoth k e2 hk.1 s hs];exact h6.pairs j k ⟨hj.1,hwas j e hj.2⟩ ⟨hk.1,hwas k e2 hk.2⟩ hjk t s ht hs
  ·obtain rfl:i=n:=by omega
   have key:∀m j,j+m=i->(l.setIfInBounds i true).getD j false=true:=by
    intro m
    induction m using Nat.strongRecOn with
    |_ m ih=>
     intro j hj;by_cases e:m=0
     ·rw[hset,if_pos (by omega)]
     ·obtain⟨k,o2,e2,hjk,hk,he2,hb2,hon⟩:=huse2 j (by omega);have hk2:k<i+1:=by have:=(Array.getElem?_eq_some_iff.1 hk).1;omega
      have:=hcl k o2 hk (ih (i - k) (by omega) k (by omega)) e2 he2 hb2;rw[hon]at this;exact this
   have hall:∀j,j<i->j<i/\l.getD j false=true:=λj hj=>⟨hj,by
    have:=key (i - j) j (by omega);rw[hset,if_neg (by omega)]at this;exact this⟩
   refine .inl (Oper.wp_mono (λa' w' h=> ?_) (hlast o ho a w _ h5 h4 h6 hall));refine⟨by simpa using h1,hcl,.inr ⟨?_,h⟩⟩;intro j hj;exact key (i - j) j (by omega)
 ·simp[hsz,List.countP_replicate]
 ·refine⟨by simp[hsz],λi o _ hl=> ?_,.inl ⟨?_,x0U.refl _ _,?_,?_⟩⟩
  ·simp only[Array.getD_eq_getD_getElem?,Array.getElem?_replicate]at hl;split at hl<;>simp at hl
  ·simp only[Array.getD_eq_getD_getElem?,Array.getElem?_replicate];split<;>rfl
  ·have hdn:(λi=>i<n/\(Array.replicate ops.size false).getD i false=true)=(λ_=>False):=funext λi=>propext ⟨λh=>by
    have hl:=h.2;simp only[Array.getD_eq_getD_getElem?,Array.getElem?_replicate]at hl;split at hl<;>simp at hl,λh=>h.elim⟩
   rw[hdn];exact hJ
  ·have hno:∀i,¬(i<n/\(Array.replicate ops.size false).getD i false=true):=by
    rintro i ⟨_,hl⟩;simp only[Array.getD_eq_getD_getElem?,Array.getElem?_replicate]at hl;split at hl<;>simp at hl
   exact⟨λi h=>h.1,λi h=>absurd h (hno i),λi j h=>absurd h (hno i)⟩
open Go.RowKit
variable{a:Act}{K:Act → World → Prop}{ops:Array Oper}{Q:Exit → Act → World → Prop}
structure El(t e:TypeId)(size bytes:Nat):Prop where
 ht:Tryz.prog.underlying t=some (.slice e)
 hi:∃i z,Tryz.prog.info? e=some i/\i.zero=some z/\i.size=size/\i.bytes=bytes/\z.cells.size=size
 pos:0<size
theorem elI:El 24 3 1 8:=⟨Tryz.underlying24,by obtain⟨i,h1,h2,h3,h4⟩:=info_parts u1E;exact⟨i,_,h1,h2,h3,h4,rfl⟩,by decide⟩
theorem elS:El 25 9 1 16:=⟨Tryz.underlying25,by obtain⟨i,h1,h2,h3,h4⟩:=info_parts j2j;exact⟨i,_,h1,h2,h3,h4,rfl⟩,by decide⟩
theorem elW:El 33 95 2 16:=⟨Tryz.underlying33,by obtain⟨i,h1,h2,h3,h4⟩:=info_parts q4C;exact⟨i,_,h1,h2,h3,h4,rfl⟩,by decide⟩
theorem elO:El 32 90 8 80:=⟨Tryz.underlying32,by obtain⟨i,h1,h2,h3,h4⟩:=info_parts z3X;exact⟨i,_,h1,h2,h3,h4,rfl⟩,by decide⟩
structure v0q(w:World)(x:Option Addr)(m size:Nat)(news:List Value):Prop where
 len:news.length=m*size
 at_:∀j u,news[j]? =some u->∃ad,x=some ad/\w.cell? (ad.add j)=some u
 one:∀u∈news,u.oneCell' =true
theorem v0q.none_{w:World}{m size:Nat}{news:List Value}(h:v0q w none m size news)(hs:0<size):m=0/\news=[]:=by
 have hn:news=[]:=by
  cases news with
  |nil=>rfl
  |cons u r=>obtain⟨ad,h1,_⟩:=h.at_ 0 u rfl;cases h1
 subst hn;have:=h.len;simp only[List.length_nil]at this;rcases Nat.mul_eq_zero.1 this.symm with h1|h1
 ·exact⟨h1,rfl⟩
 ·omega
theorem v0q.src{w:World}{x:Option Addr}{m size c:Nat}{news:List Value}{t e:TypeId}{bytes:Nat}(h:v0q w x m size news)(el:El t e size bytes):Src Tryz.prog size t (.slice x m c) m news w:=by
 cases x with
 |none=>obtain⟨rfl,rfl⟩:=h.none_ el.pos;exact Src.ofNil w el.ht c
 |some ad=>exact Src.ofSlice w el.ht ad m c news h.len (λj u hj=>by obtain⟨ad2,h1,h2⟩:=h.at_ j u hj;injection h1 with h1;rw[h1];exact h2) h.one
theorem v0q.later{w w' :World}{x:Option Addr}{m size:Nat}{news:List Value}(h:v0q w x m size news)(hb:Below w.heap.size w w'):v0q w' x m size news:=
 ⟨h.len,λj u hj=>by
   obtain⟨ad,h1,h2⟩:=h.at_ j u hj;exact⟨ad,h1,(hb.cell (p:=ad.add j) (World.block_lt_of_cell? w _ h2)).trans h2⟩,h.one⟩
theorem y2E{t e:TypeId}{size bytes:Nat}(el:El t e size bytes)(ty:TypeId)(w:World)(g B:Nat)(hg:w.heap[g]? =some (.cells #[] e (0,0)))(hB:B<=g)(x:Option Addr)(m c:Nat)(news:List Value)(hs:v0q w x m size news)(hm:m<=16777216)(hby:m*bytes<=140737488355328):
 ∃v' w',(Builtin.append_ #[t,t] ty #[.slice (some ⟨g,0,none⟩) 0 0,.slice x m c]).run Tryz.prog w= .ok v' w' /\w'.ownsRow B e size v' m news/\Below w.heap.size w w' /\∃g',v'.ownBlock=some g' /\(g' =g\/g' =w.heap.size):=by
 obtain⟨i,z,hi,hz,h1,h2,h3⟩:=el.hi;have hgl:g<w.heap.size:=(Array.getElem?_eq_some_iff.1 hg).1;have hsrc:=hs.src (c:=c) el;by_cases h0:m=0
 ·subst h0;have hn:news=[]:=List.eq_nil_of_length_eq_zero (by have:=hs.len;omega);subst hn;subst h1;have hr:=run_append_room_src (P:=Tryz.prog) w t t ty e i el.ht hi g 0 0 0 (.slice x 0 c) 0 [] hsrc (by omega) (λj hj=>by simp at hj) (λj hj=>by simp at hj);exact⟨_,_,hr,⟨by simp,.inr ⟨g,0, #[],rfl,hB,hg,Nat.le_refl _,by unfold maxLen;omega,by simp,by simp⟩⟩,bl0,g,rfl,.inl rfl⟩
 ·subst h1;subst h2
  have hold:(Builtin.firstCells i.size 0 (.slice (some ⟨g,0,none⟩) 0 0)).run Tryz.prog w.drew= .ok ([]:List Value).toArray w.drew:=by simp[Builtin.firstCells,loadCells,loadCellsFrom]
  have hnc:Builtin.nextslicecap (0+m) 0=m:=by unfold Builtin.nextslicecap;rw[if_pos (by omega)];omega
  have hr:=run_append_grow_src (P:=Tryz.prog) w t t ty e i z el.ht hi hz (some ⟨g,0,none⟩) 0 0 [] hold (.slice x m c) m news hsrc (by omega) (by omega) (by rw[hnc];omega);simp only[Nat.zero_add,List.nil_append]at hr;have hge:=grownCap_ge w m 0 e;have hcm:grownCap w m 0 e<=maxLen:=grownCap_le_maxLen w m 0 e (by unfold maxLen;omega);refine⟨_,_,hr,⟨hs.len,.inr ⟨w.heap.size,_,_,rfl,by omega,heap_alloc_new w.drew _,hge,hcm,?_,?_⟩⟩,bl0.drew.alloc nl0 _,_,rfl,.inr rfl⟩
  ·simp only[Array.size_append,List.size_toArray,size_zeroCells,h3,hs.len,<-Nat.add_mul];congr 1;omega
  ·rw[Array.toList_append,<-hs.len];exact List.take_left
theorem j0Z{t e:TypeId}{size bytes:Nat}(el:El t e size bytes){w:World}{o:Oper}(s x:Operand)(ho:o.op= .call {callee:= .builtin .append,args:= #[s,x],argTypes:= #[t,t]})(g B:Nat)(hg:w.heap[g]? =some (.cells #[] e (0,0)))(hB:B<=g)(xa:Option Addr)(m c:Nat)(news:List Value)(hsv:a.eval s= .slice (some ⟨g,0,none⟩) 0 0)(hxv:a.eval x= .slice xa m c)(hs:v0q w xa m size news)(hm:m<=16777216)(hby:m*bytes<=140737488355328)(h:∀v' w',w'.ownsRow B e size v' m news->Below w.heap.size w w' ->Hid (∃g',v'.ownBlock=some g' /\(g' =g\/g' =w.heap.size))->K (a.put o.dst v') w'):o.wp Tryz.prog a w K Q:=by obtain⟨v',w',hr,h2,h3,h4⟩:=y2E el o.type w g B hg hB xa m c news hs hm hby;unfold Oper.wp execOp;simp only[ho,resolve,invoke,builtin,Sem.run_bind,Sem.run_pure,Result.andThen_ok,List.map_toArray,List.map_cons,List.map_nil,hsv,hxv,hr];exact h v' w' h2 h3 h4
theorem y0C{t e:TypeId}{size bytes:Nat}(el:El t e size bytes){w:World}{rest:List Oper}{o:Oper}(hgd:o.guard=none)(s x:Operand)(ho:o.op= .call {callee:= .builtin .append,args:= #[s,x],argTypes:= #[t,t]})(g B:Nat)(hg:w.heap[g]? =some (.cells #[] e (0,0)))(hB:B<=g)(xa:Option Addr)(m c:Nat)(news:List Value)(hsv:a.eval s= .slice (some ⟨g,0,none⟩) 0 0)(hxv:a.eval x= .slice xa m c)(hs:v0q w xa m size news)(hm:m<=16777216)(hby:m*bytes<=140737488355328)(h:∀v' w',w'.ownsRow B e size v' m news->Below w.heap.size w w' ->Hid (∃g',v'.ownBlock=some g' /\(g' =g\/g' =w.heap.size))->wpList Tryz.prog ops Q rest (a.put o.dst v') w'):wpList Tryz.prog ops Q (o::rest) a w:=
 wpList_plain hgd λ_ hK=>j0Z el s x ho g B hg hB xa m c news hsv hxv hs hm hby λv' w' h2 h3 h4=>hK _ _ (h v' w' h2 h3 h4)
theorem u0G(w:World)(e:TypeId):(w.alloc (.cells #[] e)).heap[w.heap.size]? =some (.cells #[] e (0,0)):=heap_alloc_new w _
theorem v1D(w:World)(a:Option Addr)(m c:Nat)(news:List Value)(hs:v0q w a m 1 news)(hm:m<=16777216):
 Calls Tryz.prog 80 #[.slice a m c] w λe w' =>∃x,e= .returned x/\w'.ownsRow w.heap.size 3 1 x m news/\Below w.heap.size w w' :=by
 cases a with
 |none=>
  obtain⟨rfl,rfl⟩:=hs.none_ (by omega);have hq:∀X:World,(binOp .eql 24 (.slice none 0 c) (.slice none 0 0)).run Tryz.prog X= .ok (.bool true) X:=λX=>Lib.run_eql_slice_nil X _ _ none 0 c 0 0 elI.ht;go_enter Tryz.func80,Tryz.ntmps80;go_wp2;go_ret
  exact⟨_,rfl,World.ownsRow_nil _ _ _ _,bl0⟩
 |some ad=>
  have HS:Hid (v0q w (some ad) m 1 news):=hs;clear hs;have hq:∀X:World,(binOp .eql 24 (.slice (some ad) m c) (.slice none 0 0)).run Tryz.prog X= .ok (.bool false) X:=λX=>Lib.run_eql_slice_nil X _ _ (some ad) m c 0 0 elI.ht;go_enter Tryz.func80,Tryz.ntmps80;go_wp2_with (at_builtin;refine y0C elI rfl _ _ rfl w.heap.size w.heap.size (u0G w _) nl0 (some ad) m c news rfl rfl ?hs hm (by omega) ?_)
  case hs=>exact HS.out.later (bl1 _)
  intro v' w' h1 h2 _;have B2:Below w.heap.size w w' :=(bl1 _).trans (h2.mono (by simp));go_wp2;go_ret
  exact⟨_,rfl,h1,B2⟩
theorem x3g(w:World)(a:Option Addr)(m c:Nat)(news:List Value)(hs:v0q w a m 1 news)(hm:m<=16777216):
 Calls Tryz.prog 81 #[.slice a m c] w λe w' =>∃x,e= .returned x/\w'.ownsRow w.heap.size 9 1 x m news/\Below w.heap.size w w' :=by
 cases a with
 |none=>
  obtain⟨rfl,rfl⟩:=hs.none_ (by omega);have hq:∀X:World,(binOp .eql 25 (.slice none 0 c) (.slice none 0 0)).run Tryz.prog X= .ok (.bool true) X:=λX=>Lib.run_eql_slice_nil X _ _ none 0 c 0 0 elS.ht;go_enter Tryz.func81,Tryz.ntmps81;go_wp2;go_ret
  exact⟨_,rfl,World.ownsRow_nil _ _ _ _,bl0⟩
 |some ad=>
  have HS:Hid (v0q w (some ad) m 1 news):=hs;clear hs;have hq:∀X:World,(binOp .eql 25 (.slice (some ad) m c) (.slice none 0 0)).run Tryz.prog X= .ok (.bool false) X:=λX=>Lib.run_eql_slice_nil X _ _ (some ad) m c 0 0 elS.ht;go_enter Tryz.func81,Tryz.ntmps81;go_wp2_with (at_builtin;refine y0C elS rfl _ _ rfl w.heap.size w.heap.size (u0G w _) nl0 (some ad) m c news rfl rfl ?hs hm (by omega) ?_)
  case hs=>exact HS.out.later (bl1 _)
  intro v' w' h1 h2 _;have B2:Below w.heap.size w w' :=(bl1 _).trans (h2.mono (by simp));go_wp2;go_ret
  exact⟨_,rfl,h1,B2⟩
theorem x3h(w:World)(a:Option Addr)(m c:Nat)(news:List Value)(hs:v0q w a m 2 news)(hm:m<=16777216):
 Calls Tryz.prog 79 #[.slice a m c] w λe w' =>∃x,e= .returned x/\w'.ownsRow w.heap.size 95 2 x m news/\Below w.heap.size w w' :=by
 cases a with
 |none=>
  obtain⟨rfl,rfl⟩:=hs.none_ (by omega);have hq:∀X:World,(binOp .eql 33 (.slice none 0 c) (.slice none 0 0)).run Tryz.prog X= .ok (.bool true) X:=λX=>Lib.run_eql_slice_nil X _ _ none 0 c 0 0 elW.ht;go_enter Tryz.func79,Tryz.ntmps79;go_wp2;go_ret
  exact⟨_,rfl,World.ownsRow_nil _ _ _ _,bl0⟩
 |some ad=>
  have HS:Hid (v0q w (some ad) m 2 news):=hs;clear hs;have hq:∀X:World,(binOp .eql 33 (.slice (some ad) m c) (.slice none 0 0)).run Tryz.prog X= .ok (.bool false) X:=λX=>Lib.run_eql_slice_nil X _ _ (some ad) m c 0 0 elW.ht;go_enter Tryz.func79,Tryz.ntmps79;go_wp2_with (at_builtin;refine y0C elW rfl _ _ rfl w.heap.size w.heap.size (u0G w _) nl0 (some ad) m c news rfl rfl ?hs hm (by omega) ?_)
  case hs=>exact HS.out.later (bl1 _)
  intro v' w' h1 h2 _;have B2:Below w.heap.size w w' :=(bl1 _).trans (h2.mono (by simp));go_wp2;go_ret
  exact⟨_,rfl,h1,B2⟩
theorem x3f(w:World)(a:Option Addr)(m c:Nat)(news:List Value)(hs:v0q w a m 8 news)(hm:m<=16777216):
 Calls Tryz.prog 78 #[.slice a m c] w λe w' =>∃x,e= .returned x/\w'.ownsRow w.heap.size 90 8 x m news/\Below w.heap.size w w' :=by
 cases a with
 |none=>
  obtain⟨rfl,rfl⟩:=hs.none_ (by omega);have hq:∀X:World,(binOp .eql 32 (.slice none 0 c) (.slice none 0 0)).run Tryz.prog X= .ok (.bool true) X:=λX=>Lib.run_eql_slice_nil X _ _ none 0 c 0 0 elO.ht;go_enter Tryz.func78,Tryz.ntmps78;go_wp2;go_ret
  exact⟨_,rfl,World.ownsRow_nil _ _ _ _,bl0⟩
 |some ad=>
  have HS:Hid (v0q w (some ad) m 8 news):=hs;clear hs;have hq:∀X:World,(binOp .eql 32 (.slice (some ad) m c) (.slice none 0 0)).run Tryz.prog X= .ok (.bool false) X:=λX=>Lib.run_eql_slice_nil X _ _ (some ad) m c 0 0 elO.ht;go_enter Tryz.func78,Tryz.ntmps78;go_wp2_with (at_builtin;refine y0C elO rfl _ _ rfl w.heap.size w.heap.size (u0G w _) nl0 (some ad) m c news rfl rfl ?hs hm (by omega) ?_)
  case hs=>exact HS.out.later (bl1 _)
  intro v' w' h1 h2 _;have B2:Below w.heap.size w w' :=(bl1 _).trans (h2.mono (by simp));go_wp2;go_ret
  exact⟨_,rfl,h1,B2⟩
open Go.RowKit
variable{a:Act}{K:Act → World → Prop}{af:Array Edge}{Q:Exit → Act → World → Prop}{pos:String}{ty:TypeId}
theorem q0x{t:Tmp}{v:Value}(h:a.eval (.tmp t)=v):a.tmps[t]?.getD undef=v:=by rw[<-h];simp[Act.eval,Array.getD_eq_getD_getElem?]
theorem v0f{t i:Tmp}{X:World}{P:Nat}(k:Nat)(hk:k<4)(h1:a.eval (.tmp i)= .pointer (some ⟨P,0,none⟩))(hK:K (a.put (some t) (.pointer (some ⟨P,k,none⟩))) X):
 Oper.wp Tryz.prog ⟨some t,.fieldAddr 35 (.tmp i) k,ty,pos,af,none⟩ a X K Q:=by
 have h:=q0x h1
 match k,hk with
 |0,_=>go_simp;exact hK
 |1,_=>go_simp;exact hK
 |2,_=>go_simp;exact hK
 |3,_=>go_simp;exact hK
theorem u0A{t i:Tmp}{X:World}{P k:Nat}{v:Value}(h1:a.eval (.tmp i)= .pointer (some ⟨P,k,none⟩))(hc:X.cell? ⟨P,k,none⟩=some v)(hK:K (a.put (some t) v) X):
 Oper.wp Tryz.prog ⟨some t,.load 32 (.tmp i),ty,pos,af,none⟩ a X K Q:=by
 have h:=q0x h1;go_simp;exact hK
theorem u2F{t i:Tmp}{X:World}{P k:Nat}{v:Value}(h1:a.eval (.tmp i)= .pointer (some ⟨P,k,none⟩))(hc:X.cell? ⟨P,k,none⟩=some v)(hK:K (a.put (some t) v) X):
 Oper.wp Tryz.prog ⟨some t,.load 33 (.tmp i),ty,pos,af,none⟩ a X K Q:=by
 have h:=q0x h1;go_simp;exact hK
theorem x0E{t i:Tmp}{X:World}{P k:Nat}{v:Value}(h1:a.eval (.tmp i)= .pointer (some ⟨P,k,none⟩))(hc:X.cell? ⟨P,k,none⟩=some v)(hK:K (a.put (some t) v) X):
 Oper.wp Tryz.prog ⟨some t,.load 24 (.tmp i),ty,pos,af,none⟩ a X K Q:=by
 have h:=q0x h1;go_simp;exact hK
theorem u2E{t i:Tmp}{X:World}{P k:Nat}{v:Value}(h1:a.eval (.tmp i)= .pointer (some ⟨P,k,none⟩))(hc:X.cell? ⟨P,k,none⟩=some v)(hK:K (a.put (some t) v) X):
 Oper.wp Tryz.prog ⟨some t,.load 25 (.tmp i),ty,pos,af,none⟩ a X K Q:=by
 have h:=q0x h1;go_simp;exact hK
theorem x5v{t:Tmp}{X:World}(hK:K (a.put (some t) (.slice (some ⟨X.heap.size,0,none⟩) 0 0)) (X.alloc (.cells #[] 95))):
 Oper.wp Tryz.prog ⟨some t,.buildSlice 33 0 #[],ty,pos,af,none⟩ a X K Q:=by go_simp;exact hK
theorem v3t{t:Tmp}{X:World}(hK:K (a.put (some t) (.slice (some ⟨X.heap.size,0,none⟩) 0 0)) (X.alloc (.cells #[] 3))):
 Oper.wp Tryz.prog ⟨some t,.buildSlice 24 0 #[],ty,pos,af,none⟩ a X K Q:=by go_simp;exact hK
theorem x5t{t:Tmp}{X:World}(hK:K (a.put (some t) (.slice (some ⟨X.heap.size,0,none⟩) 0 0)) (X.alloc (.cells #[] 9))):
 Oper.wp Tryz.prog ⟨some t,.buildSlice 25 0 #[],ty,pos,af,none⟩ a X K Q:=by go_simp;exact hK
theorem q2F{t:Tmp}{X:World}(hK:K (a.put (some t) (.pointer (some ⟨X.heap.size,0,none⟩))) (X.alloc (.cells #[.slice none 0 0,.slice none 0 0,.slice none 0 0,.slice none 0 0] 35))):
 Oper.wp Tryz.prog ⟨some t,.alloc 35,ty,pos,af,none⟩ a X K Q:=by go_simp;exact hK
theorem j4M{t i j k:Tmp}{X:World}{x y z:Option Addr}{n m l c d e:Nat}(h1:a.eval (.tmp i)= .slice x n c)(h2:a.eval (.tmp j)= .slice y m d)(h3:a.eval (.tmp k)= .slice z l e)(hK:K (a.put (some t) (.agg #[.slice none 0 0,.slice x n c,.slice y m d,.slice z l e])) X):Oper.wp Tryz.prog ⟨some t,.build 35 #[(1,.tmp i),(2,.tmp j),(3,.tmp k)],ty,pos,af,none⟩ a X K Q:=by have e1:=q0x h1;have e2:=q0x h2;have e3:=q0x h3;go_simp;exact hK
theorem j4N{t h i j k:Tmp}{X:World}{x0 x y z:Option Addr}{n0 n m l c0 c d e:Nat}(h0:a.eval (.tmp h)= .slice x0 n0 c0)(h1:a.eval (.tmp i)= .slice x n c)(h2:a.eval (.tmp j)= .slice y m d)(h3:a.eval (.tmp k)= .slice z l e)(hK:K (a.put (some t) (.agg #[.slice x0 n0 c0,.slice x n c,.slice y m d,.slice z l e])) X):Oper.wp Tryz.prog ⟨some t,.build 35 #[(0,.tmp h),(1,.tmp i),(2,.tmp j),(3,.tmp k)],ty,pos,af,none⟩ a X K Q:=by have e0:=q0x h0;have e1:=q0x h1;have e2:=q0x h2;have e3:=q0x h3;go_simp;exact hK
def q0d(X:World)(g:Nat)(x0 x1 x2 x3:Value):Prop:=X.heap[g]? =some (.cells #[x0,x1,x2,x3] 35 (0,0))
theorem q0d.cell{X:World}{g:Nat}{x0 x1 x2 x3:Value}(h:q0d X g x0 x1 x2 x3)(k:Nat):X.cell? ⟨g,k,none⟩=(#[x0,x1,x2,x3]:Array Value)[k]?:=by have h' :X.heap[g]? =some (.cells #[x0,x1,x2,x3] 35 (0,0)):=h;simp[World.cell?,h']
theorem q0d.frozen{X:World}{g:Nat}{x0 x1 x2 x3:Value}(h:q0d X g x0 x1 x2 x3)(k:Nat):X.frozen? ⟨g,k,none⟩=false:=by have h' :X.heap[g]? =some (.cells #[x0,x1,x2,x3] 35 (0,0)):=h;simp[World.frozen?,h']
theorem q0d.lt{X:World}{g:Nat}{x0 x1 x2 x3:Value}(h:q0d X g x0 x1 x2 x3):g<X.heap.size:=(Array.getElem?_eq_some_iff.1 h).1
theorem q0d.same{X Y:World}{g:Nat}{x0 x1 x2 x3:Value}(h:q0d X g x0 x1 x2 x3)(hs:Y.heap[g]? =X.heap[g]?):q0d Y g x0 x1 x2 x3:=hs.trans h
def q0p(X:World)(g:Nat)(y0 y1 y2 y3:Value):World:=(((X.setCell ⟨g,0,none⟩ y0).setCell ⟨g,1,none⟩ y1).setCell ⟨g,2,none⟩ y2).setCell ⟨g,3,none⟩ y3
theorem v0t{i j:Tmp}{X:World}{g:Nat}{u0 u1 u2 u3:Value}{x0 x y z:Option Addr}{n0 n m l c0 c d e:Nat}(h1:a.eval (.tmp i)= .pointer (some ⟨g,0,none⟩))(h2:a.eval (.tmp j)= .agg #[.slice x0 n0 c0,.slice x n c,.slice y m d,.slice z l e])(hf:q0d X g u0 u1 u2 u3)(hK:K a (q0p X g (.slice x0 n0 c0) (.slice x n c) (.slice y m d) (.slice z l e))):Oper.wp Tryz.prog ⟨none,.store 35 (.tmp i) (.tmp j),ty,pos,af,none⟩ a X K Q:=by have e1:=q0x h1;have e2:=q0x h2;have k0:X.cell? ⟨g,0,none⟩=some u0:=hf.cell 0;have k1:X.cell? ⟨g,1,none⟩=some u1:=hf.cell 1;have k2:X.cell? ⟨g,2,none⟩=some u2:=hf.cell 2;have k3:X.cell? ⟨g,3,none⟩=some u3:=hf.cell 3;have f0:=hf.frozen 0;have f1:=hf.frozen 1;have f2:=hf.frozen 2;have f3:=hf.frozen 3;go_simp;exact hK
theorem z0U(X:World)(g:Nat)(y0 y1 y2 y3:Value):(q0p X g y0 y1 y2 y3).heap.size=X.heap.size:=by unfold q0p;simp[World.setCell]
theorem q0T(X:World)(g:Nat)(y0 y1 y2 y3:Value)(i:Nat)(h:i≠g):(q0p X g y0 y1 y2 y3).heap[i]? =X.heap[i]?:=by unfold q0p;iterate 4 rw[heap_setCell_other _ _ _ _ (by exact h)]
open Go.RowKit
variable{a:Act}{K:Act → World → Prop}{af:Array Edge}{ops:Array Oper}{Q:Exit → Act → World → Prop}{pos:String}{ty:TypeId}
theorem z0p{t i:Tmp}{X:World}{v:Value}(h1:a.eval (.tmp i)=v)(hK:K (a.put (some t) v) X):
 Oper.wp Tryz.prog ⟨some t,.move (.tmp i),ty,pos,af,none⟩ a X K Q:=by
 have h:=q0x h1;go_simp;exact hK
theorem q1y{t i j:Tmp}{X:World}{g n c k:Nat}(h1:a.eval (.tmp i)= .slice (some ⟨g,0,none⟩) n c)(h2:a.eval (.tmp j)= .int .i64 (k:Int))(hk:k<n)(hK:K (a.put (some t) (.pointer (some ⟨g,k*8,none⟩))) X):
 Oper.wp Tryz.prog ⟨some t,.indexAddr 32 (.tmp i) (.tmp j),ty,pos,af,none⟩ a X K Q:=by
 have e1:=q0x h1;have e2:=q0x h2;have k1:(0:Int)<=(k:Int):=by omega
 have k2:(k:Int)<(n:Int):=by omega
 go_simp;exact hK
theorem x2G{t i:Tmp}{X:World}{g p:Nat}(h1:a.eval (.tmp i)= .pointer (some ⟨g,p,none⟩))(hK:K (a.put (some t) (.pointer (some ⟨g,p+5,none⟩))) X):
 Oper.wp Tryz.prog ⟨some t,.fieldAddr 90 (.tmp i) 5,ty,pos,af,none⟩ a X K Q:=by
 have h:=q0x h1;go_simp;exact hK
theorem z0V{t i:Tmp}{X:World}{g p:Nat}{v:Value}(h1:a.eval (.tmp i)= .pointer (some ⟨g,p,none⟩))(hc:X.cell? ⟨g,p,none⟩=some v)(hK:K (a.put (some t) v) X):
 Oper.wp Tryz.prog ⟨some t,.load 3 (.tmp i),ty,pos,af,none⟩ a X K Q:=by
 have h:=q0x h1;go_simp;exact hK
theorem v4A{t i:Tmp}{X:World}{z:Int}(h1:a.eval (.tmp i)= .int .i64 z)(hK:K (a.put (some t) (.int .i64 (wrap64 (z - 1)))) X):
 Oper.wp Tryz.prog ⟨some t,.binOp .sub 3 (.tmp i) (.const (.int .i64 1)) 3,ty,pos,af,none⟩ a X K Q:=by
 have h:=q0x h1;have e:IntKind.i64.wrap (z - 1)=wrap64 (z - 1):=by rw[IntKind.wrap_i64];simp only[wrap64]
 go_simp;exact hK
theorem q1e{i j:Tmp}{X:World}{g p:Nat}{u:Value}{z:Int}(h1:a.eval (.tmp i)= .pointer (some ⟨g,p,none⟩))(h2:a.eval (.tmp j)= .int .i64 z)(hc:X.cell? ⟨g,p,none⟩=some u)(hf:X.frozen? ⟨g,p,none⟩=false)(hK:K a (X.setCell ⟨g,p,none⟩ (.int .i64 z))):
 Oper.wp Tryz.prog ⟨none,.store 3 (.tmp i) (.tmp j),ty,pos,af,none⟩ a X K Q:=by
 have e1:=q0x h1;have e2:=q0x h2;go_simp;exact hK
theorem x0T{w:World}{rest:List Oper}{o:Oper}(hgd:o.guard=none)(s x:Operand)(ho:o.op= .call {callee:= .builtin .append,args:= #[s,x],argTypes:= #[24,24]})(B:Nat)(v:Value)(P:List Int)(hs:a.eval s=v)(hown:q0i w B v P)(ad:Addr)(z:Int)(hx:a.eval x= .slice (some ad) 1 1)(hsrc:w.cell? ad=some (.int .i64 z))(hlen:P.length<=16777215)(hB:B<=w.heap.size)(h:∀v' w',q0i w' B v' (P++[z])->w.heap.size<=w'.heap.size->Hid (∀i,i<w.heap.size->v.ownBlock≠some i->w'.heap[i]? =w.heap[i]?)->Hid (v'.ownBlock=v.ownBlock\/v'.ownBlock=some w.heap.size)->Hid (∀C w0,Below C w0 w->C<=B->Below C w0 w')->wpList Tryz.prog ops Q rest (a.put o.dst v') w'):wpList Tryz.prog ops Q (o::rest) a w:=by
 obtain⟨i0,hi,hz0,hz1,hz2⟩:=info_parts u1E;have hlt:=World.ownsRow.lt hown;refine wpList_append_own_at w hgd s x 24 ho B 3 i0 (.int .i64 0) 1 8 Tryz.underlying24 hi hz0 hz1 hz2 rfl (by decide) v P.length (P.map z0C) hs hown ad 1 1 [z0C z] hx rfl ?_ ?_ ?_ ?_ hB ?_
 ·intro j u hj
  match j,hj with
  |0,hj=>simp at hj;subst hj;rw[show ad.add 0=ad from by cases ad;simp[Addr.add]];exact hsrc
  |j+1,hj=>simp at hj
 ·intro u hu;simp at hu;subst hu;rfl
 ·unfold maxLen;omega
 ·omega
 ·intro v' w' hown' hgrow _ hat;refine h v' w' ?_ hgrow.size (λi hi hne=>hgrow.block i hi (λe=>hne e.symm)) hat (λC w0 hb hC=> ?_)
  ·unfold q0i;rw[List.length_append,List.map_append];exact hown'
  ·exact⟨hgrow.os.trans hb.os,hgrow.tape.trans hb.tape,hgrow.output.trans hb.output,Nat.le_trans hb.size hgrow.size,λk hk=>(hgrow.block k (by omega) (λe=>by have:=(hlt k e.symm).1;omega)).trans (hb.block k hk)⟩
open Go.RowKit
theorem y2n{α:Type}(f:α->List Value)(sz:Nat)(hf:∀x,(f x).length=sz):∀l:List α,(l.flatMap f).length=l.length*sz:=by
 intro l
 induction l with
 |nil=>simp
 |cons x r ih=>rw[List.flatMap_cons,List.length_append,ih,hf,List.length_cons,Nat.add_mul];omega
theorem u2l{α:Type}(f:α->List Value)(sz:Nat)(hf:∀x,(f x).length=sz):∀(l:List α)(j k:Nat)(hj:j<l.length)(hk:k<sz),(l.flatMap f)[j*sz+k]? =(f l[j])[k]?:=by
 intro l
 induction l with
 |nil=>intro j k hj;simp at hj
 |cons x r ih=>
  intro j k hj hk;rw[List.flatMap_cons]
  cases j with
  |zero=>rw[List.getElem?_append_left (by rw[hf];omega)];simp
  |succ j=>rw[List.getElem?_append_right (by rw[hf,Nat.add_mul];omega),hf,show(j+1)*sz+k - sz=j*sz+k from by rw[Nat.add_mul];omega,ih j k (by simpa using hj) hk];simp
theorem u3f{α:Type}(f:α->List Value)(sz:Nat)(hs:0<sz)(hf:∀x,(f x).length=sz)(l:List α)(i:Nat)(u:Value)(h:(l.flatMap f)[i]? =some u):∃j k,∃hj:j<l.length,k<sz/\i=j*sz+k/\(f l[j])[k]? =some u:=by
 have hi:i<l.length*sz:=by rw[<-y2n f sz hf];exact(List.getElem?_eq_some_iff.1 h).1
 have hj:i / sz<l.length:=(Nat.div_lt_iff_lt_mul hs).2 hi;have hk:i%sz<sz:=Nat.mod_lt _ hs;have e:i=i / sz*sz+i%sz:=by rw[Nat.mul_comm];exact(Nat.div_add_mod i sz).symm
 refine⟨i / sz,i%sz,hj,hk,e,?_⟩;rw[<-u2l f sz hf l _ _ hj hk,<-e];exact h
def u0E(d:x0g):List Value:=[.bool d.used,.int .i64 d.target]
def v0F(p:q0E×OSh):List Value:=[.bool p.1.live,.int .i64 p.1.gen,.int .i64 p.1.site,.int .i64 p.1.holds,.int .i64 p.1.roots,.int .i64 p.1.count,.slice p.2.f p.2.n p.2.c,.bool p.1.purple]
theorem u1s{w:World}{a:Option Addr}{zs:List Int}(h:RdI w a zs):v0q w a zs.length 1 (zs.map z0C):=by refine⟨by simp,λj u hj=> ?_,λu hu=>by obtain⟨z,_,rfl⟩:=List.mem_map.1 hu;rfl⟩;rw[List.getElem?_map]at hj;obtain⟨z,hz,rfl⟩:=Option.map_eq_some_iff.1 hj;obtain⟨hl,rfl⟩:=List.getElem?_eq_some_iff.1 hz;obtain⟨g,off,rfl,_,h2⟩:=h j hl;exact⟨_,rfl,by rw[Addr.add_lit];exact h2⟩
theorem x5L{w:World}{a:Option Addr}{zs:List (List UInt8)}(h:RdS w a zs):v0q w a zs.length 1 (zs.map u0j):=by refine⟨by simp,λj u hj=> ?_,λu hu=>by obtain⟨z,_,rfl⟩:=List.mem_map.1 hu;rfl⟩;rw[List.getElem?_map]at hj;obtain⟨z,hz,rfl⟩:=Option.map_eq_some_iff.1 hj;obtain⟨hl,rfl⟩:=List.getElem?_eq_some_iff.1 hz;obtain⟨g,off,rfl,_,h2⟩:=h j hl;exact⟨_,rfl,by rw[Addr.add_lit];exact h2⟩
theorem x5M{w:World}{a:Option Addr}{ds:List x0g}(h:RdW w a ds):v0q w a ds.length 2 (ds.flatMap u0E):=by
 refine⟨y2n _ 2 (λ_=>rfl) ds,λi u hi=> ?_,λu hu=> ?_⟩
 ·obtain⟨j,k,hj,hk,rfl,hu⟩:=u3f u0E 2 (by omega) (λ_=>rfl) ds i u hi;obtain⟨g,off,rfl,_,h2⟩:=h j hj;refine⟨_,rfl,?_⟩;rw[Addr.add_lit,<-Nat.add_assoc]
  match k,hk with
  |0,_=>rw[<-hu];exact h2.c0
  |1,_=>rw[<-hu];exact h2.c1
 ·obtain⟨d,_,hu⟩:=List.mem_flatMap.1 hu;simp only[u0E,List.mem_cons,List.not_mem_nil,or_false]at hu;rcases hu with rfl|rfl<;>rfl
theorem v5x{w:World}{a:Option Addr}{os:List q0E}(h:RdO w a os):
 ∃fs:List OSh,fs.length=os.length/\(∀j(h1:j<os.length)(h2:j<fs.length),fs[j].n=os[j].field.length/\RdI w fs[j].f os[j].field)/\v0q w a os.length 8 ((os.zip fs).flatMap v0F):=by
 have key:∀i:Fin os.length,∃s:OSh,s.n=os[i].field.length/\RdI w s.f os[i].field/\∃g off,a=some ⟨g,off,none⟩/\x0G w g (off+i.1*8) os[i] (.slice s.f s.n s.c):=by intro i;obtain⟨g,off,f,fc,h1,_,h3,h4⟩:=h i.1 i.2;exact⟨⟨f,_,fc⟩,rfl,h4,g,off,h1,h3⟩
 refine⟨List.ofFn (λi=>Classical.choose (key i)),by simp,?_,?_⟩
 ·intro j h1 h2;rw[List.getElem_ofFn];have:=Classical.choose_spec (key ⟨j,h1⟩);exact⟨this.1,this.2.1⟩
 ·have hl:(os.zip (List.ofFn (λi=>Classical.choose (key i)))).length=os.length:=by simp
  refine⟨by rw[y2n v0F 8 (λ_=>rfl),hl],λi u hi=> ?_,λu hu=> ?_⟩
  ·obtain⟨j,k,hj,hk,rfl,hu⟩:=u3f v0F 8 (by omega) (λ_=>rfl) _ i u hi;have hj2:j<os.length:=by rw[hl]at hj;exact hj
   rw[List.getElem_zip,List.getElem_ofFn]at hu;obtain⟨g,off,h1,h2⟩:=(Classical.choose_spec (key ⟨j,hj2⟩)).2.2;refine⟨_,h1,?_⟩;rw[Addr.add_lit,<-Nat.add_assoc]
   match k,hk with
   |0,_=>rw[<-hu];exact h2.c0
   |1,_=>rw[<-hu];exact h2.c1
   |2,_=>rw[<-hu];exact h2.c2
   |3,_=>rw[<-hu];exact h2.c3
   |4,_=>rw[<-hu];exact h2.c4
   |5,_=>rw[<-hu];exact h2.c5
   |6,_=>rw[<-hu];exact h2.c6
   |7,_=>rw[<-hu];exact h2.c7
  ·obtain⟨p,_,hu⟩:=List.mem_flatMap.1 hu;simp only[v0F,List.mem_cons,List.not_mem_nil,or_false]at hu;rcases hu with rfl|rfl|rfl|rfl|rfl|rfl|rfl|rfl<;>rfl
theorem y0s{w:World}{B n size:Nat}{e:TypeId}{v:Value}{xs:List Value}(h:w.ownsRow B e size v n xs):∃a c,v= .slice a n c/\(∀x,a=some x->∃g,x=⟨g,0,none⟩/\B<=g/\g<w.heap.size/\∃cur,w.heap[g]? =some (.cells cur e (0,0)))/\(0<n->∃g,a=some ⟨g,0,none⟩):=by
 rcases h with⟨h1,⟨h2,h3⟩|⟨g,cap,cur,h2,h3,h4,h5,h6,h7⟩⟩
 ·exact⟨none,0,by rw[h2,h3],(λx hx=>by cases hx),λh=>by omega⟩
 ·exact⟨_,cap,h2,(λx hx=>by injection hx with hx;exact⟨g,hx.symm,h3,(Array.getElem?_eq_some_iff.1 h4).1,cur,h4⟩),λ_=>⟨g,rfl⟩⟩
theorem j1O{w:World}{B n size c:Nat}{e:TypeId}{a:Option Addr}{xs:List Value}(h:w.ownsRow B e size (.slice a n c) n xs):n<=c:=by
 rcases h with⟨h1,⟨h2,h3⟩|⟨g,cap,cur,h2,h3,h4,h5,h6,h7⟩⟩
 ·simp only[Value.slice.injEq]at h2;omega
 ·simp only[Value.slice.injEq]at h2;omega
theorem q1X{w:World}{B C n m sz sz2:Nat}{e e2:TypeId}{a b:Option Addr}{c d:Nat}{xs ys:List Value}(h1:w.ownsRow B e sz (.slice a n c) n xs)(h2:w.ownsRow C e2 sz2 (.slice b m d) m ys)(hne:e≠e2):Dif a b:=by intro x y hx hy he;obtain⟨a1,c1,e1,f1,_⟩:=y0s h1;obtain⟨a2,c2,e3,f2,_⟩:=y0s h2;simp only[Value.slice.injEq]at e1 e3;obtain⟨g,rfl,_,_,cur,h3⟩:=f1 x (by rw[<-e1.1];exact hx);obtain⟨g2,rfl,_,_,cur2,h4⟩:=f2 y (by rw[<-e3.1];exact hy);simp only at he;subst he;rw[h3]at h4;injection h4 with h4;injection h4 with _ h5 _;exact hne h5
theorem u1L{w:World}{B n size:Nat}{e:TypeId}{a:Option Addr}{c:Nat}{xs:List Value}(h:w.ownsRow B e size (.slice a n c) n xs):∀x,a=some x->B<=x.block/\x.block<w.heap.size:=λx hx=>World.ownsRow.lt h _ (x0b hx)
theorem q3X{w:World}{B n size:Nat}{e:TypeId}{a:Option Addr}{c:Nat}{xs:List Value}(h:w.ownsRow B e size (.slice a n c) n xs)(i:Nat)(hi:i<n*size):∃g,a=some ⟨g,0,none⟩/\w.cell? ⟨g,i,none⟩=xs[i]?/\w.frozen? ⟨g,i,none⟩=false:=by
 have hn:0<n:=by rcases Nat.eq_zero_or_pos n with e|e; ·rw[e]at hi;simp at hi
                 ·exact e
 obtain⟨a1,c1,e1,_,f1⟩:=y0s h;simp only[Value.slice.injEq]at e1;obtain⟨g,hg⟩:=f1 hn;have ha:a=some ⟨g,0,none⟩:=by rw[e1.1];exact hg
 rw[ha]at h;exact⟨g,ha,World.ownsRow.cellAt h i hi,World.ownsRow.frozenAt h i⟩
theorem q3Y{w:World}{B:Nat}{a:Option Addr}{c:Nat}{ds:List x0g}(h:w.ownsRow B 95 2 (.slice a ds.length c) ds.length (ds.flatMap u0E)):∀j(h:j<ds.length),∃g,a=some ⟨g,0,none⟩/\j0y w g (j*2) ds[j]/\∀k,k<2->w.frozen? ⟨g,j*2+k,none⟩=false:=by
 intro j hj
 have at_:∀k,k<2->∃g,a=some ⟨g,0,none⟩/\w.cell? ⟨g,j*2+k,none⟩=(u0E ds[j])[k]?/\w.frozen? ⟨g,j*2+k,none⟩=false:=by intro k hk;obtain⟨g,h1,h2,h3⟩:=q3X h (j*2+k) (by omega);exact⟨g,h1,by rw[h2];exact u2l u0E 2 (λ_=>rfl) ds j k hj hk,h3⟩
 obtain⟨g,h1,h2,h3⟩:=at_ 0 (by omega)
 have at2:∀k,k<2->w.cell? ⟨g,j*2+k,none⟩=(u0E ds[j])[k]?/\w.frozen? ⟨g,j*2+k,none⟩=false:=by intro k hk;obtain⟨g2,e1,e2,e3⟩:=at_ k hk;rw[h1]at e1;injection e1 with e1;injection e1 with e1 _ _;subst e1;exact⟨e2,e3⟩
 exact⟨g,h1,⟨(at2 0 (by omega)).1,(at2 1 (by omega)).1⟩,λk hk=>(at2 k hk).2⟩
theorem v3K{w:World}{B:Nat}{a:Option Addr}{c:Nat}{os:List q0E}{fs:List OSh}(hl:fs.length=os.length)(h:w.ownsRow B 90 8 (.slice a os.length c) os.length ((os.zip fs).flatMap v0F)):
 ∀j(h:j<os.length)(h2:j<fs.length),∃g,a=some ⟨g,0,none⟩/\x0G w g (j*8) os[j] (.slice fs[j].f fs[j].n fs[j].c)/\∀k,k<8->w.frozen? ⟨g,j*8+k,none⟩=false:=by
 intro j hj hj2;have hz:j<(os.zip fs).length:=by simp[hl,hj]
 have hzj:(os.zip fs)[j]=(os[j],fs[j]):=by simp
 have at_:∀k,k<8->∃g,a=some ⟨g,0,none⟩/\w.cell? ⟨g,j*8+k,none⟩=(v0F (os[j],fs[j]))[k]?/\w.frozen? ⟨g,j*8+k,none⟩=false:=by intro k hk;obtain⟨g,h1,h2,h3⟩:=q3X h (j*8+k) (by omega);exact⟨g,h1,by rw[h2,u2l v0F 8 (λ_=>rfl) _ j k hz hk,hzj],h3⟩
 obtain⟨g,h1,h2,h3⟩:=at_ 0 (by omega)
 have at2:∀k,k<8->w.cell? ⟨g,j*8+k,none⟩=(v0F (os[j],fs[j]))[k]?/\w.frozen? ⟨g,j*8+k,none⟩=false:=by intro k hk;obtain⟨g2,e1,e2,e3⟩:=at_ k hk;rw[h1]at e1;injection e1 with e1;injection e1 with e1 _ _;subst e1;exact⟨e2,e3⟩
 exact⟨g,h1,⟨(at2 0 (by omega)).1,(at2 1 (by omega)).1,(at2 2 (by omega)).1,(at2 3 (by omega)).1,(at2 4 (by omega)).1,(at2 5 (by omega)).1,(at2 6 (by omega)).1,(at2 7 (by omega)).1⟩,λk hk=>(at2 k hk).2⟩
open Go.RowKit
variable{a:Act}{ops:Array Oper}{Q:Exit → Act → World → Prop}{H:q0a}
theorem q0d.set0{X:World}{g:Nat}{x0 x1 x2 x3:Value}(h:q0d X g x0 x1 x2 x3)(u:Value):q0d (X.setCell ⟨g,0,none⟩ u) g u x1 x2 x3:=heap_setCell_same X g 0 _ _ u h
theorem q0d.set2{X:World}{g:Nat}{x0 x1 x2 x3:Value}(h:q0d X g x0 x1 x2 x3)(u:Value):q0d (X.setCell ⟨g,2,none⟩ u) g x0 x1 u x3:=heap_setCell_same X g 2 _ _ u h
theorem q0d.setAll{X:World}{g:Nat}{x0 x1 x2 x3:Value}(h:q0d X g x0 x1 x2 x3)(y0 y1 y2 y3:Value):q0d (q0p X g y0 y1 y2 y3) g y0 y1 y2 y3:=
 heap_setCell_same _ g 3 _ _ y3 (heap_setCell_same _ g 2 _ _ y2 (heap_setCell_same _ g 1 _ _ y1 (heap_setCell_same X g 0 _ _ y0 h)))
theorem q0d.later{X Y:World}{g:Nat}{x0 x1 x2 x3:Value}(h:q0d X g x0 x1 x2 x3)(hb:Below X.heap.size X Y):q0d Y g x0 x1 x2 x3:=(hb.block g h.lt).trans h
theorem q0d.new(X:World)(x0 x1 x2 x3:Value):q0d (X.alloc (.cells #[x0,x1,x2,x3] 35)) X.heap.size x0 x1 x2 x3:=heap_alloc_new X _
def OBx(X:World)(b:Nat)(o:q0E)(f:Value):Prop:=X.heap[b]? =some (.cells #[.bool o.live,.int .i64 o.gen,.int .i64 o.site,.int .i64 o.holds,.int .i64 o.roots,.int .i64 o.count,f,.bool o.purple] 90 (0,0))
theorem OBx.cell{X:World}{b:Nat}{o:q0E}{f:Value}(h:OBx X b o f)(j:Nat):X.cell? ⟨b,j,none⟩=(#[.bool o.live,.int .i64 o.gen,.int .i64 o.site,.int .i64 o.holds,.int .i64 o.roots,.int .i64 o.count,f,.bool o.purple]:Array Value)[j]?:=by rw[World.cell?,show X.heap[b]? =_ from h];rfl
theorem OBx.frozen{X:World}{b:Nat}{o:q0E}{f:Value}(h:OBx X b o f)(j:Nat):X.frozen? ⟨b,j,none⟩=false:=by have h' :X.heap[b]? =_:=h;simp[World.frozen?,h']
theorem OBx.lt{X:World}{b:Nat}{o:q0E}{f:Value}(h:OBx X b o f):b<X.heap.size:=(Array.getElem?_eq_some_iff.1 h).1
theorem OBx.later{X Y:World}{b:Nat}{o:q0E}{f:Value}(h:OBx X b o f)(hb:Below X.heap.size X Y):OBx Y b o f:=(hb.block b h.lt).trans h
theorem x1a{w w' :World}{B n size:Nat}{e:TypeId}{v:Value}{xs:List Value}(h:w.ownsRow B e size v n xs)(hs:∀g,v.ownBlock=some g->w'.heap[g]? =w.heap[g]?):w'.ownsRow B e size v n xs:=by
 rcases h with⟨h1,h2|⟨g,cap,cur,h2,h3,h4,h5⟩⟩
 ·exact⟨h1,.inl h2⟩
 ·exact⟨h1,.inr ⟨g,cap,cur,h2,h3,by rw[hs g (by rw[h2];rfl)];exact h4,h5⟩⟩
theorem x0s{w w' :World}{B n size:Nat}{e:TypeId}{v:Value}{xs:List Value}(h:w.ownsRow B e size v n xs)(hb:Below w.heap.size w w'):w'.ownsRow B e size v n xs:=x1a h (λg hg=>hb.block g (World.ownsRow.lt h g hg).2)
theorem v1f{w:World}{B C n size:Nat}{e:TypeId}{v:Value}{xs:List Value}(h:w.ownsRow B e size v n xs)(hC:C<=B):w.ownsRow C e size v n xs:=by
 rcases h with⟨h1,h2|⟨g,cap,cur,h2,h3,h4⟩⟩
 ·exact⟨h1,.inl h2⟩
 ·exact⟨h1,.inr ⟨g,cap,cur,h2,by omega,h4⟩⟩
theorem y0t{w:World}{B n size:Nat}{e:TypeId}{v:Value}{xs:List Value}(h:w.ownsRow B e size v n xs)(g:Nat)(hg:v.ownBlock=some g):∃cur,w.heap[g]? =some (.cells cur e (0,0)):=by
 rcases h with⟨h1,⟨h2,_⟩|⟨g2,cap,cur,h2,h3,h4,h5⟩⟩
 ·rw[h2]at hg;cases hg
 ·rw[h2]at hg;injection hg with hg;exact⟨cur,by rw[<-hg];exact h4⟩
theorem y0O{w:World}{g g2:Nat}{c c2:Array Value}{e e2:TypeId}(h:w.heap[g]? =some (.cells c e (0,0)))(h2:w.heap[g2]? =some (.cells c2 e2 (0,0)))(hne:e≠e2):g≠g2:=by intro he;subst he;rw[h]at h2;injection h2 with h2;injection h2 with _ h3 _;exact hne h3
theorem q3e{w:World}{rest:List Oper}{o:Oper}(hgd:o.guard=none)(s x:Operand)(ho:o.op= .call {callee:= .builtin .append,args:= #[s,x],argTypes:= #[32,32]})(B:Nat)(v:Value)(n:Nat)(xs:List Value)(hs:a.eval s=v)(hown:w.ownsRow B 90 8 v n xs)(g:Nat)(p:q0E×OSh)(hx:a.eval x= .slice (some ⟨g,0,none⟩) 1 1)(hb:OBx w g p.1 (.slice p.2.f p.2.n p.2.c))(hn:n<=1677721)(hB:B<=w.heap.size)(h:∀v' w',w'.ownsRow B 90 8 v' (n+1) (xs++v0F p)->w.grownBy w' v.ownBlock->wpList Tryz.prog ops Q rest (a.put o.dst v') w'):wpList Tryz.prog ops Q (o::rest) a w:=by
 obtain⟨i0,hi,hz0,hz1,hz2⟩:=info_parts z3X;refine wpList_append_own w hgd s x 32 ho B 90 i0 _ 8 80 Tryz.underlying32 hi hz0 hz1 hz2 rfl (by decide) v n xs hs hown ⟨g,0,none⟩ 1 1 (v0F p) hx rfl ?_ ?_ ?_ ?_ hB (λv' w' h1 h2 _=>h v' w' h1 h2)
 ·intro j u hj;rw[Addr.add_lit,Nat.zero_add,hb.cell j];simpa[v0F]using hj
 ·intro u hu;simp only[v0F,List.mem_cons,List.not_mem_nil,or_false]at hu;rcases hu with rfl|rfl|rfl|rfl|rfl|rfl|rfl|rfl<;>rfl
 ·unfold maxLen;omega
 ·omega
structure CI(W wr:World)(B g:Nat)(H:q0a)(vo:Value)(wa:Option Addr)(wc:Nat)(ba:Option Addr)(bc:Nat)(sa:Option Addr)(sc:Nat)(fs:List OSh)(j:Nat):Prop where
 bel:Below B W wr
 x:q0d wr g vo (.slice wa H.weaks.length wc) (.slice ba H.buffer.length bc) (.slice sa H.sites.length sc)
 gB:B<=g
 ro:wr.ownsRow B 90 8 vo j (((H.objs.take j).zip fs).flatMap v0F)
 rw:wr.ownsRow B 95 2 (.slice wa H.weaks.length wc) H.weaks.length (H.weaks.flatMap u0E)
 rb:q0i wr B (.slice ba H.buffer.length bc) H.buffer
 rs:z0E wr B (.slice sa H.sites.length sc) H.sites
 jl:j<=H.objs.length
 fl:fs.length=j
 f:∀i(h:i<fs.length)(h2:i<H.objs.length),fs[i].n=H.objs[i].field.length/\q0i wr B (.slice fs[i].f fs[i].n fs[i].c) H.objs[i].field
 ff:fs.Pairwise (λt u=>Dif t.f u.f)
 fb:∀t∈fs,Dif ba t.f
theorem q5o{W wr w5 w6:World}{B g:Nat}{vo v2:Value}{wa:Option Addr}{wc:Nat}{ba:Option Addr}{bc:Nat}{sa:Option Addr}{sc:Nat}{fs:List OSh}{j:Nat}(h:CI W wr B g H vo wa wc ba bc sa sc fs j)(hB:B<=wr.heap.size)(hj:j<H.objs.length)(b5:Below wr.heap.size wr w5)(t:OSh)(hn:t.n=H.objs[j].field.length)(ht:q0i w5 wr.heap.size (.slice t.f t.n t.c) H.objs[j].field)(r6:w6.ownsRow B 90 8 v2 (j+1) (((H.objs.take j).zip fs).flatMap v0F++v0F (H.objs[j],t)))(g6:w5.grownBy w6 vo.ownBlock):CI W (w6.setCell ⟨g,0,none⟩ v2) B g H v2 wa wc ba bc sa sc (fs++[t]) (j+1):=by
 have hgl:=h.x.lt;have hs5:=b5.size
 have keep:∀(i:Nat)(cur:Array Value)(e:TypeId),w5.heap[i]? =some (.cells cur e (0,0))->e≠90->e≠35->(w6.setCell ⟨g,0,none⟩ v2).heap[i]? =w5.heap[i]?:=by intro i cur e hi h1 h2;have hi5:i<w5.heap.size:=(Array.getElem?_eq_some_iff.1 hi).1;have hg5:w5.heap[g]? =_:=(b5.block g hgl).trans h.x;rw[heap_setCell_other _ _ _ _ (by exact y0O hi hg5 h2)];refine g6.block i hi5 (λe2=> ?_);obtain⟨cur2,hc⟩:=y0t (x0s h.ro b5) i e2.symm;exact y0O hi hc h1 rfl
 have keepR:∀{n sz C:Nat}{e:TypeId}{v:Value}{xs:List Value},w5.ownsRow C e sz v n xs->e≠90->e≠35->(w6.setCell ⟨g,0,none⟩ v2).ownsRow C e sz v n xs:=by intro n sz C e v xs hr h1 h2;refine x1a hr (λi hi=> ?_);obtain⟨cur,hc⟩:=y0t hr i hi;exact keep i cur e hc h1 h2
 have hx6:w6.heap[g]? =w5.heap[g]?:=g6.block g (by omega) (λe2=>by
  obtain⟨cur2,hc⟩:=y0t (x0s h.ro b5) g e2.symm;exact y0O hc ((b5.block g hgl).trans h.x) (by decide) rfl)
 have hne2:∀i,v2.ownBlock=some i->i≠g:=λi hi=>by
  obtain⟨cur2,hc⟩:=y0t r6 i hi;exact y0O hc (hx6.trans ((b5.block g hgl).trans h.x)) (by decide)
 refine⟨?_,?_,h.gB,?_,keepR (x0s h.rw b5) (by decide) (by decide),keepR (q0o h.rb b5) (by decide) (by decide),keepR (x0V h.rs b5) (by decide) (by decide),hj,by simp[h.fl],?_,?_,?_⟩
 ·refine Below.setCell ?_ h.gB _;refine((h.bel.trans (b5.mono hB)).grown g6 (by omega) (λk hk=> ?_));exact(World.ownsRow.lt h.ro k hk).1
 ·exact q0d.set0 ((h.x.later b5).same hx6) v2
 ·have e1:(H.objs.take (j+1)).zip (fs++[t])=(H.objs.take j).zip fs++[(H.objs[j],t)]:=by
   rw[List.take_succ_eq_append_getElem hj,List.zip_append (by simp[h.fl];omega)];rfl
  rw[e1,List.flatMap_append,List.flatMap_cons,List.flatMap_nil,List.append_nil];exact x1a r6 (λi hi=>heap_setCell_other _ _ _ _ (by exact hne2 i hi))
 ·intro i hi hi2;by_cases e:i<fs.length
  ·rw[List.getElem_append_left e];obtain⟨h1,h2⟩:=h.f i e hi2;exact⟨h1,keepR (q0o h2 b5) (by decide) (by decide)⟩
  ·obtain rfl:i=fs.length:=by simp at hi;omega
   have e2:(fs++[t])[fs.length]=t:=by simp
   have e3:H.objs[fs.length]=H.objs[j]:=by congr 1;exact h.fl
   rw[e2,e3];exact⟨hn,keepR (q0A ht hB) (by decide) (by decide)⟩
 ·rw[List.pairwise_append];refine⟨h.ff,by simp,λa ha b hb=> ?_⟩;simp only[List.mem_singleton]at hb;subst hb;obtain⟨i,hi,rfl⟩:=List.mem_iff_getElem.1 ha;intro x y hx hy e;have h1:=(q0n (h.f i hi (by have:=h.fl;omega)).2 _ (x0b hx)).2;have h2:=(q0n ht _ (x0b hy)).1;omega
 ·intro a ha;rcases List.mem_append.1 ha with ha|ha
  ·exact h.fb a ha
  ·simp only[List.mem_singleton]at ha;subst ha;intro x y hx hy e;have h1:=(q0n h.rb _ (x0b hx)).2;have h2:=(q0n ht _ (x0b hy)).1;omega
theorem z5W{W wr:World}{B g:Nat}{oa:Option Addr}{oc:Nat}{wa:Option Addr}{wc:Nat}{ba:Option Addr}{bc:Nat}{sa:Option Addr}{sc:Nat}{fs:List OSh}(h:CI W wr B g H (.slice oa H.objs.length oc) wa wc ba bc sa sc fs H.objs.length):
 HM wr B ⟨oa,oc,fs,wa,H.weaks.length,wc,ba,H.buffer.length,bc,sa,H.sites.length,sc⟩ H where
 lo:=h.fl
 lw:=rfl
 lb:=rfl
 ls:=rfl
 o:=by have hr:=h.ro;rw[List.take_length]at hr;exact v3K h.fl hr
 f:=λj hj hj2=>h.f j hj2 hj
 og:=u1L h.ro
 wk:=q3Y h.rw
 wg:=u1L h.rw
 b:=h.rb
 st:=h.rs
 sep:=by
  have fk:∀t∈fs,∃zs:List Int,q0i wr B (.slice t.f t.n t.c) zs/\t.n=zs.length:=by intro t ht;obtain⟨i,hi,rfl⟩:=List.mem_iff_getElem.1 ht;have:=h.f i hi (by have:=h.fl;omega);exact⟨_,this.2,this.1⟩
  have fd:∀{n sz:Nat}{e:TypeId}{a:Option Addr}{c:Nat}{xs:List Value},wr.ownsRow B e sz (.slice a n c) n xs->e≠3->∀t∈fs,Dif a t.f:=by intro n sz e a c xs hr hne t ht;obtain⟨zs,hz,hzn⟩:=fk t ht;unfold q0i at hz;rw[<-hzn]at hz;exact q1X hr hz hne
  have hb:=h.rb;have hs:=h.rs;unfold q0i at hb;unfold z0E at hs;exact⟨q1X h.ro h.rw (by decide),q1X h.ro hb (by decide),q1X h.ro hs (by decide),q1X h.rw hb (by decide),q1X h.rw hs (by decide),q1X hb hs (by decide),fd h.ro (by decide),fd h.rw (by decide),h.fb,fd hs (by decide),h.ff⟩
 co:=by have h1:=j1O h.ro;have h2:=h.fl;simp only;omega
 cw:=j1O h.rw
end
section
open Go.RowKit
def RC(B P:Nat)(wa:Option Addr)(wn wc:Nat)(ia:Option Addr)(im ic:Nat)(sa:Option Addr)(sn sc:Nat)(NW NI NS:List Value):Nat->World->Value->Prop
 |0,X,v=>∃g,v= .slice (some ⟨g,0,none⟩) 0 0/\B<=g/\X.heap[g]? =some (.cells #[] 95 (0,0))
 |1,X,v=>v= .pointer (some ⟨P,1,none⟩)
 |2,X,v=>v= .slice wa wn wc
 |3,X,v=>X.ownsRow B 95 2 v wn NW
 |4,X,v=>∃g,v= .slice (some ⟨g,0,none⟩) 0 0/\B<=g/\X.heap[g]? =some (.cells #[] 3 (0,0))
 |5,X,v=>v= .pointer (some ⟨P,2,none⟩)
 |6,X,v=>v= .slice ia im ic
 |7,X,v=>X.ownsRow B 3 1 v im NI
 |8,X,v=>∃g,v= .slice (some ⟨g,0,none⟩) 0 0/\B<=g/\X.heap[g]? =some (.cells #[] 9 (0,0))
 |9,X,v=>v= .pointer (some ⟨P,3,none⟩)
 |10,X,v=>v= .slice sa sn sc
 |11,X,v=>X.ownsRow B 9 1 v sn NS
 |12,X,v=>∃x1 c1 x2 c2 x3 c3,v= .agg #[.slice none 0 0,.slice x1 wn c1,.slice x2 im c2,.slice x3 sn c3]/\X.ownsRow B 95 2 (.slice x1 wn c1) wn NW/\X.ownsRow B 3 1 (.slice x2 im c2) im NI/\X.ownsRow B 9 1 (.slice x3 sn c3) sn NS
 |13,X,v=>∃g,v= .pointer (some ⟨g,0,none⟩)/\B<=g/\q0d X g (.slice none 0 0) (.slice none 0 0) (.slice none 0 0) (.slice none 0 0)
 |_,_,_=>True
theorem q5W{B P:Nat}{wa:Option Addr}{wn wc:Nat}{ia:Option Addr}{im ic:Nat}{sa:Option Addr}{sn sc:Nat}{NW NI NS:List Value}(i:Nat)(X Y:World)(v:Value)(h:RC B P wa wn wc ia im ic sa sn sc NW NI NS i X v)(hb:Below X.heap.size X Y):RC B P wa wn wc ia im ic sa sn sc NW NI NS i Y v:=by
 have blk:∀(g:Nat)(o:Obj),X.heap[g]? =some o->Y.heap[g]? =some o:=λg o hg=>(hb.block g (Array.getElem?_eq_some_iff.1 hg).1).trans hg
 match i,h with
 |0,⟨g,h1,h2,h3⟩=>exact⟨g,h1,h2,blk g _ h3⟩
 |1,h=>exact h
 |2,h=>exact h
 |3,h=>exact x0s h hb
 |4,⟨g,h1,h2,h3⟩=>exact⟨g,h1,h2,blk g _ h3⟩
 |5,h=>exact h
 |6,h=>exact h
 |7,h=>exact x0s h hb
 |8,⟨g,h1,h2,h3⟩=>exact⟨g,h1,h2,blk g _ h3⟩
 |9,h=>exact h
 |10,h=>exact h
 |11,h=>exact x0s h hb
 |12,⟨x1,c1,x2,c2,x3,c3,h1,h2,h3,h4⟩=>exact⟨x1,c1,x2,c2,x3,c3,h1,x0s h2 hb,x0s h3 hb,x0s h4 hb⟩
 |13,⟨g,h1,h2,h3⟩=>exact⟨g,h1,h2,h3.later hb⟩
 |n+14,_=>exact trivial
theorem x0P(v:Value)(H:q0a)(w:World)(h:RdH w v H)(hs:q0h H):
 Calls Tryz.prog 30 #[v] w λe w' =>∃s:HSh,e= .returned s.v/\HM w' w.heap.size s H/\Below w.heap.size w w' :=by
 obtain⟨ao,co,aw,cw,ab,cb,sa,sc,rfl,ro,rwk,ri,rs⟩:=h;have l0:=hs.objs;have l1:=hs.weaks;have l2:=hs.buffer;have l3:=hs.sites;obtain⟨W,hW⟩:∃W,W=(w.alloc (.cells #[.slice ao H.objs.length co,.slice aw H.weaks.length cw,.slice ab H.buffer.length cb,.slice sa H.sites.length sc] 35)).alloc (.cells #[.slice none 0 0,.slice none 0 0,.slice none 0 0,.slice none 0 0] 35):=⟨_,rfl⟩;have BW:Below w.heap.size w W:=by rw[hW];exact(bl1 _).alloc (by simp) _
 have hWs:W.heap.size=w.heap.size+2:=by rw[hW];simp
 have FP:q0d W w.heap.size (.slice ao H.objs.length co) (.slice aw H.weaks.length cw) (.slice ab H.buffer.length cb) (.slice sa H.sites.length sc):=by
  have f1:=q0d.new w (.slice ao H.objs.length co) (.slice aw H.weaks.length cw) (.slice ab H.buffer.length cb) (.slice sa H.sites.length sc);have hb2:Below (w.heap.size+1) (w.alloc (.cells #[.slice ao H.objs.length co,.slice aw H.weaks.length cw,.slice ab H.buffer.length cb,.slice sa H.sites.length sc] 35)) W:=by rw[hW];exact bl0.alloc (by simp) _
  exact(hb2.block w.heap.size (by omega)).trans f1
 have FR:q0d W (w.heap.size+1) (.slice none 0 0) (.slice none 0 0) (.slice none 0 0) (.slice none 0 0):=by rw[hW];have f1:=q0d.new (w.alloc (.cells #[.slice ao H.objs.length co,.slice aw H.weaks.length cw,.slice ab H.buffer.length cb,.slice sa H.sites.length sc] 35)) (.slice none 0 0) (.slice none 0 0) (.slice none 0 0) (.slice none 0 0);simpa using f1
 have HSW:Hid (v0q W aw H.weaks.length 2 (H.weaks.flatMap u0E)):=(x5M rwk).later BW;have HSI:Hid (v0q W ab H.buffer.length 1 (H.buffer.map z0C)):=(u1s ri).later BW;have HSS:Hid (v0q W sa H.sites.length 1 (H.sites.map u0j)):=(x5L rs).later BW;have HRO:Hid (RdO W ao H.objs):=q0V ro BW;have HFP:Hid (q0d W w.heap.size (.slice ao H.objs.length co) (.slice aw H.weaks.length cw) (.slice ab H.buffer.length cb) (.slice sa H.sites.length sc)):=FP;have HFR:Hid (q0d W (w.heap.size+1) (.slice none 0 0) (.slice none 0 0) (.slice none 0 0) (.slice none 0 0)):=FR;have HFL:Hid (∀z∈H.objs,z.field.length<=1048576):=hs.fields;have HBW:Hid (Below w.heap.size w W):=BW;have HWs:Hid (W.heap.size=w.heap.size+2):=hWs;clear ro rwk ri rs FP FR hs BW;go_enter Tryz.func30,Tryz.ntmps30;go_wp2;rw[<-hW];clear hW;refine q0R 14 (by kernel_rfl) (by kernel_rfl) (RC W.heap.size w.heap.size aw H.weaks.length cw ab H.buffer.length cb sa H.sites.length sc (H.weaks.flatMap u0E) (H.buffer.map z0C) (H.sites.map u0j)) q5W ?_ ?_
 ·intro i o hi ho a X hX hA hdep;have FX:=HFP.out.later hX;have hXs:=hX.size
  match i,hi,ho with
  |0,_,ho=>
   cases ho
   exact x5v ⟨_,rfl,bl1 _,X.heap.size,rfl,hXs,u0G X _⟩
  |1,_,ho=>
   cases ho
   exact v0f 1 (by omega) (q0f hA (t:=1) (by kernel_rfl)) ⟨_,rfl,bl0,rfl⟩
  |2,_,ho=>
   cases ho
   have e1:a.eval (.tmp 7)= .pointer (some ⟨w.heap.size,1,none⟩):=hdep ⟨1,.data⟩ (by simp) rfl 7 rfl;exact u2F e1 (FX.cell 1) ⟨_,rfl,bl0,rfl⟩
  |3,_,ho=>
   cases ho
   obtain⟨g,e1,gB,hg⟩:=hdep ⟨0,.data⟩ (by simp) rfl 6 rfl;have e2:a.eval (.tmp 8)= .slice aw H.weaks.length cw:=hdep ⟨2,.data⟩ (by simp) rfl 8 rfl;exact j0Z elW _ _ rfl g W.heap.size hg gB aw H.weaks.length cw _ e1 e2 (HSW.out.later hX) (by omega) (by omega) (λv' w' r b _=>⟨_,rfl,b,r⟩)
  |4,_,ho=>
   cases ho
   exact v3t ⟨_,rfl,bl1 _,X.heap.size,rfl,hXs,u0G X _⟩
  |5,_,ho=>
   cases ho
   exact v0f 2 (by omega) (q0f hA (t:=1) (by kernel_rfl)) ⟨_,rfl,bl0,rfl⟩
  |6,_,ho=>
   cases ho
   have e1:a.eval (.tmp 11)= .pointer (some ⟨w.heap.size,2,none⟩):=hdep ⟨5,.data⟩ (by simp) rfl 11 rfl;exact x0E e1 (FX.cell 2) ⟨_,rfl,bl0,rfl⟩
  |7,_,ho=>
   cases ho
   obtain⟨g,e1,gB,hg⟩:=hdep ⟨4,.data⟩ (by simp) rfl 10 rfl;have e2:a.eval (.tmp 12)= .slice ab H.buffer.length cb:=hdep ⟨6,.data⟩ (by simp) rfl 12 rfl;exact j0Z elI _ _ rfl g W.heap.size hg gB ab H.buffer.length cb _ e1 e2 (HSI.out.later hX) (by omega) (by omega) (λv' w' r b _=>⟨_,rfl,b,r⟩)
  |8,_,ho=>
   cases ho
   exact x5t ⟨_,rfl,bl1 _,X.heap.size,rfl,hXs,u0G X _⟩
  |9,_,ho=>
   cases ho
   exact v0f 3 (by omega) (q0f hA (t:=1) (by kernel_rfl)) ⟨_,rfl,bl0,rfl⟩
  |10,_,ho=>
   cases ho
   have e1:a.eval (.tmp 15)= .pointer (some ⟨w.heap.size,3,none⟩):=hdep ⟨9,.data⟩ (by simp) rfl 15 rfl;exact u2E e1 (FX.cell 3) ⟨_,rfl,bl0,rfl⟩
  |11,_,ho=>
   cases ho
   obtain⟨g,e1,gB,hg⟩:=hdep ⟨8,.data⟩ (by simp) rfl 14 rfl;have e2:a.eval (.tmp 16)= .slice sa H.sites.length sc:=hdep ⟨10,.data⟩ (by simp) rfl 16 rfl;exact j0Z elS _ _ rfl g W.heap.size hg gB sa H.sites.length sc _ e1 e2 (HSS.out.later hX) (by omega) (by omega) (λv' w' r b _=>⟨_,rfl,b,r⟩)
  |12,_,ho=>
   cases ho
   have r1:X.ownsRow W.heap.size 95 2 (a.eval (.tmp 9)) H.weaks.length (H.weaks.flatMap u0E):=hdep ⟨3,.data⟩ (by simp) rfl 9 rfl;have r2:X.ownsRow W.heap.size 3 1 (a.eval (.tmp 13)) H.buffer.length (H.buffer.map z0C):=hdep ⟨7,.data⟩ (by simp) rfl 13 rfl;have r3:X.ownsRow W.heap.size 9 1 (a.eval (.tmp 17)) H.sites.length (H.sites.map u0j):=hdep ⟨11,.data⟩ (by simp) rfl 17 rfl;obtain⟨x1,c1,e1,_⟩:=y0s r1;obtain⟨x2,c2,e2,_⟩:=y0s r2;obtain⟨x3,c3,e3,_⟩:=y0s r3;rw[e1]at r1;rw[e2]at r2;rw[e3]at r3;exact j4M e1 e2 e3 ⟨_,rfl,bl0,x1,c1,x2,c2,x3,c3,rfl,r1,r2,r3⟩
  |13,_,ho=>
   cases ho
   exact q2F ⟨_,rfl,bl1 _,X.heap.size,rfl,hXs,q0d.new X _ _ _ _⟩
 ·intro o ho a X hX hA hdep
  cases ho
  obtain⟨g,e1,gB,hf⟩:=hdep ⟨13,.data⟩ (by simp) rfl 3 rfl;obtain⟨x1,c1,x2,c2,x3,c3,e2,r1,r2,r3⟩:=hdep ⟨12,.data⟩ (by simp) rfl 18 rfl;refine v0t e1 e2 hf ?_;obtain⟨us,hus,rfl⟩:=q0F hA [6,7,8,9,10,11,12,13,14,15,16,17,18,3] (by kernel_rfl);have e3:us 3= .pointer (some ⟨g,0,none⟩):=(hus 3).symm.trans e1
  have HC:Hid (CI W (q0p X g (.slice none 0 0) (.slice x1 H.weaks.length c1) (.slice x2 H.buffer.length c2) (.slice x3 H.sites.length c3)) W.heap.size g H (.slice none 0 0) x1 c1 x2 c2 x3 c3 [] 0):=by
   have ne:∀{n sz:Nat}{e:TypeId}{v:Value}{xs:List Value},X.ownsRow W.heap.size e sz v n xs->e≠35->(q0p X g (.slice none 0 0) (.slice x1 H.weaks.length c1) (.slice x2 H.buffer.length c2) (.slice x3 H.sites.length c3)).ownsRow W.heap.size e sz v n xs:=λhr hne=>x1a hr (λi hi=>by
    obtain⟨cur,hc⟩:=y0t hr i hi;exact q0T _ _ _ _ _ _ i (y0O hc hf hne))
   refine⟨?_,hf.setAll _ _ _ _,gB,World.ownsRow_nil _ _ _ _,ne r1 (by decide),ne r2 (by decide),ne r3 (by decide),Nat.zero_le _,rfl,λi hi=>by simp at hi,List.Pairwise.nil,λt ht=>by simp at ht⟩;unfold q0p;exact(((hX.setCell gB _).setCell gB _).setCell gB _).setCell gB _
  clear hdep hA hus e1 e2 hf r1 r2 r3;generalize q0p X g (.slice none 0 0) (.slice x1 H.weaks.length c1) (.slice x2 H.buffer.length c2) (.slice x3 H.sites.length c3)=Y at*;simp only[List.mapIdx_cons,List.mapIdx_nil,Nat.reduceAdd,List.contains_cons,List.contains_nil,Nat.reduceBEq,Bool.or_false,Bool.or_true,if_true,if_false,Bool.false_eq_true,e3];clear e3;go_wp2;go_loopw[4] (λi wr=>∃(j:Nat)(vo:Value)(fs:List OSh),i= .int .i64 (j:Int)/\j<=H.objs.length/\Hid (CI W wr W.heap.size g H vo x1 c1 x2 c2 x3 c3 fs j)) (λi _=>H.objs.length - (intOf i).toNat)
  case atStart=>exact⟨0,.slice none 0 0,[],rfl,Nat.zero_le _,HC⟩
  case round=>
   obtain⟨j,vo,fs,rfl,hjl,HI⟩:=hrel;have hbs:=HI.out.bel.size;have hgl:=HI.out.x.lt;have p0:wr.cell? ⟨w.heap.size,0,none⟩=some (.slice ao H.objs.length co):=(HI.out.bel.cell (p:=⟨w.heap.size,0,none⟩) (by show w.heap.size<_;omega)).trans (HFP.out.cell 0);by_cases hlt:j<H.objs.length
   ·obtain⟨g2,off,f,fc,rfl,hg2,hc,hr⟩:=q0V HRO.out HI.out.bel j hlt;have hfl:=HFL.out _ (List.getElem_mem hlt)
    have HST:Hid (∀(w5 w6:World)(v2:Value)(t:OSh),Below wr.heap.size wr w5->t.n=H.objs[j].field.length->q0i w5 wr.heap.size (.slice t.f t.n t.c) H.objs[j].field->w6.ownsRow W.heap.size 90 8 v2 (j+1) (((H.objs.take j).zip fs).flatMap v0F++v0F (H.objs[j],t))->w5.grownBy w6 vo.ownBlock->CI W (w6.setCell ⟨g,0,none⟩ v2) W.heap.size g H v2 x1 c1 x2 c2 x3 c3 (fs++[t]) (j+1)):=
     λw5 w6 v2 t b5 hn ht r6 g6=>q5o HI.out hbs hlt b5 t hn ht r6 g6
    have HX:Hid (q0d wr g vo (.slice x1 H.weaks.length c1) (.slice x2 H.buffer.length c2) (.slice x3 H.sites.length c3)):=HI.out.x;have HR0:Hid (wr.ownsRow W.heap.size 90 8 vo j (((H.objs.take j).zip fs).flatMap v0F)):=HI.out.ro;have HRI:Hid (v0q wr f H.objs[j].field.length 1 (H.objs[j].field.map z0C)):=u1s hr;obtain⟨o,ho⟩:∃o,H.objs[j]=o:=⟨_,rfl⟩;rw[ho]at hc hfl HST HRI;generalize ((H.objs.take j).zip fs).flatMap v0F=XS at HST HR0;clear hr HI;obtain⟨d0,d1,d2,d3,d4,d5,d6,d7⟩:=hc;obtain⟨V,hV⟩:∃V,V=wr.alloc (.cells #[.bool o.live,.int .i64 o.gen,.int .i64 o.site,.int .i64 o.holds,.int .i64 o.roots,.int .i64 o.count,.slice f o.field.length fc,.bool o.purple] 90):=⟨_,rfl⟩;have BV:Below wr.heap.size wr V:=by rw[hV];exact bl1 _
    have hVs:V.heap.size=wr.heap.size+1:=by rw[hV];simp
    have HOV:Hid (OBx V wr.heap.size o (.slice f o.field.length fc)):=by rw[hV];exact heap_alloc_new wr _
    have HBV:Hid (Below wr.heap.size wr V):=BV;have v6:V.cell? ⟨wr.heap.size,6,none⟩=some (.slice f o.field.length fc):=HOV.out.cell 6;have hlq:wr.heap.size<V.heap.size:=by omega
    have hnq:¬wr.heap.size=V.heap.size:=by omega
    clear BV;go_wp2_with (at_builtin;rw[<-hV];clear hV;refine y0C elI rfl _ _ rfl (wr.heap.size+1) (wr.heap.size+1) ?hg nl0 f o.field.length fc (o.field.map z0C) rfl rfl ?hs ?hm ?hby ?_)
    case hg=>rw[<-hVs];exact u0G V _
    case hs=>exact(HRI.out.later HBV.out).later (bl1 _)
    case hm=>omega
    case hby=>omega
    intro v3 w3 r3 b3 _;obtain⟨f3,c3',rfl,-⟩:=y0s r3;clear v6 d0 d1 d2 d3 d4 d5 d6 d7 p0;have b4:Below V.heap.size (V.alloc (.cells #[] 3)) w3:=b3.mono (by first|omega|simp);have B3:Below V.heap.size V w3:=(bl1 _).trans b4;clear b4;have T3:Below wr.heap.size wr w3:=HBV.out.trans (B3.mono (by omega));have O3:=HOV.out.later B3;have X3:=HX.out.later T3;have q0:=O3.cell 0;have q1:=O3.cell 1;have q2:=O3.cell 2;have q3:=O3.cell 3;have q4:=O3.cell 4;have q5:=O3.cell 5;have q6:=O3.cell 6;have q7:=O3.cell 7;have z6:=O3.frozen 6;have y0:=X3.cell 0;have hgq:¬g=wr.heap.size:=by omega
    have hqg:¬wr.heap.size=g:=by omega
    have s3:=B3.size;have hq3:wr.heap.size<w3.heap.size:=by omega
    have hg3:g<w3.heap.size:=by omega
    have hq4:¬wr.heap.size=w3.heap.size:=by omega
    have hg4:¬g=w3.heap.size:=by omega
    simp only[List.getElem?_toArray,List.getElem?_cons_zero,List.getElem?_cons_succ]at q0 q1 q2 q3 q4 q5 q6 q7 y0;have HO3:Hid (OBx w3 wr.heap.size o (.slice f o.field.length fc)):=O3;have HX3:Hid (q0d w3 g vo (.slice x1 H.weaks.length c1) (.slice x2 H.buffer.length c2) (.slice x3 H.sites.length c3)):=X3;have HT3:Hid (Below wr.heap.size wr w3):=T3;have HR3:Hid (w3.ownsRow (wr.heap.size+1) 3 1 (.slice f3 o.field.length c3') o.field.length (o.field.map z0C)):=r3;clear O3 X3 T3 B3 b3 r3;obtain⟨W5,hW5⟩:∃W5,W5=(w3.setCell ⟨wr.heap.size,6,none⟩ (.slice f3 o.field.length c3')).alloc (.cells #[.bool o.live,.int .i64 o.gen,.int .i64 o.site,.int .i64 o.holds,.int .i64 o.roots,.int .i64 o.count,.slice f3 o.field.length c3',.bool o.purple] 90):=⟨_,rfl⟩;have hS4:(w3.setCell ⟨wr.heap.size,6,none⟩ (.slice f3 o.field.length c3')).heap.size=w3.heap.size:=by simp[World.setCell]
    have HT5:Hid (Below wr.heap.size wr W5):=by rw[hW5];exact(HT3.out.setCell (by simp only;omega) _).alloc (by rw[hS4];omega) _
    have HO5:Hid (OBx W5 w3.heap.size o (.slice f3 o.field.length c3')):=by rw[hW5,<-hS4];exact heap_alloc_new _ _
    have HR5:Hid (q0i W5 wr.heap.size (.slice f3 o.field.length c3') o.field):=by have r:=HR3.out;rw[hW5];refine World.ownsRow.alloc (x1a (v1f r (by omega)) (λi hi=> ?_)) _;have:=(World.ownsRow.lt r i hi).1;exact heap_setCell_other _ _ _ _ (by simp only;omega)
    have hs5:W5.heap.size=w3.heap.size+1:=by rw[hW5];simp[World.setCell]
    have HX5:Hid (q0d W5 g vo (.slice x1 H.weaks.length c1) (.slice x2 H.buffer.length c2) (.slice x3 H.sites.length c3)):=HX.out.later HT5.out;have HRO5:Hid (W5.ownsRow W.heap.size 90 8 vo j XS):=x0s HR0.out HT5.out;clear hS4;go_wp2_with (at_builtin;rw[<-hW5];clear hW5;refine q3e rfl _ _ rfl W.heap.size vo j XS rfl HRO5.out w3.heap.size (o,⟨f3,o.field.length,c3'⟩) rfl HO5.out (by omega) (by omega) ?_)
    intro v6 w6 r6 g6;rw[<-HWs.out]at r6;obtain⟨f6,c6,rfl,-⟩:=y0s r6
    have hx6:w6.heap[g]? =W5.heap[g]?:=g6.block g (by omega) (λe2=>by
     obtain⟨cur2,hc⟩:=y0t HRO5.out g e2.symm;exact y0O hc HX5.out (by decide) rfl)
    have X6:=HX5.out.same hx6;have y6:=X6.cell 0;have z7:=X6.frozen 0;simp only[List.getElem?_toArray,List.getElem?_cons_zero]at y6;have HN:Hid _:=HST.out W5 w6 _ ⟨f3,o.field.length,c3'⟩ HT5.out rfl HR5.out r6 g6;clear q0 q1 q2 q3 q4 q5 q6 q7 y0 z6 r6 g6 hx6 X6;go_wp2;go_roundw
    case rel=>exact⟨j+1,_,_,by go_num,by omega,HN⟩
    case measure=>simp[intOf];omega
   ·obtain rfl:j=H.objs.length:=by omega
    obtain⟨oa,oc,rfl,-⟩:=y0s HI.out.ro;have HE:Hid _:=z5W HI.out;have XF:=HI.out.x;have RF:=(HI.out.bel.block (w.heap.size+1) (by omega)).trans HFR.out;have RF2:q0d wr (w.heap.size+1) (.slice none 0 0) (.slice none 0 0) (.slice none 0 0) (.slice none 0 0):=RF;have x0:=XF.cell 0;have x1' :=XF.cell 1;have x2' :=XF.cell 2;have x3' :=XF.cell 3;have r0:=RF2.cell 0;have r1:=RF2.cell 1;have r2:=RF2.cell 2;have r3:=RF2.cell 3;have z0:=RF2.frozen 0;have z1:=RF2.frozen 1;have z2:=RF2.frozen 2;have z3:=RF2.frozen 3;simp only[List.getElem?_toArray,List.getElem?_cons_zero,List.getElem?_cons_succ]at x0 x1' x2' x3' r0 r1 r2 r3;have HBl:Hid (Below w.heap.size w wr):=HBW.out.trans (HI.out.bel.mono HBW.out.size);clear XF RF RF2 HI;go_wp2;refine bodyPost_ret (v:= .agg #[.slice oa H.objs.length oc,.slice x1 H.weaks.length c1,.slice x2 H.buffer.length c2,.slice x3 H.sites.length c3]) (by simp[results,Tryz.results30,go_sem, *]) rfl ⟨⟨oa,oc,fs,x1,H.weaks.length,c1,x2,H.buffer.length,c2,x3,H.sites.length,c3⟩,?_,?_,?_⟩
    ·rw[HSh.v,HE.out.lo]
    ·refine z0G (v0V HE.out ?_) (by omega);refine(((q0G _ _ ⟨w.heap.size+1,0,none⟩ _ (by simp only;omega)).trans (q0G _ _ ⟨w.heap.size+1,1,none⟩ _ (by simp only;omega))).trans (q0G _ _ ⟨w.heap.size+1,2,none⟩ _ (by simp only;omega))).trans (q0G _ _ ⟨w.heap.size+1,3,none⟩ _ (by simp only;omega))
    ·iterate 4 refine Below.setCell ?_ (by simp only;omega) _
     exact HBl.out
end
section
open Go.RowKit
variable{a:Act}{K:Act → World → Prop}{af:Array Edge}{ats:Array TypeId}{post:Ending → World → Prop}{Q:Exit → Act → World → Prop}{s:HSh}{H:q0a}{pos:String}{ty:TypeId}
theorem q2P(s:ByteArray)(w:World)(h:s.size<=281474976710656):Calls Tryz.prog 82 #[.string s] w λe w' =>e= .returned (.string s)/\Below w.heap.size w w' :=by
 go_enter Tryz.func82,Tryz.ntmps82;go_wp2_with fail
 refine(Tryz.stringslite_Clone s w h).mono ?_;rintro e w1 ⟨rfl,b1⟩;go_wp2;go_ret
 exact⟨rfl,b1⟩
theorem q5R{t i:Tmp}{X:World}{v:Value}(h1:a.eval (.tmp i)=v)(hC:Calls Tryz.prog 78 #[v] X post)(hK:∀e w',post e w' ->∃x,e= .returned x/\K (a.put (some t) x) w'):
 Oper.wp Tryz.prog ⟨some t,.call {callee:= .value (.func 78),args:= #[.tmp i],argTypes:=ats},ty,pos,af,none⟩ a X K Q:=by
 have h:=q0x h1;go_simp;refine hC.mono (λe w' hp=> ?_);obtain⟨x,rfl,hx⟩:=hK e w' hp;exact hx
theorem q5T{t i:Tmp}{X:World}{v:Value}(h1:a.eval (.tmp i)=v)(hC:Calls Tryz.prog 79 #[v] X post)(hK:∀e w',post e w' ->∃x,e= .returned x/\K (a.put (some t) x) w'):
 Oper.wp Tryz.prog ⟨some t,.call {callee:= .value (.func 79),args:= #[.tmp i],argTypes:=ats},ty,pos,af,none⟩ a X K Q:=by
 have h:=q0x h1;go_simp;refine hC.mono (λe w' hp=> ?_);obtain⟨x,rfl,hx⟩:=hK e w' hp;exact hx
theorem q5Q{t i:Tmp}{X:World}{v:Value}(h1:a.eval (.tmp i)=v)(hC:Calls Tryz.prog 80 #[v] X post)(hK:∀e w',post e w' ->∃x,e= .returned x/\K (a.put (some t) x) w'):
 Oper.wp Tryz.prog ⟨some t,.call {callee:= .value (.func 80),args:= #[.tmp i],argTypes:=ats},ty,pos,af,none⟩ a X K Q:=by
 have h:=q0x h1;go_simp;refine hC.mono (λe w' hp=> ?_);obtain⟨x,rfl,hx⟩:=hK e w' hp;exact hx
theorem q5S{t i:Tmp}{X:World}{v:Value}(h1:a.eval (.tmp i)=v)(hC:Calls Tryz.prog 81 #[v] X post)(hK:∀e w',post e w' ->∃x,e= .returned x/\K (a.put (some t) x) w'):
 Oper.wp Tryz.prog ⟨some t,.call {callee:= .value (.func 81),args:= #[.tmp i],argTypes:=ats},ty,pos,af,none⟩ a X K Q:=by
 have h:=q0x h1;go_simp;refine hC.mono (λe w' hp=> ?_);obtain⟨x,rfl,hx⟩:=hK e w' hp;exact hx
structure DI(W wr:World)(B g:Nat)(H:q0a)(oa:Option Addr)(oc:Nat)(wa:Option Addr)(wc:Nat)(ba:Option Addr)(bc:Nat)(sa:Option Addr)(sc:Nat)(fs:List OSh)(j:Nat):Prop where
 bel:Below B W wr
 x:q0d wr g (.slice oa H.objs.length oc) (.slice wa H.weaks.length wc) (.slice ba H.buffer.length bc) (.slice sa H.sites.length sc)
 gB:B<=g
 og:∀y,oa=some y->B<=y.block/\y.block<wr.heap.size/\∃cur,wr.heap[y.block]? =some (.cells cur 90 (0,0))
 fl:fs.length=H.objs.length
 o:∀i(h:i<H.objs.length)(h2:i<fs.length),∃go,oa=some ⟨go,0,none⟩/\x0G wr go (i*8) H.objs[i] (.slice fs[i].f fs[i].n fs[i].c)/\∀k,k<8->wr.frozen? ⟨go,i*8+k,none⟩=false
 rw:wr.ownsRow B 95 2 (.slice wa H.weaks.length wc) H.weaks.length (H.weaks.flatMap u0E)
 rb:q0i wr B (.slice ba H.buffer.length bc) H.buffer
 rs:z0E wr B (.slice sa H.sites.length sc) H.sites
 nn:∀i(h:i<H.objs.length)(h2:i<fs.length),fs[i].n=H.objs[i].field.length
 f:∀i(h:i<H.objs.length)(h2:i<fs.length),i<j->q0i wr B (.slice fs[i].f fs[i].n fs[i].c) H.objs[i].field
 src:∀i(h:i<H.objs.length)(h2:i<fs.length),j<=i->RdI W fs[i].f H.objs[i].field
 ff:∀a b(ha:a<fs.length)(hb:b<fs.length),a<b->b<j->Dif fs[a].f fs[b].f
 fb:∀i(h2:i<fs.length),i<j->Dif ba fs[i].f
 oc:H.objs.length<=oc
theorem q5w{W wr w1:World}{B g:Nat}{oa:Option Addr}{oc:Nat}{wa:Option Addr}{wc:Nat}{ba:Option Addr}{bc:Nat}{sa:Option Addr}{sc:Nat}{fs:List OSh}{j:Nat}(h:DI W wr B g H oa oc wa wc ba bc sa sc fs j)(hB:B<=wr.heap.size)(hj:j<H.objs.length)(b1:Below wr.heap.size wr w1)(go:Nat)(hgo:oa=some ⟨go,0,none⟩)(t:OSh)(hn:t.n=H.objs[j].field.length)(ht:q0i w1 wr.heap.size (.slice t.f t.n t.c) H.objs[j].field):
 DI W (w1.setCell ⟨go,j*8+6,none⟩ (.slice t.f t.n t.c)) B g H oa oc wa wc ba bc sa sc (fs.set j t) (j+1):=by
 obtain⟨ob,ol,cur,ok⟩:=h.og _ hgo;simp only at ob ol ok;have ok1:w1.heap[go]? =some (.cells cur 90 (0,0)):=(b1.block go ol).trans ok;have hs1:=b1.size;have hj2:j<fs.length:=by rw[h.fl];exact hj
 have keep:∀(i:Nat)(cu:Array Value)(e:TypeId),w1.heap[i]? =some (.cells cu e (0,0))->e≠90->(w1.setCell ⟨go,j*8+6,none⟩ (.slice t.f t.n t.c)).heap[i]? =w1.heap[i]?:=λi cu e hi hne=>heap_setCell_other _ _ _ _ (by exact y0O hi ok1 hne)
 have keepR:∀{n sz C:Nat}{e:TypeId}{v:Value}{xs:List Value},w1.ownsRow C e sz v n xs->e≠90->(w1.setCell ⟨go,j*8+6,none⟩ (.slice t.f t.n t.c)).ownsRow C e sz v n xs:=by intro n sz C e v xs hr h1;refine x1a hr (λi hi=> ?_);obtain⟨cu,hc⟩:=y0t hr i hi;exact keep i cu e hc h1
 have x1:=h.x.later b1
 have oth:∀i(hi:i<H.objs.length)(hi2:i<fs.length),x0G w1 go (i*8) H.objs[i] (.slice fs[i].f fs[i].n fs[i].c)/\∀k,k<8->w1.frozen? ⟨go,i*8+k,none⟩=false:=by intro i hi hi2;obtain⟨g2,h1,h2,h3⟩:=h.o i hi hi2;rw[hgo]at h1;injection h1 with h1;injection h1 with h1 _ _;subst h1;exact⟨h2.keep (λk=>b1.cell (p:=⟨go,k,none⟩) ol),λk hk=>(b1.frozen (p:=⟨go,i*8+k,none⟩) ol).trans (h3 k hk)⟩
 refine⟨(h.bel.trans (b1.mono hB)).setCell ob _,x1.same (keep g _ _ x1 (by decide)),h.gB,λy hy=> ?_,by simp[h.fl],?_,keepR (x0s h.rw b1) (by decide),keepR (q0o h.rb b1) (by decide),keepR (x0V h.rs b1) (by decide),?_,?_,?_,?_,?_,?_⟩
 ·rw[hgo]at hy;injection hy with hy;subst hy;exact⟨ob,by simp only[World.setCell,Array.size_modify];omega,_,heap_setCell_same w1 go _ _ _ _ ok1⟩
 ·intro i hi hi2;simp only[List.length_set]at hi2;obtain⟨h2,h3⟩:=oth i hi hi2;refine⟨go,hgo,?_,λk hk=>by rw[World.frozen?_setCell];exact h3 k hk⟩;by_cases e:j=i
  ·subst e;simp only[List.getElem_set_self]
   exact⟨by rw[q0q _ _ _ _ _ (by omega)];exact h2.c0,by rw[q0q _ _ _ _ _ (by omega)];exact h2.c1,by rw[q0q _ _ _ _ _ (by omega)];exact h2.c2,by rw[q0q _ _ _ _ _ (by omega)];exact h2.c3,by rw[q0q _ _ _ _ _ (by omega)];exact h2.c4,
    by rw[q0q _ _ _ _ _ (by omega)];exact h2.c5,World.cell?_setCell_same w1 _ _ h2.c6,by rw[q0q _ _ _ _ _ (by omega)];exact h2.c7⟩
  ·simp only[List.getElem_set_ne e]
   exact⟨by rw[q0q _ _ _ _ _ (by omega)];exact h2.c0,by rw[q0q _ _ _ _ _ (by omega)];exact h2.c1,by rw[q0q _ _ _ _ _ (by omega)];exact h2.c2,by rw[q0q _ _ _ _ _ (by omega)];exact h2.c3,by rw[q0q _ _ _ _ _ (by omega)];exact h2.c4,
    by rw[q0q _ _ _ _ _ (by omega)];exact h2.c5,by rw[q0q _ _ _ _ _ (by omega)];exact h2.c6,by rw[q0q _ _ _ _ _ (by omega)];exact h2.c7⟩
 ·intro i hi hi2;simp only[List.length_set]at hi2;by_cases e:j=i
  ·subst e;simp only[List.getElem_set_self];exact hn
  ·simp only[List.getElem_set_ne e];exact h.nn i hi hi2
 ·intro i hi hi2 hij;simp only[List.length_set]at hi2;by_cases e:j=i
  ·subst e;simp only[List.getElem_set_self];exact keepR (q0A ht hB) (by decide)
  ·simp only[List.getElem_set_ne e];exact keepR (q0o (h.f i hi hi2 (by omega)) b1) (by decide)
 ·intro i hi hi2 hij;simp only[List.length_set]at hi2;simp only[List.getElem_set_ne (show j≠i from by omega)];exact h.src i hi hi2 (by omega)
 ·intro a b ha hb hab hbj;simp only[List.length_set]at ha hb;by_cases e:j=b
  ·subst e;simp only[List.getElem_set_self,List.getElem_set_ne (show j≠a from by omega)];intro x y hx hy e2;have h1:=(q0n (h.f a (by rw[<-h.fl];exact ha) ha (by omega)) _ (x0b hx)).2;have h2:=(q0n ht _ (x0b hy)).1;omega
  ·simp only[List.getElem_set_ne e,List.getElem_set_ne (show j≠a from by omega)];exact h.ff a b ha hb hab (by omega)
 ·intro i hi2 hij;simp only[List.length_set]at hi2;by_cases e:j=i
  ·subst e;simp only[List.getElem_set_self];intro x y hx hy e2;have h1:=(q0n h.rb _ (x0b hx)).2;have h2:=(q0n ht _ (x0b hy)).1;omega
  ·simp only[List.getElem_set_ne e];exact h.fb i hi2 (by omega)
 ·exact h.oc
theorem x5a{W wr:World}{B g:Nat}{oa:Option Addr}{oc:Nat}{wa:Option Addr}{wc:Nat}{ba:Option Addr}{bc:Nat}{sa:Option Addr}{sc:Nat}{fs:List OSh}(h:DI W wr B g H oa oc wa wc ba bc sa sc fs H.objs.length):
 HM wr B ⟨oa,oc,fs,wa,H.weaks.length,wc,ba,H.buffer.length,bc,sa,H.sites.length,sc⟩ H where
 lo:=h.fl
 lw:=rfl
 lb:=rfl
 ls:=rfl
 o:=h.o
 f:=λj hj hj2=>⟨h.nn j hj hj2,h.f j hj hj2 hj⟩
 og:=λx hx=>⟨(h.og x hx).1,(h.og x hx).2.1⟩
 wk:=q3Y h.rw
 wg:=u1L h.rw
 b:=h.rb
 st:=h.rs
 sep:=by
  have hfl:=h.fl
  have fk:∀t∈fs,∃zs:List Int,q0i wr B (.slice t.f t.n t.c) zs/\t.n=zs.length:=by intro t ht;obtain⟨i,hi,rfl⟩:=List.mem_iff_getElem.1 ht;exact⟨_,h.f i (by omega) hi (by omega),h.nn i (by omega) hi⟩
  have fd:∀{n sz:Nat}{e:TypeId}{a:Option Addr}{c:Nat}{xs:List Value},wr.ownsRow B e sz (.slice a n c) n xs->e≠3->∀t∈fs,Dif a t.f:=by intro n sz e a c xs hr hne t ht;obtain⟨zs,hz,hzn⟩:=fk t ht;unfold q0i at hz;rw[<-hzn]at hz;exact q1X hr hz hne
  have od:∀{n sz:Nat}{e:TypeId}{a:Option Addr}{c:Nat}{xs:List Value},wr.ownsRow B e sz (.slice a n c) n xs->e≠90->Dif oa a:=by intro n sz e a c xs hr hne x y hx hy e2;obtain⟨_,_,cur,hc⟩:=h.og x hx;obtain⟨cu2,hc2⟩:=y0t hr y.block (x0b hy);exact y0O hc2 hc hne e2.symm
  have hb:=h.rb;have hs:=h.rs;unfold q0i at hb;unfold z0E at hs
  exact⟨od h.rw (by decide),od hb (by decide),od hs (by decide),q1X h.rw hb (by decide),q1X h.rw hs (by decide),q1X hb hs (by decide),λt ht=>(by
   obtain⟨zs,hz,hzn⟩:=fk t ht;unfold q0i at hz;rw[<-hzn]at hz;exact od hz (by decide)),fd h.rw (by decide),λt ht=>(by
   obtain⟨i,hi,rfl⟩:=List.mem_iff_getElem.1 ht;exact h.fb i hi (by have hi3:i<fs.length:=hi;omega)),fd hs (by decide),by
   rw[List.pairwise_iff_getElem];intro a b ha hb2 hab;exact h.ff a b ha hb2 hab (by have hb3:b<fs.length:=hb2;omega)⟩
 co:=by have h1:=h.oc;have h2:=h.fl;simp only;omega
 cw:=j1O h.rw
theorem q5C{w:World}{B:Nat}(h:HM w B s H)(j:Nat)(hj:j<H.sites.length)(g:Nat)(hg:s.sa=some ⟨g,0,none⟩):HM (w.setCell ⟨g,j,none⟩ (.string (txt H.sites[j]))) B s H:=by
 have hp:=h.sep;have ne:∀x,q0u s x->(∀y,s.sa=some y->y.block≠x)->(w.setCell ⟨g,j,none⟩ (.string (txt H.sites[j]))).heap[x]? =w.heap[x]?:=λx _ hx=>heap_setCell_other _ _ _ _ (by exactλe=>hx _ hg e.symm)
 have hst:z0E (w.setCell ⟨g,j,none⟩ (.string (txt H.sites[j]))) B (.slice s.sa s.sn s.sc) H.sites:=by have h1:=h.st;rw[hg]at h1 ⊢;have h2:=y2B h1 h.ls j H.sites[j];rw[List.set_getElem_self]at h2;exact h2
 exact{
  lo:=h.lo
  lw:=h.lw
  lb:=h.lb
  ls:=h.ls
  o:=λi hi hi2=>by
   obtain⟨g2,h1,h2,h3⟩:=h.o i hi hi2;have hb:=ne g2 (.inl ⟨_,h1,rfl⟩) (λy hy e=>hp.os _ y h1 hy e.symm);exact⟨g2,h1,x1u h2 hb,λk hk=>(World.frozen?_of_block (a:=⟨g2,i*8+k,none⟩) hb).trans (h3 k hk)⟩
  f:=λi hi hi2=>⟨(h.f i hi hi2).1,q0v (h.f i hi hi2).2 (λx hx=>by
   obtain⟨y,hy,e⟩:=z0L hx;exact ne x (.inr (.inr (.inr (.inr ⟨_,List.getElem_mem hi2,y,hy,e⟩)))) (λz hz e2=>hp.fs _ (List.getElem_mem hi2) z y hz hy (by rw[e,e2])))⟩
  og:=λx hx=>⟨(h.og x hx).1,by simp only[World.setCell,Array.size_modify];exact(h.og x hx).2⟩
  wk:=λi hi=>by
   obtain⟨g2,h1,h2,h3⟩:=h.wk i hi;have hb:=ne g2 (.inr (.inl ⟨_,h1,rfl⟩)) (λy hy e=>hp.ws _ y h1 hy e.symm);exact⟨g2,h1,h2.keep (λk=>World.cell?_of_block (a:=⟨g2,k,none⟩) hb),λk hk=>(World.frozen?_of_block (a:=⟨g2,i*2+k,none⟩) hb).trans (h3 k hk)⟩
  wg:=λx hx=>⟨(h.wg x hx).1,by simp only[World.setCell,Array.size_modify];exact(h.wg x hx).2⟩
  b:=q0v h.b (λx hx=>by
   obtain⟨y,hy,e⟩:=z0L hx;exact ne x (.inr (.inr (.inl ⟨y,hy,e⟩))) (λz hz e2=>hp.bs y z hy hz (by rw[e,e2])))
  st:=hst
  sep:=hp
  co:=h.co
  cw:=h.cw}
end
end Go.Proofs.YtebgngofnmcklaaGreat
