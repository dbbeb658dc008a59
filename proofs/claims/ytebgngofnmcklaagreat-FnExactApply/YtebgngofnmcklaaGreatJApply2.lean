/- Texts of this claim, joined and laid tight: part 2 of 6. No condition. -/
import Derived.Test.YtebgngofnmcklaaGreatJApply1
import Derived.Deep.RegionHeld
import Derived.Laws.CopyOwn
import Derived.Maps.AppendAt
import Derived.Test.YtebgngofnmcklaaGreatRows
import Derived.WalkKit
import Derived.WalkMore
import Derived.ScopeJumps
namespace Go.Proofs.YtebgngofnmcklaaGreat
set_option linter.unusedVariables false
set_option maxRecDepth 100000
set_option maxHeartbeats 8000000
section
open Go.RowKit
def RD(B P:Nat)(oa:Option Addr)(on oc:Nat)(wa:Option Addr)(wn wc:Nat)(ia:Option Addr)(im ic:Nat)(sa:Option Addr)(sn sc:Nat)(NO NW NI NS:List Value):Nat->World->Value->Prop
 |0,X,v=>v= .pointer (some ⟨P,0,none⟩)
 |1,X,v=>v= .slice oa on oc
 |2,X,v=>X.ownsRow B 90 8 v on NO
 |3,X,v=>v= .pointer (some ⟨P,1,none⟩)
 |4,X,v=>v= .slice wa wn wc
 |5,X,v=>X.ownsRow B 95 2 v wn NW
 |6,X,v=>v= .pointer (some ⟨P,2,none⟩)
 |7,X,v=>v= .slice ia im ic
 |8,X,v=>X.ownsRow B 3 1 v im NI
 |9,X,v=>v= .pointer (some ⟨P,3,none⟩)
 |10,X,v=>v= .slice sa sn sc
 |11,X,v=>X.ownsRow B 9 1 v sn NS
 |12,X,v=>∃x0 c0 x1 c1 x2 c2 x3 c3,v= .agg #[.slice x0 on c0,.slice x1 wn c1,.slice x2 im c2,.slice x3 sn c3]/\X.ownsRow B 90 8 (.slice x0 on c0) on NO/\X.ownsRow B 95 2 (.slice x1 wn c1) wn NW/\X.ownsRow B 3 1 (.slice x2 im c2) im NI/\X.ownsRow B 9 1 (.slice x3 sn c3) sn NS
 |13,X,v=>∃g,v= .pointer (some ⟨g,0,none⟩)/\B<=g/\q0d X g (.slice none 0 0) (.slice none 0 0) (.slice none 0 0) (.slice none 0 0)
 |_,_,_=>True
theorem q5Y{B P:Nat}{oa:Option Addr}{on oc:Nat}{wa:Option Addr}{wn wc:Nat}{ia:Option Addr}{im ic:Nat}{sa:Option Addr}{sn sc:Nat}{NO NW NI NS:List Value}(i:Nat)(X Y:World)(v:Value)(h:RD B P oa on oc wa wn wc ia im ic sa sn sc NO NW NI NS i X v)(hb:Below X.heap.size X Y):RD B P oa on oc wa wn wc ia im ic sa sn sc NO NW NI NS i Y v:=by
 match i,h with
 |0,h=>exact h
 |1,h=>exact h
 |2,h=>exact x0s h hb
 |3,h=>exact h
 |4,h=>exact h
 |5,h=>exact x0s h hb
 |6,h=>exact h
 |7,h=>exact h
 |8,h=>exact x0s h hb
 |9,h=>exact h
 |10,h=>exact h
 |11,h=>exact x0s h hb
 |12,⟨x0,c0,x1,c1,x2,c2,x3,c3,h1,h2,h3,h4,h5⟩=>exact⟨x0,c0,x1,c1,x2,c2,x3,c3,h1,x0s h2 hb,x0s h3 hb,x0s h4 hb,x0s h5 hb⟩
 |13,⟨g,h1,h2,h3⟩=>exact⟨g,h1,h2,h3.later hb⟩
 |n+14,_=>exact trivial
theorem v0O(v:Value)(H:q0a)(w:World)(h:RdH w v H)(hs:q0h H):
 Calls Tryz.prog 41 #[v] w λe w' =>∃s:HSh,e= .returned s.v/\HM w' w.heap.size s H/\Below w.heap.size w w' :=by
 obtain⟨ao,co,aw,cw,ab,cb,sa,sc,rfl,ro,rwk,ri,rs⟩:=h;have l0:=hs.objs;have l1:=hs.weaks;have l2:=hs.buffer;have l3:=hs.sites;obtain⟨W,hW⟩:∃W,W=(w.alloc (.cells #[.slice ao H.objs.length co,.slice aw H.weaks.length cw,.slice ab H.buffer.length cb,.slice sa H.sites.length sc] 35)).alloc (.cells #[.slice none 0 0,.slice none 0 0,.slice none 0 0,.slice none 0 0] 35):=⟨_,rfl⟩;have BW:Below w.heap.size w W:=by rw[hW];exact(bl1 _).alloc (by simp) _
 have hWs:W.heap.size=w.heap.size+2:=by rw[hW];simp
 have FP:q0d W w.heap.size (.slice ao H.objs.length co) (.slice aw H.weaks.length cw) (.slice ab H.buffer.length cb) (.slice sa H.sites.length sc):=by
  have f1:=q0d.new w (.slice ao H.objs.length co) (.slice aw H.weaks.length cw) (.slice ab H.buffer.length cb) (.slice sa H.sites.length sc);have hb2:Below (w.heap.size+1) (w.alloc (.cells #[.slice ao H.objs.length co,.slice aw H.weaks.length cw,.slice ab H.buffer.length cb,.slice sa H.sites.length sc] 35)) W:=by rw[hW];exact bl0.alloc (by simp) _
  exact(hb2.block w.heap.size (by omega)).trans f1
 have FR:q0d W (w.heap.size+1) (.slice none 0 0) (.slice none 0 0) (.slice none 0 0) (.slice none 0 0):=by rw[hW];have f1:=q0d.new (w.alloc (.cells #[.slice ao H.objs.length co,.slice aw H.weaks.length cw,.slice ab H.buffer.length cb,.slice sa H.sites.length sc] 35)) (.slice none 0 0) (.slice none 0 0) (.slice none 0 0) (.slice none 0 0);simpa using f1
 obtain⟨fs0,fl0,ff0,so⟩:=v5x (q0V ro BW);have HSO:Hid (v0q W ao H.objs.length 8 ((H.objs.zip fs0).flatMap v0F)):=so;have HF0:Hid (∀j(h1:j<H.objs.length)(h2:j<fs0.length),fs0[j].n=H.objs[j].field.length/\RdI W fs0[j].f H.objs[j].field):=ff0;have HL0:Hid (fs0.length=H.objs.length):=fl0;have HSW:Hid (v0q W aw H.weaks.length 2 (H.weaks.flatMap u0E)):=(x5M rwk).later BW;have HSI:Hid (v0q W ab H.buffer.length 1 (H.buffer.map z0C)):=(u1s ri).later BW;have HSS:Hid (v0q W sa H.sites.length 1 (H.sites.map u0j)):=(x5L rs).later BW;have HFP:Hid (q0d W w.heap.size (.slice ao H.objs.length co) (.slice aw H.weaks.length cw) (.slice ab H.buffer.length cb) (.slice sa H.sites.length sc)):=FP;have HFR:Hid (q0d W (w.heap.size+1) (.slice none 0 0) (.slice none 0 0) (.slice none 0 0) (.slice none 0 0)):=FR;have HFL:Hid (∀z∈H.objs,z.field.length<=1048576):=hs.fields;have HNM:Hid (∀z∈H.sites,z.length<=1048576):=hs.names;have HBW:Hid (Below w.heap.size w W):=BW;have HWs:Hid (W.heap.size=w.heap.size+2):=hWs;clear ro rwk ri rs FP FR hs BW so ff0 fl0;go_enter Tryz.func41,Tryz.ntmps41;go_wp2;rw[<-hW];clear hW;refine q0R 14 (by kernel_rfl) (by kernel_rfl) (RD W.heap.size w.heap.size ao H.objs.length co aw H.weaks.length cw ab H.buffer.length cb sa H.sites.length sc ((H.objs.zip fs0).flatMap v0F) (H.weaks.flatMap u0E) (H.buffer.map z0C) (H.sites.map u0j)) q5Y ?_ ?_
 ·intro i o hi ho a X hX hA hdep;have FX:=HFP.out.later hX;have hXs:=hX.size
  match i,hi,ho with
  |0,_,ho=>
   cases ho
   exact v0f 0 (by omega) (q0f hA (t:=1) (by kernel_rfl)) ⟨_,rfl,bl0,rfl⟩
  |1,_,ho=>
   cases ho
   have e1:a.eval (.tmp 6)= .pointer (some ⟨w.heap.size,0,none⟩):=hdep ⟨0,.data⟩ (by simp) rfl 6 rfl;exact u0A e1 (FX.cell 0) ⟨_,rfl,bl0,rfl⟩
  |2,_,ho=>
   cases ho
   have e1:a.eval (.tmp 7)= .slice ao H.objs.length co:=hdep ⟨1,.data⟩ (by simp) rfl 7 rfl;exact q5R e1 (x3f X ao H.objs.length co _ (HSO.out.later hX) (by omega)) (λe w' ⟨x,h1,h2,h3⟩=>⟨x,h1,_,rfl,h3,v1f h2 hXs⟩)
  |3,_,ho=>
   cases ho
   exact v0f 1 (by omega) (q0f hA (t:=1) (by kernel_rfl)) ⟨_,rfl,bl0,rfl⟩
  |4,_,ho=>
   cases ho
   have e1:a.eval (.tmp 9)= .pointer (some ⟨w.heap.size,1,none⟩):=hdep ⟨3,.data⟩ (by simp) rfl 9 rfl;exact u2F e1 (FX.cell 1) ⟨_,rfl,bl0,rfl⟩
  |5,_,ho=>
   cases ho
   have e1:a.eval (.tmp 10)= .slice aw H.weaks.length cw:=hdep ⟨4,.data⟩ (by simp) rfl 10 rfl;exact q5T e1 (x3h X aw H.weaks.length cw _ (HSW.out.later hX) (by omega)) (λe w' ⟨x,h1,h2,h3⟩=>⟨x,h1,_,rfl,h3,v1f h2 hXs⟩)
  |6,_,ho=>
   cases ho
   exact v0f 2 (by omega) (q0f hA (t:=1) (by kernel_rfl)) ⟨_,rfl,bl0,rfl⟩
  |7,_,ho=>
   cases ho
   have e1:a.eval (.tmp 12)= .pointer (some ⟨w.heap.size,2,none⟩):=hdep ⟨6,.data⟩ (by simp) rfl 12 rfl;exact x0E e1 (FX.cell 2) ⟨_,rfl,bl0,rfl⟩
  |8,_,ho=>
   cases ho
   have e1:a.eval (.tmp 13)= .slice ab H.buffer.length cb:=hdep ⟨7,.data⟩ (by simp) rfl 13 rfl;exact q5Q e1 (v1D X ab H.buffer.length cb _ (HSI.out.later hX) (by omega)) (λe w' ⟨x,h1,h2,h3⟩=>⟨x,h1,_,rfl,h3,v1f h2 hXs⟩)
  |9,_,ho=>
   cases ho
   exact v0f 3 (by omega) (q0f hA (t:=1) (by kernel_rfl)) ⟨_,rfl,bl0,rfl⟩
  |10,_,ho=>
   cases ho
   have e1:a.eval (.tmp 15)= .pointer (some ⟨w.heap.size,3,none⟩):=hdep ⟨9,.data⟩ (by simp) rfl 15 rfl;exact u2E e1 (FX.cell 3) ⟨_,rfl,bl0,rfl⟩
  |11,_,ho=>
   cases ho
   have e1:a.eval (.tmp 16)= .slice sa H.sites.length sc:=hdep ⟨10,.data⟩ (by simp) rfl 16 rfl;exact q5S e1 (x3g X sa H.sites.length sc _ (HSS.out.later hX) (by omega)) (λe w' ⟨x,h1,h2,h3⟩=>⟨x,h1,_,rfl,h3,v1f h2 hXs⟩)
  |12,_,ho=>
   cases ho
   have r0:X.ownsRow W.heap.size 90 8 (a.eval (.tmp 8)) H.objs.length ((H.objs.zip fs0).flatMap v0F):=hdep ⟨2,.data⟩ (by simp) rfl 8 rfl;have r1:X.ownsRow W.heap.size 95 2 (a.eval (.tmp 11)) H.weaks.length (H.weaks.flatMap u0E):=hdep ⟨5,.data⟩ (by simp) rfl 11 rfl;have r2:X.ownsRow W.heap.size 3 1 (a.eval (.tmp 14)) H.buffer.length (H.buffer.map z0C):=hdep ⟨8,.data⟩ (by simp) rfl 14 rfl;have r3:X.ownsRow W.heap.size 9 1 (a.eval (.tmp 17)) H.sites.length (H.sites.map u0j):=hdep ⟨11,.data⟩ (by simp) rfl 17 rfl;obtain⟨x0,c0,e0,_⟩:=y0s r0;obtain⟨x1,c1,e1,_⟩:=y0s r1;obtain⟨x2,c2,e2,_⟩:=y0s r2;obtain⟨x3,c3,e3,_⟩:=y0s r3;rw[e0]at r0;rw[e1]at r1;rw[e2]at r2;rw[e3]at r3;exact j4N e0 e1 e2 e3 ⟨_,rfl,bl0,x0,c0,x1,c1,x2,c2,x3,c3,rfl,r0,r1,r2,r3⟩
  |13,_,ho=>
   cases ho
   exact q2F ⟨_,rfl,bl1 _,X.heap.size,rfl,hXs,q0d.new X _ _ _ _⟩
 ·intro o ho a X hX hA hdep
  cases ho
  obtain⟨g,e1,gB,hf⟩:=hdep ⟨13,.data⟩ (by simp) rfl 3 rfl;obtain⟨x0,c0,x1,c1,x2,c2,x3,c3,e2,r0,r1,r2,r3⟩:=hdep ⟨12,.data⟩ (by simp) rfl 18 rfl;refine v0t e1 e2 hf ?_;obtain⟨us,hus,rfl⟩:=q0F hA [6,7,8,9,10,11,12,13,14,15,16,17,18,3] (by kernel_rfl);have e3:us 3= .pointer (some ⟨g,0,none⟩):=(hus 3).symm.trans e1
  have HC:Hid (DI W (q0p X g (.slice x0 H.objs.length c0) (.slice x1 H.weaks.length c1) (.slice x2 H.buffer.length c2) (.slice x3 H.sites.length c3)) W.heap.size g H x0 c0 x1 c1 x2 c2 x3 c3 fs0 0):=by
   have ne:∀{n sz:Nat}{e:TypeId}{v:Value}{xs:List Value},X.ownsRow W.heap.size e sz v n xs->e≠35->(q0p X g (.slice x0 H.objs.length c0) (.slice x1 H.weaks.length c1) (.slice x2 H.buffer.length c2) (.slice x3 H.sites.length c3)).ownsRow W.heap.size e sz v n xs:=λhr hne=>x1a hr (λi hi=>by
    obtain⟨cur,hc⟩:=y0t hr i hi;exact q0T _ _ _ _ _ _ i (y0O hc hf hne))
   have r0' :=ne r0 (by decide);refine⟨?_,hf.setAll _ _ _ _,gB,λy hy=> ?_,HL0.out,v3K HL0.out r0',ne r1 (by decide),ne r2 (by decide),ne r3 (by decide),λi hi hi2=>(HF0.out i hi hi2).1,λi _ _ hi=>absurd hi (Nat.not_lt_zero _),λi hi hi2 _=>(HF0.out i hi hi2).2,λa b _ _ _ hb=>absurd hb (Nat.not_lt_zero _),λi _ hi=>absurd hi (Nat.not_lt_zero _),j1O r0⟩
   ·unfold q0p;exact(((hX.setCell gB _).setCell gB _).setCell gB _).setCell gB _
   ·obtain⟨hb1,hb2⟩:=u1L r0' y hy;exact⟨hb1,hb2,y0t r0' _ (x0b hy)⟩
  clear hdep hA hus e1 e2 hf r0 r1 r2 r3 HF0 HL0 HSO HSW HSI HSS HFP;generalize q0p X g (.slice x0 H.objs.length c0) (.slice x1 H.weaks.length c1) (.slice x2 H.buffer.length c2) (.slice x3 H.sites.length c3)=Y at*;simp only[List.mapIdx_cons,List.mapIdx_nil,Nat.reduceAdd,List.contains_cons,List.contains_nil,Nat.reduceBEq,Bool.or_false,Bool.or_true,if_true,if_false,Bool.false_eq_true,e3];clear e3;have y0:=HC.out.x.cell 0;simp only[List.getElem?_toArray,List.getElem?_cons_zero]at y0;go_wp2;clear y0;go_loopw[22] (λi wr=>∃(j:Nat)(fs:List OSh),i= .int .i64 (j:Int)/\j<=H.objs.length/\Hid (DI W wr W.heap.size g H x0 c0 x1 c1 x2 c2 x3 c3 fs j)) (λi _=>H.objs.length - (intOf i).toNat)
  case atStart=>exact⟨0,fs0,rfl,Nat.zero_le _,HC⟩
  case round=>
   clear HC;obtain⟨j,fs,rfl,hjl,HI⟩:=hrel;have hbs:=HI.out.bel.size;have hgl:=HI.out.x.lt;by_cases hlt:j<H.objs.length
   ·have hj2:j<fs.length:=by rw[HI.out.fl];exact hlt
    obtain⟨go,rfl,hob,hfz⟩:=HI.out.o j hlt hj2;have hfl:=HFL.out _ (List.getElem_mem hlt);obtain⟨-,hgo,cuo,hko⟩:=HI.out.og _ rfl;simp only at hgo hko;have hgg:go≠g:=y0O hko HI.out.x (by decide);clear hko
    have HST:Hid (∀(w1:World)(t:OSh),Below wr.heap.size wr w1->t.n=H.objs[j].field.length->q0i w1 wr.heap.size (.slice t.f t.n t.c) H.objs[j].field->DI W (w1.setCell ⟨go,j*8+6,none⟩ (.slice t.f t.n t.c)) W.heap.size g H (some ⟨go,0,none⟩) c0 x1 c1 x2 c2 x3 c3 (fs.set j t) (j+1)):=
     λw1 t b1 hn ht=>q5w HI.out hbs hlt b1 go rfl t hn ht
    have hnn:=HI.out.nn j hlt hj2
    have HSR:Hid (∀X,Below wr.heap.size wr X->v0q X fs[j].f fs[j].n 1 (H.objs[j].field.map z0C)):=λX hX=>by
     rw[hnn];exact((u1s (HI.out.src j hlt hj2 nl0)).later HI.out.bel).later hX
    have HC6:Hid (∀X,Below wr.heap.size wr X->X.cell? ⟨g,0,none⟩=some (.slice (some ⟨go,0,none⟩) H.objs.length c0)/\X.cell? ⟨go,j*8+6,none⟩=some (.slice fs[j].f fs[j].n fs[j].c)/\X.frozen? ⟨go,j*8+6,none⟩=false):=λX hX=>⟨(hX.cell (p:=⟨g,0,none⟩) hgl).trans (HI.out.x.cell 0),(hX.cell (p:=⟨go,j*8+6,none⟩) hgo).trans hob.c6,(hX.frozen (p:=⟨go,j*8+6,none⟩) hgo).trans (hfz 6 (by omega))⟩
    have HCL:Hid (∀X,Below wr.heap.size wr X->_):=λX hX=>v1D X fs[j].f fs[j].n fs[j].c _ (HSR.out X hX) (by rw[hnn];omega);rw[hnn]at HCL HC6;generalize fs[j].f=f at HCL HC6;generalize fs[j].c=fc at HCL HC6;generalize H.objs[j].field=fd at HCL HC6 HST hfl;clear hob hfz HI HSR hnn;have D1:Below wr.heap.size wr wr.drew:=bl0.drew;obtain⟨k0,k1,k2⟩:=HC6.out _ bl0;have hi0:(0:Int)<=(j:Int):=by omega
    have hi1:(j:Int)<(H.objs.length:Int):=by omega
    go_wp2;go_region_with (go_at_call 80;refine(HCL.out _ D1).mono ?_;rintro e w1 ⟨x,rfl,r1,b1⟩;(have B1:=D1.trans (b1.mono D1.size));(obtain⟨m0,m1,m2⟩:=HC6.out _ B1);(obtain⟨f1,d1,rfl,-⟩:=y0s r1))
    all_goals
     have HN:Hid _:=HST.out w1 ⟨f1,fd.length,d1⟩ B1 rfl (v1f r1 D1.size);clear HST HCL HC6 r1 b1 m0 m1 m2 k0 k1 k2;go_wp2;go_roundw
     case rel=>exact⟨j+1,_,by go_num,by omega,HN⟩
     case measure=>simp[intOf];omega
   ·obtain rfl:j=H.objs.length:=by omega
    have HE:Hid (HM wr W.heap.size ⟨x0,c0,fs,x1,H.weaks.length,c1,x2,H.buffer.length,c2,x3,H.sites.length,c3⟩ H):=x5a HI.out;have HX:Hid (q0d wr g (.slice x0 H.objs.length c0) (.slice x1 H.weaks.length c1) (.slice x2 H.buffer.length c2) (.slice x3 H.sites.length c3)):=HI.out.x;have HB1:Hid (Below W.heap.size W wr):=HI.out.bel;have y3:=HX.out.cell 3;simp only[List.getElem?_toArray,List.getElem?_cons_zero,List.getElem?_cons_succ]at y3;clear HI;obtain⟨Z,hZ⟩:∃Z,Z=wr:=⟨_,rfl⟩;rw[<-hZ]at HE HX HB1 y3 ⊢;clear hZ hbs hgl;go_wp2;clear y3;go_loopw[41] (λi wr=>∃j:Nat,i= .int .i64 (j:Int)/\j<=H.sites.length/\Hid (HM wr W.heap.size ⟨x0,c0,fs,x1,H.weaks.length,c1,x2,H.buffer.length,c2,x3,H.sites.length,c3⟩ H)/\Hid (q0d wr g (.slice x0 H.objs.length c0) (.slice x1 H.weaks.length c1) (.slice x2 H.buffer.length c2) (.slice x3 H.sites.length c3))/\Hid (Below W.heap.size W wr)) (λi _=>H.sites.length - (intOf i).toNat)
    case atStart=>exact⟨0,rfl,Nat.zero_le _,HE,HX,HB1⟩
    case round=>
     clear HE HX HB1;obtain⟨j,rfl,hjs,HE,HX,HB1⟩:=hrel;have hbs:=HB1.out.size;have hgl:=HX.out.lt;by_cases hlt:j<H.sites.length
     ·obtain⟨gs,off,rfl,hgs,hcs⟩:=(q1t HE.out).2.2.2 j hlt
      have hoff:off=0:=by
       rcases j0S HE.out.st with⟨e,_⟩|⟨g2,cap,e,_⟩
       ·simp only[Value.slice.injEq]at e;exact absurd e.1 (by simp)
       ·simp only[Value.slice.injEq,Option.some.injEq,Addr.mk.injEq]at e;exact e.1.2.1
      subst hoff;rw[Nat.zero_add]at hcs;have hnm:=HNM.out _ (List.getElem_mem hlt)
      have hfz:wr.frozen? ⟨gs,j,none⟩=false:=by
       rcases j0S HE.out.st with⟨e,_⟩|⟨g2,cap,e,_,_,_,_,hc⟩
       ·simp only[Value.slice.injEq]at e;exact absurd e.1 (by simp)
       ·simp only[Value.slice.injEq,Option.some.injEq,Addr.mk.injEq]at e;rw[e.1.1];exact(hc.out j hlt).2
      have hgg:gs≠g:=by obtain⟨cur,hk⟩:=y0t HE.out.st gs rfl;exact y0O hk HX.out (by decide)
      have HN:Hid (∀w1,Below wr.heap.size wr w1->HM (w1.setCell ⟨gs,j,none⟩ (.string (txt H.sites[j]))) W.heap.size _ H/\q0d (w1.setCell ⟨gs,j,none⟩ (.string (txt H.sites[j]))) g (.slice x0 H.objs.length c0) (.slice x1 H.weaks.length c1) (.slice x2 H.buffer.length c2) (.slice (some ⟨gs,0,none⟩) H.sites.length c3)/\Below W.heap.size W (w1.setCell ⟨gs,j,none⟩ (.string (txt H.sites[j])))):=λw1 b1=>⟨q5C (q0c HE.out b1) j hlt gs rfl,(HX.out.later b1).same (heap_setCell_other _ _ _ _ (by exactλe=>hgg e.symm)),(HB1.out.trans (b1.mono hbs)).setCell (by exact(q2K HE.out.st gs rfl).1) _⟩
      have HC6:Hid (∀X,Below wr.heap.size wr X->X.cell? ⟨g,3,none⟩=some (.slice (some ⟨gs,0,none⟩) H.sites.length c3)/\X.cell? ⟨gs,j,none⟩=some (.string (txt H.sites[j]))/\X.frozen? ⟨gs,j,none⟩=false):=λX hX=>⟨(hX.cell (p:=⟨g,3,none⟩) hgl).trans (HX.out.cell 3),(hX.cell (p:=⟨gs,j,none⟩) hgs).trans hcs,(hX.frozen (p:=⟨gs,j,none⟩) hgs).trans hfz⟩
      have HCL:Hid (∀X:World,_):=λX=>q2P (txt H.sites[j]) X (by rw[q0L];omega);generalize txt H.sites[j]=tx at HCL HC6 HN;clear hcs hfz HE HX HB1 hnm;have D1:Below wr.heap.size wr wr.drew:=bl0.drew;obtain⟨k0,k1,k2⟩:=HC6.out _ bl0;have hi0:(0:Int)<=(j:Int):=by omega
      have hi1:(j:Int)<(H.sites.length:Int):=by omega
      go_wp2
      go_region_held (λX=>X.cell? ⟨g,3,none⟩=some (.slice (some ⟨gs,0,none⟩) H.sites.length c3)/\X.cell? ⟨gs,j,none⟩=some (.string tx))
       (first|exact⟨(HC6.out _ B1).1,(HC6.out _ B1).2.1⟩|exact⟨(HC6.out _ D1).1,(HC6.out _ D1).2.1⟩|exact⟨(y0g _ _ (by exact hgg) 3).trans (HC6.out _ B1).1,World.cell?_setCell_same _ _ _ (HC6.out _ B1).2.1⟩)
       (first|(go_at_call 82;refine(HCL.out _).mono ?_;rintro e w1 ⟨rfl,b1⟩;(have B1:=D1.trans (b1.mono D1.size));(obtain⟨m0,m1,m2⟩:=HC6.out _ B1)))
      obtain⟨n1,n2,n3⟩:=HN.out w1 B1;have HN1:Hid _:=n1;have HN2:Hid _:=n2;have HN3:Hid _:=n3;clear HN HCL HC6 b1 m0 m1 m2 k0 k1 k2 n1 n2 n3;go_wp2;go_roundw
      case rel=>exact⟨j+1,by go_num,by omega,HN1,HN2,HN3⟩
      case measure=>simp[intOf];omega
     ·have XF:=HX.out;have RF2:q0d wr (w.heap.size+1) (.slice none 0 0) (.slice none 0 0) (.slice none 0 0) (.slice none 0 0):=(HB1.out.block (w.heap.size+1) (by omega)).trans HFR.out;have q0:=XF.cell 0;have q1:=XF.cell 1;have q2:=XF.cell 2;have q3:=XF.cell 3;have r0:=RF2.cell 0;have r1:=RF2.cell 1;have r2:=RF2.cell 2;have r3:=RF2.cell 3;have z0:=RF2.frozen 0;have z1:=RF2.frozen 1;have z2:=RF2.frozen 2;have z3:=RF2.frozen 3;simp only[List.getElem?_toArray,List.getElem?_cons_zero,List.getElem?_cons_succ]at q0 q1 q2 q3 r0 r1 r2 r3;have HBl:Hid (Below w.heap.size w wr):=HBW.out.trans (HB1.out.mono HBW.out.size);have HLO:Hid (fs.length=H.objs.length):=HE.out.lo;clear XF RF2 HX HB1;go_wp2;refine bodyPost_ret (v:= .agg #[.slice x0 H.objs.length c0,.slice x1 H.weaks.length c1,.slice x2 H.buffer.length c2,.slice x3 H.sites.length c3]) (by simp[results,Tryz.results41,go_sem, *]) rfl ⟨⟨x0,c0,fs,x1,H.weaks.length,c1,x2,H.buffer.length,c2,x3,H.sites.length,c3⟩,?_,?_,?_⟩
      ·rw[HSh.v,HLO.out]
      ·refine z0G (v0V HE.out ?_) (by omega);refine(((q0G _ _ ⟨w.heap.size+1,0,none⟩ _ (by simp only;omega)).trans (q0G _ _ ⟨w.heap.size+1,1,none⟩ _ (by simp only;omega))).trans (q0G _ _ ⟨w.heap.size+1,2,none⟩ _ (by simp only;omega))).trans (q0G _ _ ⟨w.heap.size+1,3,none⟩ _ (by simp only;omega))
      ·iterate 4 refine Below.setCell ?_ (by simp only;omega) _
       exact HBl.out
end
section
open Go.RowKit
def idZ(slot gen:Int):Int:=if 0<=slot/\slot<=7/\1<=gen/\gen<=999 then slot+8*gen else -1
theorem q1C(slot gen:Int)(w:World):
 Calls Tryz.prog 67 #[.int .i64 slot,.int .i64 gen] w λe w' =>e= .returned (.int .i64 (idZ slot gen))/\w' =w:=by
 by_cases h1:slot<0\/7<slot
 ·have HE:Hid (idZ slot gen= -1):=by show _=_;unfold idZ;rw[if_neg (by omega)]
  have C1:Hid (∀X,_):=λX=>x0B slot 0 7 X h1;clear h1;go_enter Tryz.func67,Tryz.ntmps67;go_wp2_with (go_at_call 63;refine(C1.out _).mono ?_;rintro e w' ⟨rfl,rfl⟩)
  go_ret
  exact⟨z0x HE.out.symm,rfl⟩
 ·have C1:Hid (∀X,_):=λX=>z0s slot 0 7 X (by omega) (by omega);by_cases h2:gen<1\/999<gen
  ·have HE:Hid (idZ slot gen= -1):=by show _=_;unfold idZ;rw[if_neg (by omega)]
   have C2:Hid (∀X,_):=λX=>x0B gen 1 999 X h2;clear h1 h2;go_enter Tryz.func67,Tryz.ntmps67;go_wp2_with fail
   refine(C1.out _).mono ?_;rintro e w1 ⟨rfl,rfl⟩;go_wp2_with fail
   refine(C2.out _).mono ?_;rintro e w2 ⟨rfl,rfl⟩;go_wp2;go_ret
   exact⟨z0x HE.out.symm,rfl⟩
  ·have HE:Hid (idZ slot gen=slot+8*gen):=by show _=_;unfold idZ;rw[if_pos (by omega)]
   have C2:Hid (∀X,_):=λX=>z0s gen 1 999 X (by omega) (by omega);have g1:0<=slot:=by omega
   have g2:slot<=7:=by omega
   have g3:1<=gen:=by omega
   have g4:gen<=999:=by omega
   clear h1 h2;go_enter Tryz.func67,Tryz.ntmps67;go_wp2_with fail
   refine(C1.out _).mono ?_;rintro e w1 ⟨rfl,rfl⟩;go_wp2_with fail
   refine(C2.out _).mono ?_;rintro e w2 ⟨rfl,rfl⟩;go_wp2;go_ret
   exact⟨z0x HE.out.symm,rfl⟩
def q0l(H:q0a)(id:Int):Int:=
 if id<8\/H.objs.length≠8 then -1
 else match H.objs[(id%8).toNat]?with
  |none=> -1
  |some o=>if o.live=true/\o.gen=id / 8 then id%8 else -1
theorem z0k(v:Value)(H:q0a)(id:Int)(w:World)(h:RdH w v H)(hn:H.objs.length<=9223372036854775807)(h0: -9223372036854775808<=id)(h9:id<=9223372036854775807):
 Calls Tryz.prog 64 #[v,.int .i64 id] w λe w' =>e= .returned (.int .i64 (q0l H id))/\Below w.heap.size w w' :=by
 obtain⟨ao,co,aw,cw,ab,cb,sa,sc,rfl,ro,-,-,-⟩:=h;by_cases h1:id<8
 ·have HE:Hid (q0l H id= -1):=by show _=_;unfold q0l;rw[if_pos (.inl h1)]
  clear ro;go_enter Tryz.func64,Tryz.ntmps64;go_wp2;go_ret
  exact⟨z0x HE.out.symm,bl1 _⟩
 ·by_cases h2:H.objs.length=8
  ·have RO:=q0V ro ((Below.refl w.heap.size w).alloc nl0 (.cells #[.slice ao H.objs.length co,.slice aw H.weaks.length cw,.slice ab H.buffer.length cb,.slice sa H.sites.length sc] 35));obtain⟨k,hk⟩:∃k:Nat,id%8=(k:Int):=⟨(id%8).toNat,by omega⟩;have hk8:k<8:=by omega
   obtain⟨g,off,f,fc,rfl,hg,hc,-⟩:=RO k (by omega);obtain⟨o,ho⟩:∃o,H.objs[k]=o:=⟨_,rfl⟩;rw[ho]at hc
   have HE:Hid (q0l H id=if o.live=true/\o.gen=id / 8 then(k:Int)else -1):=by show _=_;unfold q0l;rw[if_neg (by omega),hk,show((k:Int)).toNat=k from by omega,List.getElem?_eq_getElem (by omega),ho]
   obtain⟨c0,c1,-⟩:=hc;have hm:id.tmod 8=(k:Int):=by rw[Int.tmod_eq_emod_of_nonneg (by omega),hk]
   have hd:id.tdiv 8=id / 8:=Int.tdiv_eq_ediv_of_nonneg (by omega);clear ro RO ho hk;rw[h2]at c0 c1 ⊢;obtain⟨q,hq⟩:∃q,id / 8=q:=⟨_,rfl⟩;rw[hq]at hd HE;have h8:8<=id:=by omega
   have hq0:0<=q/\q<=9223372036854775807:=by omega
   obtain⟨ol,og,os1,oh,orr,oc,ofl,op⟩:=o;simp only at c0 c1 HE;clear h1 hq
   cases ol with
   |false=>
    have HR:Hid (q0l H id= -1):=by show _=_;rw[HE.out,if_neg (by simp)]
    go_enter Tryz.func64,Tryz.ntmps64;go_wp2;go_ret
    exact⟨z0x HR.out.symm,bl1 _⟩
   |true=>
    by_cases hgq:og=q
    ·have HR:Hid (q0l H id=(k:Int)):=by show _=_;rw[HE.out,if_pos ⟨rfl,hgq⟩]
     subst hgq;go_enter Tryz.func64,Tryz.ntmps64;go_wp2;go_ret
     exact⟨z0x HR.out.symm,bl1 _⟩
    ·have HR:Hid (q0l H id= -1):=by show _=_;rw[HE.out,if_neg (by simp[hgq])]
     have hgn:(og !=q)=true:=by rw[bne_iff_ne];exact hgq
     go_enter Tryz.func64,Tryz.ntmps64;go_wp2;go_ret
     exact⟨z0x HR.out.symm,bl1 _⟩
  ·have HE:Hid (q0l H id= -1):=by show _=_;unfold q0l;rw[if_pos (.inr h2)]
   have h3:¬((H.objs.length:Int)=8):=by omega
   clear ro;go_enter Tryz.func64,Tryz.ntmps64;go_wp2;go_ret
   exact⟨z0x HE.out.symm,bl1 _⟩
theorem u1n{a b:Bool}(h:a=b):Ending.returned (.bool a)= .returned (.bool b):=by rw[h]
theorem z2C(w:World)(a:Option Addr)(cap:Nat)(zs:List Int)(x:Int)(h:RdI w a zs)(hn:zs.length<=9223372036854775806):
 Calls Tryz.prog 66 #[.slice a zs.length cap,.int .i64 x] w λe w' =>e= .returned (.bool (decide (x∈zs)))/\w' =w:=by
 have HA:Hid (RdI w a zs):=h;obtain⟨n,hnn⟩:∃n,zs.length=n:=⟨_,rfl⟩;have Hn:Hid (zs.length=n):=hnn
 have HD:Hid (∀(j:Nat)(h:j<zs.length),(x∈zs.drop j)↔(x=zs[j]\/x∈zs.drop (j+1))):=by intro j hj;rw[List.drop_eq_getElem_cons hj,List.mem_cons]
 have H0:Hid (decide (x∈zs)=decide (x∈zs.drop 0)):=by show _=_;rw[List.drop_zero]
 have HF:Hid (¬x∈zs.drop n):=by show ¬_;rw[<-hnn,List.drop_length];simp
 rw[hnn]at hn ⊢;generalize decide (x∈zs)=b at*;clear h hnn;go_enter Tryz.func66,Tryz.ntmps66;go_wp2;go_loop [5] (λi=>∃j:Nat,j<=n/\i= .int .i64 j/\Hid (b=decide (x∈zs.drop j))) (λi=>n - (intOf i).toNat)
 case atStart=>exact⟨0,by omega,rfl,H0⟩
 case round=>
  obtain⟨j,hj,rfl,HJ⟩:=hrel;by_cases hlt:j<n
  ·have hj2:j<zs.length:=by have:=Hn.out;omega
   obtain⟨g,off,rfl,-,hc⟩:=HA.out j hj2;have HD2:Hid (_↔_):=HD.out j hj2;generalize zs[j]=z at*;by_cases he:z=x
   ·have HR:Hid (b=true):=by show _=_;rw[HJ.out];exact decide_eq_true (HD2.out.2 (.inl he.symm))
    subst he;go_wp2;go_ret
    exact⟨u1n HR.out.symm,rfl⟩
   ·have HR:Hid (b=decide (x∈zs.drop (j+1))):=by
     show _=_;rw[HJ.out,decide_eq_decide,HD2.out];exact⟨λh=>h.resolve_left (λe=>he e.symm),.inr⟩
    have hq:(z==x)=false:=by rw[beq_eq_false_iff_ne];exact he
    go_wp2;go_round
    case rel=>exact⟨j+1,by omega,by go_num,HR⟩
    case measure=>simp[intOf];omega
  ·obtain rfl:j=n:=by omega
   have HR:Hid (b=false):=by show _=_;rw[HJ.out];exact decide_eq_false HF.out
   go_wp2;go_ret
   exact⟨u1n HR.out.symm,rfl⟩
end
section
open Go.RowKit
def z0N(g off n k:Nat):Option Addr:=if k<n then some ⟨g,off+k*8,none⟩else none
abbrev x1k(g off n k:Nat):Value:= .pointer (z0N g off n k)
def v1B(g off n:Nat):Value:= .agg #[x1k g off n 0,x1k g off n 1,x1k g off n 2,x1k g off n 3,x1k g off n 4,x1k g off n 5,x1k g off n 6,x1k g off n 7]
structure CI0(w:World)(s:Nat)(x:Value)(g off j:Nat):Prop where
 at_:∀k,k<8->w.cell? ⟨s,0,none⟩=some x/\w.cell? ⟨s+1,k,none⟩=some (.pointer none)/\w.frozen? ⟨s+1,k,none⟩=false/\w.cell? ⟨s+1+1,k,none⟩=some (x1k g off j k)/\w.frozen? ⟨s+1+1,k,none⟩=false/\s+1+1<w.heap.size
theorem CI0.set{w:World}{s g off j:Nat}{x:Value}(h:CI0 w s x g off j)(hj:j<8):CI0 (w.setCell ⟨s+1+1,j,none⟩ (.pointer (some ⟨g,off+j*8,none⟩))) s x g off (j+1):=by
 refine⟨λk hk=> ?_⟩;obtain⟨h1,h2,h3,h4,h5,h6⟩:=h.at_ k hk;refine⟨?_,?_,by rw[World.frozen?_setCell];exact h3,?_,by rw[World.frozen?_setCell];exact h5,by simpa[World.setCell]using h6⟩
 ·rw[y0g _ _ (by show s+1+1≠s;omega)];exact h1
 ·rw[y0g _ _ (by show s+1+1≠s+1;omega)];exact h2
 ·by_cases e:j=k
  ·subst e;rw[World.cell?_setCell_same w _ _ h4];unfold x1k z0N;rw[if_pos (by omega)]
  ·rw[q0q _ _ _ _ _ e,h4];unfold x1k z0N;by_cases h2:k<j
   ·rw[if_pos h2,if_pos (by omega)]
   ·rw[if_neg h2,if_neg (by omega)]
theorem x5q(k:Nat)(hk:k<8):(#[Value.pointer none,.pointer none,.pointer none,.pointer none,.pointer none,.pointer none,.pointer none,.pointer none]:Array Value)[k]? =some (.pointer none):=by
 match k,hk with
 |0,_|1,_|2,_|3,_|4,_|5,_|6,_|7,_=>rfl
theorem z5X(w:World)(x x1 x2 x3:Value)(g off:Nat):CI0 (((w.alloc (.cells #[x,x1,x2,x3] 35)).alloc (.cells #[.pointer none,.pointer none,.pointer none,.pointer none,.pointer none,.pointer none,.pointer none,.pointer none] 116)).alloc (.cells #[.pointer none,.pointer none,.pointer none,.pointer none,.pointer none,.pointer none,.pointer none,.pointer none] 116)) w.heap.size x g off 0:=by
 obtain⟨A,hA⟩:∃A,A=w.alloc (.cells #[x,x1,x2,x3] 35):=⟨_,rfl⟩;rw[<-hA];have hs:A.heap.size=w.heap.size+1:=by rw[hA];simp
 obtain⟨B,hB⟩:∃B,B=A.alloc (.cells #[.pointer none,.pointer none,.pointer none,.pointer none,.pointer none,.pointer none,.pointer none,.pointer none] 116):=⟨_,rfl⟩;rw[<-hB];have hs2:B.heap.size=w.heap.size+1+1:=by rw[hB];simp[hs]
 refine⟨λk hk=>⟨?_,?_,?_,?_,?_,?_⟩⟩
 ·rw[World.cell?_alloc_lt _ _ _ (by show w.heap.size<_;omega),hB,World.cell?_alloc_lt _ _ _ (by show w.heap.size<_;omega),hA,World.cell?_alloc_mark];rfl
 ·rw[World.cell?_alloc_lt _ _ _ (by show w.heap.size+1<_;omega),hB,<-hs,World.cell?_alloc_mark];exact x5q k hk
 ·have e:=((Below.refl B.heap.size B).alloc nl0 (.cells #[.pointer none,.pointer none,.pointer none,.pointer none,.pointer none,.pointer none,.pointer none,.pointer none] 116)).frozen (p:=⟨w.heap.size+1,k,none⟩) (by show w.heap.size+1<_;omega);rw[e,hB,<-hs,World.frozen?_alloc_mark];simp
 ·rw[<-hs2,World.cell?_alloc_mark];unfold x1k z0N;rw[if_neg (by omega)];exact x5q k hk
 ·rw[<-hs2,World.frozen?_alloc_mark];simp
 ·simp[hs2]
theorem u0t(g off n k:Nat)(h:8<=n)(hk:k<8):z0N g off n k=z0N g off 8 k:=by unfold z0N;rw[if_pos (by omega),if_pos (by omega)]
theorem x3e(g off n:Nat)(h:8<=n):v1B g off n=v1B g off 8:=by unfold v1B x1k;simp only[u0t g off n _ h (by decide:0<8),u0t g off n _ h (by decide:1<8),u0t g off n _ h (by decide:2<8),u0t g off n _ h (by decide:3<8),u0t g off n _ h (by decide:4<8),u0t g off n _ h (by decide:5<8),u0t g off n _ h (by decide:6<8),u0t g off n _ h (by decide:7<8)]
theorem y0i(w:World)(ao:Option Addr)(n co:Nat)(x1 x2 x3:Value)(hn:n<=1048576)(g off:Nat)(ha:0<n->ao=some ⟨g,off,none⟩)(hx:∃a1 n1 c1 a2 n2 c2 a3 n3 c3,x1= .slice a1 n1 c1/\x2= .slice a2 n2 c2/\x3= .slice a3 n3 c3):
 Calls Tryz.prog 92 #[.agg #[.slice ao n co,x1,x2,x3]] w λe w' =>e= .returned (v1B g off n)/\Below w.heap.size w w' :=by
 obtain⟨a1,n1,c1,a2,n2,c2,a3,n3,c3,rfl,rfl,rfl⟩:=hx;have HA:Hid (0<n->ao=some ⟨g,off,none⟩):=ha;clear ha;obtain⟨W,hW⟩:∃W,W=((w.alloc (.cells #[.slice ao n co,.slice a1 n1 c1,.slice a2 n2 c2,.slice a3 n3 c3] 35)).alloc (.cells #[.pointer none,.pointer none,.pointer none,.pointer none,.pointer none,.pointer none,.pointer none,.pointer none] 116)).alloc (.cells #[.pointer none,.pointer none,.pointer none,.pointer none,.pointer none,.pointer none,.pointer none,.pointer none] 116):=⟨_,rfl⟩
 have BW:Below w.heap.size w W:=by rw[hW];exact((bl1 _).alloc (by simp) _).alloc (by simp;omega) _
 have HI:Hid (CI0 W w.heap.size (.slice ao n co) g off 0):=by rw[hW];exact z5X w _ _ _ _ g off
 by_cases hn8:n<=8
 ·go_enter Tryz.func92,Tryz.ntmps92;go_wp2;rw[<-hW];clear hW;go_loopw[9] (λi wr=>∃j:Nat,j<=n/\i= .int .i64 j/\Hid (CI0 wr w.heap.size (.slice ao n co) g off j)/\Below w.heap.size w wr) (λi _=>n - (intOf i).toNat)
  case atStart=>exact⟨0,by omega,rfl,HI,BW⟩
  case round=>
   obtain⟨j,hj,rfl,HJ,hb⟩:=hrel;by_cases hlt:j<n
   ·obtain rfl:=HA.out (by omega);obtain⟨h0,-,-,h1,h2,-⟩:=HJ.out.at_ j (by omega);have HN:Hid (CI0 (wr.setCell ⟨w.heap.size+1+1,j,none⟩ (.pointer (some ⟨g,off+j*8,none⟩))) w.heap.size (.slice (some ⟨g,off,none⟩) n co) g off (j+1)):=HJ.out.set (by omega);go_wp2;go_roundw
    case rel=>exact⟨j+1,by omega,by go_num,HN,Below.setCell hb (by simp only;omega) _⟩
    case measure=>simp[intOf];omega
   ·obtain rfl:j=n:=by omega
    obtain⟨-,r0,e0,o0,-,hs⟩:=HJ.out.at_ 0 (by omega);obtain⟨-,r1,e1,o1,-,-⟩:=HJ.out.at_ 1 (by omega);obtain⟨-,r2,e2,o2,-,-⟩:=HJ.out.at_ 2 (by omega);obtain⟨-,r3,e3,o3,-,-⟩:=HJ.out.at_ 3 (by omega);obtain⟨-,r4,e4,o4,-,-⟩:=HJ.out.at_ 4 (by omega);obtain⟨-,r5,e5,o5,-,-⟩:=HJ.out.at_ 5 (by omega);obtain⟨-,r6,e6,o6,-,-⟩:=HJ.out.at_ 6 (by omega);obtain⟨-,r7,e7,o7,-,-⟩:=HJ.out.at_ 7 (by omega);go_wp2;refine bodyPost_ret (v:= .agg #[.pointer (z0N g off j 0),.pointer (z0N g off j 1),.pointer (z0N g off j 2),.pointer (z0N g off j 3),.pointer (z0N g off j 4),.pointer (z0N g off j 5),.pointer (z0N g off j 6),.pointer (z0N g off j 7)]) (by simp[results,Tryz.results92,go_sem, *]) rfl ⟨rfl,?_⟩;iterate 8 refine Below.setCell ?_ (by simp only;omega) _
    exact hb
 ·go_enter Tryz.func92,Tryz.ntmps92;go_wp2;rw[<-hW];clear hW;go_loopw[9] (λi wr=>∃j:Nat,j<=8/\i= .int .i64 j/\Hid (CI0 wr w.heap.size (.slice ao n co) g off j)/\Below w.heap.size w wr) (λi _=>8 - (intOf i).toNat)
  case atStart=>exact⟨0,by omega,rfl,HI,BW⟩
  case round=>
   obtain⟨j,hj,rfl,HJ,hb⟩:=hrel;by_cases hlt:j<8
   ·obtain rfl:=HA.out (by omega);obtain⟨h0,-,-,h1,h2,-⟩:=HJ.out.at_ j (by omega);have HN:Hid (CI0 (wr.setCell ⟨w.heap.size+1+1,j,none⟩ (.pointer (some ⟨g,off+j*8,none⟩))) w.heap.size (.slice (some ⟨g,off,none⟩) n co) g off (j+1)):=HJ.out.set (by omega);go_wp2;go_roundw
    case rel=>exact⟨j+1,by omega,by go_num,HN,Below.setCell hb (by simp only;omega) _⟩
    case measure=>simp[intOf];omega
   ·obtain rfl:j=8:=by omega
    have hn9:8<n:=by omega
    have HV:Hid (v1B g off n=v1B g off 8):=x3e g off n (by omega);obtain⟨-,r0,e0,o0,-,hs⟩:=HJ.out.at_ 0 (by omega);obtain⟨-,r1,e1,o1,-,-⟩:=HJ.out.at_ 1 (by omega);obtain⟨-,r2,e2,o2,-,-⟩:=HJ.out.at_ 2 (by omega);obtain⟨-,r3,e3,o3,-,-⟩:=HJ.out.at_ 3 (by omega);obtain⟨-,r4,e4,o4,-,-⟩:=HJ.out.at_ 4 (by omega);obtain⟨-,r5,e5,o5,-,-⟩:=HJ.out.at_ 5 (by omega);obtain⟨-,r6,e6,o6,-,-⟩:=HJ.out.at_ 6 (by omega);obtain⟨-,r7,e7,o7,-,-⟩:=HJ.out.at_ 7 (by omega);go_wp2;refine bodyPost_ret (v:= .agg #[.pointer (z0N g off 8 0),.pointer (z0N g off 8 1),.pointer (z0N g off 8 2),.pointer (z0N g off 8 3),.pointer (z0N g off 8 4),.pointer (z0N g off 8 5),.pointer (z0N g off 8 6),.pointer (z0N g off 8 7)]) (by simp[results,Tryz.results92,go_sem, *]) rfl ⟨by rw[HV.out];rfl,?_⟩;iterate 8 refine Below.setCell ?_ (by simp only;omega) _
    exact hb
theorem q1u(slot gen:Int)(w:World):
 Calls Tryz.prog 109 #[.int .i64 slot,.int .i64 gen] w λe w' =>e= .returned (.int .i64 (idZ slot gen))/\w' =w:=by
 by_cases h:0<=slot/\slot<=7/\1<=gen/\gen<=999
 ·have HE:Hid (idZ slot gen=slot+8*gen):=by show _=_;unfold idZ;rw[if_pos h]
  obtain⟨g1,g2,g3,g4⟩:=h;go_enter Tryz.func109,Tryz.ntmps109;go_wp2;go_ret
  exact⟨z0x HE.out.symm,rfl⟩
 ·have HE:Hid (idZ slot gen= -1):=by show _=_;unfold idZ;rw[if_neg h]
  by_cases g1:slot<0
  ·clear h;go_enter Tryz.func109,Tryz.ntmps109;go_wp2;go_ret
   exact⟨z0x HE.out.symm,rfl⟩
  by_cases g2:8<=slot
  ·clear h;go_enter Tryz.func109,Tryz.ntmps109;go_wp2;go_ret
   exact⟨z0x HE.out.symm,rfl⟩
  by_cases g3:gen<1
  ·clear h;have g1' :0<=slot:=by omega
   have g2' :slot<8:=by omega
   go_enter Tryz.func109,Tryz.ntmps109;go_wp2;go_ret
   exact⟨z0x HE.out.symm,rfl⟩
  have g1' :0<=slot:=by omega
  have g2' :slot<8:=by omega
  have g3' :1<=gen:=by omega
  have g4' :999<gen:=by omega
  clear h;go_enter Tryz.func109,Tryz.ntmps109;go_wp2;go_ret
  exact⟨z0x HE.out.symm,rfl⟩
end
section
open Go.RowKit
theorem j4e(p0 p1 p2 p3 p4 p5 p6 p7:Option Addr)(w:World):(Instr.index 116 (.agg #[.pointer p0,.pointer p1,.pointer p2,.pointer p3,.pointer p4,.pointer p5,.pointer p6,.pointer p7]) (.int .i64 0)).run Tryz.prog w= .ok (.pointer p0) w:=by kernel_rfl
theorem j4f(p0 p1 p2 p3 p4 p5 p6 p7:Option Addr)(w:World):(Instr.index 116 (.agg #[.pointer p0,.pointer p1,.pointer p2,.pointer p3,.pointer p4,.pointer p5,.pointer p6,.pointer p7]) (.int .i64 1)).run Tryz.prog w= .ok (.pointer p1) w:=by kernel_rfl
theorem j4g(p0 p1 p2 p3 p4 p5 p6 p7:Option Addr)(w:World):(Instr.index 116 (.agg #[.pointer p0,.pointer p1,.pointer p2,.pointer p3,.pointer p4,.pointer p5,.pointer p6,.pointer p7]) (.int .i64 2)).run Tryz.prog w= .ok (.pointer p2) w:=by kernel_rfl
theorem j4h(p0 p1 p2 p3 p4 p5 p6 p7:Option Addr)(w:World):(Instr.index 116 (.agg #[.pointer p0,.pointer p1,.pointer p2,.pointer p3,.pointer p4,.pointer p5,.pointer p6,.pointer p7]) (.int .i64 3)).run Tryz.prog w= .ok (.pointer p3) w:=by kernel_rfl
theorem j4i(p0 p1 p2 p3 p4 p5 p6 p7:Option Addr)(w:World):(Instr.index 116 (.agg #[.pointer p0,.pointer p1,.pointer p2,.pointer p3,.pointer p4,.pointer p5,.pointer p6,.pointer p7]) (.int .i64 4)).run Tryz.prog w= .ok (.pointer p4) w:=by kernel_rfl
theorem j4j(p0 p1 p2 p3 p4 p5 p6 p7:Option Addr)(w:World):(Instr.index 116 (.agg #[.pointer p0,.pointer p1,.pointer p2,.pointer p3,.pointer p4,.pointer p5,.pointer p6,.pointer p7]) (.int .i64 5)).run Tryz.prog w= .ok (.pointer p5) w:=by kernel_rfl
theorem j4k(p0 p1 p2 p3 p4 p5 p6 p7:Option Addr)(w:World):(Instr.index 116 (.agg #[.pointer p0,.pointer p1,.pointer p2,.pointer p3,.pointer p4,.pointer p5,.pointer p6,.pointer p7]) (.int .i64 6)).run Tryz.prog w= .ok (.pointer p6) w:=by kernel_rfl
theorem j4l(p0 p1 p2 p3 p4 p5 p6 p7:Option Addr)(w:World):(Instr.index 116 (.agg #[.pointer p0,.pointer p1,.pointer p2,.pointer p3,.pointer p4,.pointer p5,.pointer p6,.pointer p7]) (.int .i64 7)).run Tryz.prog w= .ok (.pointer p7) w:=by kernel_rfl
theorem v1l(g off n s:Nat)(hs:s<8):∃x,v1B g off n= .agg x/\∀X:World,(Instr.index 116 (.agg x) (.int .i64 (s:Int))).run Tryz.prog X= .ok (.pointer (z0N g off n s)) X:=by
 refine⟨_,rfl,λX=> ?_⟩
 match s,hs with
 |0,_=>exact j4e _ _ _ _ _ _ _ _ X
 |1,_=>exact j4f _ _ _ _ _ _ _ _ X
 |2,_=>exact j4g _ _ _ _ _ _ _ _ X
 |3,_=>exact j4h _ _ _ _ _ _ _ _ X
 |4,_=>exact j4i _ _ _ _ _ _ _ _ X
 |5,_=>exact j4j _ _ _ _ _ _ _ _ X
 |6,_=>exact j4k _ _ _ _ _ _ _ _ X
 |7,_=>exact j4l _ _ _ _ _ _ _ _ X
def u0k(H:q0a)(slot:Int):Prop:=slot<0\/8<=slot\/∀o,H.objs[slot.toNat]? =some o->o.live=false
theorem v0R(v:Value)(H:q0a)(slot:Int)(w:World)(h:RdH w v H)(hn:H.objs.length<=1048576)(hl:u0k H slot):
 Calls Tryz.prog 110 #[v,.int .i64 slot] w λe w' =>e= .returned (.pointer none)/\Below w.heap.size w w' :=by
 obtain⟨ao,co,aw,cw,ab,cb,sa,sc,rfl,ro,-,-,-⟩:=h;by_cases h1:slot<0
 ·clear hl ro;go_enter Tryz.func110,Tryz.ntmps110;go_wp2;go_ret
  exact⟨rfl,bl1 _⟩
 by_cases h2:8<=slot
 ·clear hl ro;go_enter Tryz.func110,Tryz.ntmps110;go_wp2;go_ret
  exact⟨rfl,bl1 _⟩
 obtain⟨s,rfl⟩:∃s:Nat,slot=(s:Int):=⟨slot.toNat,by omega⟩;have hs:s<8:=by omega
 have hl2:∀(h:s<H.objs.length),H.objs[s].live=false:=by
  intro hx;rcases hl with h|h|h
  ·omega
  ·omega
  ·exact h _ (by rw[show((s:Int)).toNat=s from by omega,List.getElem?_eq_getElem hx])
 clear hl h1 h2
 have hex:∃g off,0<H.objs.length->ao=some ⟨g,off,none⟩:=by
  by_cases h0:0<H.objs.length
  ·obtain⟨g,off,f,fc,ha,-⟩:=ro 0 h0;exact⟨g,off,λ_=>ha⟩
  ·exact⟨0,0,λh=>absurd h h0⟩
 obtain⟨g,off,ha⟩:=hex;have CC:Hid (∀X:World,_):=λX=>y0i X ao H.objs.length co (.slice aw H.weaks.length cw) (.slice ab H.buffer.length cb) (.slice sa H.sites.length sc) hn g off ha ⟨_,_,_,_,_,_,_,_,_,rfl,rfl,rfl⟩;obtain⟨W,hW⟩:∃W,W=w.alloc (.cells #[.slice ao H.objs.length co,.slice aw H.weaks.length cw,.slice ab H.buffer.length cb,.slice sa H.sites.length sc] 35):=⟨_,rfl⟩;have BW:Below w.heap.size w W:=by rw[hW];exact bl1 _
 obtain⟨x,hx,hxs⟩:=v1l g off H.objs.length s hs;rw[hx]at CC;by_cases hlen:s<H.objs.length
 ·have hA:z0N g off H.objs.length s=some ⟨g,off+s*8,none⟩:=by unfold z0N;rw[if_pos hlen]
  rw[hA]at hxs;obtain⟨g',off',f,fc,ha',-,hc,-⟩:=q0V ro BW s hlen;rw[ha (by omega)]at ha';obtain⟨rfl,rfl⟩:g=g' /\off=off' :=by simpa using ha'
  have hlv:=hl2 hlen
  have HC:Hid (∀X,Below W.heap.size W X->X.cell? ⟨g,off+s*8,none⟩=some (.bool false)):=by
   obtain⟨_,_,_,_,ha2,hg2,_⟩:=ro s hlen;rw[ha (by omega)]at ha2;obtain⟨rfl,rfl⟩:g=_/\off=_:=by simpa using ha2
   intro X hX;rw[hX.cell (p:=⟨g,off+s*8,none⟩) (Nat.lt_of_lt_of_le hg2 BW.size),hc.c0,hlv]
  clear hl2 hc ha' ha ro hlv hx;go_enter Tryz.func110,Tryz.ntmps110;go_wp2_with fail
  rw[<-hW];clear hW;refine(CC.out _).mono ?_;rintro e w1 ⟨rfl,b1⟩;have c0:=HC.out _ b1;have B1:=BW.trans (b1.mono BW.size);clear b1 HC CC;have hi:(s:Int)<8:=by omega
  go_wp2;go_ret
  exact⟨rfl,B1⟩
 ·have hA:z0N g off H.objs.length s=none:=by unfold z0N;rw[if_neg hlen]
  rw[hA]at hxs;clear hl2 ha ro hx;go_enter Tryz.func110,Tryz.ntmps110;go_wp2_with fail
  rw[<-hW];clear hW;refine(CC.out _).mono ?_;rintro e w1 ⟨rfl,b1⟩;have B1:=BW.trans (b1.mono BW.size);clear b1 CC;have hi:(s:Int)<8:=by omega
  go_wp2;go_ret
  exact⟨rfl,B1⟩
theorem z2i(v:Value)(H:q0a)(s:Nat)(w:World)(h:RdH w v H)(hn:H.objs.length<=1048576)(hs:s<8)(hlen:s<H.objs.length)(hl:H.objs[s].live=true):
 ∃g off f cap,g<w.heap.size/\x0G w g (off+s*8) H.objs[s] (.slice f H.objs[s].field.length cap)/\RdI w f H.objs[s].field/\
 Hid (∀X,Below w.heap.size w X->Calls Tryz.prog 110 #[v,.int .i64 (s:Int)] X λe w' =>e= .returned (.pointer (some ⟨g,off+s*8,none⟩))/\Below X.heap.size X w'):=by
 obtain⟨ao,co,aw,cw,ab,cb,sa,sc,rfl,ro,-,-,-⟩:=h;obtain⟨g,off,f,fc,rfl,hg,hc,hr⟩:=ro s hlen;refine⟨g,off,f,fc,hg,hc,hr,?_⟩;intro Y hY;have hgY:g<Y.heap.size:=Nat.lt_of_lt_of_le hg hY.size;have hcY:Y.cell? ⟨g,off+s*8,none⟩=some (.bool true):=by rw[hY.cell (p:=⟨g,off+s*8,none⟩) hg,hc.c0,hl]
 clear hc hr ro hl hY hg;have CC:Hid (∀X:World,_):=λX=>y0i X (some ⟨g,off,none⟩) H.objs.length co (.slice aw H.weaks.length cw) (.slice ab H.buffer.length cb) (.slice sa H.sites.length sc) hn g off (λ_=>rfl) ⟨_,_,_,_,_,_,_,_,_,rfl,rfl,rfl⟩;obtain⟨W,hW⟩:∃W,W=Y.alloc (.cells #[.slice (some ⟨g,off,none⟩) H.objs.length co,.slice aw H.weaks.length cw,.slice ab H.buffer.length cb,.slice sa H.sites.length sc] 35):=⟨_,rfl⟩;have BW:Below Y.heap.size Y W:=by rw[hW];exact bl1 _
 have HC:Hid (∀X,Below W.heap.size W X->X.cell? ⟨g,off+s*8,none⟩=some (.bool true)):=by intro X hX;rw[hX.cell (p:=⟨g,off+s*8,none⟩) (Nat.lt_of_lt_of_le hgY BW.size),BW.cell (p:=⟨g,off+s*8,none⟩) hgY,hcY]
 obtain⟨x,hx,hxs⟩:=v1l g off H.objs.length s hs;rw[hx]at CC;have hA:z0N g off H.objs.length s=some ⟨g,off+s*8,none⟩:=by unfold z0N;rw[if_pos hlen]
 rw[hA]at hxs;clear hx hcY hgY;have hi:(s:Int)<8:=by omega
 go_enter Tryz.func110,Tryz.ntmps110;go_wp2_with fail
 rw[<-hW];clear hW;refine(CC.out _).mono ?_;rintro e w1 ⟨rfl,b1⟩;have c0:=HC.out _ b1;have B1:=BW.trans (b1.mono BW.size);clear b1 HC CC;go_wp2;go_ret
 exact⟨rfl,B1⟩
theorem z0m(v:Value)(H:q0a)(id:Int)(w:World)(h:RdH w v H)(hn:H.objs.length<=1048576)(h0: -9223372036854775808<=id)(h9:id<=9223372036854775807):
 Calls Tryz.prog 111 #[v,.int .i64 id] w λe w' =>e= .returned (.int .i64 (q0l H id))/\Below w.heap.size w w' :=by
 have HR:Hid (RdH w v H):=h;obtain⟨ao,co,aw,cw,ab,cb,sa,sc,rfl,ro,-,-,-⟩:=h;by_cases h1:id<8
 ·have HE:Hid (q0l H id= -1):=by show _=_;unfold q0l;rw[if_pos (.inl h1)]
  clear ro;go_enter Tryz.func111,Tryz.ntmps111;go_wp2;go_ret
  exact⟨z0x HE.out.symm,bl1 _⟩
 by_cases h2:H.objs.length=8
 rotate_left
 ·have HE:Hid (q0l H id= -1):=by show _=_;unfold q0l;rw[if_pos (.inr h2)]
  have h3:¬((H.objs.length:Int)=8):=by omega
  clear ro;go_enter Tryz.func111,Tryz.ntmps111;go_wp2;go_ret
  exact⟨z0x HE.out.symm,bl1 _⟩
 obtain⟨k,hk⟩:∃k:Nat,id%8=(k:Int):=⟨(id%8).toNat,by omega⟩;have hk8:k<8:=by omega
 have hkl:k<H.objs.length:=by omega
 obtain⟨o,ho⟩:∃o,H.objs[k]=o:=⟨_,rfl⟩
 have HE:Hid (q0l H id=if o.live=true/\o.gen=id / 8 then(k:Int)else -1):=by show _=_;unfold q0l;rw[if_neg (by omega),hk,show((k:Int)).toNat=k from by omega,List.getElem?_eq_getElem (by omega),ho]
 have hm:id.tmod 8=(k:Int):=by rw[Int.tmod_eq_emod_of_nonneg (by omega),hk]
 have hd:id.tdiv 8=id / 8:=Int.tdiv_eq_ediv_of_nonneg (by omega);obtain⟨q,hq⟩:∃q,id / 8=q:=⟨_,rfl⟩;rw[hq]at hd HE;have h8:8<=id:=by omega
 have hq0:0<=q/\q<=9223372036854775807:=by omega
 clear ro h1 hq;obtain⟨W,hW⟩:∃W,W=w.alloc (.cells #[.slice ao H.objs.length co,.slice aw H.weaks.length cw,.slice ab H.buffer.length cb,.slice sa H.sites.length sc] 35):=⟨_,rfl⟩;have BW:Below w.heap.size w W:=by rw[hW];exact bl1 _
 have HRW:Hid (RdH W _ H):=q0s HR.out BW
 cases hlv:o.live with
 |false=>
  have HV:Hid (q0l H id= -1):=by show _=_;rw[HE.out,if_neg (by simp[hlv])]
  have CL:Hid (∀u:Unit,_):=λ(_:Unit)=>v0R _ H (k:Int) W HRW.out hn (.inr (.inr (by
   intro o' ho';rw[show((k:Int)).toNat=k from by omega,List.getElem?_eq_getElem hkl,ho]at ho';injection ho' with ho';rw[<-ho'];exact hlv)))
  rw[h2]at CL hW ⊢;clear hk ho HE HR HRW hlv;go_enter Tryz.func111,Tryz.ntmps111;go_wp2_with fail
  rw[<-hW];clear hW;refine(CL.out ()).mono ?_;rintro e w1 ⟨rfl,b1⟩;have B1:=BW.trans (b1.mono BW.size);go_wp2;go_ret
  exact⟨z0x HV.out.symm,B1⟩
 |true=>
  obtain⟨g,off,f,fc,hg,hc,-,CL0⟩:=z2i _ H k W HRW.out hn hk8 hkl (by rw[ho];exact hlv);have CL:Hid (∀u:Unit,_):=λ(_:Unit)=>CL0.out W bl0;rw[ho]at hc;have HC:Hid (∀X,Below W.heap.size W X->X.cell? ⟨g,off+k*8+1,none⟩=some (.int .i64 o.gen)):=λX hX=>(hX.cell (p:=⟨g,off+k*8+1,none⟩) hg).trans hc.c1;rw[hlv]at HE;generalize o.gen=og at*;rw[h2]at CL hW ⊢;clear hk ho HR HRW hlv hc CL0;by_cases hgq:og=q
  ·have HV:Hid (q0l H id=(k:Int)):=by show _=_;rw[HE.out,if_pos ⟨rfl,hgq⟩]
   subst hgq;go_enter Tryz.func111,Tryz.ntmps111;go_wp2_with fail
   rw[<-hW];clear hW;refine(CL.out ()).mono ?_;rintro e w1 ⟨rfl,b1⟩;have c1:=HC.out _ b1;have B1:=BW.trans (b1.mono BW.size);clear b1 HC;go_wp2;go_ret
   exact⟨z0x HV.out.symm,B1⟩
  ·have HV:Hid (q0l H id= -1):=by show _=_;rw[HE.out,if_neg (by simp[hgq])]
   have hgn:(og !=q)=true:=by rw[bne_iff_ne];exact hgq
   go_enter Tryz.func111,Tryz.ntmps111;go_wp2_with fail
   rw[<-hW];clear hW;refine(CL.out ()).mono ?_;rintro e w1 ⟨rfl,b1⟩;have c1:=HC.out _ b1;have B1:=BW.trans (b1.mono BW.size);clear b1 HC;go_wp2;go_ret
   exact⟨z0x HV.out.symm,B1⟩
end
section
open Go.RowKit
variable{H:q0a}
def u1b(H:q0a)(k:Nat)(d:Int):q0a:=match H.objs[k]?with
 |some o=>{H with objs:=H.objs.set k {o with count:=wrap64 (o.count+d)}}
 |none=>H
def z0n(H:q0a)(id:Int):q0a:=if 0<=q0l H id then u1b H (q0l H id).toNat 1 else H
theorem u2s{k:Nat}{d:Int}(h:k<H.objs.length):u1b H k d={H with objs:=H.objs.set k {H.objs[k]with count:=wrap64 (H.objs[k].count+d)}}:=by unfold u1b;rw[List.getElem?_eq_getElem h]
theorem j0w(H:q0a)(id:Int)(h:0<=q0l H id):∃k,∃hk:k<H.objs.length,q0l H id=(k:Int)/\k<8/\H.objs[k].live=true/\H.objs.length=8:=by
 unfold q0l at h ⊢;split at h
 ·omega
 ·rename_i h1
  rw[if_neg h1]
  cases ho:H.objs[(id%8).toNat]?with
  |none=>rw[ho]at h;simp at h
  |some o=>
   rw[ho]at h;simp only at h ⊢;split at h
   ·rename_i h2
    obtain⟨hk,rfl⟩:=List.getElem?_eq_some_iff.1 ho;exact⟨(id%8).toNat,hk,by rw[if_pos h2];omega,by omega,h2.1,by omega⟩
   ·omega
theorem q1c(s n co:Nat)(w:World)(g:Nat)(aw:Option Addr)(nw cw:Nat)(ab:Option Addr)(nb cb:Nat)(sa:Option Addr)(ns sc:Nat)(hc0:w.cell? ⟨g,s*8,none⟩=some (.bool true))(hn:n<=1048576)(hs:s<8)(hlen:s<n):
 Calls Tryz.prog 110 #[.agg #[.slice (some ⟨g,0,none⟩) n co,.slice aw nw cw,.slice ab nb cb,.slice sa ns sc],.int .i64 (s:Int)] w λe w' =>e= .returned (.pointer (some ⟨g,s*8,none⟩))/\Below w.heap.size w w' :=by
 have hg:g<w.heap.size:=World.block_lt_of_cell? w _ hc0;have CC:Hid (∀X:World,_):=λX=>y0i X (some ⟨g,0,none⟩) n co (.slice aw nw cw) (.slice ab nb cb) (.slice sa ns sc) hn g 0 (λ_=>rfl) ⟨_,_,_,_,_,_,_,_,_,rfl,rfl,rfl⟩;obtain⟨W,hW⟩:∃W,W=w.alloc (.cells #[.slice (some ⟨g,0,none⟩) n co,.slice aw nw cw,.slice ab nb cb,.slice sa ns sc] 35):=⟨_,rfl⟩;have BW:Below w.heap.size w W:=by rw[hW];exact bl1 _
 have HC:Hid (∀X,Below W.heap.size W X->X.cell? ⟨g,s*8,none⟩=some (.bool true)):=by intro X hX;rw[hX.cell (p:=⟨g,s*8,none⟩) (Nat.lt_of_lt_of_le hg BW.size),BW.cell (p:=⟨g,s*8,none⟩) hg,hc0]
 obtain⟨x,hx,hxs⟩:=v1l g 0 n s hs;rw[hx]at CC;have hA:z0N g 0 n s=some ⟨g,s*8,none⟩:=by unfold z0N;rw[if_pos hlen,Nat.zero_add]
 rw[hA]at hxs;clear hx hc0 hg;have hi:(s:Int)<8:=by omega
 go_enter Tryz.func110,Tryz.ntmps110;go_wp2_with fail
 rw[<-hW];clear hW;refine(CC.out _).mono ?_;rintro e w1 ⟨rfl,b1⟩;have c0:=HC.out _ b1;have B1:=BW.trans (b1.mono BW.size);clear b1 HC CC;go_wp2;go_ret
 exact⟨rfl,B1⟩
theorem x1L(v:Value)(H:q0a)(id:Int)(w:World)(h:RdH w v H)(hs:q0h H)(hid:q0w id):
 Calls Tryz.prog 112 #[v,.int .i64 id] w λe w' =>∃s:HSh,e= .returned s.v/\HM w' w.heap.size s (z0n H id)/\Below w.heap.size w w' :=by
 have HR:Hid (∀X,Below w.heap.size w X->RdH X v H):=λX hX=>q0s h hX;obtain⟨ao,co,aw,cw,ab,cb,sa,sc,rfl,-⟩:=h;obtain⟨W,hW⟩:∃W,W=(w.alloc (.cells #[.slice ao H.objs.length co,.slice aw H.weaks.length cw,.slice ab H.buffer.length cb,.slice sa H.sites.length sc] 35)).alloc (.cells #[.slice none 0 0,.slice none 0 0,.slice none 0 0,.slice none 0 0] 35):=⟨_,rfl⟩;have BW:Below w.heap.size w W:=by rw[hW];exact(bl1 _).alloc (by simp) _
 have hWs:W.heap.size=w.heap.size+2:=by rw[hW];simp
 have FR:q0d W (w.heap.size+1) (.slice none 0 0) (.slice none 0 0) (.slice none 0 0) (.slice none 0 0):=by rw[hW];have f1:=q0d.new (w.alloc (.cells #[.slice ao H.objs.length co,.slice aw H.weaks.length cw,.slice ab H.buffer.length cb,.slice sa H.sites.length sc] 35)) (.slice none 0 0) (.slice none 0 0) (.slice none 0 0) (.slice none 0 0);simpa using f1
 have HFR:Hid (q0d W (w.heap.size+1) (.slice none 0 0) (.slice none 0 0) (.slice none 0 0) (.slice none 0 0)):=FR;have CC:Hid (∀_:Unit,_):=λ(_:Unit)=>v0O _ H W (HR.out W BW) hs;have HBW:Hid (Below w.heap.size w W):=BW;have l0:=hs.objs;clear FR BW HR hs;go_enter Tryz.func112,Tryz.ntmps112;go_wp2_with fail
 rw[<-hW];clear hW;refine(CC.out ()).mono ?_;rintro e w1 ⟨⟨oa,oc2,os,wa,wn,wc,ba,bn,bc,sa2,sn,sc2⟩,rfl,M1,b1⟩;have HM1:Hid (HM w1 W.heap.size ⟨oa,oc2,os,wa,wn,wc,ba,bn,bc,sa2,sn,sc2⟩ H):=M1;have HB1:Hid (Below W.heap.size W w1):=b1;have HSO:Hid (os.length=H.objs.length):=M1.lo;have hs1:=b1.size;clear CC M1 b1;obtain⟨V,hV⟩:∃V,V=w1.alloc (.cells #[.slice oa os.length oc2,.slice wa wn wc,.slice ba bn bc,.slice sa2 sn sc2] 35):=⟨_,rfl⟩;have BV:Below w1.heap.size w1 V:=by rw[hV];exact bl1 _
 have hVs:V.heap.size=w1.heap.size+1:=by rw[hV];simp
 have HXV:Hid (q0d V w1.heap.size (.slice oa os.length oc2) (.slice wa wn wc) (.slice ba bn bc) (.slice sa2 sn sc2)):=by rw[hV];exact q0d.new w1 _ _ _ _
 have HMV:Hid (HM V W.heap.size ⟨oa,oc2,os,wa,wn,wc,ba,bn,bc,sa2,sn,sc2⟩ H):=q0c HM1.out BV;have HBV:Hid (Below W.heap.size W V):=HB1.out.trans (BV.mono HB1.out.size);have HFV:Hid (q0d V (w.heap.size+1) (.slice none 0 0) (.slice none 0 0) (.slice none 0 0) (.slice none 0 0)):=(HBV.out.block (w.heap.size+1) (by omega)).trans HFR.out;have CS:Hid (∀X:q0b V,_):=λX=>z0m (HSh.v ⟨oa,oc2,os,wa,wn,wc,ba,bn,bc,sa2,sn,sc2⟩) H id X.on (q0K (q0c HMV.out X.bel)) l0 hid.1 hid.2;have CN:Hid (∀X:q0b V,∀z,u0k H z->_):=λX z hz=>v0R (HSh.v ⟨oa,oc2,os,wa,wn,wc,ba,bn,bc,sa2,sn,sc2⟩) H z X.on (q0K (q0c HMV.out X.bel)) l0 hz;have hv:HSh.v ⟨oa,oc2,os,wa,wn,wc,ba,bn,bc,sa2,sn,sc2⟩= .agg #[.slice oa os.length oc2,.slice wa wn wc,.slice ba bn bc,.slice sa2 sn sc2]:=rfl;rw[hv]at CS CN ⊢;clear hv;have hne:=q0b.some_ V;have y0:∀X:q0b V,X.on.cell? ⟨w1.heap.size,0,none⟩=some (.slice oa os.length oc2):=λX=>(HXV.out.later X.bel).cell 0;have y1:∀X:q0b V,X.on.cell? ⟨w1.heap.size,1,none⟩=some (.slice wa wn wc):=λX=>(HXV.out.later X.bel).cell 1;have y2:∀X:q0b V,X.on.cell? ⟨w1.heap.size,2,none⟩=some (.slice ba bn bc):=λX=>(HXV.out.later X.bel).cell 2;have y3:∀X:q0b V,X.on.cell? ⟨w1.heap.size,3,none⟩=some (.slice sa2 sn sc2):=λX=>(HXV.out.later X.bel).cell 3;have HEND:Hid (∀X,Below V.heap.size V X->Below w.heap.size w X):=λX hX=>HBW.out.trans ((HBV.out.trans (hX.mono HBV.out.size)).mono HBW.out.size);clear HB1 BV HFR HBV HBW;by_cases hk:0<=q0l H id
 ·obtain⟨k,hkl,ek,hk8,hlv,-⟩:=j0w H id hk;have HG:Hid (z0n H id=u1b H k 1):=by show _=_;unfold z0n;rw[if_pos hk,ek];rfl
  obtain⟨go,hgo,hgB,hgl⟩:=v0E HMV.out k hkl;simp only at hgo;subst hgo;obtain⟨hk2,hob,hfz⟩:=z0o HMV.out k hkl go rfl;have hgq:go≠w1.heap.size:=λe=>by have:=(HM1.out.og _ rfl).2;simp only at this;omega
  rw[ek]at CS;have HOB:Hid (∀X,Below V.heap.size V X->X.cell? ⟨go,k*8+5,none⟩=some (.int .i64 H.objs[k].count)/\X.frozen? ⟨go,k*8+5,none⟩=false):=λX hX=>⟨(hX.cell (p:=⟨go,k*8+5,none⟩) hgl).trans hob.c5,(hX.frozen (p:=⟨go,k*8+5,none⟩) hgl).trans (hfz 5 (by omega))⟩;have CL:Hid (∀X:q0b V,_):=λX=>q1c k os.length oc2 X.on go wa wn wc ba bn bc sa2 sn sc2 ((X.bel.cell (p:=⟨go,k*8,none⟩) hgl).trans (hob.c0.trans (by rw[hlv]))) (by rw[HSO.out];exact l0) hk8 hk2
  have HN:Hid (∀X,Below V.heap.size V X->HM (X.setCell ⟨go,k*8+5,none⟩ (.int .i64 (wrap64 (H.objs[k].count+1)))) W.heap.size ⟨some ⟨go,0,none⟩,oc2,os,wa,wn,wc,ba,bn,bc,sa2,sn,sc2⟩ (z0n H id)):=λX hX=>by
   rw[HG.out,u2s hkl];exact z1h (q0c HMV.out hX) k hkl go rfl _
  generalize H.objs[k].count=c at HOB HN;obtain⟨M,hM⟩:∃M,wrap64 (c+1)=M:=⟨_,rfl⟩;rw[hM]at HN;clear hob hfz hlv HG hk ek CN HMV;go_wp2;rw[<-hV];clear hV;refine q0j V bl0 (by kernel_rfl) (by kernel_rfl) ?_
  repeat (go_big_quiet_step (first
   |(go_at_call 111;refine(CS.out _).mono ?_;rintro e w2 ⟨rfl,b2⟩;exact⟨rfl,q0b.step _ b2⟩)
   |(go_at_call 110;refine(CL.out _).mono ?_;rintro e w2 ⟨rfl,b2⟩;exact⟨rfl,q0b.step _ b2⟩)))
  refine wpQuiet_nil ?_;intro X hXe;have hX:Below V.heap.size V X:=by obtain⟨n,hn⟩:=hXe;rw[hn];exact n.bel
  clear hXe y0 y1 y2 y3 hne;obtain⟨k5,z5⟩:=HOB.out X hX;have XX:=HXV.out.later hX;have RX:=HFV.out.later hX;have q0:=XX.cell 0;have q1:=XX.cell 1;have q2:=XX.cell 2;have q3:=XX.cell 3;have r0:=RX.cell 0;have r1:=RX.cell 1;have r2:=RX.cell 2;have r3:=RX.cell 3;have z0:=RX.frozen 0;have z1:=RX.frozen 1;have z2:=RX.frozen 2;have z3:=RX.frozen 3;simp only[List.getElem?_toArray,List.getElem?_cons_zero,List.getElem?_cons_succ]at q0 q1 q2 q3 r0 r1 r2 r3;have hg1:¬go=w.heap.size+1:=by omega
  have hg2:¬w.heap.size+1=go:=by omega
  have hg3:¬go=w1.heap.size:=hgq;have hg4:¬w1.heap.size=go:=λe=>hgq e.symm;have HNX:Hid _:=HN.out X hX;have HEX:Hid (Below w.heap.size w X):=HEND.out X hX;clear XX RX HN HOB HEND;go_wp2;refine bodyPost_ret (v:= .agg #[.slice (some ⟨go,0,none⟩) os.length oc2,.slice wa wn wc,.slice ba bn bc,.slice sa2 sn sc2]) (by simp[results,Tryz.results112,go_sem, *]) rfl ⟨⟨some ⟨go,0,none⟩,oc2,os,wa,wn,wc,ba,bn,bc,sa2,sn,sc2⟩,rfl,?_,?_⟩
  ·refine z0G (v0V HNX.out ?_) (by omega);refine(((q0G _ _ ⟨w.heap.size+1,0,none⟩ _ (by simp only;omega)).trans (q0G _ _ ⟨w.heap.size+1,1,none⟩ _ (by simp only;omega))).trans (q0G _ _ ⟨w.heap.size+1,2,none⟩ _ (by simp only;omega))).trans (q0G _ _ ⟨w.heap.size+1,3,none⟩ _ (by simp only;omega))
  ·iterate 4 refine Below.setCell ?_ (by simp only;omega) _
   exact HEX.out.setCell (by simp only;omega) _
 ·have HG:Hid (z0n H id=H):=by show _=_;unfold z0n;rw[if_neg hk]
  have CL:Hid (∀X:q0b V,_):=λX=>CN.out X (q0l H id) (.inl (by omega));generalize q0l H id=z at CS CL;clear CN;go_wp2;rw[<-hV];clear hV;refine q0j V bl0 (by kernel_rfl) (by kernel_rfl) ?_
  repeat (go_big_quiet_step (first
   |(go_at_call 111;refine(CS.out _).mono ?_;rintro e w2 ⟨rfl,b2⟩;exact⟨rfl,q0b.step _ b2⟩)
   |(go_at_call 110;refine(CL.out _).mono ?_;rintro e w2 ⟨rfl,b2⟩;exact⟨rfl,q0b.step _ b2⟩)))
  refine wpQuiet_nil ?_;intro X hXe;have hX:Below V.heap.size V X:=by obtain⟨n,hn⟩:=hXe;rw[hn];exact n.bel
  clear hXe y0 y1 y2 y3 hne;have XX:=HXV.out.later hX;have RX:=HFV.out.later hX;have q0:=XX.cell 0;have q1:=XX.cell 1;have q2:=XX.cell 2;have q3:=XX.cell 3;have r0:=RX.cell 0;have r1:=RX.cell 1;have r2:=RX.cell 2;have r3:=RX.cell 3;have z0:=RX.frozen 0;have z1:=RX.frozen 1;have z2:=RX.frozen 2;have z3:=RX.frozen 3;simp only[List.getElem?_toArray,List.getElem?_cons_zero,List.getElem?_cons_succ]at q0 q1 q2 q3 r0 r1 r2 r3;have HNX:Hid _:=q0c HMV.out hX;have HEX:Hid (Below w.heap.size w X):=HEND.out X hX;clear XX RX HEND HMV;go_wp2;refine bodyPost_ret (v:= .agg #[.slice oa os.length oc2,.slice wa wn wc,.slice ba bn bc,.slice sa2 sn sc2]) (by simp[results,Tryz.results112,go_sem, *]) rfl ⟨⟨oa,oc2,os,wa,wn,wc,ba,bn,bc,sa2,sn,sc2⟩,rfl,?_,?_⟩
  ·rw[HG.out];refine z0G (v0V HNX.out ?_) (by omega);refine(((q0G _ _ ⟨w.heap.size+1,0,none⟩ _ (by simp only;omega)).trans (q0G _ _ ⟨w.heap.size+1,1,none⟩ _ (by simp only;omega))).trans (q0G _ _ ⟨w.heap.size+1,2,none⟩ _ (by simp only;omega))).trans (q0G _ _ ⟨w.heap.size+1,3,none⟩ _ (by simp only;omega))
  ·iterate 4 refine Below.setCell ?_ (by simp only;omega) _
   exact HEX.out
end
section
open Go.RowKit
theorem j4H(w:World):Calls Tryz.prog 138 #[.int .u64 1,.int .u64 3] w λe w' =>e= .returned (.tuple #[.int .u64 0,.int .u64 3])/\w' =w:=by
 have h1:bits BinOp.and IntKind.u64 1 4294967295=1:=by kernel_rfl
 have h2:bits BinOp.and IntKind.u64 3 4294967295=3:=by kernel_rfl
 have h3:bits BinOp.and IntKind.u64 0 4294967295=0:=by kernel_rfl
 have h4:IntKind.u64.wrap 3=3:=by kernel_rfl
 have h5:IntKind.u64.wrap 0=0:=by kernel_rfl
 go_enter Tryz.func138,Tryz.ntmps138;go_wp2;go_ret2
 exact⟨rfl,rfl⟩
theorem x5l(w:World):Calls Tryz.prog 129 #[.int .u64 1,.int .u64 3] w λe w' =>e= .returned (.tuple #[.int .u64 0,.int .u64 3])/\w' =w:=by
 go_enter Tryz.func129,Tryz.ntmps129;go_wp2_with fail
 refine(j4H _).mono ?_;rintro e w1 ⟨rfl,hw1⟩;subst hw1;go_wp2;go_ret2
 exact⟨rfl,rfl⟩
def x1W(w:World)(G:Nat)(zs:List Int):Prop:=w.heap[G]? =some (.cells (zs.map z0C).toArray 3 (0,0))
theorem z5k{w:World}{B G n:Nat}{zs:List Int}(h:q0i w B (.slice (some ⟨G,0,none⟩) n n) zs)(hn:n=zs.length):x1W w G zs:=by
 subst hn;rcases h with⟨h1,⟨h2,_⟩|⟨g,cap,cur,h2,h3,h4,h5,h6,h7,h8⟩⟩
 ·cases h2
 ·injection h2 with e1 e2 e3;injection e1 with e1;injection e1 with e1 _ _;subst e1 e3;unfold x1W;rw[h4,<-h8,List.take_of_length_le (by rw[Array.length_toList,h7];omega)]
theorem u4i{w:World}{B G n:Nat}{zs:List Int}(h:x1W w G zs)(hB:B<=G)(hl:zs.length<=maxLen)(hn:n=zs.length):q0i w B (.slice (some ⟨G,0,none⟩) n n) zs:=by subst hn;refine⟨by simp,.inr ⟨G,zs.length,_,rfl,hB,h,Nat.le_refl _,hl,by simp,by rw[Nat.mul_one];exact List.take_of_length_le (by simp)⟩⟩
theorem x4y:(Tryz.prog.info? 3).map (·.size)=some 1:=by kernel_rfl
theorem x2n{w:World}{G:Nat}{zs:List Int}(h:x1W w G zs)(off dLen dCap:Nat)(ad:Addr)(sLen sCap:Nat)(Y:List Int)(hY:Y.length=Nat.min sLen dLen)(hsrc:∀j u,(Y.map z0C)[j]? =some u->w.cell? (ad.add j)=some u)(hfit:off+Y.length<=zs.length):
 ∃w1,(Builtin.copy_ #[24,24] 3 #[.slice (some ⟨G,off,none⟩) dLen dCap,.slice (some ad) sLen sCap]).run Tryz.prog w= .ok (.int .i64 (Y.length:Int)) w1/\x1W w1 G (zs.take off++Y++zs.drop (off+Y.length))/\w1.heap.size=w.heap.size/\∀C w0,Below C w0 w->C<=G->Below C w0 w1:=by
 have hr:=run_copy_row (P:=Tryz.prog) w 24 24 3 3 G off dLen dCap ad sLen sCap _ 3 (Y.map z0C) Tryz.underlying24 x4y h (by rw[List.length_map];exact hY) hsrc (by simp;omega) (by intro v hv;obtain⟨b,_,rfl⟩:=List.mem_map.1 hv;rfl);rw[List.length_map]at hr;refine⟨_,hr,?_,by simp[World.setRow],λC w0 hb hC=>below_setRow hb hC _⟩;unfold x1W;rw[setRow_heap w G _ _ _ _ h];simp
theorem q3W{w:World}{G:Nat}{zs:List Int}(h:x1W w G zs)(j:Nat)(u:Value)(hj:(zs.map z0C)[j]? =some u):w.cell? (Addr.add ⟨G,0,none⟩ j)=some u:=by
 have ea:(Addr.add ⟨G,0,none⟩ j)=⟨G,j,none⟩:=by unfold Addr.add;split<;>simp_all
 rw[ea];simp only[World.cell?,show w.heap[G]? =_ from h,List.getElem?_toArray];exact hj
theorem z3E(w:World)(g:Nat)(hg:w.cell? ⟨g,0,none⟩=some (.int .i64 (-1)))(hl:g<w.heap.size):
 Calls Tryz.prog 122 #[.slice (some ⟨g,0,none⟩) 1 1,.int .i64 3] w λe w' =>∃f,e= .returned f/\q0i w' w.heap.size f [-1,-1,-1]/\Below w.heap.size w w' :=by
 obtain⟨u,hmk,O1,B1⟩:=q3E 3 (by omega) w;have hmk:(Instr.makeSlice 24 (.int .i64 3) (.int .i64 3)).run Tryz.prog w= .ok (.slice (some ⟨w.heap.size,0,none⟩) 3 3) u:=hmk;have R1:=z5k O1 rfl
 obtain⟨u2,hcp,R2,s2,b2⟩:=x2n R1 0 3 3 ⟨g,0,none⟩ 1 1 [-1] rfl (by
  intro j x hj
  match j,hj with
  |0,hj=>have e:some (z0C (-1))=some x:=hj;rw[<-e,show(Addr.add ⟨g,0,none⟩ 0)=⟨g,0,none⟩from rfl,B1.cell (p:=⟨g,0,none⟩) hl];exact hg
  |j+1,hj=>simp at hj) (by decide)
 have hcp:(Builtin.copy_ #[24,24] 3 #[.slice (some ⟨w.heap.size,0,none⟩) 3 3,.slice (some ⟨g,0,none⟩) 1 1]).run Tryz.prog u= .ok (.int .i64 1) u2:=hcp;have H2:Hid (x1W u2 w.heap.size [-1,0,0]):=R2;have B2:=b2 _ _ B1 nl0;have S1:Hid (∀X,x1W X w.heap.size [-1,0,0]->_):=λX hX=>x2n hX 1 2 2 ⟨w.heap.size,0,none⟩ 1 3 [-1] rfl (λj x hj=>q3W hX j x (by match j,hj with|0,hj=>exact hj|j+1,hj=>simp at hj)) (by decide);have S2:Hid (∀X,x1W X w.heap.size [-1,-1,0]->_):=λX hX=>x2n hX 2 1 1 ⟨w.heap.size,0,none⟩ 2 3 [-1] rfl (λj x hj=>q3W hX j x (by match j,hj with|0,hj=>exact hj|j+1,hj=>simp at hj)) (by decide);clear R1 R2 O1 b2 s2 hl hg;go_enter Tryz.func122,Tryz.ntmps122;go_wp2_with fail
 refine(x5l _).mono ?_;rintro e w1 ⟨rfl,hw1⟩;subst hw1;go_wp2;go_loopw[8] (λn wr=>∃k:Nat,n= .int .i64 (k:Int)/\((k=1/\Hid (x1W wr w1.heap.size [-1,0,0]))\/(k=2/\Hid (x1W wr w1.heap.size [-1,-1,0]))\/(k=3/\Hid (x1W wr w1.heap.size [-1,-1,-1])))/\Below w1.heap.size w1 wr) (λn _=>3 - (intOf n).toNat)
 case atStart=>exact⟨1,rfl,.inl ⟨rfl,H2⟩,B2⟩
 case round=>
  obtain⟨k,rfl,hk|hk|hk,hb⟩:=hrel
  ·obtain⟨rfl,HR⟩:=hk;obtain⟨u3,hcp3,R3,s3,b3⟩:=S1.out wr.drew HR.out;have hcp3:(Builtin.copy_ #[24,24] 3 #[.slice (some ⟨w1.heap.size,1,none⟩) 2 2,.slice (some ⟨w1.heap.size,0,none⟩) 1 3]).run Tryz.prog wr.drew= .ok (.int .i64 1) u3:=hcp3;have H3:Hid (x1W u3 w1.heap.size [-1,-1,0]):=R3;have B3:=b3 _ _ hb.drew nl0;clear R3 b3 s3;go_wp2;go_region
   all_goals
    go_wp2;go_roundw
    case rel=>exact⟨2,by go_num,.inr (.inl ⟨rfl,H3⟩),B3⟩
    case measure=>simp[intOf]
  ·obtain⟨rfl,HR⟩:=hk;obtain⟨u3,hcp3,R3,s3,b3⟩:=S2.out wr.drew HR.out;have hcp3:(Builtin.copy_ #[24,24] 3 #[.slice (some ⟨w1.heap.size,2,none⟩) 1 1,.slice (some ⟨w1.heap.size,0,none⟩) 2 3]).run Tryz.prog wr.drew= .ok (.int .i64 1) u3:=hcp3;have H3:Hid (x1W u3 w1.heap.size [-1,-1,-1]):=R3;have B3:=b3 _ _ hb.drew nl0;clear R3 b3 s3;go_wp2;go_region
   all_goals
    go_wp2;go_roundw
    case rel=>exact⟨3,by go_num,.inr (.inr ⟨rfl,H3⟩),B3⟩
    case measure=>simp[intOf]
  ·obtain⟨rfl,HR⟩:=hk;go_wp2;go_ret
   exact⟨_,rfl,u4i HR.out nl0 (by decide) rfl,hb⟩
theorem j1V(w:World)(t:TypeId)(x:Array Value)(X:World)(hb:Below (w.heap.size+1) (w.alloc (.cells x t)) X):
 (∀k,X.cell? ⟨w.heap.size,k,none⟩=x[k]?)/\∀k,X.frozen? ⟨w.heap.size,k,none⟩=false:=by
 refine⟨λk=> ?_,λk=> ?_⟩
 ·rw[hb.cell (p:=⟨w.heap.size,k,none⟩) (by show w.heap.size<_;omega),World.cell?_alloc_mark]
 ·rw[hb.frozen (p:=⟨w.heap.size,k,none⟩) (by show w.heap.size<_;omega),World.frozen?_alloc_mark];simp
def q0J(gen:Int):q0E:=⟨false,gen,0,0,0,0,[-1,-1,-1],false⟩
theorem j0z(gen:Int)(w:World):
 Calls Tryz.prog 96 #[.int .i64 gen] w λe w' =>∃f,e= .returned (y0J (q0J gen) f)/\q0i w' w.heap.size f [-1,-1,-1]/\Below w.heap.size w w' :=by
 obtain⟨A,hA⟩:∃A,A=w.alloc (.cells #[.bool false,.int .i64 0,.int .i64 0,.int .i64 0,.int .i64 0,.int .i64 0,.slice none 0 0,.bool false] 90):=⟨_,rfl⟩;have BA:Below w.heap.size w A:=by rw[hA];exact bl1 _
 have hAs:A.heap.size=w.heap.size+1:=by rw[hA];simp
 obtain⟨C,hC⟩:∃C,C=A.alloc (.cells #[.int .i64 (-1)] 3):=⟨_,rfl⟩;have BC:Below A.heap.size A C:=by rw[hC];exact bl1 _
 have hCs:C.heap.size=A.heap.size+1:=by rw[hC];simp
 have HK:Hid (∀X,Below C.heap.size C X->_):=λX hX=>j1V w 90 #[.bool false,.int .i64 0,.int .i64 0,.int .i64 0,.int .i64 0,.int .i64 0,.slice none 0 0,.bool false] X (by have h:=BC.trans (hX.mono (by omega));rw[hAs,hA]at h;exact h);have CR:Hid (∀u:Unit,_):=λ(_:Unit)=>z3E C A.heap.size (by rw[hC,World.cell?_alloc_mark];rfl) (by omega);have BB:=BA.trans (BC.mono (by omega));rw[hAs]at CR;go_enter Tryz.func96,Tryz.ntmps96;go_wp2_with fail
 rw[<-hA,<-hC];refine(CR.out ()).mono ?_;rintro e w1 ⟨f,rfl,O1,b1⟩;obtain⟨a,c,rfl,-⟩:=y0Q O1;obtain⟨hc,hf⟩:=HK.out _ b1;have c0:=hc 0;have c1:=hc 1;have c2:=hc 2;have c3:=hc 3;have c4:=hc 4;have c5:=hc 5;have c6:=hc 6;have c7:=hc 7;simp only[List.getElem?_toArray,List.getElem?_cons_zero,List.getElem?_cons_succ]at c0 c1 c2 c3 c4 c5 c6 c7;have f0:=hf 0;have f1:=hf 1;have f2:=hf 2;have f3:=hf 3;have f4:=hf 4;have f5:=hf 5;have f6:=hf 6;have f7:=hf 7;have B1:=BB.trans (b1.mono BB.size);have HO:Hid (q0i w1 C.heap.size _ _):=O1;have HS:Hid (w.heap.size<C.heap.size):=by show _<_;omega
 clear hc hf CR HK b1 O1 hA hC hAs hCs BA BC BB;go_wp2;refine bodyPost_ret (v:= .agg #[.bool false,.int .i64 gen,.int .i64 0,.int .i64 0,.int .i64 0,.int .i64 0,.slice a 3 c,.bool false]) (by simp[results,Tryz.results96,go_sem, *]) rfl ⟨_,rfl,?_,?_⟩
 ·refine q0A (B:=C.heap.size) ?_ (Nat.le_of_lt HS.out);iterate 8 refine u0f _ _ ?_ HS.out
  exact HO.out
 ·iterate 8 refine Below.setCell ?_ (by simp only;omega) _
  exact B1
end
section
open Go.RowKit
variable{a:Act}{ops:Array Oper}{Q:Exit → Act → World → Prop}{H:q0a}
def q0r(H:q0a)(k:Nat)(o:q0E):q0a:={H with objs:=H.objs.set k o}
def y0o(H:q0a)(id:Int)(rest fr:List Int):q0a×List Int×List Int:=
 if q0l H id<0 then(H,rest,fr)
 else match H.objs[(q0l H id).toNat]?with
  |none=>(H,rest,fr)
  |some o=>
   if 0<wrap64 (o.count - 1)then
    if o.purple=true then(q0r H (q0l H id).toNat {o with count:=wrap64 (o.count - 1)},rest,fr)
    else({q0r H (q0l H id).toNat {o with count:=wrap64 (o.count - 1),purple:=true}with buffer:=H.buffer++[id]},rest,fr)
   else({q0r H (q0l H id).toNat (q0J o.gen)with buffer:=H.buffer.filter (λz=>decide (z≠id))},rest++o.field.filter (λz=>decide (0<=z)),fr++[id])
def u0n:Nat->q0a->List Int->List Int->q0a×List Int
 |0,H,_,fr=>(H,fr)
 |_+1,H,[],fr=>(H,fr)
 |n+1,H,id::rest,fr=>if 8<fr.length then(H,fr)else u0n n (y0o H id rest fr).1 (y0o H id rest fr).2.1 (y0o H id rest fr).2.2
def muL(todo fr:List Int):Nat:=todo.length+(9 - fr.length)*1048577
structure j1S(H:q0a)(todo fr:List Int):Prop where
 objs:H.objs.length<=1048576
 fields:∀z∈H.objs,z.field.length<=1048576
 wf:∀z∈H.objs,∀x∈z.field,q0w x
 ids:∀x∈todo,q0w x
 frl:fr.length<=9
 buf:H.buffer.length+muL todo fr<=11534345
 weaks:H.weaks.length<=1048576
 sites:H.sites.length<=1048576
theorem j1d{id:Int}{rest fr:List Int}(h:q0l H id<0):y0o H id rest fr=(H,rest,fr):=by unfold y0o;rw[if_pos h]
theorem v2k{id:Int}{rest fr:List Int}{k:Nat}(hk:k<H.objs.length)(h:q0l H id=(k:Int)):y0o H id rest fr=
 if 0<wrap64 (H.objs[k].count - 1)then
  if H.objs[k].purple=true then(q0r H k {H.objs[k]with count:=wrap64 (H.objs[k].count - 1)},rest,fr)
  else({q0r H k {H.objs[k]with count:=wrap64 (H.objs[k].count - 1),purple:=true}with buffer:=H.buffer++[id]},rest,fr)
 else({q0r H k (q0J H.objs[k].gen)with buffer:=H.buffer.filter (λz=>decide (z≠id))},rest++H.objs[k].field.filter (λz=>decide (0<=z)),fr++[id]):=by
 unfold y0o;rw[if_neg (by omega),h,show((k:Int)).toNat=k from by omega,List.getElem?_eq_getElem hk]
theorem u1e{id:Int}{rest fr:List Int}:muL (id::rest) fr=muL rest fr+1:=by unfold muL;rw[List.length_cons];omega
theorem v4d{id:Int}{rest fr Y:List Int}(hf:fr.length<=8)(hy:Y.length<=1048576):muL (rest++Y) (fr++[id])<muL (id::rest) fr:=by unfold muL;simp only[List.length_append,List.length_cons,List.length_nil];omega
theorem z1r{k:Nat}{o z:q0E}(h:z∈(q0r H k o).objs):z∈H.objs\/z=o:=List.mem_or_eq_of_mem_set h
theorem q2e{id:Int}{rest fr:List Int}(h:j1S H (id::rest) fr)(hf:fr.length<=8):j1S (y0o H id rest fr).1 (y0o H id rest fr).2.1 (y0o H id rest fr).2.2/\muL (y0o H id rest fr).2.1 (y0o H id rest fr).2.2<muL (id::rest) fr:=by
 have hids:∀x∈rest,q0w x:=λx hx=>h.ids x (List.mem_cons_of_mem _ hx);have hbuf:=h.buf;rw[u1e]at hbuf;by_cases hs:q0l H id<0
 ·rw[j1d hs];exact⟨⟨h.objs,h.fields,h.wf,hids,h.frl,by simp only;omega,h.weaks,h.sites⟩,by rw[u1e];simp only;omega⟩
 ·obtain⟨k,hk,ek,-⟩:=j0w H id (by omega);rw[v2k hk ek];have hmk:=List.getElem_mem hk;split
  ·split
   ·refine⟨⟨by simpa[q0r]using h.objs,λz hz=> ?_,λz hz=> ?_,hids,h.frl,by simp only[q0r];omega,h.weaks,h.sites⟩,by rw[u1e];simp only;omega⟩
    ·rcases z1r hz with hz|rfl
     ·exact h.fields z hz
     ·show H.objs[k].field.length<=1048576
      exact h.fields _ hmk
    ·rcases z1r hz with hz|rfl
     ·exact h.wf z hz
     ·show ∀x∈H.objs[k].field,q0w x
      exact h.wf _ hmk
   ·refine⟨⟨by simpa[q0r]using h.objs,λz hz=> ?_,λz hz=> ?_,hids,h.frl,by simp only[List.length_append,List.length_singleton];omega,h.weaks,h.sites⟩,by rw[u1e];simp only;omega⟩
    ·rcases z1r hz with hz|rfl
     ·exact h.fields z hz
     ·show H.objs[k].field.length<=1048576
      exact h.fields _ hmk
    ·rcases z1r hz with hz|rfl
     ·exact h.wf z hz
     ·show ∀x∈H.objs[k].field,q0w x
      exact h.wf _ hmk
  ·have hfl:(H.objs[k].field.filter (λz=>decide (0<=z))).length<=1048576:=Nat.le_trans (List.length_filter_le _ _) (h.fields _ hmk);have hmu:=v4d (id:=id) (rest:=rest) (fr:=fr) hf hfl;have hbl:(H.buffer.filter (λz=>decide (z≠id))).length<=H.buffer.length:=List.length_filter_le _ _;refine⟨⟨by simpa[q0r]using h.objs,λz hz=> ?_,λz hz=> ?_,?_,by simp only[List.length_append,List.length_singleton];omega,?_,h.weaks,h.sites⟩,hmu⟩
   ·rcases z1r hz with hz|rfl
    ·exact h.fields z hz
    ·simp[q0J]
   ·rcases z1r hz with hz|rfl
    ·exact h.wf z hz
    ·intro x hx;simp[q0J]at hx;subst hx;unfold q0w;omega
   ·intro x hx;rcases List.mem_append.1 hx with hx|hx
    ·exact hids x hx
    ·exact h.wf _ hmk x (List.mem_filter.1 hx).1
   ·rw[u1e]at hmu;simp only at hmu ⊢;omega
theorem j1w{n:Nat}{id:Int}{rest fr:List Int}(hf:fr.length<=8):u0n (n+1) H (id::rest) fr=u0n n (y0o H id rest fr).1 (y0o H id rest fr).2.1 (y0o H id rest fr).2.2:=by rw[u0n,if_neg (by omega)]
theorem q3D{n:Nat}{todo fr:List Int}(h:todo=[]\/8<fr.length):u0n n H todo fr=(H,fr):=by
 cases n with
 |zero=>rfl
 |succ n=>
  cases todo with
  |nil=>rfl
  |cons id rest=>
   rcases h with h|h
   ·cases h
   ·rw[u0n,if_pos h]
structure ToR(R:q0a×List Int)(H:q0a)(todo fr:List Int):Prop where
 ok:j1S H todo fr
 ex:∃n,muL todo fr<=n/\u0n n H todo fr=R
theorem y3v{R:q0a×List Int}{id:Int}{rest fr:List Int}(h:ToR R H (id::rest) fr)(hf:fr.length<=8):ToR R (y0o H id rest fr).1 (y0o H id rest fr).2.1 (y0o H id rest fr).2.2:=by
 obtain⟨h1,h2⟩:=q2e h.ok hf;obtain⟨n,hn,e⟩:=h.ex
 cases n with
 |zero=>omega
 |succ n=>rw[j1w hf]at e;exact⟨h1,n,by omega,e⟩
theorem v2n{R:q0a×List Int}{todo fr:List Int}(h:ToR R H todo fr)(he:todo=[]\/8<fr.length):R=(H,fr):=by obtain⟨n,_,e⟩:=h.ex;rw[<-e,q3D he]
def u0g(w:World)(B:Nat)(v:Value)(zs:List Int):Prop:=(v= .slice none 0 0/\zs=[])\/∃g off cap cur,v= .slice (some ⟨g,off,none⟩) zs.length cap/\B<=g/\w.heap[g]? =some (.cells cur 3 (0,0))/\zs.length<=cap/\cap<=maxLen/\off+cap<=cur.size/\∀j(h:j<zs.length),cur[off+j]? =some (z0C zs[j])
theorem q2Y{w:World}{g:Nat}{cur:Array Value}{e:TypeId}(h:w.heap[g]? =some (.cells cur e (0,0)))(k:Nat):w.cell? ⟨g,k,none⟩=cur[k]?:=by simp[World.cell?,h]
theorem q4r{w:World}{g:Nat}{cur:Array Value}{e:TypeId}(h:w.heap[g]? =some (.cells cur e (0,0)))(k:Nat):w.frozen? ⟨g,k,none⟩=false:=by simp[World.frozen?,h]
theorem z2t{w:World}{B:Nat}{v:Value}{zs:List Int}(h:q0i w B v zs):u0g w B v zs:=by
 rcases h with⟨h1,⟨h2,h3⟩|⟨g,cap,cur,h2,h3,h4,h5,h6,h7,h8⟩⟩
 ·exact .inl ⟨h2,List.eq_nil_of_length_eq_zero h3⟩
 ·refine .inr ⟨g,0,cap,cur,h2,h3,h4,h5,h6,by omega,λj hj=> ?_⟩;have:(cur.toList.take (zs.length*1))[j]? =some (z0C zs[j]):=by rw[h8,List.getElem?_map,List.getElem?_eq_getElem hj];rfl
  rw[List.getElem?_take,if_pos (by omega)]at this;rw[Nat.zero_add];simpa using this
theorem q1f{w w' :World}{B:Nat}{v:Value}{zs:List Int}(h:u0g w B v zs)(hs:∀g,v.ownBlock=some g->w'.heap[g]? =w.heap[g]?):u0g w' B v zs:=by
 rcases h with h|⟨g,off,cap,cur,h1,h2,h3,h4⟩
 ·exact .inl h
 ·exact .inr ⟨g,off,cap,cur,h1,h2,by rw[hs g (by rw[h1];rfl)];exact h3,h4⟩
theorem v1s{w:World}{B:Nat}{v:Value}{zs:List Int}(h:u0g w B v zs)(g:Nat)(hg:v.ownBlock=some g):B<=g/\g<w.heap.size:=by
 rcases h with⟨rfl,_⟩|⟨g2,off,cap,cur,rfl,h2,h3,_⟩
 ·cases hg
 ·injection hg with hg;subst hg;exact⟨h2,(Array.getElem?_eq_some_iff.1 h3).1⟩
theorem v4E{w:World}{B:Nat}{v:Value}{zs:List Int}(h:u0g w B v zs)(g:Nat)(hg:v.ownBlock=some g):∃cur,w.heap[g]? =some (.cells cur 3 (0,0)):=by
 rcases h with⟨rfl,_⟩|⟨g2,off,cap,cur,rfl,h2,h3,_⟩
 ·cases hg
 ·injection hg with hg;subst hg;exact⟨cur,h3⟩
theorem z1W{w:World}{B:Nat}{v:Value}{zs:List Int}(h:u0g w B v zs):∃a c,v= .slice a zs.length c/\RdI w a zs:=by
 rcases h with⟨rfl,rfl⟩|⟨g,off,cap,cur,rfl,h2,h3,_,_,_,h7⟩
 ·exact⟨none,0,rfl,λj hj=>by simp at hj⟩
 ·exact⟨_,cap,rfl,λj hj=>⟨g,off,rfl,(Array.getElem?_eq_some_iff.1 h3).1,by rw[q2Y h3];exact h7 j hj⟩⟩
theorem q3Q{w:World}{B:Nat}{v:Value}{z:Int}{zs:List Int}(h:u0g w B v (z::zs)):∃g off cap,v= .slice (some ⟨g,off,none⟩) (zs.length+1) (cap+1)/\w.cell? ⟨g,off,none⟩=some (.int .i64 z)/\zs.length<=cap/\cap<=9223372036854775806/\
 (0<cap->u0g w B (.slice (some ⟨g,off+1,none⟩) zs.length cap) zs)/\(cap=0->u0g w B (.slice (some ⟨g,off,none⟩) zs.length cap) zs):=by
 rcases h with⟨_,h⟩|⟨g,off,cap,cur,rfl,h2,h3,h4,h5,h6,h7⟩
 ·cases h
 ·obtain⟨c,rfl⟩:∃c,cap=c+1:=⟨cap - 1,by simp at h4;omega⟩;have h0:=h7 0 (by simp);rw[Nat.add_zero]at h0;simp only[List.length_cons]at h4;refine⟨g,off,c,rfl,by rw[q2Y h3];exact h0,by omega,by unfold maxLen at h5;omega,λ_=> .inr ⟨g,off+1,c,cur,rfl,h2,h3,by omega,by omega,by omega,λj hj=> ?_⟩,λhc=> .inr ⟨g,off,c,cur,rfl,h2,h3,by omega,by omega,by omega,λj hj=>by omega⟩⟩;have:=h7 (j+1) (by simp;omega);rw[show off+1+j=off+(j+1)from by omega];simpa using this
theorem y3a{e:TypeId}(g:Nat):∀(vs:List Value)(o:Nat)(w:World)(cur:Array Value),w.heap[g]? =some (.cells cur e (0,0))->o+vs.length<=cur.size->
 ∃cur',(w.setCells g o vs).heap[g]? =some (.cells cur' e (0,0))/\cur'.size=cur.size/\(w.setCells g o vs).heap.size=w.heap.size/\(∀i,i≠g->(w.setCells g o vs).heap[i]? =w.heap[i]?)/\∀i,cur'[i]? =if o<=i/\i<o+vs.length then vs[i - o]?else cur[i]?:=by
 intro vs
 induction vs with
 |nil=>intro o w cur h _;exact⟨cur,h,rfl,rfl,λ_ _=>rfl,λi=>by rw[if_neg (by simp)]⟩
 |cons v r ih=>
  intro o w cur h hl;simp only[List.length_cons]at hl;obtain⟨cur',h1,h2,h3,h4,h5⟩:=ih (o+1) (w.setCell ⟨g,o,none⟩ v) (cur.setIfInBounds o v) (heap_setCell_same w g o cur e v h) (by simp;omega);refine⟨cur',h1,by simpa using h2,by rw[show w.setCells g o (v::r)=(w.setCell ⟨g,o,none⟩ v).setCells g (o+1) r from rfl,h3];simp[World.setCell],λi hi=>by rw[show w.setCells g o (v::r)=(w.setCell ⟨g,o,none⟩ v).setCells g (o+1) r from rfl,h4 i hi,heap_setCell_other _ _ _ _ (by exact hi)],λi=> ?_⟩;rw[h5 i];by_cases e1:i=o
  ·subst e1;rw[if_neg (by omega),if_pos (by simp),Nat.sub_self];rw[Array.getElem?_setIfInBounds_self_of_lt (by omega)];rfl
  ·by_cases e2:o+1<=i/\i<o+1+r.length
   ·rw[if_pos e2,if_pos (by simp;omega),show i - o=(i - (o+1))+1 from by omega,List.getElem?_cons_succ]
   ·rw[if_neg e2,if_neg (by simp;omega),Array.getElem?_setIfInBounds_ne (λe=>e1 e.symm)]
theorem j3x(ty:TypeId)(w:World)(B:Nat)(v:Value)(P:List Int)(hq:u0g w B v P)(x:Option Addr)(Y:List Int)(c:Nat)(hs:v0q w x Y.length 1 (Y.map z0C))(hl:P.length+Y.length<=16777216)(hB:B<=w.heap.size):
 ∃v' w',(Builtin.append_ #[24,24] ty #[v,.slice x Y.length c]).run Tryz.prog w= .ok v' w' /\u0g w' B v' (P++Y)/\w.heap.size<=w'.heap.size/\(∀i,i<w.heap.size->v.ownBlock≠some i->w'.heap[i]? =w.heap[i]?)/\(v'.ownBlock=v.ownBlock\/v'.ownBlock=some w.heap.size)/\(∀C w0,Below C w0 w->C<=B->Below C w0 w'):=by
 obtain⟨i,z,hi,hz,h1,h2,h3⟩:=elI.hi;have hsrc:=hs.src (c:=c) elI;have hsrc2:Src Tryz.prog i.size 24 (.slice x Y.length c) Y.length (Y.map z0C) w:=by rw[h1];exact hsrc
 have hn:∀a:Option Addr,∀cap,(Builtin.firstCells i.size P.length (.slice a P.length cap)).run Tryz.prog w.drew= .ok (P.map z0C).toArray w.drew->∀hv:v= .slice a P.length cap,cap<P.length+Y.length->cap<=maxLen->
  ∃v' w',(Builtin.append_ #[24,24] ty #[v,.slice x Y.length c]).run Tryz.prog w= .ok v' w' /\u0g w' B v' (P++Y)/\w.heap.size<=w'.heap.size/\(∀i,i<w.heap.size->v.ownBlock≠some i->w'.heap[i]? =w.heap[i]?)/\(v'.ownBlock=v.ownBlock\/v'.ownBlock=some w.heap.size)/\(∀C w0,Below C w0 w->C<=B->Below C w0 w'):=by
  intro a cap hold hv hg hcm;have hby:(P.length+Y.length)*i.bytes<=140737488355328:=by rw[h2];omega
  have hr:=run_append_grow_src (P:=Tryz.prog) w 24 24 ty 3 i z elI.ht hi hz a P.length cap (P.map z0C) hold (.slice x Y.length c) Y.length (Y.map z0C) hsrc2 (by omega) (by omega) (growslice_fits (by omega) hby);have hge:=grownCap_ge w (P.length+Y.length) cap 3;have hcm2:grownCap w (P.length+Y.length) cap 3<=maxLen:=grownCap_le_maxLen w _ cap 3 (by unfold maxLen;omega);have hb:Below w.heap.size w (w.drew.alloc (.cells ((P.map z0C++Y.map z0C).toArray++Builtin.zeroCells z.cells (grownCap w (P.length+Y.length) cap 3 - (P.length+Y.length))) 3)):=bl0.drew.alloc nl0 _;rw[hv];refine⟨_,_,hr,.inr ⟨w.heap.size,0,grownCap w (P.length+Y.length) cap 3,_,by rw[List.length_append],hB,heap_alloc_new w.drew _,by rw[List.length_append];exact hge,hcm2,?_,λj hj=> ?_⟩,hb.size,λi hi _=>hb.block i hi,.inr rfl,λC w0 h hC=>h.trans (hb.mono (by omega))⟩
  ·simp only[Array.size_append,List.size_toArray,List.length_append,List.length_map,size_zeroCells,h3];omega
  ·have hj2:j<(P.map z0C++Y.map z0C).length:=by simpa using hj
   rw[Nat.zero_add,Array.getElem?_append_left (by simpa using hj2),List.getElem?_toArray,<-List.map_append,List.getElem?_map,List.getElem?_eq_getElem hj];rfl
 rcases hq with⟨rfl,rfl⟩|⟨g,off,cap,cur,rfl,g2,g3,g4,g5,g6,g7⟩
 ·by_cases h0:Y=[]
  ·subst h0;refine⟨.slice none 0 0,w,?_,.inl ⟨rfl,rfl⟩,Nat.le_refl _,λ_ _ _=>rfl,.inl rfl,λ_ _ h _=>h⟩
   cases x with
   |none=>simp[Builtin.append_,run_underlying elI.ht,sizeOf,typeInfo,hi,Builtin.lenOf,Builtin.firstCells]
   |some ad=>simp[Builtin.append_,run_underlying elI.ht,sizeOf,typeInfo,hi,Builtin.lenOf,Builtin.firstCells,loadCells,loadCellsFrom]
  ·have hy:0<Y.length:=List.length_pos_iff.2 h0;exact hn none 0 (by simp[Builtin.firstCells]) rfl (by simp;omega) (by unfold maxLen;omega)
 ·by_cases hroom:P.length+Y.length<=cap
  ·have hc:∀j,j<(Y.map z0C).length->(w.cell? ⟨g,off+P.length*i.size+j,none⟩).isSome=true:=by
    intro j hj;rw[List.length_map]at hj;rw[h1,Nat.mul_one,q2Y g3,Array.getElem?_eq_getElem (by omega)];rfl
   have hf:∀j,j<(Y.map z0C).length->w.frozen? ⟨g,off+P.length*i.size+j,none⟩=false:=λj _=>q4r g3 _;have hr:=run_append_room_src (P:=Tryz.prog) w 24 24 ty 3 i elI.ht hi g off P.length cap (.slice x Y.length c) Y.length (Y.map z0C) hsrc2 hroom hc hf;rw[h1,Nat.mul_one]at hr;obtain⟨cur',s1,s2,s3,s4,s5⟩:=y3a (e:=3) g (Y.map z0C) (off+P.length) w cur g3 (by rw[List.length_map];omega);refine⟨_,_,hr,.inr ⟨g,off,cap,cur',by rw[List.length_append],g2,s1,by rw[List.length_append];exact hroom,g5,by omega,λj hj=> ?_⟩,by omega,λi hi hne=>s4 i (λe=>hne (by rw[e];rfl)),.inl rfl,λC w0 h hC=>h.trans ?_⟩
   ·rw[s5,List.length_map];rw[List.length_append]at hj;by_cases e:j<P.length
    ·rw[if_neg (by omega),List.getElem_append_left e];exact g7 j e
    ·rw[if_pos (by omega),List.getElem_append_right (by omega),show off+j - (off+P.length)=j - P.length from by omega,List.getElem?_map,List.getElem?_eq_getElem (by omega)];rfl
   ·have hw:∀(vs:List Value)(o:Nat)(u:World),Below C w0 u->Below C w0 (u.setCells g o vs):=by
     intro vs
     induction vs with
     |nil=>intro o u hu;exact hu
     |cons a r ih=>intro o u hu;exact ih (o+1) _ (hu.setCell (by exact Nat.le_trans hC g2) _)
    have h0:=hw (Y.map z0C) (off+P.length) w h;exact⟨h0.os.trans h.os.symm,h0.tape.trans h.tape.symm,h0.output.trans h.output.symm,by omega,λk hk=>s4 k (by omega)⟩
  ·have hold:(Builtin.firstCells i.size P.length (.slice (some ⟨g,off,none⟩) P.length cap)).run Tryz.prog w.drew= .ok (P.map z0C).toArray w.drew:=by
    rw[h1]
    exact run_firstCells_some (P:=Tryz.prog) w.drew 1 P.length ⟨g,off,none⟩ P.length cap (P.map z0C) (by simp) (λj u hj=>by
     rw[List.getElem?_map]at hj;obtain⟨z,hz,rfl⟩:=Option.map_eq_some_iff.1 hj;obtain⟨hl2,rfl⟩:=List.getElem?_eq_some_iff.1 hz;rw[Addr.add_lit];exact(q2Y (w:=w.drew) g3 _).trans (g7 j hl2))
   exact hn (some ⟨g,off,none⟩) cap hold rfl (by omega) g5
theorem y1A{w:World}{rest:List Oper}{o:Oper}(hgd:o.guard=none)(s x:Operand)(ho:o.op= .call {callee:= .builtin .append,args:= #[s,x],argTypes:= #[24,24]})(B:Nat)(v:Value)(P:List Int)(hsv:a.eval s=v)(hq:u0g w B v P)(xa:Option Addr)(Y:List Int)(m c:Nat)(hm:m=Y.length)(hxv:a.eval x= .slice xa m c)(hs:v0q w xa Y.length 1 (Y.map z0C))(hl:P.length+Y.length<=16777216)(hB:B<=w.heap.size)(h:∀v' w',u0g w' B v' (P++Y)->w.heap.size<=w'.heap.size->Hid (∀i,i<w.heap.size->v.ownBlock≠some i->w'.heap[i]? =w.heap[i]?)->Hid (v'.ownBlock=v.ownBlock\/v'.ownBlock=some w.heap.size)->Hid (∀C w0,Below C w0 w->C<=B->Below C w0 w')->wpList Tryz.prog ops Q rest (a.put o.dst v') w'):wpList Tryz.prog ops Q (o::rest) a w:=by subst hm;obtain⟨v',w',hr,h2,h3,h4,h5,h6⟩:=j3x o.type w B v P hq xa Y c hs hl hB;refine wpList_plain hgd λK hK=> ?_;unfold Oper.wp execOp;simp only[ho,resolve,invoke,builtin,Sem.run_bind,Sem.run_pure,Result.andThen_ok,List.map_toArray,List.map_cons,List.map_nil,hsv,hxv,hr];exact hK _ _ (h v' w' h2 h3 h4 h5 h6)
end
section
open Go.RowKit
variable{s:HSh}{H:q0a}
structure LS(W wr:World)(B gx:Nat)(s:HSh)(H:q0a)(vq vf:Value)(todo fr:List Int):Prop where
 bel:Below B W wr
 hB:B<=W.heap.size
 m:HM wr B s H
 x:q0d wr gx (.slice s.oa s.os.length s.oc) (.slice s.wa s.wn s.wc) (.slice s.ba s.bn s.bc) (.slice s.sa s.sn s.sc)
 gB:B<=gx
 sx:¬q0u s gx
 q:u0g wr B vq todo
 f:q0i wr B vf fr
 sq:∀g,vq.ownBlock=some g->¬q0u s g
 sf:∀g,vf.ownBlock=some g->¬q0u s g
 qf:∀g,vq.ownBlock=some g->vf.ownBlock≠some g
abbrev LS0(W wr:World)(B gx:Nat)(s:HSh)(H:q0a):Prop:=LS W wr B gx s H (.slice none 0 0) (.slice none 0 0) [] []
theorem LS.le{W wr:World}{B gx:Nat}{vq vf:Value}{todo fr:List Int}(h:LS W wr B gx s H vq vf todo fr):B<=wr.heap.size:=Nat.le_trans h.hB h.bel.size
theorem LS.qx{W wr:World}{B gx:Nat}{vq vf:Value}{todo fr:List Int}(h:LS W wr B gx s H vq vf todo fr)(g:Nat)(hg:vq.ownBlock=some g):g≠gx:=by obtain⟨cur,hc⟩:=v4E h.q g hg;exact y0O hc h.x (by decide)
theorem LS.fx{W wr:World}{B gx:Nat}{vq vf:Value}{todo fr:List Int}(h:LS W wr B gx s H vq vf todo fr)(g:Nat)(hg:vf.ownBlock=some g):g≠gx:=by obtain⟨cur,hc⟩:=y0t h.f g hg;exact y0O hc h.x (by decide)
theorem q0y{W wr w' :World}{B gx:Nat}{vq vf:Value}{todo fr:List Int}(h:LS W wr B gx s H vq vf todo fr)(hb:Below wr.heap.size wr w'):LS W w' B gx s H vq vf todo fr:=
 ⟨h.bel.trans (hb.mono h.le),h.hB,q0c h.m hb,h.x.later hb,h.gB,h.sx,q1f h.q (λg hg=>hb.block g (v1s h.q g hg).2),q0o h.f hb,h.sq,h.sf,h.qf⟩
theorem x4R{W wr:World}{B gx:Nat}{vq vf:Value}{todo fr:List Int}(h:LS W wr B gx s H vq vf todo fr)(v' :Value)(todo' :List Int)(hq:u0g wr B v' todo')(hv:v'.ownBlock=vq.ownBlock):LS W wr B gx s H v' vf todo' fr:=
 ⟨h.bel,h.hB,h.m,h.x,h.gB,h.sx,hq,h.f,λg hg=>h.sq g (by rw[<-hv];exact hg),h.sf,λg hg=>h.qf g (by rw[<-hv];exact hg)⟩
theorem j0i{W wr:World}{B gx:Nat}{H' :q0a}{vq vf:Value}{todo fr:List Int}(h:LS W wr B gx s H vq vf todo fr)(go i:Nat)(u:Value)(hgo:s.oa=some ⟨go,0,none⟩)(hm:HM (wr.setCell ⟨go,i,none⟩ u) B s H'):LS W (wr.setCell ⟨go,i,none⟩ u) B gx s H' vq vf todo fr:=by have hh:q0u s go:= .inl ⟨_,hgo,rfl⟩;have oth:∀g,g≠go->(wr.setCell ⟨go,i,none⟩ u).heap[g]? =wr.heap[g]?:=λg hg=>heap_setCell_other _ _ _ _ (by exact hg);exact⟨h.bel.setCell (z0X h.m hh).1 _,h.hB,hm,h.x.same (oth gx (λe=>h.sx (by rw[e];exact hh))),h.gB,h.sx,q1f h.q (λg hg=>oth g (λe=>h.sq g hg (by rw[e];exact hh))),q0v h.f (λg hg=>oth g (λe=>h.sf g hg (by rw[e];exact hh))),h.sq,h.sf,h.qf⟩
theorem v2d{W wr w' :World}{B gx:Nat}{vq vf:Value}{todo fr:List Int}(h:LS W wr B gx s H vq vf todo fr)(hb:Below B W w')(hsz:wr.heap.size<=w'.heap.size)(oth:∀i,i<wr.heap.size->vf.ownBlock≠some i->w'.heap[i]? =wr.heap[i]?)(v' :Value)(fr' :List Int)(hf:q0i w' B v' fr')(hl:v'.ownBlock=vf.ownBlock\/∃g,v'.ownBlock=some g/\wr.heap.size<=g):LS W w' B gx s H vq v' todo fr' :=by
 have new:∀g,v'.ownBlock=some g->vf.ownBlock=some g\/wr.heap.size<=g:=λg hg=>by
  rcases hl with e|⟨g2,e,h2⟩
  ·exact .inl (by rw[<-e];exact hg)
  ·rw[e]at hg;injection hg with hg;subst hg;exact .inr h2
 exact⟨hb,h.hB,y0l h.m hsz (λg hg=>oth g (z0X h.m hg).2 (λe=>h.sf g e hg)),h.x.same (oth gx h.x.lt (λe=>h.fx gx e rfl)),h.gB,h.sx,q1f h.q (λg hg=>oth g (v1s h.q g hg).2 (λe=>h.qf g hg e)),hf,h.sq,λg hg hh=>(by
  rcases new g hg with e|e
  ·exact h.sf g e hh
  ·have:=(z0X h.m hh).2;omega),λg hg hg2=>(by
  rcases new g hg2 with e|e
  ·exact h.qf g hg e
  ·have:=(v1s h.q g hg).2;omega)⟩
theorem u2x{W wr w' :World}{B gx:Nat}{vq vf:Value}{todo fr:List Int}(h:LS W wr B gx s H vq vf todo fr)(hb:Below B W w')(hsz:wr.heap.size<=w'.heap.size)(oth:∀i,i<wr.heap.size->vq.ownBlock≠some i->w'.heap[i]? =wr.heap[i]?)(v' :Value)(todo' :List Int)(hq:u0g w' B v' todo')(hl:v'.ownBlock=vq.ownBlock\/∃g,v'.ownBlock=some g/\wr.heap.size<=g):LS W w' B gx s H v' vf todo' fr:=by
 have new:∀g,v'.ownBlock=some g->vq.ownBlock=some g\/wr.heap.size<=g:=λg hg=>by
  rcases hl with e|⟨g2,e,h2⟩
  ·exact .inl (by rw[<-e];exact hg)
  ·rw[e]at hg;injection hg with hg;subst hg;exact .inr h2
 exact⟨hb,h.hB,y0l h.m hsz (λg hg=>oth g (z0X h.m hg).2 (λe=>h.sq g e hg)),h.x.same (oth gx h.x.lt (λe=>h.qx gx e rfl)),h.gB,h.sx,hq,q0v h.f (λg hg=>oth g (q0n h.f g hg).2 (λe=>h.qf g e hg)),λg hg hh=>(by
  rcases new g hg with e|e
  ·exact h.sq g e hh
  ·have:=(z0X h.m hh).2;omega),h.sf,λg hg hg2=>(by
  rcases new g hg with e|e
  ·exact h.qf g e hg2
  ·have:=(q0n h.f g hg2).2;omega)⟩
theorem x3B{ba:Option Addr}{bn bc g:Nat}(h:q0u {s with ba:=ba,bn:=bn,bc:=bc} g):q2U s g\/∃x,ba=some x/\x.block=g:=by
 rcases h with h|h|h|h|h
 ·exact .inl (.inl h)
 ·exact .inl (.inr (.inl h))
 ·exact .inr h
 ·exact .inl (.inr (.inr (.inl h)))
 ·exact .inl (.inr (.inr (.inr h)))
theorem x1O{W wr w1:World}{B gx:Nat}{vq vf:Value}{todo fr:List Int}(h:LS W wr B gx s H vq vf todo fr)(hb:Below B W w1)(hsz:wr.heap.size<=w1.heap.size)(oth:∀i,i<wr.heap.size->(Value.slice s.ba s.bn s.bc).ownBlock≠some i->w1.heap[i]? =wr.heap[i]?)(ba:Option Addr)(bn bc:Nat)(Z:List Int)(hn:bn=Z.length)(hz:q0i w1 B (.slice ba bn bc) Z)(hl:∀g,(Value.slice ba bn bc).ownBlock=some g->(Value.slice s.ba s.bn s.bc).ownBlock=some g\/wr.heap.size<=g):LS W (w1.setCell ⟨gx,2,none⟩ (.slice ba bn bc)) B gx {s with ba:=ba,bn:=bn,bc:=bc} {H with buffer:=Z} vq vf todo fr:=by
 have old:∀g,q2U s g->(Value.slice s.ba s.bn s.bc).ownBlock≠some g:=λg hg e=>by
  obtain⟨x,hx,e2⟩:=z0L e;exact u3i h.m hg x hx e2
 have new:∀x,ba=some x->(∃y,s.ba=some y/\y.block=x.block)\/wr.heap.size<=x.block:=λx hx=>by
  rcases hl _ (x0b hx)with e|e
  ·obtain⟨y,hy,e2⟩:=z0L e;exact .inl ⟨y,hy,e2⟩
  ·exact .inr e
 have bk:∀x,s.ba=some x->q0u s x.block:=λx hx=> .inr (.inr (.inl ⟨x,hx,rfl⟩));have hx1:w1.heap[gx]? =wr.heap[gx]?:=oth gx h.x.lt (λe=>by obtain⟨x,hx,e2⟩:=z0L e;exact h.sx (by rw[<-e2];exact bk x hx));have x1:=h.x.same hx1;have oth2:∀i,i≠gx->(w1.setCell ⟨gx,2,none⟩ (.slice ba bn bc)).heap[i]? =w1.heap[i]?:=λi hi=>heap_setCell_other _ _ _ _ (by exact hi)
 have m1:HM w1 B {s with ba:=ba,bn:=bn,bc:=bc} {H with buffer:=Z}:=x5b h.m hsz (λg hg=>oth g (z0X h.m hg.has).2 (old g hg)) ba bn bc Z hn hz (λx hx hh=>by
  rcases new x hx with⟨y,hy,e⟩|e
  ·exact u3i h.m hh y hy e
  ·have:=(z0X h.m hh.has).2;omega)
 have sx' :¬q0u {s with ba:=ba,bn:=bn,bc:=bc} gx:=λhh=>by
  rcases x3B hh with h1|⟨x,hx,e⟩
  ·exact h.sx h1.has
  ·rcases new x hx with⟨y,hy,e2⟩|e2
   ·exact h.sx (by rw[<-e,<-e2];exact bk y hy)
   ·have:=h.x.lt;omega
 have apart:∀{g:Nat},g<wr.heap.size->¬q0u s g->¬q0u {s with ba:=ba,bn:=bn,bc:=bc} g:=λhg hn hh=>by
  rcases x3B hh with h1|⟨x,hx,e⟩
  ·exact hn h1.has
  ·rcases new x hx with⟨y,hy,e2⟩|e2
   ·exact hn (by rw[<-e,<-e2];exact bk y hy)
   ·omega
 have nb:∀g,¬q0u s g->(Value.slice s.ba s.bn s.bc).ownBlock≠some g:=λg hn e=>by obtain⟨x,hx,e2⟩:=z0L e;exact hn (by rw[<-e2];exact bk x hx)
 refine⟨hb.setCell h.gB _,h.hB,?_,x1.set2 _,h.gB,sx',?_,?_,λg hg=>apart (v1s h.q g hg).2 (h.sq g hg),λg hg=>apart (q0n h.f g hg).2 (h.sf g hg),h.qf⟩
 ·exact y0l m1 (by simp[World.setCell]) (λg hg=>oth2 g (λe=>sx' (by rw[<-e];exact hg)))
 ·exact q1f h.q (λg hg=>(oth2 g (h.qx g hg)).trans (oth g (v1s h.q g hg).2 (nb g (h.sq g hg))))
 ·exact q0v h.f (λg hg=>(oth2 g (h.fx g hg)).trans (oth g (q0n h.f g hg).2 (nb g (h.sf g hg))))
theorem j1Y{k:Nat}{t:OSh}{g:Nat}(h:q0u {s with os:=s.os.set k t} g):q0u s g\/∃x,t.f=some x/\x.block=g:=by
 rcases h with h|h|h|h|⟨u,hu,x,hx,e⟩
 ·exact .inl (.inl h)
 ·exact .inl (.inr (.inl h))
 ·exact .inl (.inr (.inr (.inl h)))
 ·exact .inl (.inr (.inr (.inr (.inl h))))
 ·rcases List.mem_or_eq_of_mem_set hu with hu|rfl
  ·exact .inl (.inr (.inr (.inr (.inr ⟨u,hu,x,hx,e⟩))))
  ·exact .inr ⟨x,hx,e⟩
theorem j3J{w:World}{B g p:Nat}{o:q0E}{u v:Value}{zs:List Int}(h:q0i w B v zs)(hg:∀i,v.ownBlock=some i->i≠g):q0i (z0r w g p o u) B v zs:=
 q0v h (λi hi=>by
  unfold z0r;iterate 8 rw[heap_setCell_other _ _ _ _ (by exact hg i hi)])
theorem y1X{W wr w1:World}{B gx:Nat}{vq vf:Value}{todo fr:List Int}(h:LS W wr B gx s H vq vf todo fr)(b1:Below wr.heap.size wr w1)(k:Nat)(hk:k<H.objs.length)(go:Nat)(hgo:s.oa=some ⟨go,0,none⟩)(o:q0E)(f:Option Addr)(c:Nat)(hf:q0i w1 wr.heap.size (.slice f o.field.length c) o.field):
 LS W (z0r w1 go (k*8) o (.slice f o.field.length c)) B gx {s with os:=s.os.set k ⟨f,o.field.length,c⟩} (q0r H k o) vq vf todo fr:=by
 have h1:=q0y h b1;have hs1:=b1.size;have hh:q0u s go:= .inl ⟨_,hgo,rfl⟩
 have oth:∀g,g≠go->(z0r w1 go (k*8) o (.slice f o.field.length c)).heap[g]? =w1.heap[g]?:=λg hg=>by
  unfold z0r;iterate 8 rw[heap_setCell_other _ _ _ _ (by exact hg)]
 have hgl:=(z0X h.m hh).2;have fnew:∀y,f=some y->wr.heap.size<=y.block:=λy hy=>(q0n hf _ (x0b hy)).1
 have dn:∀{g:Nat},q0u s g->∀x y:Addr,x.block=g->f=some y->x.block≠y.block:=λhg x y hx hy e=>by
  have:=(z0X h.m hg).2;have:=fnew y hy;omega
 obtain⟨hk2,ho1,_⟩:=z0o h1.m k hk go hgo
 have m' :HM (z0r w1 go (k*8) o (.slice f o.field.length c)) B {s with os:=s.os.set k ⟨f,o.field.length,c⟩} (q0r H k o):=
  u3k h1.m k hk go hgo o ⟨f,o.field.length,c⟩ (by rw[x1Q];exact Nat.le_refl _) (λi hi _=>oth i hi) (u1P w1 go _ o _ (λq hq=>q0H ho1 q hq)) (λq hq=>u1q _ _ _ _ _ _ hq) (λq=>z1y _ _ _ _ _ _) rfl
   (j3J (q0A hf h.le) (λg hg e=>by obtain⟨y,hy,e2⟩:=z0L hg;have:=fnew y hy;omega))
   (λx y hx hy=>dn (.inl ⟨x,hx,rfl⟩) x y rfl hy) (λx y hx hy=>dn (.inr (.inl ⟨x,hx,rfl⟩)) x y rfl hy) (λx y hx hy=>dn (.inr (.inr (.inl ⟨x,hx,rfl⟩))) x y rfl hy) (λx y hx hy=>dn (.inr (.inr (.inr (.inl ⟨x,hx,rfl⟩)))) x y rfl hy)
   (λj hj _ x y hx hy=>dn (.inr (.inr (.inr (.inr ⟨_,List.getElem_mem hj,x,hx,rfl⟩)))) x y rfl hy)
 have apart:∀{g:Nat},g<wr.heap.size->¬q0u s g->¬q0u {s with os:=s.os.set k ⟨f,o.field.length,c⟩} g:=λhg hn h2=>by
  rcases j1Y h2 with h3|⟨x,hx,e⟩
  ·exact hn h3
  ·have:=fnew x hx;omega
 refine⟨u1p _ _ _ _ h1.bel (z0X h.m hh).1,h.hB,m',?_,h.gB,apart h.x.lt h.sx,q1f h1.q (λg hg=>oth g (λe=>h.sq g hg (by rw[e];exact hh))),q0v h1.f (λg hg=>oth g (λe=>h.sf g hg (by rw[e];exact hh))),λg hg=>apart (v1s h.q g hg).2 (h.sq g hg),λg hg=>apart (q0n h.f g hg).2 (h.sf g hg),h.qf⟩;have x1:=h1.x.same (oth gx (λe=>h.sx (by rw[e];exact hh)));rw[show({s with os:=s.os.set k ⟨f,o.field.length,c⟩}:HSh).os.length=s.os.length from by simp];exact x1
end
section
open Go.RowKit
variable{s:HSh}
theorem u1a(s:HSh):s.v= .agg #[.slice s.oa s.os.length s.oc,.slice s.wa s.wn s.wc,.slice s.ba s.bn s.bc,.slice s.sa s.sn s.sc]:=rfl
theorem q1w(q:Addr×Value)(hq:q∈z0q s):q0u s q.1.block:=by
 unfold z0q at hq;simp only[List.mem_append]at hq;rcases hq with hq|hq|hq|hq
 ·obtain⟨x,hx,⟨j2,i,hj2,h1,h2,h3⟩|⟨t,ht,h4,y,h5,h6⟩⟩:=y1Z s 1 q hq
  ·exact .inl ⟨x,hx,by rw[h3]⟩
  ·exact .inr (.inr (.inr (.inr ⟨t,ht,y,h5,h6.symm⟩)))
 ·obtain⟨h1,x,h2,h3⟩:=z1U _ _ _ _ hq;exact .inr (.inl ⟨x,h2,h3.symm⟩)
 ·obtain⟨h1,x,h2,h3⟩:=x0M _ _ _ _ hq;exact .inr (.inr (.inl ⟨x,h2,h3.symm⟩))
 ·obtain⟨h1,x,h2,h3⟩:=z1T _ _ _ _ hq;exact .inr (.inr (.inr (.inl ⟨x,h2,h3.symm⟩)))
theorem u1C{w:World}(L:Sts)(h:v0G w s)(hL:∀q∈L,¬q0u s q.1.block):v0G (q0C w L) s:=by
 refine⟨λq hq=> ?_,λj hj=> ?_,h.wk,h.b,h.st⟩
 ·rw[y0E _ _ (λp hp e=>hL p hp (by rw[e];exact q1w q hq))];exact h.all q hq
 ·obtain⟨g,off,h1,h2,h3,h4⟩:=h.head j hj;refine⟨g,off,h1,by rw[q0Z];exact h2,?_,h4⟩;rw[y0E _ _ (λp hp e=>hL p hp (.inl ⟨_,h1,by rw[e]⟩))];exact h3
theorem z2f{w:World}{a:Option Addr}{n:Nat}{k:Int}(h:v0I w a n):∀p∈mkI a k n,(q0C w (mkI a k n)).cell? p.1=some p.2:=j1D _ (v1r a k n) w (λp hp=>u1d h p hp)
end
section
open Go.RowKit
def y0V:List q0E->Int->Int
 |[],_=> -1
 |o::r,i=>if o.live=false/\o.gen<999 then i else y0V r (i+1)
def v0x(H:q0a):Int:=y0V (H.objs.take 8) 0
theorem y4T(os:List q0E)(j:Nat)(h:j<os.length):y0V (os.drop j) (j:Int)=if os[j].live=false/\os[j].gen<999 then(j:Int)else y0V (os.drop (j+1)) ((j+1:Nat):Int):=by rw[List.drop_eq_getElem_cons h];simp[y0V]
theorem q3s(H:q0a)(j:Nat)(h:j<H.objs.length)(h8:j<8)(o:q0E)(ho:H.objs[j]=o):
 y0V ((H.objs.take 8).drop j) (j:Int)=if o.live=false/\o.gen<999 then(j:Int)else y0V ((H.objs.take 8).drop (j+1)) ((j+1:Nat):Int):=by
 rw[y4T (H.objs.take 8) j (by rw[List.length_take];omega),List.getElem_take,ho]
theorem x3x(H:q0a)(j:Nat)(h:H.objs.length<=j\/8<=j)(i:Int):y0V ((H.objs.take 8).drop j) i= -1:=by rw[List.drop_eq_nil_of_le (by rw[List.length_take];omega)];rfl
theorem q1k(v:Value)(H:q0a)(w:World)(h:RdH w v H)(hs:q0h H):
 Calls Tryz.prog 68 #[v] w λe w' =>e= .returned (.int .i64 (v0x H))/\Below w.heap.size w w' :=by
 obtain⟨ao,co,aw,cw,ab,cb,sa,sc,rfl,ro,-,-,-⟩:=h;have hn:=hs.objs;clear hs;obtain⟨W,hW⟩:∃W,W=w.alloc (.cells #[.slice ao H.objs.length co,.slice aw H.weaks.length cw,.slice ab H.buffer.length cb,.slice sa H.sites.length sc] 35):=⟨_,rfl⟩;have BW:Below w.heap.size w W:=by rw[hW];exact bl1 _
 have HR:Hid (RdO W ao H.objs):=q0V ro BW;have hp:W.cell? ⟨w.heap.size,0,none⟩=some (.slice ao H.objs.length co):=by rw[hW,World.cell?_alloc_mark];rfl
 have H0:Hid (v0x H=y0V ((H.objs.take 8).drop 0) ((0:Nat):Int)):=by show _=_;unfold v0x;rw[List.drop_zero];rfl
 have HS:Hid (∀(j:Nat)(h:j<H.objs.length),j<8->∀o,H.objs[j]=o->y0V ((H.objs.take 8).drop j) (j:Int)=_):=λj h h8 o ho=>q3s H j h h8 o ho;have HN:Hid (∀(j:Nat),H.objs.length<=j\/8<=j->y0V ((H.objs.take 8).drop j) (j:Int)= -1):=λj h=>x3x H j h _;generalize v0x H=z at*;obtain⟨n,hnn⟩:∃n,H.objs.length=n:=⟨_,rfl⟩;have Hn:Hid (H.objs.length=n):=hnn;rw[hnn]at hn hp hW ⊢;clear ro hnn;go_enter Tryz.func68,Tryz.ntmps68;go_wp2;rw[<-hW];clear hW;go_loop [3] (λi=>∃j:Nat,j<=n/\j<=8/\i= .int .i64 j/\Hid (z=y0V ((H.objs.take 8).drop j) (j:Int))) (λi=>n - (intOf i).toNat)
 case atStart=>exact⟨0,by omega,by omega,rfl,H0⟩
 case round=>
  obtain⟨j,hj,hj8,rfl,HJ⟩:=hrel;by_cases hlt:j<n
  ·by_cases hlt8:j<8
   ·have hj2:j<H.objs.length:=by have:=Hn.out;omega
    obtain⟨g,off,f,fc,rfl,-,hc,-⟩:=HR.out j hj2;obtain⟨o,ho⟩:∃o,H.objs[j]=o:=⟨_,rfl⟩;have HD:Hid (_=_):=HS.out j hj2 hlt8 o ho;rw[ho]at hc;obtain⟨c0,c1,-⟩:=hc;clear ho
    cases hlv:o.live with
    |true=>
     have HZ:Hid (z=y0V ((H.objs.take 8).drop (j+1)) ((j+1:Nat):Int)):=by show _=_;rw[HJ.out,HD.out,if_neg (by simp[hlv])]
     rw[hlv]at c0;clear HD hlv;generalize o.gen=og at*;go_wp2;go_round
     case rel=>exact⟨j+1,by omega,by omega,by go_num,HZ⟩
     case measure=>simp[intOf];omega
    |false=>
     by_cases hg:o.gen<999
     ·have HZ:Hid (z=(j:Int)):=by show _=_;rw[HJ.out,HD.out,if_pos ⟨hlv,hg⟩]
      rw[hlv]at c0;clear HD hlv;generalize o.gen=og at*;go_wp2;go_ret
      exact⟨z0x HZ.out.symm,BW⟩
     ·have HZ:Hid (z=y0V ((H.objs.take 8).drop (j+1)) ((j+1:Nat):Int)):=by show _=_;rw[HJ.out,HD.out,if_neg (by simp[hg])]
      have hg2:999<=o.gen:=by omega
      rw[hlv]at c0;clear HD hlv hg;generalize o.gen=og at*;go_wp2;go_round
      case rel=>exact⟨j+1,by omega,by omega,by go_num,HZ⟩
      case measure=>simp[intOf];omega
   ·obtain rfl:j=8:=by omega
    have HZ:Hid (z= -1):=by show _=_;rw[HJ.out,HN.out 8 (.inr (by omega))]
    go_wp2;go_ret
    exact⟨z0x HZ.out.symm,BW⟩
  ·obtain rfl:j=n:=by omega
   have HZ:Hid (z= -1):=by show _=_;rw[HJ.out,HN.out j (.inl (by have:=Hn.out;omega))]
   go_wp2;go_ret
   exact⟨z0x HZ.out.symm,BW⟩
theorem v1C(g off n:Nat):∃x,v1B g off n= .agg x/\∀s:Nat,s<8->∀X:World,(Instr.index 116 (.agg x) (.int .i64 (s:Int))).run Tryz.prog X= .ok (.pointer (z0N g off n s)) X:=
 ⟨_,rfl,λs hs X=>by obtain⟨x,hx,h⟩:=v1l g off n s hs;unfold v1B at hx;injection hx with hx;subst hx;exact h X⟩
theorem u0Z(v:Value)(H:q0a)(w:World)(h:RdH w v H)(hs:q0h H):
 Calls Tryz.prog 107 #[v] w λe w' =>e= .returned (.int .i64 (v0x H))/\Below w.heap.size w w' :=by
 obtain⟨ao,co,aw,cw,ab,cb,sa,sc,rfl,ro,-,-,-⟩:=h;have hn:=hs.objs;clear hs;obtain⟨W,hW⟩:∃W,W=w.alloc (.cells #[.slice ao H.objs.length co,.slice aw H.weaks.length cw,.slice ab H.buffer.length cb,.slice sa H.sites.length sc] 35):=⟨_,rfl⟩;have BW:Below w.heap.size w W:=by rw[hW];exact bl1 _
 have HR:Hid (RdO W ao H.objs):=q0V ro BW;have H0:Hid (v0x H=y0V ((H.objs.take 8).drop 0) ((0:Nat):Int)):=by show _=_;unfold v0x;rw[List.drop_zero];rfl
 have HS:Hid (∀(j:Nat)(h:j<H.objs.length),j<8->∀o,H.objs[j]=o->y0V ((H.objs.take 8).drop j) (j:Int)=_):=λj h h8 o ho=>q3s H j h h8 o ho;have HN:Hid (∀(j:Nat)(i:Int),H.objs.length<=j\/8<=j->y0V ((H.objs.take 8).drop j) i= -1):=λj i h=>x3x H j h i;generalize v0x H=z at*
 have hex:∃g off,0<H.objs.length->ao=some ⟨g,off,none⟩:=by
  by_cases h0:0<H.objs.length
  ·obtain⟨g,off,f,fc,ha,-⟩:=ro 0 h0;exact⟨g,off,λ_=>ha⟩
  ·exact⟨0,0,λh=>absurd h h0⟩
 obtain⟨g,off,ha⟩:=hex;have HA:Hid (0<H.objs.length->ao=some ⟨g,off,none⟩):=ha;have CC:Hid (∀X:World,_):=λX=>y0i X ao H.objs.length co (.slice aw H.weaks.length cw) (.slice ab H.buffer.length cb) (.slice sa H.sites.length sc) hn g off ha ⟨_,_,_,_,_,_,_,_,_,rfl,rfl,rfl⟩;obtain⟨x,hx,hxs⟩:=v1C g off H.objs.length;have HX:Hid (∀s:Nat,s<8->∀X:World,(Instr.index 116 (.agg x) (.int .i64 (s:Int))).run Tryz.prog X= .ok (.pointer (z0N g off H.objs.length s)) X):=hxs;rw[hx]at CC;clear ro hx hxs ha;go_enter Tryz.func107,Tryz.ntmps107;go_wp2_with fail
 rw[<-hW];clear hW;refine(CC.out _).mono ?_;rintro e w1 ⟨rfl,b1⟩;have HR1:Hid (RdO w1 ao H.objs):=q0V HR.out b1;have B1:=BW.trans (b1.mono BW.size);clear b1 CC HR BW;go_wp2;go_loop [7] (λi=>∃j:Nat,j<=8/\i= .int .i64 j/\Hid (z=y0V ((H.objs.take 8).drop j) (j:Int))) (λi=>8 - (intOf i).toNat)
 case atStart=>exact⟨0,by omega,rfl,H0⟩
 case round=>
  obtain⟨j,hj8,rfl,HJ⟩:=hrel;by_cases hlt8:j<8
  ·have hix:=HX.out j hlt8;by_cases hj2:j<H.objs.length
   ·obtain⟨g',off',f,fc,ha',-,hc,-⟩:=HR1.out j hj2;rw[HA.out (by omega)]at ha';obtain⟨rfl,rfl⟩:g=g' /\off=off' :=by simpa using ha'
    have hA:z0N g off H.objs.length j=some ⟨g,off+j*8,none⟩:=by unfold z0N;rw[if_pos hj2]
    rw[hA]at hix;obtain⟨o,ho⟩:∃o,H.objs[j]=o:=⟨_,rfl⟩;have HD:Hid (_=_):=HS.out j hj2 hlt8 o ho;rw[ho]at hc;obtain⟨c0,c1,-⟩:=hc;clear ho ha'
    cases hlv:o.live with
    |true=>
     have HZ:Hid (z=y0V ((H.objs.take 8).drop (j+1)) ((j+1:Nat):Int)):=by show _=_;rw[HJ.out,HD.out,if_neg (by simp[hlv])]
     rw[hlv]at c0;clear HD hlv;generalize o.gen=og at*;go_wp2;go_round
     case rel=>exact⟨j+1,by omega,by go_num,HZ⟩
     case measure=>simp[intOf];omega
    |false=>
     by_cases hg:o.gen<999
     ·have HZ:Hid (z=(j:Int)):=by show _=_;rw[HJ.out,HD.out,if_pos ⟨hlv,hg⟩]
      rw[hlv]at c0;clear HD hlv;generalize o.gen=og at*;go_wp2;go_ret
      exact⟨z0x HZ.out.symm,B1⟩
     ·have HZ:Hid (z=y0V ((H.objs.take 8).drop (j+1)) ((j+1:Nat):Int)):=by show _=_;rw[HJ.out,HD.out,if_neg (by simp[hg])]
      have hg2:999<=o.gen:=by omega
      rw[hlv]at c0;clear HD hlv hg;generalize o.gen=og at*;go_wp2;go_round
      case rel=>exact⟨j+1,by omega,by go_num,HZ⟩
      case measure=>simp[intOf];omega
   ·have hA:z0N g off H.objs.length j=none:=by unfold z0N;rw[if_neg hj2]
    rw[hA]at hix;have HZ:Hid (z=y0V ((H.objs.take 8).drop (j+1)) ((j+1:Nat):Int)):=by show _=_;rw[HJ.out,HN.out j _ (.inl (by omega)),HN.out (j+1) _ (.inl (by omega))]
    go_wp2;go_round
    case rel=>exact⟨j+1,by omega,by go_num,HZ⟩
    case measure=>simp[intOf];omega
  ·obtain rfl:j=8:=by omega
   have HZ:Hid (z= -1):=by show _=_;rw[HJ.out,HN.out 8 _ (.inr (by omega))]
   go_wp2;go_ret
   exact⟨z0x HZ.out.symm,B1⟩
end
section
open Go.RowKit
def inO(id:Int)(o:q0E):Nat:=if o.live=true then o.field.count id else 0
def inE(id:Int)(os:List q0E):Nat:=(os.map (inO id)).sum
theorem x3N(id:Int)(os:List q0E)(j:Nat)(h:j<os.length):inE id (os.take (j+1))=inE id (os.take j)+inO id os[j]:=by unfold inE;rw[List.take_succ_eq_append_getElem h,List.map_append,List.sum_append];simp
theorem x3M(id:Int)(os:List q0E)(m:Nat)(h:∀z∈os,z.field.length<=m):inE id os<=os.length*m:=by
 unfold inE
 induction os with
 |nil=>simp
 |cons o r ih=>
  have h1:=h o (by simp);have h2:=ih (λz hz=>h z (by simp[hz]))
  have h3:inO id o<=m:=by
   unfold inO;split
   ·exact Nat.le_trans List.count_le_length h1
   ·omega
  simp only[List.map_cons,List.sum_cons,List.length_cons,Nat.add_mul,Nat.one_mul];omega
theorem y2Q(id:Int)(zs:List Int)(k:Nat)(h:k<zs.length):(zs.take (k+1)).count id=(zs.take k).count id+if zs[k]=id then 1 else 0:=by
 rw[List.take_succ_eq_append_getElem h,List.count_append];generalize zs[k]=z;by_cases e:z=id
 ·subst e;simp
 ·have e2:([z]:List Int).count id=0:=List.count_eq_zero.2 (by simp;exactλh=>e h.symm);rw[e2,if_neg e]
def x0a(H:q0a)(slot:Int):Int:=
 if 0<=slot then match H.objs[slot.toNat]?with
  |none=>0
  |some o=>if o.live=true then(inE (idZ slot o.gen) H.objs:Int)else 0
 else 0
theorem j3A(v:Value)(H:q0a)(slot:Int)(w:World)(h:RdH w v H)(hs:q0h H)(h0: -9223372036854775808<=slot)(h9:slot<=9223372036854775807)(hb:slot<0\/(H.objs.length:Int) - 1<slot):
 Calls Tryz.prog 65 #[v,.int .i64 slot] w λe w' =>e= .returned (.int .i64 (x0a H slot))/\Below w.heap.size w w' :=by
 obtain⟨ao,co,aw,cw,ab,cb,sa,sc,rfl,ro,-,-,-⟩:=h
 have HE:Hid (x0a H slot=0):=by
  show _=_;unfold x0a;by_cases h1:0<=slot
  ·rw[if_pos h1,List.getElem?_eq_none (by omega)]
  ·rw[if_neg h1]
 have hn:=hs.objs;have C1:Hid (∀X,_):=λX=>x0B slot 0 ((H.objs.length:Int) - 1) X hb;clear ro hb;go_enter Tryz.func65,Tryz.ntmps65;go_wp2_with fail
 refine(C1.out _).mono ?_;rintro e w1 ⟨rfl,hw1⟩;have B1:Below w.heap.size w w1:=by rw[hw1];exact bl1 _
 clear hw1;go_wp2;go_ret
 exact⟨z0x HE.out.symm,B1⟩
theorem z3G(v:Value)(H:q0a)(s:Nat)(w:World)(h:RdH w v H)(hs:q0h H)(hl:s<H.objs.length):
 Calls Tryz.prog 65 #[v,.int .i64 (s:Int)] w λe w' =>e= .returned (.int .i64 (x0a H (s:Int)))/\Below w.heap.size w w' :=by
 obtain⟨ao,co,aw,cw,ab,cb,sa,sc,rfl,ro,-,-,-⟩:=h;have hn:=hs.objs;obtain⟨W,hW⟩:∃W,W=w.alloc (.cells #[.slice ao H.objs.length co,.slice aw H.weaks.length cw,.slice ab H.buffer.length cb,.slice sa H.sites.length sc] 35):=⟨_,rfl⟩;have BW:Below w.heap.size w W:=by rw[hW];exact bl1 _
 have HR:Hid (RdO W ao H.objs):=q0V ro BW;have hp:W.cell? ⟨w.heap.size,0,none⟩=some (.slice ao H.objs.length co):=by rw[hW,World.cell?_alloc_mark];rfl
 have C1:Hid (∀X,_):=λX=>z0s (s:Int) 0 ((H.objs.length:Int) - 1) X (by omega) (by omega);obtain⟨g,off,f,fc,rfl,-,hc,-⟩:=HR.out s hl;obtain⟨o,ho⟩:∃o,H.objs[s]=o:=⟨_,rfl⟩;rw[ho]at hc
 have HE:Hid (x0a H (s:Int)=if o.live=true then(inE (idZ (s:Int) o.gen) H.objs:Int)else 0):=by show _=_;unfold x0a;rw[if_pos (by omega),show((s:Int)).toNat=s from by omega,List.getElem?_eq_getElem hl,ho]
 obtain⟨c0,c1,-⟩:=hc;have c0' :W.cell? ⟨g,off+s*8,none⟩=_:=c0;clear ro ho;obtain⟨n,hnn⟩:∃n,H.objs.length=n:=⟨_,rfl⟩;have Hn:Hid (H.objs.length=n):=hnn;rw[hnn]at hn hp hW hl C1 ⊢;clear hnn;obtain⟨ol,og,os1,oh,orr,oc,ofl,op⟩:=o;simp only at c0 c1 HE;clear c0'
 cases ol with
 |false=>
  have HV:Hid (x0a H (s:Int)=0):=by show _=_;rw[HE.out,if_neg (by simp)]
  go_enter Tryz.func65,Tryz.ntmps65;go_wp2_with fail
  rw[<-hW];refine(C1.out _).mono ?_;rintro e W1 ⟨rfl,hw1⟩;subst hw1;clear hW;go_wp2;go_ret
  exact⟨z0x HV.out.symm,BW⟩
 |true=>
  have HV:Hid (x0a H (s:Int)=(inE (idZ (s:Int) og) H.objs:Int)):=by show _=_;rw[HE.out,if_pos rfl]
  have CID:Hid (∀X,_):=λX=>q1C (s:Int) og X;generalize idZ (s:Int) og=id at*;have HS:Hid (∀(j:Nat)(h:j<H.objs.length),inE id (H.objs.take (j+1))=inE id (H.objs.take j)+inO id H.objs[j]):=λj h=>x3N id H.objs j h
  have HL:Hid (∀j,inE id (H.objs.take j)<=1048576*1048576):=by
   intro j;have h1:=x3M id (H.objs.take j) 1048576 (λz hz=>hs.fields z (List.mem_of_mem_take hz));have h2:(H.objs.take j).length<=1048576:=by rw[List.length_take];have:=hs.objs;omega
   exact Nat.le_trans h1 (Nat.mul_le_mul_right _ h2)
  have HF:Hid (∀z∈H.objs,z.field.length<=1048576):=hs.fields;have HW:Hid (inE id (H.objs.take n)=inE id H.objs):=by show _=_;rw[<-Hn.out,List.take_length]
  have HB:Hid (Below w.heap.size w W):=BW;go_enter Tryz.func65,Tryz.ntmps65;go_wp2_with fail
  rw[<-hW];refine(C1.out _).mono ?_;rintro e W1 ⟨rfl,hw1⟩;subst hw1;clear hW BW hs;go_wp2_with fail
  refine(CID.out _).mono ?_;rintro e W2 ⟨rfl,hw2⟩;subst hw2;clear c0 c1 CID C1;go_wp2;go_loopw[5,7] (λx i wr=>∃j:Nat,j<=n/\i= .int .i64 j/\x= .int .i64 (inE id (H.objs.take j):Int)/\Hid (∀p,wr.cell? p=W2.cell? p)/\Below w.heap.size w wr) (λ_ i _=>n - (intOf i).toNat)
  case atStart=>exact⟨0,by omega,rfl,by simp[inE],λ_=>rfl,HB.out⟩
  case round=>
   obtain⟨j,hj,rfl,rfl,HC,hb⟩:=hrel;by_cases hlt:j<n
   ·have hj2:j<H.objs.length:=by have:=Hn.out;omega
    obtain⟨g',off',fj,fcj,hge,-,hcj,hrj⟩:=HR.out j hj2;obtain⟨rfl,rfl⟩:g=g' /\off=off' :=by simpa using hge
    obtain⟨o,ho⟩:∃o,H.objs[j]=o:=⟨_,rfl⟩;have HS2:Hid (_=_):=HS.out j hj2;have hfl:=HF.out _ (List.getElem_mem hj2);have hbd:=HL.out j;rw[ho]at hcj hrj HS2 hfl;clear ho hge;obtain⟨c0,-,-,-,-,-,c6,-⟩:=hcj;have HRJ:Hid _:=hrj;clear hrj;obtain⟨ol,og,os1,oh,orr,oc,ofl,op⟩:=o;simp only at c0 c6 HS2 hfl HRJ;rw[<-HC.out]at c0 c6 hp;generalize inE id (H.objs.take j)=N at*
    cases ol with
    |false=>
     have HT:Hid (inE id (H.objs.take (j+1))=N):=by show _=_;rw[HS2.out];simp[inO]
     go_wp2;go_loop [5,8] (λx k=>k= .int .i64 0/\x= .int .i64 (N:Int)) (λ_ _=>0)
     case atStart=>exact⟨rfl,rfl⟩
     case round=>
      obtain⟨rfl,rfl⟩:=hrel;by_cases hf0:0<ofl.length
      ·go_wp2;go_roundw
       case rel=>exact⟨j+1,by omega,by go_num,by rw[HT.out],HC,hb⟩
       case measure=>simp[intOf];omega
      ·go_wp2;go_roundw
       case rel=>exact⟨j+1,by omega,by go_num,by rw[HT.out],HC,hb⟩
       case measure=>simp[intOf];omega
    |true=>
     have HT:Hid (inE id (H.objs.take (j+1))=N+ofl.count id):=by show _=_;rw[HS2.out];simp[inO]
     have HCS:Hid (∀(k:Nat)(h:k<ofl.length),_):=λk h=>y2Q id ofl k h;have HCL:Hid (∀k,(ofl.take k).count id<=1048576):=λk=>Nat.le_trans List.count_le_length (by rw[List.length_take];omega);have HCA:Hid ((ofl.take ofl.length).count id=ofl.count id):=by show _=_;rw[List.take_length]
     obtain⟨m,hm⟩:∃m,ofl.length=m:=⟨_,rfl⟩;have Hm:Hid (ofl.length=m):=hm;rw[hm]at c6 hfl HCA;clear hm;go_wp2;go_loop [5,8] (λx k=>∃kk:Nat,kk<=m/\k= .int .i64 kk/\x= .int .i64 ((N+(ofl.take kk).count id:Nat):Int)) (λ_ k=>m - (intOf k).toNat)
     case atStart=>exact⟨0,by omega,rfl,by simp⟩
     case round=>
      obtain⟨kk,hkk,rfl,rfl⟩:=hrel;by_cases hkl:kk<m
      ·have hk2:kk<ofl.length:=by have:=Hm.out;omega
       obtain⟨gf,of2,rfl,-,hcf⟩:=HRJ.out kk hk2;rw[<-HC.out]at hcf;have HC2:Hid (_=_):=HCS.out kk hk2;have hcl:=HCL.out kk;generalize (ofl.take kk).count id=M at*;generalize ofl[kk]=z at*;by_cases hz:z=id
       ·have HN:Hid ((ofl.take (kk+1)).count id=M+1):=by show _=_;rw[HC2.out,if_pos hz]
        subst hz;go_wp2;go_round
        case rel=>exact⟨kk+1,by omega,by go_num,by rw[HN.out];go_num⟩
        case measure=>simp[intOf];omega
       ·have HN:Hid ((ofl.take (kk+1)).count id=M):=by show _=_;rw[HC2.out,if_neg hz];rfl
        have hq:(z==id)=false:=by rw[beq_eq_false_iff_ne];exact hz
        go_wp2;go_round
        case rel=>exact⟨kk+1,by omega,by go_num,by rw[HN.out]⟩
        case measure=>simp[intOf];omega
      ·obtain rfl:kk=m:=by omega
       go_wp2;go_roundw
       case rel=>exact⟨j+1,by omega,by go_num,by rw[HT.out,<-HCA.out],HC,hb⟩
       case measure=>simp[intOf];omega
   ·obtain rfl:j=n:=by omega
    rw[<-HC.out]at hp;go_wp2;go_ret
    exact⟨z0x (by rw[HV.out,<-HW.out]),hb⟩
theorem q2N(v:Value)(H:q0a)(slot:Int)(w:World)(h:RdH w v H)(hs:q0h H)(h0: -9223372036854775808<=slot)(h9:slot<=9223372036854775807):
 Calls Tryz.prog 65 #[v,.int .i64 slot] w λe w' =>e= .returned (.int .i64 (x0a H slot))/\Below w.heap.size w w' :=by
 by_cases hb:slot<0\/(H.objs.length:Int) - 1<slot
 ·exact j3A v H slot w h hs h0 h9 hb
 ·obtain⟨s,rfl⟩:=Int.eq_ofNat_of_zero_le (a:=slot) (by omega);exact z3G v H s w h hs (by omega)
end
section
open Go.RowKit
theorem q1j{a b:Bool}(h:a=b):Ending.returned (.bool a)= .returned (.bool b):=by rw[h]
end
section
open Go.RowKit
theorem z1G{y x:List UInt8}(h:y≠x):((txt y).toList==(txt x).toList)=false:=by rw[beq_eq_false_iff_ne];intro e;unfold txt at e;rw[ByteArray.toList_mk,ByteArray.toList_mk]at e;exact h (by simpa using e)
theorem v1H{α:Type}(zs ys:List α)(j:Nat)(h1:j<zs.length)(h2:j<ys.length):zs.drop j=ys.drop j↔(zs[j]=ys[j]/\zs.drop (j+1)=ys.drop (j+1)):=by rw[List.drop_eq_getElem_cons h1,List.drop_eq_getElem_cons h2,List.cons.injEq]
theorem x1I(w:World)(a c:Option Addr)(cap cap2:Nat)(zs ys:List Int)(h1:RdI w a zs)(h2:RdI w c ys)(hn:zs.length<=9223372036854775806)(hm:ys.length<=9223372036854775806):
 Calls Tryz.prog 121 #[.slice a zs.length cap,.slice c ys.length cap2] w λe w' =>e= .returned (.bool (decide (zs=ys)))/\Below w.heap.size w w' :=by
 by_cases hl:zs.length=ys.length
 ·have HA:Hid (∀X:q0b w,RdI X.on a zs):=λX=>q0t h1 X.bel;have HC:Hid (∀X:q0b w,RdI X.on c ys):=λX=>q0t h2 X.bel;have H0:Hid (decide (zs=ys)=decide (zs.drop 0=ys.drop 0)):=rfl;have HS:Hid (∀(j:Nat)(h1:j<zs.length)(h2:j<ys.length),(zs.drop j=ys.drop j)↔_):=λj h1 h2=>v1H zs ys j h1 h2;have HE:Hid (zs.drop zs.length=ys.drop zs.length):=by show _=_;rw[List.drop_length,hl,List.drop_length]
  generalize decide (zs=ys)=b at*;obtain⟨n,hnn⟩:∃n,zs.length=n:=⟨_,rfl⟩;have Hn:Hid (zs.length=n):=hnn;have Hm:Hid (ys.length=n):=by show _=_;omega
  rw[hnn]at hn HE ⊢;rw[Hm.out];clear h1 h2 hnn hl hm;go_enter Tryz.func121,Tryz.ntmps121;go_wp2;go_loopw[13] (λi wr=>∃j:Nat,j<=n/\i= .int .i64 j/\Hid (b=decide (zs.drop j=ys.drop j))/\Below w.heap.size w wr) (λi _=>n - (intOf i).toNat)
  case atStart=>exact⟨0,by omega,rfl,H0,bl0⟩
  case round=>
   obtain⟨j,hj,rfl,HJ,hb⟩:=hrel;by_cases hlt:j<n
   ·have hj2:j<zs.length:=by have:=Hn.out;omega
    have hj3:j<ys.length:=by have:=Hm.out;omega
    obtain⟨g,off,rfl,-,-⟩:=HA.out ⟨w,bl0⟩ j hj2;obtain⟨g2,off2,rfl,-,-⟩:=HC.out ⟨w,bl0⟩ j hj3;have hne:=q0b.some_ wr
    have z1:∀X:q0b wr,X.on.cell? ⟨g,off+j,none⟩=some (.int .i64 zs[j]):=λX=>by
     obtain⟨g',off',e1,-,e2⟩:=HA.out ⟨X.on,hb.trans (X.bel.mono hb.size)⟩ j hj2;simp only[Option.some.injEq,Addr.mk.injEq,and_true]at e1;obtain⟨rfl,rfl⟩:=e1;exact e2
    have z2:∀X:q0b wr,X.on.cell? ⟨g2,off2+j,none⟩=some (.int .i64 ys[j]):=λX=>by
     obtain⟨g',off',e1,-,e2⟩:=HC.out ⟨X.on,hb.trans (X.bel.mono hb.size)⟩ j hj3;simp only[Option.some.injEq,Addr.mk.injEq,and_true]at e1;obtain⟨rfl,rfl⟩:=e1;exact e2
    have HS2:Hid (_↔_):=HS.out j hj2 hj3;generalize zs[j]=z at*;generalize ys[j]=y at*;by_cases he:z=y
    ·have HR:Hid (b=decide (zs.drop (j+1)=ys.drop (j+1))):=by show _=_;rw[HJ.out,decide_eq_decide,HS2.out];exact⟨λh=>h.2,λh=>⟨he,h⟩⟩
     subst he;go_wp2;refine q0j wr bl0 (by kernel_rfl) (by kernel_rfl) ?_;repeat (go_big_quiet_step (fail))
     refine wpQuiet_nil ?_;rintro _ ⟨⟨X,hX⟩,rfl⟩;go_wp2;go_roundw
     case rel=>exact⟨j+1,by omega,by go_num,HR,hb.trans (hX.mono hb.size)⟩
     case measure=>simp[intOf];omega
    ·have HR:Hid (b=false):=by show _=_;rw[HJ.out,decide_eq_false (λh=>he (HS2.out.1 h).1)]
     have hq:(z !=y)=true:=by rw[bne_iff_ne];exact he
     go_wp2;refine q0j wr bl0 (by kernel_rfl) (by kernel_rfl) ?_;repeat (go_big_quiet_step (fail))
     refine wpQuiet_nil ?_;rintro _ ⟨⟨X,hX⟩,rfl⟩;go_wp2;go_ret
     exact⟨q1j HR.out.symm,hb.trans (hX.mono hb.size)⟩
   ·obtain rfl:j=n:=by omega
    have HR:Hid (b=true):=by show _=_;rw[HJ.out];exact decide_eq_true HE.out
    go_wp2;go_ret
    exact⟨q1j HR.out.symm,hb⟩
 ·have hd:decide (zs=ys)=false:=decide_eq_false (λe=>hl (by rw[e]));rw[hd];have hq:¬((zs.length:Int)=(ys.length:Int)):=by omega
  clear h1 h2 hd;go_enter Tryz.func121,Tryz.ntmps121;go_wp2;go_ret
  exact⟨rfl,bl0⟩
theorem x2c(o1 o2:q0E)(f1 f2:Option Addr)(k1 k2:Nat)(w:World)(h1:RdI w f1 o1.field)(h2:RdI w f2 o2.field)(n1:o1.field.length<=1048576)(n2:o2.field.length<=1048576)(b:Bool)(hb:b=true↔o1=o2):
 Calls Tryz.prog 95 #[y0J o1 (.slice f1 o1.field.length k1),y0J o2 (.slice f2 o2.field.length k2)] w λe w' =>e= .returned (.bool b)/\Below w.heap.size w w' :=by
 have HNO:Hid (¬o1=o2->b=false):=λhn=>by cases b with|false=>rfl|true=>exact absurd (hb.1 rfl) hn
 have HY:Hid (o1=o2->b=true):=hb.2;clear hb;obtain⟨l1,g1,s1,t1,r1,c1,fl1,p1⟩:=o1;obtain⟨l2,g2,s2,t2,r2,c2,fl2,p2⟩:=o2;unfold y0J;simp only at h1 h2 n1 n2 ⊢;have CE:Hid (∀X,Below w.heap.size w X->_):=λX hX=>x1I X f1 f2 k1 k2 fl1 fl2 (q0t h1 hX) (q0t h2 hX) (by omega) (by omega);have BB:Hid (Below w.heap.size w ((w.alloc (.cells #[.bool l1,.int .i64 g1,.int .i64 s1,.int .i64 t1,.int .i64 r1,.int .i64 c1,.slice f1 fl1.length k1,.bool p1] 90)).alloc (.cells #[.bool l2,.int .i64 g2,.int .i64 s2,.int .i64 t2,.int .i64 r2,.int .i64 c2,.slice f2 fl2.length k2,.bool p2] 90))):=(bl1 _).alloc (by simp) _;clear h1 h2;by_cases el:l1=l2
 rotate_left
 ·have hb0:=HNO.out (λe=>el (by injection e));subst hb0;obtain rfl:l1= !l2:=by cases l1<;>cases l2<;>simp_all
  clear el HNO HY CE
  cases l2
  all_goals
   simp only[Bool.not_false,Bool.not_true]at*;go_enter Tryz.func95,Tryz.ntmps95;go_wp2;go_ret
   exact⟨rfl,BB.out⟩
 subst el;have HNO1:=HNO;by_cases eg1:g1=g2
 rotate_left
 ·have hb0:=HNO.out (λe=>eg1 (by injection e));subst hb0;have hq:(g1==g2)=false:=by rw[beq_eq_false_iff_ne];exact eg1
  clear HNO HY CE HNO1
  cases l1
  all_goals
   go_enter Tryz.func95,Tryz.ntmps95;go_wp2;go_ret
   exact⟨rfl,BB.out⟩
 subst eg1;by_cases es1:s1=s2
 rotate_left
 ·have hb0:=HNO.out (λe=>es1 (by injection e));subst hb0;have hq:(s1==s2)=false:=by rw[beq_eq_false_iff_ne];exact es1
  clear HNO HY CE HNO1
  cases l1
  all_goals
   go_enter Tryz.func95,Tryz.ntmps95;go_wp2;go_ret
   exact⟨rfl,BB.out⟩
 subst es1;by_cases et1:t1=t2
 rotate_left
 ·have hb0:=HNO.out (λe=>et1 (by injection e));subst hb0;have hq:(t1==t2)=false:=by rw[beq_eq_false_iff_ne];exact et1
  clear HNO HY CE HNO1
  cases l1
  all_goals
   go_enter Tryz.func95,Tryz.ntmps95;go_wp2;go_ret
   exact⟨rfl,BB.out⟩
 subst et1;by_cases er1:r1=r2
 rotate_left
 ·have hb0:=HNO.out (λe=>er1 (by injection e));subst hb0;have hq:(r1==r2)=false:=by rw[beq_eq_false_iff_ne];exact er1
  clear HNO HY CE HNO1
  cases l1
  all_goals
   go_enter Tryz.func95,Tryz.ntmps95;go_wp2;go_ret
   exact⟨rfl,BB.out⟩
 subst er1;by_cases ec1:c1=c2
 rotate_left
 ·have hb0:=HNO.out (λe=>ec1 (by injection e));subst hb0;have hq:(c1==c2)=false:=by rw[beq_eq_false_iff_ne];exact ec1
  clear HNO HY CE HNO1
  cases l1
  all_goals
   go_enter Tryz.func95,Tryz.ntmps95;go_wp2;go_ret
   exact⟨rfl,BB.out⟩
 subst ec1;by_cases ef:fl1=fl2
 rotate_left
 ·have hb0:=HNO.out (λe=>ef (by injection e));subst hb0;rw[decide_eq_false ef]at CE;clear HNO HY HNO1
  cases l1
  all_goals
   go_enter Tryz.func95,Tryz.ntmps95;go_wp2_with fail
   refine(CE.out _ BB.out).mono ?_;rintro e w1 ⟨rfl,b1⟩;have B1:=BB.out.trans (b1.mono BB.out.size);clear b1;go_wp2;go_ret
   exact⟨rfl,B1⟩
 rw[decide_eq_true ef]at CE;have HNO2:Hid (p1≠p2->b=false):=λhp=>HNO.out (λe=>hp (by injection e));have HY2:Hid (p1=p2->b=true):=λhp=>HY.out (by rw[ef,hp]);obtain⟨V,hV⟩:∃V,V=(w.alloc (.cells #[.bool l1,.int .i64 g1,.int .i64 s1,.int .i64 t1,.int .i64 r1,.int .i64 c1,.slice f1 fl1.length k1,.bool p1] 90)).alloc (.cells #[.bool l1,.int .i64 g1,.int .i64 s1,.int .i64 t1,.int .i64 r1,.int .i64 c1,.slice f2 fl2.length k2,.bool p2] 90):=⟨_,rfl⟩;have BV:Below w.heap.size w V:=by rw[hV];exact BB.out
 have HC:Hid (∀X,Below V.heap.size V X->X.cell? ⟨w.heap.size,7,none⟩=some (.bool p1)/\X.cell? ⟨w.heap.size+1,7,none⟩=some (.bool p2)):=λX hX=>by
  have hs:V.heap.size=w.heap.size+1+1:=by rw[hV];simp
  refine⟨?_,?_⟩
  ·rw[hX.cell (p:=⟨w.heap.size,7,none⟩) (by show w.heap.size<_;omega),hV,World.cell?_alloc_lt _ _ _ (by simp),World.cell?_alloc_mark];rfl
  ·rw[hX.cell (p:=⟨w.heap.size+1,7,none⟩) (by show w.heap.size+1<_;omega),hV,show w.heap.size+1=(w.alloc (.cells #[.bool l1,.int .i64 g1,.int .i64 s1,.int .i64 t1,.int .i64 r1,.int .i64 c1,.slice f1 fl1.length k1,.bool p1] 90)).heap.size from by simp,World.cell?_alloc_mark];rfl
 clear HNO HY HNO1 BB ef;by_cases ep:p1=p2
 ·have hb1:=HY2.out ep;subst hb1 ep;clear HNO2 HY2
  cases l1<;>cases p1
  all_goals
   go_enter Tryz.func95,Tryz.ntmps95;go_wp2_with fail
   rw[<-hV];refine(CE.out _ BV).mono ?_;rintro e w1 ⟨rfl,b1⟩;have B1:=BV.trans (b1.mono BV.size);obtain⟨d1,d2⟩:=HC.out _ b1;clear b1 hV;go_wp2;go_ret
   exact⟨rfl,B1⟩
 ·have hb1:=HNO2.out ep;subst hb1;obtain rfl:p1= !p2:=by cases p1<;>cases p2<;>simp_all
  clear HNO2 HY2 ep
  cases l1<;>cases p2
  all_goals
   simp only[Bool.not_false,Bool.not_true]at*;go_enter Tryz.func95,Tryz.ntmps95;go_wp2_with fail
   rw[<-hV];refine(CE.out _ BV).mono ?_;rintro e w1 ⟨rfl,b1⟩;have B1:=BV.trans (b1.mono BV.size);obtain⟨d1,d2⟩:=HC.out _ b1;clear b1 hV;go_wp2;go_ret
   exact⟨rfl,B1⟩
end
section
open Go.RowKit
theorem z0Z(x lo hi:Int)(w:World)(h1:lo<=x)(h2:x<=hi):
 Calls Tryz.prog 93 #[.int .i64 x,.int .i64 lo,.int .i64 hi] w λe w' =>e= .returned (.bool true)/\w' =w:=by
 go_enter Tryz.func93,Tryz.ntmps93;go_wp2;go_ret
 exact⟨rfl,rfl⟩
theorem y0U(x lo hi:Int)(w:World)(h:x<lo\/hi<x):
 Calls Tryz.prog 93 #[.int .i64 x,.int .i64 lo,.int .i64 hi] w λe w' =>e= .returned (.bool false)/\w' =w:=by
 by_cases h1:x<lo
 ·clear h;go_enter Tryz.func93,Tryz.ntmps93;go_wp2;go_ret
  exact⟨rfl,rfl⟩
 ·have h2:hi<x:=by omega
  have h3:lo<=x:=by omega
  clear h;go_enter Tryz.func93,Tryz.ntmps93;go_wp2;go_ret
  exact⟨u1n (decide_eq_false (by omega)),rfl⟩
def y0e{α:Type} [DecidableEq α](x:α):List α->Int->Int
 |[],_=> -1
 |y::r,i=>if x=y then i else y0e x r (i+1)
theorem q3x{α:Type} [DecidableEq α](x:α)(zs:List α)(j:Nat)(h:j<zs.length):y0e x (zs.drop j) (j:Int)=if x=zs[j]then(j:Int)else y0e x (zs.drop (j+1)) ((j+1:Nat):Int):=by rw[List.drop_eq_getElem_cons h];simp[y0e]
theorem x3K{α:Type} [DecidableEq α](x:α)(zs:List α)(i:Int):y0e x (zs.drop zs.length) i= -1:=by rw[List.drop_length];rfl
theorem x3L{α:Type} [DecidableEq α](x:α)(zs:List α):∀i,0<=i->(0<=y0e x zs i↔x∈zs):=by
 induction zs with
 |nil=>intro i _;simp[y0e]
 |cons y r ih=>
  intro i hi;unfold y0e;by_cases e:x=y
  ·rw[if_pos e];simp[e,hi]
  ·rw[if_neg e,ih (i+1) (by omega)];simp[e]
theorem x3J(w:World)(a:Option Addr)(cap:Nat)(zs:List Int)(x:Int)(h:RdI w a zs)(hn:zs.length<=9223372036854775806):
 Calls Tryz.prog 127 #[.slice a zs.length cap,.int .i64 x] w λe w' =>e= .returned (.int .i64 (y0e x zs 0))/\w' =w:=by
 have HA:Hid (RdI w a zs):=h;have HD:Hid (∀(j:Nat)(h:j<zs.length),y0e x (zs.drop j) (j:Int)=_):=λj hj=>q3x x zs j hj;have H0:Hid (y0e x zs 0=y0e x (zs.drop 0) ((0:Nat):Int)):=rfl;have HE:Hid (y0e x (zs.drop zs.length) (zs.length:Int)= -1):=x3K x zs _;obtain⟨n,hnn⟩:∃n,zs.length=n:=⟨_,rfl⟩;have Hn:Hid (zs.length=n):=hnn;rw[hnn]at hn HE ⊢;generalize y0e x zs 0=b at*;clear h hnn;go_enter Tryz.func127,Tryz.ntmps127;go_wp2;go_loop [8] (λi=>∃j:Nat,j<=n/\i= .int .i64 j/\Hid (b=y0e x (zs.drop j) (j:Int))) (λi=>n - (intOf i).toNat)
 case atStart=>exact⟨0,by omega,rfl,H0⟩
 case round=>
  obtain⟨j,hj,rfl,HJ⟩:=hrel;by_cases hlt:j<n
  ·have hj2:j<zs.length:=by have:=Hn.out;omega
   obtain⟨g,off,rfl,-,hc⟩:=HA.out j hj2;have HD2:Hid (_=_):=HD.out j hj2;generalize zs[j]=z at*;by_cases he:x=z
   ·have HR:Hid (b=(j:Int)):=by show _=_;rw[HJ.out,HD2.out,if_pos he]
    subst he;go_wp2;go_ret
    exact⟨z0x HR.out.symm,rfl⟩
   ·have HR:Hid (b=y0e x (zs.drop (j+1)) ((j+1:Nat):Int)):=by show _=_;rw[HJ.out,HD2.out,if_neg he]
    have hq:(x==z)=false:=by rw[beq_eq_false_iff_ne];exact he
    go_wp2;go_round
    case rel=>exact⟨j+1,by omega,by go_num,HR⟩
    case measure=>simp[intOf];omega
  ·obtain rfl:j=n:=by omega
   have HR:Hid (b= -1):=by show _=_;rw[HJ.out,HE.out]
   go_wp2;go_ret
   exact⟨z0x HR.out.symm,rfl⟩
theorem x2u(w:World)(a:Option Addr)(cap:Nat)(zs:List Int)(x:Int)(h:RdI w a zs)(hn:zs.length<=9223372036854775806):
 Calls Tryz.prog 119 #[.slice a zs.length cap,.int .i64 x] w λe w' =>e= .returned (.bool (decide (x∈zs)))/\w' =w:=by
 have C:Hid (∀u:Unit,_):=λ(_:Unit)=>x3J w a cap zs x h hn;have hm:=x3L x zs 0 (Int.le_refl _);have HE:Hid (decide (x∈zs)=decide (0<=y0e x zs 0)):=by show _=_;rw[decide_eq_decide];exact hm.symm
 rw[HE.out];generalize y0e x zs 0=z at*;clear h hm HE;go_enter Tryz.func119,Tryz.ntmps119;go_wp2_with fail
 refine(C.out ()).mono ?_;rintro e w1 ⟨rfl,hw1⟩;subst hw1;go_wp2;go_ret
 exact⟨rfl,rfl⟩
theorem v1N(w:World)(a:Option Addr)(cap:Nat)(zs:List (List UInt8))(x:List UInt8)(h:RdS w a zs)(hn:zs.length<=9223372036854775806):
 Calls Tryz.prog 108 #[.slice a zs.length cap,.string (txt x)] w λe w' =>e= .returned (.int .i64 (y0e x zs 0))/\w' =w:=by
 have HA:Hid (RdS w a zs):=h;have HD:Hid (∀(j:Nat)(h:j<zs.length),y0e x (zs.drop j) (j:Int)=_):=λj hj=>q3x x zs j hj;have H0:Hid (y0e x zs 0=y0e x (zs.drop 0) ((0:Nat):Int)):=rfl;have HE:Hid (y0e x (zs.drop zs.length) (zs.length:Int)= -1):=x3K x zs _;obtain⟨n,hnn⟩:∃n,zs.length=n:=⟨_,rfl⟩;have Hn:Hid (zs.length=n):=hnn;rw[hnn]at hn HE ⊢;generalize y0e x zs 0=b at*;clear h hnn;go_enter Tryz.func108,Tryz.ntmps108;go_wp2;go_loop [8] (λi=>∃j:Nat,j<=n/\i= .int .i64 j/\Hid (b=y0e x (zs.drop j) (j:Int))) (λi=>n - (intOf i).toNat)
 case atStart=>exact⟨0,by omega,rfl,H0⟩
 case round=>
  obtain⟨j,hj,rfl,HJ⟩:=hrel;by_cases hlt:j<n
  ·have hj2:j<zs.length:=by have:=Hn.out;omega
   obtain⟨g,off,rfl,-,hc⟩:=HA.out j hj2;have HD2:Hid (_=_):=HD.out j hj2;generalize zs[j]=z at*;by_cases he:x=z
   ·have HR:Hid (b=(j:Int)):=by show _=_;rw[HJ.out,HD2.out,if_pos he]
    subst he;go_wp2;go_ret
    exact⟨z0x HR.out.symm,rfl⟩
   ·have HR:Hid (b=y0e x (zs.drop (j+1)) ((j+1:Nat):Int)):=by show _=_;rw[HJ.out,HD2.out,if_neg he]
    have hq:((txt x).toList==(txt z).toList)=false:=z1G he;go_wp2;go_round
    case rel=>exact⟨j+1,by omega,by go_num,HR⟩
    case measure=>simp[intOf];omega
  ·obtain rfl:j=n:=by omega
   have HR:Hid (b= -1):=by show _=_;rw[HJ.out,HE.out]
   go_wp2;go_ret
   exact⟨z0x HR.out.symm,rfl⟩
theorem x3C(w:World)(a:Option Addr)(cap:Nat)(zs:List (List UInt8))(x:List UInt8)(h:RdS w a zs)(hn:zs.length<=9223372036854775806):
 Calls Tryz.prog 118 #[.slice a zs.length cap,.string (txt x)] w λe w' =>e= .returned (.bool (decide (x∈zs)))/\w' =w:=by
 have C:Hid (∀u:Unit,_):=λ(_:Unit)=>v1N w a cap zs x h hn;have hm:=x3L x zs 0 (Int.le_refl _);have HE:Hid (decide (x∈zs)=decide (0<=y0e x zs 0)):=by show _=_;rw[decide_eq_decide];exact hm.symm
 rw[HE.out];generalize y0e x zs 0=z at*;clear h hm HE;go_enter Tryz.func118,Tryz.ntmps118;go_wp2_with fail
 refine(C.out ()).mono ?_;rintro e w1 ⟨rfl,hw1⟩;subst hw1;go_wp2;go_ret
 exact⟨rfl,rfl⟩
theorem z3Q(w:World)(a:Option Addr)(cap:Nat)(zs:List Int)(x:Int)(h:RdI w a zs)(hn:zs.length<=1048576):
 Calls Tryz.prog 136 #[.slice a zs.length cap,.int .i64 x] w λe w' =>e= .returned (.int .i64 ((zs.count x:Nat):Int))/\w' =w:=by
 have HA:Hid (RdI w a zs):=h;have HD:Hid (∀(j:Nat)(h:j<zs.length),(zs.take (j+1)).count x=_):=λj hj=>y2Q x zs j hj;have HL:Hid (∀k,(zs.take k).count x<=1048576):=λk=>Nat.le_trans List.count_le_length (by rw[List.length_take];omega);have HE:Hid ((zs.take zs.length).count x=zs.count x):=by show _=_;rw[List.take_length]
 obtain⟨n,hnn⟩:∃n,zs.length=n:=⟨_,rfl⟩;have Hn:Hid (zs.length=n):=hnn;rw[hnn]at hn HE ⊢;rw[<-HE.out];clear h hnn;go_enter Tryz.func136,Tryz.ntmps136;go_wp2;go_loop [5,10] (λc i=>∃j:Nat,j<=n/\i= .int .i64 j/\c= .int .i64 (((zs.take j).count x:Nat):Int)) (λ_ i=>n - (intOf i).toNat)
 case atStart=>exact⟨0,by omega,rfl,by simp⟩
 case round=>
  obtain⟨j,hj,rfl,rfl⟩:=hrel;by_cases hlt:j<n
  ·have hj2:j<zs.length:=by have:=Hn.out;omega
   obtain⟨g,off,rfl,-,hc⟩:=HA.out j hj2;have HD2:Hid (_=_):=HD.out j hj2;have hl:=HL.out j;generalize (zs.take j).count x=M at*;generalize zs[j]=z at*;by_cases he:z=x
   ·have HR:Hid ((zs.take (j+1)).count x=M+1):=by show _=_;rw[HD2.out,if_pos he]
    subst he;go_wp2;go_round
    case rel=>exact⟨j+1,by omega,by go_num,by rw[HR.out];go_num⟩
    case measure=>simp[intOf];omega
   ·have HR:Hid ((zs.take (j+1)).count x=M):=by show _=_;rw[HD2.out,if_neg he];rfl
    have hq:(z==x)=false:=by rw[beq_eq_false_iff_ne];exact he
    go_wp2;go_round
    case rel=>exact⟨j+1,by omega,by go_num,by rw[HR.out]⟩
    case measure=>simp[intOf];omega
  ·obtain rfl:j=n:=by omega
   go_wp2;go_ret
   exact⟨rfl,rfl⟩
end
section
open Go.RowKit
theorem y1G(p:Int->Bool)(zs:List Int)(j:Nat)(h:j<zs.length):(zs.take (j+1)).filter p=(zs.take j).filter p++(if p zs[j]=true then [zs[j]]else []):=by
 rw[List.take_succ_eq_append_getElem h,List.filter_append];congr 1;by_cases e:p zs[j]=true
 ·rw[if_pos e];simp[e]
 ·rw[if_neg e];simp[e]
theorem z2Z(w:World)(g p:Nat)(f:Option Addr)(c:Nat)(zs:List Int)(hc:w.cell? ⟨g,p+6,none⟩=some (.slice f zs.length c))(hr:RdI w f zs)(hl:zs.length<=1048576):
 Calls Tryz.prog 131 #[.pointer (some ⟨g,p,none⟩)] w λe w' =>∃x,e= .returned x/\q0i w' w.heap.size x (zs.filter (λz=>decide (0<=z)))/\Below w.heap.size w w' :=by
 have HR:Hid (RdI w f zs):=hr;have HF:Hid (∀j(h:j<zs.length),(zs.take (j+1)).filter (λz=>decide (0<=z))=(zs.take j).filter (λz=>decide (0<=z))++(if decide (0<=zs[j])=true then [zs[j]]else [])):=λj h=>y1G _ zs j h
 have HL:Hid (∀j,((zs.take j).filter (λz=>decide (0<=z))).length<=1048576):=λj=>by
  have h1:=List.length_filter_le (λz=>decide (0<=z)) (zs.take j);rw[List.length_take]at h1;omega
 have HE:Hid ((zs.take zs.length).filter (λz=>decide (0<=z))=zs.filter (λz=>decide (0<=z))):=by show _=_;rw[List.take_length]
 obtain⟨F,hF⟩:∃F:Nat->List Int,∀j,(zs.take j).filter (λz=>decide (0<=z))=F j:=⟨λj=>(zs.take j).filter (λz=>decide (0<=z)),λ_=>rfl⟩;have HF0:Hid (F 0=[]):=by show _=_;rw[<-hF];simp
 simp only[hF]at HF HL HE;rw[<-HE.out];clear hr hF;go_enter Tryz.func131,Tryz.ntmps131;go_wp2;go_loopw[3,11] (λv i wr=>∃j:Nat,i= .int .i64 (j:Int)/\j<=zs.length/\Hid (q0i wr w.heap.size v (F j))/\Below w.heap.size w wr) (λ_ i _=>zs.length - (intOf i).toNat)
 case atStart=>exact⟨0,rfl,Nat.zero_le _,by show q0i _ _ _ _;rw[HF0.out];exact z0H _ _,bl0⟩
 case round=>
  obtain⟨j,rfl,hjl,HO,hb⟩:=hrel;by_cases hlt:j<zs.length
  ·obtain⟨gf,off,rfl,-,hcf⟩:=q0t HR.out hb j hlt;have hF1:=HF.out j hlt;have hL1:=HL.out j;generalize zs[j]=z at hF1 hcf;by_cases hz:0<=z
   ·rw[if_pos (decide_eq_true hz)]at hF1;have HF1:Hid (F (j+1)=F j++[z]):=hF1;clear hF1;go_wp2_with (at_builtin;refine x0F rfl _ _ rfl w.heap.size _ (F j) rfl (v0Y _ HO.out) ⟨wr.heap.size,0,none⟩ [z] 1 1 rfl rfl ?hsrc ?hlen w (hb.alloc hb.size _) nl0 ?_)
    case hsrc=>exact j0X wr z
    case hlen=>rw[List.length_singleton];omega
    intro v4 w4 O4 B4;have O5:Hid (q0i w4 w.heap.size v4 (F (j+1))):=by show q0i _ _ _ _;rw[HF1.out];exact O4
    go_wp2;go_roundw
    case rel=>exact⟨j+1,by go_num,by omega,O5,B4⟩
    case measure=>simp[intOf];omega
   ·rw[if_neg (by simpa using hz),List.append_nil]at hF1;have O6:=HO.out;rw[<-hF1]at O6;have O5:Hid _:=O6;clear O6;clear hF1;go_wp2;go_roundw
    case rel=>exact⟨j+1,by go_num,by omega,O5,hb⟩
    case measure=>simp[intOf];omega
  ·obtain rfl:j=zs.length:=by omega
   go_wp2;go_ret
   exact⟨_,rfl,HO.out,hb⟩
theorem x2j(w:World)(f:Option Addr)(c:Nat)(zs:List Int)(n:Int)(hr:RdI w f zs)(hl:zs.length<=16777215):
 Calls Tryz.prog 132 #[.slice f zs.length c,.int .i64 n] w λe w' =>∃x,e= .returned x/\q0i w' w.heap.size x (zs.filter (λz=>decide (z≠n)))/\Below w.heap.size w w' :=by
 have HR:Hid (RdI w f zs):=hr;have HF:Hid (∀j(h:j<zs.length),(zs.take (j+1)).filter (λz=>decide (z≠n))=(zs.take j).filter (λz=>decide (z≠n))++(if decide (zs[j]≠n)=true then [zs[j]]else [])):=λj h=>y1G _ zs j h
 have HL:Hid (∀j,((zs.take j).filter (λz=>decide (z≠n))).length<=j):=λj=>by
  have h1:=List.length_filter_le (λz=>decide (z≠n)) (zs.take j);rw[List.length_take]at h1;omega
 have HE:Hid ((zs.take zs.length).filter (λz=>decide (z≠n))=zs.filter (λz=>decide (z≠n))):=by show _=_;rw[List.take_length]
 obtain⟨F,hF⟩:∃F:Nat->List Int,∀j,(zs.take j).filter (λz=>decide (z≠n))=F j:=⟨λj=>(zs.take j).filter (λz=>decide (z≠n)),λ_=>rfl⟩;have HF0:Hid (F 0=[]):=by show _=_;rw[<-hF];simp
 simp only[hF]at HF HL HE;rw[<-HE.out];clear hr hF;go_enter Tryz.func132,Tryz.ntmps132;go_wp2;go_loopw[5,10] (λv i wr=>∃j:Nat,i= .int .i64 (j:Int)/\j<=zs.length/\Hid (q0i wr w.heap.size v (F j))/\Below w.heap.size w wr) (λ_ i _=>zs.length - (intOf i).toNat)
 case atStart=>exact⟨0,rfl,Nat.zero_le _,by show q0i _ _ _ _;rw[HF0.out];exact z0H _ _,bl0⟩
 case round=>
  obtain⟨j,rfl,hjl,HO,hb⟩:=hrel;by_cases hlt:j<zs.length
  ·obtain⟨gf,off,rfl,-,hcf⟩:=q0t HR.out hb j hlt;have hF1:=HF.out j hlt;have hL1:=HL.out j;generalize zs[j]=z at hF1 hcf;by_cases hz:z=n
   ·rw[if_neg (by simpa using hz),List.append_nil]at hF1;have O6:=HO.out;rw[<-hF1]at O6;have O5:Hid _:=O6;clear O6;clear hF1;subst hz;go_wp2;go_roundw
    case rel=>exact⟨j+1,by go_num,by omega,O5,hb⟩
    case measure=>simp[intOf];omega
   ·rw[if_pos (by simpa using hz)]at hF1;have HF1:Hid (F (j+1)=F j++[z]):=hF1;clear hF1;go_wp2_with (at_builtin;refine x0F rfl _ _ rfl w.heap.size _ (F j) rfl (v0Y _ HO.out) ⟨wr.heap.size,0,none⟩ [z] 1 1 rfl rfl ?hsrc ?hlen w (hb.alloc hb.size _) nl0 ?_)
    case hsrc=>exact j0X wr z
    case hlen=>rw[List.length_singleton];omega
    intro v4 w4 O4 B4;have O5:Hid (q0i w4 w.heap.size v4 (F (j+1))):=by show q0i _ _ _ _;rw[HF1.out];exact O4
    go_wp2;go_roundw
    case rel=>exact⟨j+1,by go_num,by omega,O5,B4⟩
    case measure=>simp[intOf];omega
  ·obtain rfl:j=zs.length:=by omega
   go_wp2;go_ret
   exact⟨_,rfl,HO.out,hb⟩
theorem u2R(w:World)(f:Option Addr)(c:Nat)(zs:List Int)(n:Int)(hr:RdI w f zs)(hl:zs.length<=16777215):
 Calls Tryz.prog 101 #[.slice f zs.length c,.int .i64 n] w λe w' =>∃x,e= .returned x/\q0i w' w.heap.size x (zs.filter (λz=>decide (z≠n)))/\Below w.heap.size w w' :=by
 have HR:Hid (RdI w f zs):=hr;have HF:Hid (∀j(h:j<zs.length),(zs.take (j+1)).filter (λz=>decide (z≠n))=(zs.take j).filter (λz=>decide (z≠n))++(if decide (zs[j]≠n)=true then [zs[j]]else [])):=λj h=>y1G _ zs j h
 have HL:Hid (∀j,((zs.take j).filter (λz=>decide (z≠n))).length<=j):=λj=>by
  have h1:=List.length_filter_le (λz=>decide (z≠n)) (zs.take j);rw[List.length_take]at h1;omega
 have HE:Hid ((zs.take zs.length).filter (λz=>decide (z≠n))=zs.filter (λz=>decide (z≠n))):=by show _=_;rw[List.take_length]
 obtain⟨F,hF⟩:∃F:Nat->List Int,∀j,(zs.take j).filter (λz=>decide (z≠n))=F j:=⟨λj=>(zs.take j).filter (λz=>decide (z≠n)),λ_=>rfl⟩;have HF0:Hid (F 0=[]):=by show _=_;rw[<-hF];simp
 simp only[hF]at HF HL HE;rw[<-HE.out];have B1:Below w.heap.size w (w.alloc (.cells #[] 3)):=bl1 _;have O1:Hid (q0i (w.alloc (.cells #[] 3)) w.heap.size (.slice (some ⟨w.heap.size,0,none⟩) 0 0) (F 0)):=by show q0i _ _ _ _;rw[HF0.out];exact j0C _ _ nl0
 clear hr hF;go_enter Tryz.func101,Tryz.ntmps101;go_wp2;go_loopw[5,6] (λv i wr=>∃j:Nat,i= .int .i64 (j:Int)/\j<=zs.length/\Hid (q0i wr w.heap.size v (F j))/\Below w.heap.size w wr) (λ_ i _=>zs.length - (intOf i).toNat)
 case atStart=>exact⟨0,rfl,Nat.zero_le _,O1,B1⟩
 case round=>
  obtain⟨j,rfl,hjl,HO,hb⟩:=hrel;by_cases hlt:j<zs.length
  ·obtain⟨gf,off,rfl,-,hcf⟩:=q0t HR.out hb j hlt;have hF1:=HF.out j hlt;have hL1:=HL.out j;generalize zs[j]=z at hF1 hcf;by_cases hz:z=n
   ·rw[if_neg (by simpa using hz),List.append_nil]at hF1;have O6:=HO.out;rw[<-hF1]at O6;have O5:Hid _:=O6;clear O6;clear hF1;subst hz;go_wp2;go_roundw
    case rel=>exact⟨j+1,by go_num,by omega,O5,hb⟩
    case measure=>simp[intOf];omega
   ·rw[if_pos (by simpa using hz)]at hF1;have HF1:Hid (F (j+1)=F j++[z]):=hF1;clear hF1;go_wp2_with (at_builtin;refine x0F rfl _ _ rfl w.heap.size _ (F j) rfl (v0Y _ HO.out) ⟨wr.heap.size,0,none⟩ [z] 1 1 rfl rfl ?hsrc ?hlen w (hb.alloc hb.size _) nl0 ?_)
    case hsrc=>exact j0X wr z
    case hlen=>rw[List.length_singleton];omega
    intro v4 w4 O4 B4;have O5:Hid (q0i w4 w.heap.size v4 (F (j+1))):=by show q0i _ _ _ _;rw[HF1.out];exact O4
    go_wp2;go_roundw
    case rel=>exact⟨j+1,by go_num,by omega,O5,B4⟩
    case measure=>simp[intOf];omega
  ·obtain rfl:j=zs.length:=by omega
   go_wp2;go_ret
   exact⟨_,rfl,HO.out,hb⟩
theorem x2N(w:World):Calls Tryz.prog 69 #[] w λe w' =>∃a c,e= .returned (.slice a 3 c)/\q0i w' w.heap.size (.slice a 3 c) [-1,-1,-1]/\Below w.heap.size w w' :=by
 have O1:q0i (w.alloc (.cells #[] 3)) w.heap.size (.slice (some ⟨w.heap.size,0,none⟩) 0 0) []:=j0C _ _ nl0;have B1:Below w.heap.size w (w.alloc (.cells #[] 3)):=bl1 _;go_enter Tryz.func69,Tryz.ntmps69;go_wp2;go_loopw[1,2] (λv i wr=>∃(j:Nat),j<=3/\i= .int .i64 j/\q0i wr w.heap.size v (List.replicate j (-1))/\Below w.heap.size w wr) (λ_ i _=>3 - (intOf i).toNat)
 case atStart=>exact⟨0,by omega,rfl,O1,B1⟩
 case round=>
  obtain⟨j,hj,rfl,hown,hb⟩:=hrel;by_cases hlt:j<3
  ·go_wp2_with (at_builtin;refine x0F rfl _ _ rfl w.heap.size _ (List.replicate j (-1)) rfl (v0Y _ hown) ⟨wr.heap.size,0,none⟩ [-1] 1 1 rfl rfl ?hsrc ?hlen w (hb.alloc hb.size _) nl0 ?_)
   case hsrc=>exact j0X wr (-1)
   case hlen=>rw[List.length_singleton,List.length_replicate];omega
   ·intro v4 w4 O4 B4;have O5:q0i w4 w.heap.size v4 (List.replicate (j+1) (-1)):=by rw[List.replicate_succ'];exact O4
    go_wp2;go_roundw
    case rel=>exact⟨j+1,by omega,by go_num,O5,B4⟩
    case measure=>simp[intOf];omega
  ·obtain rfl:j=3:=by omega
   obtain⟨a,c,hv,-⟩:=y0Q hown;rw[show(List.replicate 3 (-1:Int)).length=3 from rfl]at hv;subst hv;go_wp2;go_ret
   exact⟨a,c,rfl,hown,hb⟩
theorem j2T(w:World)(vb:Value)(g p:Nat)(id:Int)(hc:w.cell? ⟨g,p+7,none⟩=some (.bool true)):
 Calls Tryz.prog 130 #[vb,.pointer (some ⟨g,p,none⟩),.int .i64 id] w λe w' =>e= .returned vb/\w' =w:=by
 go_enter Tryz.func130,Tryz.ntmps130;go_wp2;go_ret
 exact⟨rfl,rfl⟩
theorem v2Z(w:World)(B:Nat)(vb:Value)(g p:Nat)(id:Int)(Z:List Int)(hc:w.cell? ⟨g,p+7,none⟩=some (.bool false))(hz:w.frozen? ⟨g,p+7,none⟩=false)(ho:q0i w B vb Z)(hg:vb.ownBlock≠some g)(hl:Z.length<=16777215)(hB:B<=w.heap.size):
 Calls Tryz.prog 130 #[vb,.pointer (some ⟨g,p,none⟩),.int .i64 id] w λe w' =>∃v',e= .returned v' /\q0i w' B v' (Z++[id])/\w.heap.size<=w'.heap.size/\(∀i,i<w.heap.size->vb.ownBlock≠some i->w'.heap[i]? =(w.setCell ⟨g,p+7,none⟩ (.bool true)).heap[i]?)/\(v'.ownBlock=vb.ownBlock\/∃g',v'.ownBlock=some g' /\w.heap.size<=g')/\(∀C w0,Below C w0 (w.setCell ⟨g,p+7,none⟩ (.bool true))->C<=B->Below C w0 w'):=by
 obtain⟨X,hX⟩:∃X,X=(w.setCell ⟨g,p+7,none⟩ (.bool true)).alloc (.cells #[.int .i64 id] 3):=⟨_,rfl⟩;have hXs:X.heap.size=w.heap.size+1:=by rw[hX];simp[World.setCell]
 have hS:(w.setCell ⟨g,p+7,none⟩ (.bool true)).heap.size=w.heap.size:=by simp[World.setCell]
 have HO:Hid (q0i X B vb Z):=by show q0i _ _ _ _;rw[hX];exact v0Y _ (q0v ho (λi hi=>heap_setCell_other _ _ _ _ (by exactλe=>hg (by rw[hi,e]))))
 have HC:Hid (X.cell? ⟨w.heap.size,0,none⟩=some (.int .i64 id)):=by show _=_;rw[hX,<-hS,World.cell?_alloc_mark];rfl
 have HX:Hid (∀i,i<w.heap.size->X.heap[i]? =(w.setCell ⟨g,p+7,none⟩ (.bool true)).heap[i]?):=λi hi=>by rw[hX];exact heap_alloc_old _ _ (by rw[hS];exact hi)
 have HXB:Hid (∀C w0,Below C w0 (w.setCell ⟨g,p+7,none⟩ (.bool true))->C<=B->Below C w0 X):=λC w0 h hC=>by rw[hX];exact h.alloc (by rw[hS];omega) _
 clear ho;go_enter Tryz.func130,Tryz.ntmps130;go_wp2_with (at_builtin;rw[<-hX];clear hX;refine x0T rfl _ _ rfl B vb Z rfl HO.out ⟨w.heap.size,0,none⟩ id rfl HC.out hl (by omega) ?_)
 intro v' w' h1 h2 h3 h4 h5;have hsz:w.heap.size<=w'.heap.size:=by omega
 have HA:Hid (∀i,i<w.heap.size->vb.ownBlock≠some i->w'.heap[i]? =(w.setCell ⟨g,p+7,none⟩ (.bool true)).heap[i]?):=λi hi hne=>(h3.out i (by omega) hne).trans (HX.out i hi)
 have HBB:Hid (v'.ownBlock=vb.ownBlock\/∃g',v'.ownBlock=some g' /\w.heap.size<=g'):=by
  rcases h4.out with e|e
  ·exact .inl e
  ·exact .inr ⟨_,e,by omega⟩
 have HD:Hid (∀C w0,Below C w0 (w.setCell ⟨g,p+7,none⟩ (.bool true))->C<=B->Below C w0 w'):=λC w0 h hC=>h5.out C w0 (HXB.out C w0 h hC) hC;clear h2 hXs hS;go_wp2;go_ret
 exact⟨_,rfl,h1,hsz,HA.out,HBB.out,HD.out⟩
end
section
def x0J:Value->Nat
 | .slice _ n _=>n
 |_=>0
end
section
open Go.RowKit
variable{a:Act}{Q:Exit → Act → World → Prop}{H:q0a}
theorem v3Z{P:Program}{w:World}{c body:Code}(l:Nat)(J:Act->World->Prop)(μ:Act->World->Nat)(hf:findLabel c l=some (Code.skip.seq body))(pass:∀a w,J a w->body.wp P (Exit.jump l (λa' w' =>J a' w' /\μ a' w' <μ a w) Q) a w)(first:(∀a w,J a w->body.wp P (Exit.jump l J Q) a w)->c.wp P (Exit.jump l J Q) a w):(Code.scope c).wp P Q a w:=by
 refine wp_scope_jumps l J μ hf (first (λa w h=>Code.wp_mono (λe a' w' hq=> ?_) (pass a w h))) (λa w h=>wp_seq (wp_skip (pass a w h)))
 cases e<;>first|exact hq|exact⟨hq.1,hq.2.1⟩
def muV(a:Act):Nat:=x0J (a.tmps.getD 7 undef)+(9 - x0J (a.tmps.getD 8 undef))*1048577
def z0F(H:q0a)(ids:List Int):q0a×List Int:=u0n (muL ids []) H ids []
theorem u1U{ids:List Int}(hs:q0h H)(hw:∀z∈H.objs,∀x∈z.field,q0w x)(hl:ids.length<=1048576)(hi:∀x∈ids,q0w x):ToR (z0F H ids) H ids []:=
 ⟨⟨hs.objs,hs.fields,hw,hi,by simp,by have:=hs.buffer;unfold muL;simp;omega,hs.weaks,hs.sites⟩,_,Nat.le_refl _,rfl⟩
def JL(W:World)(B:Nat)(R:q0a×List Int)(v0 v1:Value)(P r:Nat)(a:Act)(X:World):Prop:=∃gx s H vq vf todo fr,LS W X B gx s H vq vf todo fr/\ToR R H todo fr/\∃u9 u10 u11 u12 u13 u14 u15 u16 u17 u18 u19 u20 u21 u22 u23 u24 u25 u26 u27 u28 u29 u30 u31 u32 u33 u34 u35 u36 u37 u38 u39 u40 u41 u42 u43 u44 u45 u46 u47 u48 u49 u50 u51 u52 u53 u54 u55 u56 u57 u58 u59 u60 u61 u62 u63 u64 u65 u66 u67 u68 u69 u70 u71 u72 u73 u74:Value,a=⟨#[v0,v1,.pointer (some ⟨P,0,none⟩),undef,.pointer (some ⟨r,0,none⟩),.slice none 0 0,.pointer (some ⟨gx,0,none⟩),vq,vf,u9,u10,u11,u12,u13,u14,u15,u16,u17,u18,u19,u20,u21,u22,u23,u24,u25,u26,u27,u28,u29,u30,u31,u32,u33,u34,u35,u36,u37,u38,u39,u40,u41,u42,u43,u44,u45,u46,u47,u48,u49,u50,u51,u52,u53,u54,u55,u56,u57,u58,u59,u60,u61,u62,u63,u64,u65,u66,u67,u68,u69,u70,u71,u72,u73,u74],[]⟩
theorem v2E(v:Value)(H:q0a)(ia:Option Addr)(ic:Nat)(ids:List Int)(w:World)(h:RdH w v H)(hs:q0h H)(hw:∀z∈H.objs,∀x∈z.field,q0w x)(hri:RdI w ia ids)(hil:ids.length<=1048576)(hiw:∀x∈ids,q0w x):
 Calls Tryz.prog 123 #[v,.slice ia ids.length ic] w λe w' =>∃(s:HSh)(vf:Value),e= .returned (.tuple #[s.v,vf])/\HM w' w.heap.size s (z0F H ids).1/\q0i w' w.heap.size vf (z0F H ids).2/\(∀g,vf.ownBlock=some g->¬q0u s g)/\Below w.heap.size w w' :=by
 have HR:Hid (∀X,Below w.heap.size w X->RdH X v H):=λX hX=>q0s h hX;have HRI:Hid (∀X,Below w.heap.size w X->v0q X ia ids.length 1 (ids.map z0C)):=λX hX=>(u1s hri).later hX;have HTR:Hid (ToR (z0F H ids) H ids []):=u1U hs hw hil hiw;obtain⟨ao,co,aw,cw,ab,cb,sa,sc,rfl,-⟩:=h;obtain⟨W,hW⟩:∃W,W=(w.alloc (.cells #[.slice ao H.objs.length co,.slice aw H.weaks.length cw,.slice ab H.buffer.length cb,.slice sa H.sites.length sc] 35)).alloc (.cells #[.slice none 0 0,.slice none 0 0,.slice none 0 0,.slice none 0 0] 35):=⟨_,rfl⟩;have BW:Below w.heap.size w W:=by rw[hW];exact(bl1 _).alloc (by simp) _
 have hWs:W.heap.size=w.heap.size+2:=by rw[hW];simp
 have FR:q0d W (w.heap.size+1) (.slice none 0 0) (.slice none 0 0) (.slice none 0 0) (.slice none 0 0):=by rw[hW];have f1:=q0d.new (w.alloc (.cells #[.slice ao H.objs.length co,.slice aw H.weaks.length cw,.slice ab H.buffer.length cb,.slice sa H.sites.length sc] 35)) (.slice none 0 0) (.slice none 0 0) (.slice none 0 0) (.slice none 0 0);simpa using f1
 have HFR:Hid (q0d W (w.heap.size+1) (.slice none 0 0) (.slice none 0 0) (.slice none 0 0) (.slice none 0 0)):=FR;have HBW:Hid (Below w.heap.size w W):=BW;have CC:Hid (∀_:Unit,_):=λ(_:Unit)=>v0O _ H W (HR.out W BW) hs;generalize z0F H ids=R at HTR ⊢;clear FR BW HR hs hw hri hiw;go_enter Tryz.func123,Tryz.ntmps123;go_wp2;refine v3Z 0 (JL W W.heap.size R (.agg #[.slice ao H.objs.length co,.slice aw H.weaks.length cw,.slice ab H.buffer.length cb,.slice sa H.sites.length sc]) (.slice ia ids.length ic) w.heap.size (w.heap.size+1)) (λa _=>muV a) rfl ?pass ?first
 case first=>
  intro hp;have HP:Hid _:=hp;clear hp;go_wp2_with fail
  rw[<-hW];clear hW;refine(CC.out ()).mono ?_;rintro e w1 ⟨s,rfl,M1,b1⟩;have HM1:Hid (HM w1 W.heap.size s H):=M1;have HB1:Hid (Below W.heap.size W w1):=b1;have hs1:=b1.size;clear CC M1 b1;obtain⟨V,hV⟩:∃V,V=w1.alloc (.cells #[.slice s.oa s.os.length s.oc,.slice s.wa s.wn s.wc,.slice s.ba s.bn s.bc,.slice s.sa s.sn s.sc] 35):=⟨_,rfl⟩;have BV:Below w1.heap.size w1 V:=by rw[hV];exact bl1 _
  have hVs:V.heap.size=w1.heap.size+1:=by rw[hV];simp
  have HXV:Hid (q0d V w1.heap.size (.slice s.oa s.os.length s.oc) (.slice s.wa s.wn s.wc) (.slice s.ba s.bn s.bc) (.slice s.sa s.sn s.sc)):=by rw[hV];exact q0d.new w1 _ _ _ _
  have HMV:Hid (HM V W.heap.size s H):=q0c HM1.out BV;have HBV:Hid (Below W.heap.size W V):=HB1.out.trans (BV.mono HB1.out.size);have CL:Hid (∀_:Unit,_):=λ(_:Unit)=>v1D V ia ids.length ic _ (HRI.out V (HBW.out.trans (HBV.out.mono HBW.out.size))) (by omega);rw[show s.v= .agg #[.slice s.oa s.os.length s.oc,.slice s.wa s.wn s.wc,.slice s.ba s.bn s.bc,.slice s.sa s.sn s.sc]from rfl];clear BV;go_wp2_with fail
  rw[<-hV];clear hV;refine(CL.out ()).mono ?_;rintro e w2 ⟨x,rfl,r2,b2⟩
  have HLS:Hid (LS W w2 W.heap.size w1.heap.size s H x (.slice none 0 0) ids []):=by have hbl:∀g,q0u s g->g<w1.heap.size:=λg hg=>(z0X HM1.out hg).2;refine⟨HBV.out.trans (b2.mono HBV.out.size),Nat.le_refl _,q0c HMV.out b2,HXV.out.later b2,hs1,λhh=>Nat.lt_irrefl _ (hbl _ hh),z2t (q0A r2 HBV.out.size),z0H _ _,λg hg hh=> ?_,λg hg=>(by cases hg),λg _ hg=>(by cases hg)⟩;have h1:=(World.ownsRow.lt r2 g hg).1;have h2:=hbl g hh;omega
  clear HXV HMV HBV CL r2 b2;go_wp2;go_step3
  rename_i hk
  exact hk _ _ (HP.out _ _ ⟨w1.heap.size,s,H,x,.slice none 0 0,ids,[],HLS.out,HTR.out,_,_,_,_,_,_,_,_,_,_,_,_,_,_,_,_,_,_,_,_,_,_,_,_,_,_,_,_,_,_,_,_,_,_,_,_,_,_,_,_,_,_,_,_,_,_,_,_,_,_,_,_,_,_,_,_,_,_,_,_,_,_,_,_,_,_,rfl⟩)
 case pass=>
  clear HTR CC HRI hW hil;rintro a X ⟨gx,s,HH,vq,vf,todo,fr,hls,htr,u9,u10,u11,u12,u13,u14,u15,u16,u17,u18,u19,u20,u21,u22,u23,u24,u25,u26,u27,u28,u29,u30,u31,u32,u33,u34,u35,u36,u37,u38,u39,u40,u41,u42,u43,u44,u45,u46,u47,u48,u49,u50,u51,u52,u53,u54,u55,u56,u57,u58,u59,u60,u61,u62,u63,u64,u65,u66,u67,u68,u69,u70,u71,u72,u73,u74,rfl⟩;have HLS:Hid (LS W X W.heap.size gx s HH vq vf todo fr):=hls;have HTR:Hid (ToR R HH todo fr):=htr;obtain⟨qa,qc,rfl,-⟩:=z1W hls.q;obtain⟨fa,fc,rfl,-⟩:=z0e hls.f;have hfl:=htr.ok.frl;have hbX:=hls.bel.size;clear hls htr
  cases todo with
  |nil=>
   have XF:=HLS.out.x;have RF:q0d X (w.heap.size+1) (.slice none 0 0) (.slice none 0 0) (.slice none 0 0) (.slice none 0 0):=(HLS.out.bel.block (w.heap.size+1) (by omega)).trans HFR.out;have q0:=XF.cell 0;have q1:=XF.cell 1;have q2:=XF.cell 2;have q3:=XF.cell 3;have r0:=RF.cell 0;have r1:=RF.cell 1;have r2:=RF.cell 2;have r3:=RF.cell 3;have z0:=RF.frozen 0;have z1:=RF.frozen 1;have z2:=RF.frozen 2;have z3:=RF.frozen 3;simp only[List.getElem?_toArray,List.getElem?_cons_zero,List.getElem?_cons_succ]at q0 q1 q2 q3 r0 r1 r2 r3;have HE:Hid (R=(HH,fr)):=v2n HTR.out (.inl rfl);have HBl:Hid (Below w.heap.size w X):=HBW.out.trans (HLS.out.bel.mono HBW.out.size);clear XF RF;go_wp2;simp only[Exit.jump];refine bodyPost_ret (v:= .tuple #[.agg #[.slice s.oa s.os.length s.oc,.slice s.wa s.wn s.wc,.slice s.ba s.bn s.bc,.slice s.sa s.sn s.sc],.slice fa fr.length fc]) (by simp[results,Tryz.results123,go_sem, *]) rfl ⟨s,.slice fa fr.length fc,rfl,?_,?_,HLS.out.sf,?_⟩
   ·rw[HE.out];refine z0G (v0V HLS.out.m ?_) (by omega);refine(((q0G _ _ ⟨w.heap.size+1,0,none⟩ _ (by simp only;omega)).trans (q0G _ _ ⟨w.heap.size+1,1,none⟩ _ (by simp only;omega))).trans (q0G _ _ ⟨w.heap.size+1,2,none⟩ _ (by simp only;omega))).trans (q0G _ _ ⟨w.heap.size+1,3,none⟩ _ (by simp only;omega))
   ·rw[HE.out];exact q0A (q0v (w' :=q0p X (w.heap.size+1) _ _ _ _) HLS.out.f (λg hg=>q0T _ _ _ _ _ _ g (by have:=(q0n HLS.out.f g hg).1;omega))) (by omega)
   ·iterate 4 refine Below.setCell ?_ (by simp only;omega) _
    exact HBl.out
  |cons id rest=>
  by_cases hf8:8<fr.length
  ·obtain⟨m,hm⟩:∃m,rest.length=m:=⟨_,rfl⟩;rw[List.length_cons,hm];have XF:=HLS.out.x;have RF:q0d X (w.heap.size+1) (.slice none 0 0) (.slice none 0 0) (.slice none 0 0) (.slice none 0 0):=(HLS.out.bel.block (w.heap.size+1) (by omega)).trans HFR.out;have q0:=XF.cell 0;have q1:=XF.cell 1;have q2:=XF.cell 2;have q3:=XF.cell 3;have r0:=RF.cell 0;have r1:=RF.cell 1;have r2:=RF.cell 2;have r3:=RF.cell 3;have z0:=RF.frozen 0;have z1:=RF.frozen 1;have z2:=RF.frozen 2;have z3:=RF.frozen 3;simp only[List.getElem?_toArray,List.getElem?_cons_zero,List.getElem?_cons_succ]at q0 q1 q2 q3 r0 r1 r2 r3;have HE:Hid (R=(HH,fr)):=v2n HTR.out (.inr hf8);have HBl:Hid (Below w.heap.size w X):=HBW.out.trans (HLS.out.bel.mono HBW.out.size);clear XF RF;go_wp2;simp only[Exit.jump];refine bodyPost_ret (v:= .tuple #[.agg #[.slice s.oa s.os.length s.oc,.slice s.wa s.wn s.wc,.slice s.ba s.bn s.bc,.slice s.sa s.sn s.sc],.slice fa fr.length fc]) (by simp[results,Tryz.results123,go_sem, *]) rfl ⟨s,.slice fa fr.length fc,rfl,?_,?_,HLS.out.sf,?_⟩
   ·rw[HE.out];refine z0G (v0V HLS.out.m ?_) (by omega);refine(((q0G _ _ ⟨w.heap.size+1,0,none⟩ _ (by simp only;omega)).trans (q0G _ _ ⟨w.heap.size+1,1,none⟩ _ (by simp only;omega))).trans (q0G _ _ ⟨w.heap.size+1,2,none⟩ _ (by simp only;omega))).trans (q0G _ _ ⟨w.heap.size+1,3,none⟩ _ (by simp only;omega))
   ·rw[HE.out];exact q0A (q0v (w' :=q0p X (w.heap.size+1) _ _ _ _) HLS.out.f (λg hg=>q0T _ _ _ _ _ _ g (by have:=(q0n HLS.out.f g hg).1;omega))) (by omega)
   ·iterate 4 refine Below.setCell ?_ (by simp only;omega) _
    exact HBl.out
  ·have HST:Hid (ToR R (y0o HH id rest fr).1 (y0o HH id rest fr).2.1 (y0o HH id rest fr).2.2):=y3v HTR.out (by omega);have hidw:q0w id:=HTR.out.ok.ids id (by simp);have hol:=HTR.out.ok.objs;have HOKF:Hid (∀z∈HH.objs,z.field.length<=1048576):=HTR.out.ok.fields;have HBUF:Hid (HH.buffer.length+muL (id::rest) fr<=11534345):=HTR.out.ok.buf;obtain⟨g,off,c,hv,hcell,hrc,hcb,hpos,hzero⟩:=q3Q HLS.out.q;simp only[List.length_cons,Value.slice.injEq,true_and]at hv;obtain⟨rfl,rfl⟩:=hv;have HPOP:Hid (∀v',u0g X W.heap.size v' rest->v'.ownBlock=some g->LS W X W.heap.size gx s HH v' (.slice fa fr.length fc) rest fr):=λv' h1 h2=>x4R HLS.out v' rest h1 (by rw[h2];rfl);have HPOS:Hid (0<c->u0g X W.heap.size (.slice (some ⟨g,off+1,none⟩) rest.length c) rest):=hpos;have HZERO:Hid (c=0->u0g X W.heap.size (.slice (some ⟨g,off,none⟩) rest.length c) rest):=hzero;have XF:=HLS.out.x;have HXF:Hid (∀Y:q0b X,q0d Y.on gx (.slice s.oa s.os.length s.oc) (.slice s.wa s.wn s.wc) (.slice s.ba s.bn s.bc) (.slice s.sa s.sn s.sc)):=λY=>XF.later Y.bel;have hne:=q0b.some_ X;have y0:∀Y:q0b X,Y.on.cell? ⟨gx,0,none⟩=some (.slice s.oa s.os.length s.oc):=λY=>(HXF.out Y).cell 0;have y1:∀Y:q0b X,Y.on.cell? ⟨gx,1,none⟩=some (.slice s.wa s.wn s.wc):=λY=>(HXF.out Y).cell 1;have y2:∀Y:q0b X,Y.on.cell? ⟨gx,2,none⟩=some (.slice s.ba s.bn s.bc):=λY=>(HXF.out Y).cell 2;have y3:∀Y:q0b X,Y.on.cell? ⟨gx,3,none⟩=some (.slice s.sa s.sn s.sc):=λY=>(HXF.out Y).cell 3;have CS:Hid (∀Y:q0b X,_):=λY=>z0m s.v HH id Y.on (q0K (q0c HLS.out.m Y.bel)) hol hidw.1 hidw.2;have CN:Hid (∀Y:q0b X,∀z,u0k HH z->_):=λY z hz=>v0R s.v HH z Y.on (q0K (q0c HLS.out.m Y.bel)) hol hz;rw[show s.v= .agg #[.slice s.oa s.os.length s.oc,.slice s.wa s.wn s.wc,.slice s.ba s.bn s.bc,.slice s.sa s.sn s.sc]from rfl]at CS CN;have HML:Hid (HM X W.heap.size s HH):=HLS.out.m;have HMU:Hid (muL (id::rest) fr=rest.length+1+(9 - fr.length)*1048577):=by show _=_;unfold muL;rw[List.length_cons]
   obtain⟨m,hm⟩:∃m,rest.length=m:=⟨_,rfl⟩;have Hm:Hid (rest.length=m):=hm;rw[List.length_cons,hm];rw[hm]at HPOS HZERO hrc;clear hm hpos hzero XF HTR HLS;have hb1:((m:Int)+1==0)=false:=by rw[beq_eq_false_iff_ne];omega
   have hb2:decide ((8:Int)<(fr.length:Int))=false:=decide_eq_false (by omega);by_cases hc0:c=0
   ·subst hc0;obtain rfl:m=0:=by omega
    have HQ1:Hid (u0g X W.heap.size (.slice (some ⟨g,off,none⟩) 0 0) rest):=HZERO.out rfl;clear HZERO HPOS;go_wp2;obtain⟨vq2,hvq⟩:∃v,v=Value.slice (some ⟨g,off,none⟩) 0 0:=⟨_,rfl⟩;have HL2:Hid (LS W X W.heap.size gx s HH vq2 (.slice fa fr.length fc) rest fr):=by rw[hvq];exact HPOP.out _ HQ1.out rfl
    have HLQ:Hid (x0J vq2=0):=by rw[hvq];rfl
    rw[<-hvq];clear hvq HPOP HQ1 hcell hb1 hb2;by_cases hk:0<=q0l HH id
    ·obtain⟨k,hkl,ek,hk8,hlv,-⟩:=j0w HH id hk;obtain⟨go,hgo,hgB,hgl⟩:=v0E HML.out k hkl;obtain⟨hk2,hob,hfz⟩:=z0o HML.out k hkl go hgo;have hgg:go≠gx:=λe=>HL2.out.sx (by rw[<-e];exact .inl ⟨_,hgo,rfl⟩);have hgg1:¬go=gx:=hgg;have hgg2:¬gx=go:=λe=>hgg e.symm;rw[ek,hgo]at CS;rw[hgo]at y0;have CL:Hid (∀Y:q0b X,_):=λY=>q1c k s.os.length s.oc Y.on go s.wa s.wn s.wc s.ba s.bn s.bc s.sa s.sn s.sc ((Y.bel.cell (p:=⟨go,k*8,none⟩) hgl).trans (hob.c0.trans (by rw[hlv]))) (by rw[HML.out.lo];exact hol) hk8 hk2;have HGO:Hid (s.oa=some ⟨go,0,none⟩):=hgo;have HSA:Hid (y0o HH id rest fr=_):=v2k (rest:=rest) (fr:=fr) hkl ek;obtain⟨o,ho⟩:∃o,HH.objs[k]=o:=⟨_,rfl⟩;rw[ho]at HSA;have HOO:Hid (HH.objs[k]=o):=ho;have hofl:o.field.length<=1048576:=by rw[<-ho];exact HOKF.out _ (List.getElem_mem hkl)
     obtain⟨M,hM⟩:∃M,wrap64 (o.count - 1)=M:=⟨_,rfl⟩;rw[hM]at HSA;clear hgo hob hfz hlv ho CN hk ek HML;refine q0j X bl0 (by kernel_rfl) (by kernel_rfl) ?_
     repeat (go_big_quiet_step (first
      |(go_at_call 111;refine(CS.out _).mono ?_;rintro e w2 ⟨rfl,b2⟩;exact⟨rfl,q0b.step _ b2⟩)
      |(go_at_call 110;refine(CL.out _).mono ?_;rintro e w2 ⟨rfl,b2⟩;exact⟨rfl,q0b.step _ b2⟩)))
     refine wpQuiet_nil ?_;intro Y hYe;have hY:Below X.heap.size X Y:=by obtain⟨n,hn⟩:=hYe;rw[hn];exact n.bel
     clear hYe y0 y1 y2 y3 hne CS CL HXF;have HLY:Hid (LS W Y W.heap.size gx s HH vq2 (.slice fa fr.length fc) rest fr):=q0y HL2.out hY;obtain⟨hkY,obY,fzY⟩:=z0o HLY.out.m k hkl go HGO.out;have k5:=obY.c5;rw[HOO.out]at k5;have z5:=fzY 5 (by omega)
     have HL1:Hid (LS W (Y.setCell ⟨go,k*8+5,none⟩ (.int .i64 M)) W.heap.size gx s (q0r HH k {o with count:=M}) vq2 (.slice fa fr.length fc) rest fr):=by have h1:=z1h HLY.out.m k hkl go HGO.out M;rw[HOO.out]at h1;exact j0i HLY.out go _ _ HGO.out h1
     have g2:=HLY.out.x.cell 2;simp only[List.getElem?_toArray,List.getElem?_cons_zero,List.getElem?_cons_succ]at g2;have hkl1:k<(q0r HH k {o with count:=M}).objs.length:=by simpa[q0r]using hkl
     have HO1:Hid ((q0r HH k {o with count:=M}).objs[k]={o with count:=M}):=by show _=_;simp[q0r]
     obtain⟨Y1,hY1⟩:∃Y1,Y1=Y.setCell ⟨go,k*8+5,none⟩ (.int .i64 M):=⟨_,rfl⟩;have hYl:=HLY.out.le;have hY1s:Y1.heap.size=Y.heap.size:=by rw[hY1];simp[World.setCell]
     rw[<-hY1]at HL1;clear obY fzY HL2 HLY hY hkY;by_cases hM0:0<M
     ·obtain⟨hkZ,ob1,fz1⟩:=z0o HL1.out.m k hkl1 go HGO.out;have k7:=ob1.c7;rw[HO1.out]at k7;have HK7:Hid (Y1.cell? ⟨go,k*8+7,none⟩=some (.bool o.purple)):=k7;have HZ7:Hid (Y1.frozen? ⟨go,k*8+7,none⟩=false):=fz1 7 (by omega);clear k7 ob1 fz1 hkZ;by_cases hp:o.purple=true
      ·have HST2:Hid (ToR R (q0r HH k {o with count:=M}) rest fr):=by
        have h:=HST.out;rw[HSA.out,if_pos hM0,if_pos hp]at h;exact h
       have HX1:Hid (Y1.cell? ⟨gx,2,none⟩=some (.slice s.ba s.bn s.bc)/\Y1.frozen? ⟨gx,2,none⟩=false):=⟨HL1.out.x.cell 2,HL1.out.x.frozen 2⟩;go_wp2_with fail
       rw[<-hY1];clear hY1 k5 z5 g2;refine(j2T Y1 _ go (k*8) id (by rw[HK7.out,hp])).mono ?_;rintro e w2 ⟨rfl,hw2⟩;subst hw2;obtain⟨x2,f2⟩:=HX1.out;go_wp2;go_step3;refine⟨rfl,⟨gx,_,_,vq2,.slice fa fr.length fc,rest,fr,x1O HL1.out HL1.out.bel nl0 (λ_ _ _=>rfl) s.ba s.bn s.bc HH.buffer HL1.out.m.lb HL1.out.m.b (λg hg=> .inl hg),HST2.out,_,_,_,_,_,_,_,_,_,_,_,_,_,_,_,_,_,_,_,_,_,_,_,_,_,_,_,_,_,_,_,_,_,_,_,_,_,_,_,_,_,_,_,_,_,_,_,_,_,_,_,_,_,_,_,_,_,_,_,_,_,_,_,_,_,_,rfl⟩,?_⟩;show x0J vq2+(9 - x0J (.slice fa fr.length fc))*1048577<(0+1)+(9 - fr.length)*1048577;rw[HLQ.out];simp only[x0J];omega
      ·have hpf:o.purple=false:=by simpa using hp
       have HST2:Hid (ToR R {q0r HH k {o with count:=M,purple:=true}with buffer:=HH.buffer++[id]} rest fr):=by have h:=HST.out;rw[HSA.out,if_pos hM0,if_neg hp]at h;exact h
       have HLP:Hid (LS W (Y1.setCell ⟨go,k*8+7,none⟩ (.bool true)) W.heap.size gx s (q0r HH k {o with count:=M,purple:=true}) vq2 (.slice fa fr.length fc) rest fr):=by
        have h1:=y1U HL1.out.m k hkl1 go HGO.out true;rw[HO1.out]at h1;have h2:=j0i HL1.out go _ _ HGO.out h1;have e:({q0r HH k {o with count:=M}with objs:=(q0r HH k {o with count:=M}).objs.set k {o with count:=M,purple:=true}}:q0a)=q0r HH k {o with count:=M,purple:=true}:=by simp[q0r]
        rw[e]at h2;exact h2
       have hb9:HH.buffer.length<=16777215:=by have:=HBUF.out;omega
       have HSU:Hid (∀_:Unit,_):=λ(_:Unit)=>v2Z Y1 W.heap.size (.slice s.ba s.bn s.bc) go (k*8) id HH.buffer (by rw[HK7.out,hpf]) HZ7.out HL1.out.m.b (λe=>by
        obtain⟨x,hx,e2⟩:=z0L e;exact HL1.out.m.sep.ob _ x HGO.out hx e2.symm) hb9 (by omega)
       go_wp2_with fail
       rw[<-hY1];clear hY1 k5 z5 g2;refine(HSU.out ()).mono ?_;rintro e w2 ⟨v2,rfl,o2,s2,a2,l2,c2⟩;obtain⟨ba2,bc2,hv2,-⟩:=z0e o2;obtain⟨nb,hnb⟩:∃nb,(HH.buffer++[id]).length=nb:=⟨_,rfl⟩;rw[hnb]at hv2;subst hv2;have HNB:Hid ((HH.buffer++[id]).length=nb):=hnb;clear hnb
       have hx2:w2.heap[gx]? =(Y1.setCell ⟨go,k*8+7,none⟩ (.bool true)).heap[gx]?:=a2 gx HL1.out.x.lt (λe=>by
        obtain⟨x,hx,e2⟩:=z0L e;exact HL1.out.sx (by rw[<-e2];exact .inr (.inr (.inl ⟨x,hx,rfl⟩))))
       have X2:=HLP.out.x.same hx2;have x2:=X2.cell 2;have f2:=X2.frozen 2;simp only[List.getElem?_toArray,List.getElem?_cons_zero,List.getElem?_cons_succ]at x2
       have HLN:Hid (LS W (w2.setCell ⟨gx,2,none⟩ (.slice ba2 nb bc2)) W.heap.size gx _ {q0r HH k {o with count:=M,purple:=true}with buffer:=HH.buffer++[id]} vq2 (.slice fa fr.length fc) rest fr):=
        x1O HLP.out (c2 _ _ HLP.out.bel nl0) (by simp only[World.setCell,Array.size_modify];exact s2) (λi hi hne=>a2 i (by simpa[World.setCell]using hi) hne) ba2 nb bc2 (HH.buffer++[id]) HNB.out.symm o2 (λg hg=>by
         rcases l2 with e|⟨g',e,h'⟩
         ·exact .inl (by rw[<-e];exact hg)
         ·rw[e]at hg;injection hg with hg;exact .inr (by simp only[World.setCell,Array.size_modify];omega))
       clear o2 s2 a2 l2 c2 X2 hx2;go_wp2;go_step3;refine⟨rfl,⟨gx,_,_,vq2,.slice fa fr.length fc,rest,fr,HLN.out,HST2.out,_,_,_,_,_,_,_,_,_,_,_,_,_,_,_,_,_,_,_,_,_,_,_,_,_,_,_,_,_,_,_,_,_,_,_,_,_,_,_,_,_,_,_,_,_,_,_,_,_,_,_,_,_,_,_,_,_,_,_,_,_,_,_,_,_,_,rfl⟩,?_⟩;show x0J vq2+(9 - x0J (.slice fa fr.length fc))*1048577<(0+1)+(9 - fr.length)*1048577;rw[HLQ.out];simp only[x0J];omega
     ·have HST2:Hid (ToR R {q0r HH k (q0J o.gen)with buffer:=HH.buffer.filter (λz=>decide (z≠id))} (rest++o.field.filter (λz=>decide (0<=z))) (fr++[id])):=by
       have h:=HST.out;rw[HSA.out,if_neg hM0]at h;exact h
      have hkb:s.bn=HH.buffer.length:=HL1.out.m.lb;have HKB:Hid (s.bn=HH.buffer.length):=hkb;have hb9:HH.buffer.length<=16777215:=by have:=HBUF.out;omega
      have hrl:rest.length<=11534345:=by have h1:=HBUF.out;have h2:=HMU.out;omega
      obtain⟨Y2,hY2⟩:∃Y2,Y2=Y1.alloc (.cells #[.int .i64 id] 3):=⟨_,rfl⟩;have BY2:Below Y1.heap.size Y1 Y2:=by rw[hY2];exact bl1 _
      have hY2s:Y2.heap.size=Y.heap.size+1:=by rw[hY2,<-hY1s];simp
      have HC2:Hid (Y2.cell? ⟨Y.heap.size,0,none⟩=some (.int .i64 id)):=by show _=_;rw[hY2,<-hY1s,World.cell?_alloc_mark];rfl
      have HLA:Hid (LS W Y2 W.heap.size gx s (q0r HH k {o with count:=M}) vq2 (.slice fa fr.length fc) rest fr):=q0y HL1.out BY2;clear BY2 hWs hY2s hY1s;go_wp2_with (at_builtin;rw[<-hY1,<-hY2];clear hY1 hY2;refine x0T rfl _ _ rfl W.heap.size (.slice fa fr.length fc) fr rfl HLA.out.f ⟨Y.heap.size,0,none⟩ id rfl HC2.out (by omega) HLA.out.le ?_)
      intro vf3 w3 o3 s3 a3 l3 c3;have HL3:Hid (LS W w3 W.heap.size gx s (q0r HH k {o with count:=M}) vq2 vf3 rest (fr++[id])):=v2d HLA.out (c3.out _ _ HLA.out.bel nl0) s3 a3.out vf3 (fr++[id]) o3 (by rcases l3.out with e|e;exact .inl e;exact .inr ⟨_,e,Nat.le_refl _⟩);obtain⟨fa3,fc3,hv3,-⟩:=z0e o3;obtain⟨nf,hnf⟩:∃nf,(fr++[id]).length=nf:=⟨_,rfl⟩;rw[hnf]at hv3;have HNF:Hid (nf=fr.length+1):=by show _=_;rw[<-hnf];simp
      subst hv3;clear o3 s3 a3 l3 c3 hnf k5 z5 g2 HLA HC2 HL1;obtain⟨hk3,ob3,fz3⟩:=z0o HL3.out.m k hkl1 go HGO.out;obtain⟨hn3,hown3⟩:=HL3.out.m.f k hkl1 hk3;have c6:=ob3.c6;rw[HO1.out]at hn3 hown3;simp only at hn3 hown3;rw[hn3]at c6 hown3
      obtain⟨fo,co6,hfo⟩:∃fo co6,Value.slice s.os[k].f o.field.length s.os[k].c= .slice fo o.field.length co6/\RdI w3 fo o.field:=by obtain⟨x1,x2,e1,e2⟩:=z0e hown3;exact⟨x1,x2,e1,e2⟩
      rw[hfo.1]at c6;have CLT:Hid (∀_:Unit,_):=λ(_:Unit)=>z2Z w3 go (k*8) fo co6 o.field c6 hfo.2 hofl;have hflt:(o.field.filter (λz=>decide (0<=z))).length<=1048576:=Nat.le_trans (List.length_filter_le _ _) hofl;clear hk3 ob3 fz3 hn3 hown3 c6 hfo;generalize hLd:o.field.filter (λz=>decide (0<=z))=Ld at CLT HST2 hflt;clear hLd;go_wp2_with fail
      refine(CLT.out ()).mono ?_;rintro e w4 ⟨x4,rfl,o4,b4⟩;have HL4:Hid (LS W w4 W.heap.size gx s (q0r HH k {o with count:=M}) vq2 (.slice fa3 nf fc3) rest (fr++[id])):=q0y HL3.out b4;obtain⟨xa4,xc4,rfl,hr4⟩:=z0e o4;have HR4:Hid (v0q w4 xa4 Ld.length 1 (Ld.map z0C)):=u1s hr4;clear CLT o4 b4 hr4 HL3;go_wp2_with (at_builtin;refine y1A rfl _ _ rfl W.heap.size vq2 rest rfl HL4.out.q xa4 Ld Ld.length xc4 rfl rfl HR4.out (by omega) HL4.out.le ?_)
      intro vq5 w5 o5 s5 a5 l5 c5;have HL5:Hid (LS W w5 W.heap.size gx s (q0r HH k {o with count:=M}) vq5 (.slice fa3 nf fc3) (rest++Ld) (fr++[id])):=u2x HL4.out (c5.out _ _ HL4.out.bel nl0) s5 a5.out vq5 (rest++Ld) o5 (by rcases l5.out with e|e;exact .inl e;exact .inr ⟨_,e,Nat.le_refl _⟩)
      have HQ5:Hid (x0J vq5=rest.length+Ld.length):=by obtain⟨x1,x2,e1,-⟩:=z1W o5;show _=_;rw[e1];show(rest++Ld).length=_;rw[List.length_append]
      clear o5 s5 a5 l5 c5 HL4 HR4;have CW:Hid (∀_:Unit,_):=λ(_:Unit)=>x2j w5 s.ba s.bc HH.buffer id (q1t HL5.out.m).2.2.1 hb9;rw[<-hkb]at CW;have X5:=HL5.out.x;have g5:=X5.cell 2;simp only[List.getElem?_toArray,List.getElem?_cons_zero,List.getElem?_cons_succ]at g5;generalize hBf:HH.buffer.filter (λz=>decide (z≠id))=Bf at CW HST2;clear hBf X5 hkb;go_wp2_with fail
      refine(CW.out ()).mono ?_;rintro e w6 ⟨x6,rfl,o6,b6⟩;obtain⟨ba6,bc6,rfl,-⟩:=z0e o6;have hs6:=b6.size
      have HL6:Hid (LS W (w6.setCell ⟨gx,2,none⟩ (.slice ba6 Bf.length bc6)) W.heap.size gx {s with ba:=ba6,bn:=Bf.length,bc:=bc6} {q0r HH k {o with count:=M}with buffer:=Bf} vq5 (.slice fa3 nf fc3) (rest++Ld) (fr++[id])):=
       x1O HL5.out (HL5.out.bel.trans (b6.mono HL5.out.le)) hs6 (λi hi _=>b6.block i hi) ba6 Bf.length bc6 Bf rfl (q0A o6 HL5.out.le) (λg hg=> .inr (q0n o6 g hg).1)
      have X6:q0d w6 gx (.slice s.oa s.os.length s.oc) (.slice s.wa s.wn s.wc) (.slice s.ba s.bn s.bc) (.slice s.sa s.sn s.sc):=HL5.out.x.later b6;have g6:=X6.cell 2;have f6:=X6.frozen 2;simp only[List.getElem?_toArray,List.getElem?_cons_zero,List.getElem?_cons_succ]at g6;have hkl6:k<({q0r HH k {o with count:=M}with buffer:=Bf}:q0a).objs.length:=hkl1;obtain⟨nB,hnB⟩:∃nB,Bf.length=nB:=⟨_,rfl⟩;rw[hnB]at HL6;have HNB6:Hid (Bf.length=nB):=hnB;rw[hnB];obtain⟨Y6,hY6⟩:∃Y6,Y6=w6.setCell ⟨gx,2,none⟩ (.slice ba6 nB bc6):=⟨_,rfl⟩;rw[<-hY6]at HL6;obtain⟨hk6,ob6,fz6⟩:=z0o HL6.out.m k hkl6 go HGO.out;have ob5:=(z0o (q0c HL5.out.m b6) k hkl1 go HGO.out).2.1;have k1:=ob5.c1;have HO6:Hid (({q0r HH k {o with count:=M}with buffer:=Bf}:q0a).objs[k]={o with count:=M}):=HO1.out;rw[HO1.out]at k1;simp only at k1;have HL6' :Hid (LS W Y6 W.heap.size gx {s with ba:=ba6,bn:=nB,bc:=bc6} {q0r HH k {o with count:=M}with buffer:=Bf} vq5 (.slice fa3 nf fc3) (rest++Ld) (fr++[id])):=HL6.out;clear o6 b6 CW X6 g5 HL5 hk6 ob6 fz6 ob5 hnB;go_wp2_with fail
      rw[<-hY6];clear hY6 g6 f6 k1;refine(j0z o.gen Y6).mono ?_;rintro e w7 ⟨f7,rfl,o7,b7⟩;obtain⟨a7,c7,hv7,-⟩:=z0e o7;rw[show([-1,-1,-1]:List Int).length=3 from rfl]at hv7;subst hv7;have HLE:Hid (LS W (z0r w7 go (k*8) (q0J o.gen) (.slice a7 3 c7)) W.heap.size gx _ (q0r {q0r HH k {o with count:=M}with buffer:=Bf} k (q0J o.gen)) vq5 (.slice fa3 nf fc3) (rest++Ld) (fr++[id])):=y1X HL6'.out b7 k hkl6 go HGO.out (q0J o.gen) a7 c7 o7;have HEQ:Hid (q0r {q0r HH k {o with count:=M}with buffer:=Bf} k (q0J o.gen)={q0r HH k (q0J o.gen)with buffer:=Bf}):=by show _=_;simp[q0r]
      rw[HEQ.out]at HLE;obtain⟨hk7,ob7,fz7⟩:=z0o (q0c HL6'.out.m b7) k hkl6 go HGO.out;obtain⟨v0,e0⟩:=q0H ob7 0 (by omega);obtain⟨v1,e1⟩:=q0H ob7 1 (by omega);obtain⟨v2,e2⟩:=q0H ob7 2 (by omega);obtain⟨v3,e3⟩:=q0H ob7 3 (by omega);obtain⟨v4,e4⟩:=q0H ob7 4 (by omega);obtain⟨v5,e5⟩:=q0H ob7 5 (by omega);obtain⟨v6,e6⟩:=q0H ob7 6 (by omega);obtain⟨v7,e7⟩:=q0H ob7 7 (by omega);have n0:=fz7 0 (by omega);have n1:=fz7 1 (by omega);have n2:=fz7 2 (by omega);have n3:=fz7 3 (by omega);have n4:=fz7 4 (by omega);have n5:=fz7 5 (by omega);have n6:=fz7 6 (by omega);have n7:=fz7 7 (by omega);rw[Nat.add_zero]at e0 n0;clear o7 b7 hk7 ob7 fz7 HL6 HL6';unfold y0J;go_wp2;go_step3;refine⟨rfl,⟨gx,_,_,vq5,.slice fa3 nf fc3,rest++Ld,fr++[id],HLE.out,HST2.out,_,_,_,_,_,_,_,_,_,_,_,_,_,_,_,_,_,_,_,_,_,_,_,_,_,_,_,_,_,_,_,_,_,_,_,_,_,_,_,_,_,_,_,_,_,_,_,_,_,_,_,_,_,_,_,_,_,_,_,_,_,_,_,_,_,_,rfl⟩,?_⟩;show x0J vq5+(9 - nf)*1048577<(0+1)+(9 - fr.length)*1048577;rw[HQ5.out,HNF.out,Hm.out];omega
    ·have HST2:Hid (ToR R HH rest fr):=by
      have h:=HST.out;rw[j1d (by omega)]at h;exact h
     have CL:Hid (∀Y:q0b X,_):=λY=>CN.out Y (q0l HH id) (.inl (by omega));generalize q0l HH id=z at CS CL;clear CN HML;refine q0j X bl0 (by kernel_rfl) (by kernel_rfl) ?_
     repeat (go_big_quiet_step (first
      |(go_at_call 111;refine(CS.out _).mono ?_;rintro e w2 ⟨rfl,b2⟩;exact⟨rfl,q0b.step _ b2⟩)
      |(go_at_call 110;refine(CL.out _).mono ?_;rintro e w2 ⟨rfl,b2⟩;exact⟨rfl,q0b.step _ b2⟩)))
     refine wpQuiet_nil ?_;intro Y hYe;have hY:Below X.heap.size X Y:=by obtain⟨n,hn⟩:=hYe;rw[hn];exact n.bel
     clear hYe y0 y1 y2 y3 hne CS CL HXF;go_wp2;go_step3;refine⟨rfl,⟨gx,s,HH,vq2,.slice fa fr.length fc,rest,fr,q0y HL2.out hY,HST2.out,_,_,_,_,_,_,_,_,_,_,_,_,_,_,_,_,_,_,_,_,_,_,_,_,_,_,_,_,_,_,_,_,_,_,_,_,_,_,_,_,_,_,_,_,_,_,_,_,_,_,_,_,_,_,_,_,_,_,_,_,_,_,_,_,_,_,rfl⟩,?_⟩;show x0J vq2+(9 - x0J (.slice fa fr.length fc))*1048577<(0+1)+(9 - fr.length)*1048577;rw[HLQ.out];simp only[x0J];omega
   ·
    go_wp2;obtain⟨vq2,hvq⟩:∃v,v=Value.slice (some ⟨g,off+1,none⟩) m c:=⟨_,rfl⟩;have HL2:Hid (LS W X W.heap.size gx s HH vq2 (.slice fa fr.length fc) rest fr):=by rw[hvq];exact HPOP.out _ (HPOS.out (by omega)) rfl
    have HLQ:Hid (x0J vq2=m):=by rw[hvq];rfl
    rw[<-hvq];clear hvq HPOP HPOS HZERO hcell hb1 hb2;by_cases hk:0<=q0l HH id
    ·obtain⟨k,hkl,ek,hk8,hlv,-⟩:=j0w HH id hk;obtain⟨go,hgo,hgB,hgl⟩:=v0E HML.out k hkl;obtain⟨hk2,hob,hfz⟩:=z0o HML.out k hkl go hgo;have hgg:go≠gx:=λe=>HL2.out.sx (by rw[<-e];exact .inl ⟨_,hgo,rfl⟩);have hgg1:¬go=gx:=hgg;have hgg2:¬gx=go:=λe=>hgg e.symm;rw[ek,hgo]at CS;rw[hgo]at y0;have CL:Hid (∀Y:q0b X,_):=λY=>q1c k s.os.length s.oc Y.on go s.wa s.wn s.wc s.ba s.bn s.bc s.sa s.sn s.sc ((Y.bel.cell (p:=⟨go,k*8,none⟩) hgl).trans (hob.c0.trans (by rw[hlv]))) (by rw[HML.out.lo];exact hol) hk8 hk2;have HGO:Hid (s.oa=some ⟨go,0,none⟩):=hgo;have HSA:Hid (y0o HH id rest fr=_):=v2k (rest:=rest) (fr:=fr) hkl ek;obtain⟨o,ho⟩:∃o,HH.objs[k]=o:=⟨_,rfl⟩;rw[ho]at HSA;have HOO:Hid (HH.objs[k]=o):=ho;have hofl:o.field.length<=1048576:=by rw[<-ho];exact HOKF.out _ (List.getElem_mem hkl)
     obtain⟨M,hM⟩:∃M,wrap64 (o.count - 1)=M:=⟨_,rfl⟩;rw[hM]at HSA;clear hgo hob hfz hlv ho CN hk ek HML;refine q0j X bl0 (by kernel_rfl) (by kernel_rfl) ?_
     repeat (go_big_quiet_step (first
      |(go_at_call 111;refine(CS.out _).mono ?_;rintro e w2 ⟨rfl,b2⟩;exact⟨rfl,q0b.step _ b2⟩)
      |(go_at_call 110;refine(CL.out _).mono ?_;rintro e w2 ⟨rfl,b2⟩;exact⟨rfl,q0b.step _ b2⟩)))
     refine wpQuiet_nil ?_;intro Y hYe;have hY:Below X.heap.size X Y:=by obtain⟨n,hn⟩:=hYe;rw[hn];exact n.bel
     clear hYe y0 y1 y2 y3 hne CS CL HXF;have HLY:Hid (LS W Y W.heap.size gx s HH vq2 (.slice fa fr.length fc) rest fr):=q0y HL2.out hY;obtain⟨hkY,obY,fzY⟩:=z0o HLY.out.m k hkl go HGO.out;have k5:=obY.c5;rw[HOO.out]at k5;have z5:=fzY 5 (by omega)
     have HL1:Hid (LS W (Y.setCell ⟨go,k*8+5,none⟩ (.int .i64 M)) W.heap.size gx s (q0r HH k {o with count:=M}) vq2 (.slice fa fr.length fc) rest fr):=by have h1:=z1h HLY.out.m k hkl go HGO.out M;rw[HOO.out]at h1;exact j0i HLY.out go _ _ HGO.out h1
     have g2:=HLY.out.x.cell 2;simp only[List.getElem?_toArray,List.getElem?_cons_zero,List.getElem?_cons_succ]at g2;have hkl1:k<(q0r HH k {o with count:=M}).objs.length:=by simpa[q0r]using hkl
     have HO1:Hid ((q0r HH k {o with count:=M}).objs[k]={o with count:=M}):=by show _=_;simp[q0r]
     obtain⟨Y1,hY1⟩:∃Y1,Y1=Y.setCell ⟨go,k*8+5,none⟩ (.int .i64 M):=⟨_,rfl⟩;have hYl:=HLY.out.le;have hY1s:Y1.heap.size=Y.heap.size:=by rw[hY1];simp[World.setCell]
     rw[<-hY1]at HL1;clear obY fzY HL2 HLY hY hkY;by_cases hM0:0<M
     ·obtain⟨hkZ,ob1,fz1⟩:=z0o HL1.out.m k hkl1 go HGO.out;have k7:=ob1.c7;rw[HO1.out]at k7;have HK7:Hid (Y1.cell? ⟨go,k*8+7,none⟩=some (.bool o.purple)):=k7;have HZ7:Hid (Y1.frozen? ⟨go,k*8+7,none⟩=false):=fz1 7 (by omega);clear k7 ob1 fz1 hkZ;by_cases hp:o.purple=true
      ·have HST2:Hid (ToR R (q0r HH k {o with count:=M}) rest fr):=by
        have h:=HST.out;rw[HSA.out,if_pos hM0,if_pos hp]at h;exact h
       have HX1:Hid (Y1.cell? ⟨gx,2,none⟩=some (.slice s.ba s.bn s.bc)/\Y1.frozen? ⟨gx,2,none⟩=false):=⟨HL1.out.x.cell 2,HL1.out.x.frozen 2⟩;go_wp2_with fail
       rw[<-hY1];clear hY1 k5 z5 g2;refine(j2T Y1 _ go (k*8) id (by rw[HK7.out,hp])).mono ?_;rintro e w2 ⟨rfl,hw2⟩;subst hw2;obtain⟨x2,f2⟩:=HX1.out;go_wp2;go_step3;refine⟨rfl,⟨gx,_,_,vq2,.slice fa fr.length fc,rest,fr,x1O HL1.out HL1.out.bel nl0 (λ_ _ _=>rfl) s.ba s.bn s.bc HH.buffer HL1.out.m.lb HL1.out.m.b (λg hg=> .inl hg),HST2.out,_,_,_,_,_,_,_,_,_,_,_,_,_,_,_,_,_,_,_,_,_,_,_,_,_,_,_,_,_,_,_,_,_,_,_,_,_,_,_,_,_,_,_,_,_,_,_,_,_,_,_,_,_,_,_,_,_,_,_,_,_,_,_,_,_,_,rfl⟩,?_⟩;show x0J vq2+(9 - x0J (.slice fa fr.length fc))*1048577<(m+1)+(9 - fr.length)*1048577;rw[HLQ.out];simp only[x0J];omega
      ·have hpf:o.purple=false:=by simpa using hp
       have HST2:Hid (ToR R {q0r HH k {o with count:=M,purple:=true}with buffer:=HH.buffer++[id]} rest fr):=by have h:=HST.out;rw[HSA.out,if_pos hM0,if_neg hp]at h;exact h
       have HLP:Hid (LS W (Y1.setCell ⟨go,k*8+7,none⟩ (.bool true)) W.heap.size gx s (q0r HH k {o with count:=M,purple:=true}) vq2 (.slice fa fr.length fc) rest fr):=by
        have h1:=y1U HL1.out.m k hkl1 go HGO.out true;rw[HO1.out]at h1;have h2:=j0i HL1.out go _ _ HGO.out h1;have e:({q0r HH k {o with count:=M}with objs:=(q0r HH k {o with count:=M}).objs.set k {o with count:=M,purple:=true}}:q0a)=q0r HH k {o with count:=M,purple:=true}:=by simp[q0r]
        rw[e]at h2;exact h2
       have hb9:HH.buffer.length<=16777215:=by have:=HBUF.out;omega
       have HSU:Hid (∀_:Unit,_):=λ(_:Unit)=>v2Z Y1 W.heap.size (.slice s.ba s.bn s.bc) go (k*8) id HH.buffer (by rw[HK7.out,hpf]) HZ7.out HL1.out.m.b (λe=>by
        obtain⟨x,hx,e2⟩:=z0L e;exact HL1.out.m.sep.ob _ x HGO.out hx e2.symm) hb9 (by omega)
       go_wp2_with fail
       rw[<-hY1];clear hY1 k5 z5 g2;refine(HSU.out ()).mono ?_;rintro e w2 ⟨v2,rfl,o2,s2,a2,l2,c2⟩;obtain⟨ba2,bc2,hv2,-⟩:=z0e o2;obtain⟨nb,hnb⟩:∃nb,(HH.buffer++[id]).length=nb:=⟨_,rfl⟩;rw[hnb]at hv2;subst hv2;have HNB:Hid ((HH.buffer++[id]).length=nb):=hnb;clear hnb
       have hx2:w2.heap[gx]? =(Y1.setCell ⟨go,k*8+7,none⟩ (.bool true)).heap[gx]?:=a2 gx HL1.out.x.lt (λe=>by
        obtain⟨x,hx,e2⟩:=z0L e;exact HL1.out.sx (by rw[<-e2];exact .inr (.inr (.inl ⟨x,hx,rfl⟩))))
       have X2:=HLP.out.x.same hx2;have x2:=X2.cell 2;have f2:=X2.frozen 2;simp only[List.getElem?_toArray,List.getElem?_cons_zero,List.getElem?_cons_succ]at x2
       have HLN:Hid (LS W (w2.setCell ⟨gx,2,none⟩ (.slice ba2 nb bc2)) W.heap.size gx _ {q0r HH k {o with count:=M,purple:=true}with buffer:=HH.buffer++[id]} vq2 (.slice fa fr.length fc) rest fr):=
        x1O HLP.out (c2 _ _ HLP.out.bel nl0) (by simp only[World.setCell,Array.size_modify];exact s2) (λi hi hne=>a2 i (by simpa[World.setCell]using hi) hne) ba2 nb bc2 (HH.buffer++[id]) HNB.out.symm o2 (λg hg=>by
         rcases l2 with e|⟨g',e,h'⟩
         ·exact .inl (by rw[<-e];exact hg)
         ·rw[e]at hg;injection hg with hg;exact .inr (by simp only[World.setCell,Array.size_modify];omega))
       clear o2 s2 a2 l2 c2 X2 hx2;go_wp2;go_step3;refine⟨rfl,⟨gx,_,_,vq2,.slice fa fr.length fc,rest,fr,HLN.out,HST2.out,_,_,_,_,_,_,_,_,_,_,_,_,_,_,_,_,_,_,_,_,_,_,_,_,_,_,_,_,_,_,_,_,_,_,_,_,_,_,_,_,_,_,_,_,_,_,_,_,_,_,_,_,_,_,_,_,_,_,_,_,_,_,_,_,_,_,rfl⟩,?_⟩;show x0J vq2+(9 - x0J (.slice fa fr.length fc))*1048577<(m+1)+(9 - fr.length)*1048577;rw[HLQ.out];simp only[x0J];omega
     ·have HST2:Hid (ToR R {q0r HH k (q0J o.gen)with buffer:=HH.buffer.filter (λz=>decide (z≠id))} (rest++o.field.filter (λz=>decide (0<=z))) (fr++[id])):=by
       have h:=HST.out;rw[HSA.out,if_neg hM0]at h;exact h
      have hkb:s.bn=HH.buffer.length:=HL1.out.m.lb;have HKB:Hid (s.bn=HH.buffer.length):=hkb;have hb9:HH.buffer.length<=16777215:=by have:=HBUF.out;omega
      have hrl:rest.length<=11534345:=by have h1:=HBUF.out;have h2:=HMU.out;omega
      obtain⟨Y2,hY2⟩:∃Y2,Y2=Y1.alloc (.cells #[.int .i64 id] 3):=⟨_,rfl⟩;have BY2:Below Y1.heap.size Y1 Y2:=by rw[hY2];exact bl1 _
      have hY2s:Y2.heap.size=Y.heap.size+1:=by rw[hY2,<-hY1s];simp
      have HC2:Hid (Y2.cell? ⟨Y.heap.size,0,none⟩=some (.int .i64 id)):=by show _=_;rw[hY2,<-hY1s,World.cell?_alloc_mark];rfl
      have HLA:Hid (LS W Y2 W.heap.size gx s (q0r HH k {o with count:=M}) vq2 (.slice fa fr.length fc) rest fr):=q0y HL1.out BY2;clear BY2 hWs hY2s hY1s;go_wp2_with (at_builtin;rw[<-hY1,<-hY2];clear hY1 hY2;refine x0T rfl _ _ rfl W.heap.size (.slice fa fr.length fc) fr rfl HLA.out.f ⟨Y.heap.size,0,none⟩ id rfl HC2.out (by omega) HLA.out.le ?_)
      intro vf3 w3 o3 s3 a3 l3 c3;have HL3:Hid (LS W w3 W.heap.size gx s (q0r HH k {o with count:=M}) vq2 vf3 rest (fr++[id])):=v2d HLA.out (c3.out _ _ HLA.out.bel nl0) s3 a3.out vf3 (fr++[id]) o3 (by rcases l3.out with e|e;exact .inl e;exact .inr ⟨_,e,Nat.le_refl _⟩);obtain⟨fa3,fc3,hv3,-⟩:=z0e o3;obtain⟨nf,hnf⟩:∃nf,(fr++[id]).length=nf:=⟨_,rfl⟩;rw[hnf]at hv3;have HNF:Hid (nf=fr.length+1):=by show _=_;rw[<-hnf];simp
      subst hv3;clear o3 s3 a3 l3 c3 hnf k5 z5 g2 HLA HC2 HL1;obtain⟨hk3,ob3,fz3⟩:=z0o HL3.out.m k hkl1 go HGO.out;obtain⟨hn3,hown3⟩:=HL3.out.m.f k hkl1 hk3;have c6:=ob3.c6;rw[HO1.out]at hn3 hown3;simp only at hn3 hown3;rw[hn3]at c6 hown3
      obtain⟨fo,co6,hfo⟩:∃fo co6,Value.slice s.os[k].f o.field.length s.os[k].c= .slice fo o.field.length co6/\RdI w3 fo o.field:=by obtain⟨x1,x2,e1,e2⟩:=z0e hown3;exact⟨x1,x2,e1,e2⟩
      rw[hfo.1]at c6;have CLT:Hid (∀_:Unit,_):=λ(_:Unit)=>z2Z w3 go (k*8) fo co6 o.field c6 hfo.2 hofl;have hflt:(o.field.filter (λz=>decide (0<=z))).length<=1048576:=Nat.le_trans (List.length_filter_le _ _) hofl;clear hk3 ob3 fz3 hn3 hown3 c6 hfo;generalize hLd:o.field.filter (λz=>decide (0<=z))=Ld at CLT HST2 hflt;clear hLd;go_wp2_with fail
      refine(CLT.out ()).mono ?_;rintro e w4 ⟨x4,rfl,o4,b4⟩;have HL4:Hid (LS W w4 W.heap.size gx s (q0r HH k {o with count:=M}) vq2 (.slice fa3 nf fc3) rest (fr++[id])):=q0y HL3.out b4;obtain⟨xa4,xc4,rfl,hr4⟩:=z0e o4;have HR4:Hid (v0q w4 xa4 Ld.length 1 (Ld.map z0C)):=u1s hr4;clear CLT o4 b4 hr4 HL3;go_wp2_with (at_builtin;refine y1A rfl _ _ rfl W.heap.size vq2 rest rfl HL4.out.q xa4 Ld Ld.length xc4 rfl rfl HR4.out (by omega) HL4.out.le ?_)
      intro vq5 w5 o5 s5 a5 l5 c5;have HL5:Hid (LS W w5 W.heap.size gx s (q0r HH k {o with count:=M}) vq5 (.slice fa3 nf fc3) (rest++Ld) (fr++[id])):=u2x HL4.out (c5.out _ _ HL4.out.bel nl0) s5 a5.out vq5 (rest++Ld) o5 (by rcases l5.out with e|e;exact .inl e;exact .inr ⟨_,e,Nat.le_refl _⟩)
      have HQ5:Hid (x0J vq5=rest.length+Ld.length):=by obtain⟨x1,x2,e1,-⟩:=z1W o5;show _=_;rw[e1];show(rest++Ld).length=_;rw[List.length_append]
      clear o5 s5 a5 l5 c5 HL4 HR4;have CW:Hid (∀_:Unit,_):=λ(_:Unit)=>x2j w5 s.ba s.bc HH.buffer id (q1t HL5.out.m).2.2.1 hb9;rw[<-hkb]at CW;have X5:=HL5.out.x;have g5:=X5.cell 2;simp only[List.getElem?_toArray,List.getElem?_cons_zero,List.getElem?_cons_succ]at g5;generalize hBf:HH.buffer.filter (λz=>decide (z≠id))=Bf at CW HST2;clear hBf X5 hkb;go_wp2_with fail
      refine(CW.out ()).mono ?_;rintro e w6 ⟨x6,rfl,o6,b6⟩;obtain⟨ba6,bc6,rfl,-⟩:=z0e o6;have hs6:=b6.size
      have HL6:Hid (LS W (w6.setCell ⟨gx,2,none⟩ (.slice ba6 Bf.length bc6)) W.heap.size gx {s with ba:=ba6,bn:=Bf.length,bc:=bc6} {q0r HH k {o with count:=M}with buffer:=Bf} vq5 (.slice fa3 nf fc3) (rest++Ld) (fr++[id])):=
       x1O HL5.out (HL5.out.bel.trans (b6.mono HL5.out.le)) hs6 (λi hi _=>b6.block i hi) ba6 Bf.length bc6 Bf rfl (q0A o6 HL5.out.le) (λg hg=> .inr (q0n o6 g hg).1)
      have X6:q0d w6 gx (.slice s.oa s.os.length s.oc) (.slice s.wa s.wn s.wc) (.slice s.ba s.bn s.bc) (.slice s.sa s.sn s.sc):=HL5.out.x.later b6;have g6:=X6.cell 2;have f6:=X6.frozen 2;simp only[List.getElem?_toArray,List.getElem?_cons_zero,List.getElem?_cons_succ]at g6;have hkl6:k<({q0r HH k {o with count:=M}with buffer:=Bf}:q0a).objs.length:=hkl1;obtain⟨nB,hnB⟩:∃nB,Bf.length=nB:=⟨_,rfl⟩;rw[hnB]at HL6;have HNB6:Hid (Bf.length=nB):=hnB;rw[hnB];obtain⟨Y6,hY6⟩:∃Y6,Y6=w6.setCell ⟨gx,2,none⟩ (.slice ba6 nB bc6):=⟨_,rfl⟩;rw[<-hY6]at HL6;obtain⟨hk6,ob6,fz6⟩:=z0o HL6.out.m k hkl6 go HGO.out;have ob5:=(z0o (q0c HL5.out.m b6) k hkl1 go HGO.out).2.1;have k1:=ob5.c1;have HO6:Hid (({q0r HH k {o with count:=M}with buffer:=Bf}:q0a).objs[k]={o with count:=M}):=HO1.out;rw[HO1.out]at k1;simp only at k1;have HL6' :Hid (LS W Y6 W.heap.size gx {s with ba:=ba6,bn:=nB,bc:=bc6} {q0r HH k {o with count:=M}with buffer:=Bf} vq5 (.slice fa3 nf fc3) (rest++Ld) (fr++[id])):=HL6.out;clear o6 b6 CW X6 g5 HL5 hk6 ob6 fz6 ob5 hnB;go_wp2_with fail
      rw[<-hY6];clear hY6 g6 f6 k1;refine(j0z o.gen Y6).mono ?_;rintro e w7 ⟨f7,rfl,o7,b7⟩;obtain⟨a7,c7,hv7,-⟩:=z0e o7;rw[show([-1,-1,-1]:List Int).length=3 from rfl]at hv7;subst hv7;have HLE:Hid (LS W (z0r w7 go (k*8) (q0J o.gen) (.slice a7 3 c7)) W.heap.size gx _ (q0r {q0r HH k {o with count:=M}with buffer:=Bf} k (q0J o.gen)) vq5 (.slice fa3 nf fc3) (rest++Ld) (fr++[id])):=y1X HL6'.out b7 k hkl6 go HGO.out (q0J o.gen) a7 c7 o7;have HEQ:Hid (q0r {q0r HH k {o with count:=M}with buffer:=Bf} k (q0J o.gen)={q0r HH k (q0J o.gen)with buffer:=Bf}):=by show _=_;simp[q0r]
      rw[HEQ.out]at HLE;obtain⟨hk7,ob7,fz7⟩:=z0o (q0c HL6'.out.m b7) k hkl6 go HGO.out;obtain⟨v0,e0⟩:=q0H ob7 0 (by omega);obtain⟨v1,e1⟩:=q0H ob7 1 (by omega);obtain⟨v2,e2⟩:=q0H ob7 2 (by omega);obtain⟨v3,e3⟩:=q0H ob7 3 (by omega);obtain⟨v4,e4⟩:=q0H ob7 4 (by omega);obtain⟨v5,e5⟩:=q0H ob7 5 (by omega);obtain⟨v6,e6⟩:=q0H ob7 6 (by omega);obtain⟨v7,e7⟩:=q0H ob7 7 (by omega);have n0:=fz7 0 (by omega);have n1:=fz7 1 (by omega);have n2:=fz7 2 (by omega);have n3:=fz7 3 (by omega);have n4:=fz7 4 (by omega);have n5:=fz7 5 (by omega);have n6:=fz7 6 (by omega);have n7:=fz7 7 (by omega);rw[Nat.add_zero]at e0 n0;clear o7 b7 hk7 ob7 fz7 HL6 HL6';unfold y0J;go_wp2;go_step3;refine⟨rfl,⟨gx,_,_,vq5,.slice fa3 nf fc3,rest++Ld,fr++[id],HLE.out,HST2.out,_,_,_,_,_,_,_,_,_,_,_,_,_,_,_,_,_,_,_,_,_,_,_,_,_,_,_,_,_,_,_,_,_,_,_,_,_,_,_,_,_,_,_,_,_,_,_,_,_,_,_,_,_,_,_,_,_,_,_,_,_,_,_,_,_,_,rfl⟩,?_⟩;show x0J vq5+(9 - nf)*1048577<(m+1)+(9 - fr.length)*1048577;rw[HQ5.out,HNF.out,Hm.out];omega
    ·have HST2:Hid (ToR R HH rest fr):=by
      have h:=HST.out;rw[j1d (by omega)]at h;exact h
     have CL:Hid (∀Y:q0b X,_):=λY=>CN.out Y (q0l HH id) (.inl (by omega));generalize q0l HH id=z at CS CL;clear CN HML;refine q0j X bl0 (by kernel_rfl) (by kernel_rfl) ?_
     repeat (go_big_quiet_step (first
      |(go_at_call 111;refine(CS.out _).mono ?_;rintro e w2 ⟨rfl,b2⟩;exact⟨rfl,q0b.step _ b2⟩)
      |(go_at_call 110;refine(CL.out _).mono ?_;rintro e w2 ⟨rfl,b2⟩;exact⟨rfl,q0b.step _ b2⟩)))
     refine wpQuiet_nil ?_;intro Y hYe;have hY:Below X.heap.size X Y:=by obtain⟨n,hn⟩:=hYe;rw[hn];exact n.bel
     clear hYe y0 y1 y2 y3 hne CS CL HXF;go_wp2;go_step3;refine⟨rfl,⟨gx,s,HH,vq2,.slice fa fr.length fc,rest,fr,q0y HL2.out hY,HST2.out,_,_,_,_,_,_,_,_,_,_,_,_,_,_,_,_,_,_,_,_,_,_,_,_,_,_,_,_,_,_,_,_,_,_,_,_,_,_,_,_,_,_,_,_,_,_,_,_,_,_,_,_,_,_,_,_,_,_,_,_,_,_,_,_,_,_,rfl⟩,?_⟩;show x0J vq2+(9 - x0J (.slice fa fr.length fc))*1048577<(m+1)+(9 - fr.length)*1048577;rw[HLQ.out];simp only[x0J];omega
end
section
def v2a(o:q0E):Prop:=o.site=0/\o.holds=0/\o.roots=0/\o.count=0/\o.purple=false/\∀k(h:k<o.field.length),o.field[k]= -1
def j4s(H:q0a)(o:q0E):Prop:=∀k(h:k<o.field.length),o.field[k]= -1\/0<=q0l H o.field[k]
def j1v(H:q0a)(i:Nat)(o:q0E):Prop:=
 (1<=o.gen/\(0<=o.site/\o.site<=(H.sites.length:Int) - 1)/\(0<=o.holds/\o.holds<=20)/\(0<=o.roots/\o.roots<=20))/\j4s H o/\
 (o.count=o.holds+o.roots+x0a H (i:Int)/\1<=o.count/\o.purple=decide (idZ (i:Int) o.gen∈H.buffer))
def okO(H:q0a)(i:Nat)(o:q0E):Prop:=((0<=o.gen/\o.gen<=999)/\o.field.length=3)/\(o.live=false->v2a o)/\(o.live=true->j1v H i o)
def okW(d:x0g):Prop:=(d.used=false->d.target=0)/\(d.used=true->8<=d.target/\d.target<=7999)
def okB(H:q0a)(i:Nat)(x:Int):Prop:=0<=q0l H x/\x∉H.buffer.take i
def okN(H:q0a)(i:Nat)(x:List UInt8):Prop:=(1<=x.length/\x.length<=8)/\∀k(h:k<H.sites.length),k<i->H.sites[k]≠x
structure OkH(H:q0a):Prop where
 size:H.objs.length=8/\H.weaks.length=8/\H.sites.length<=6
 objs:∀i(h:i<H.objs.length),okO H i H.objs[i]
 weaks:∀i(h:i<H.weaks.length),okW H.weaks[i]
 buffer:∀i(h:i<H.buffer.length),okB H i H.buffer[i]
 sites:∀i(h:i<H.sites.length),okN H i H.sites[i]
theorem j0o(p:Prop):∃b:Bool,(b=true↔p):=by
 by_cases h:p
 ·exact⟨true,by simp[h]⟩
 ·exact⟨false,by simp[h]⟩
theorem x1j{p:Prop}{b:Bool}(h:b=true↔p)(hn:¬p):b=false:=by
 cases b with
 |false=>rfl
 |true=>exact absurd (h.1 rfl) hn
theorem j2i(H:q0a)(hs:q0h H)(slot:Int):0<=x0a H slot/\x0a H slot<=1099511627776:=by
 unfold x0a;split
 ·split
  ·omega
  ·split
   ·have h:=x3M (idZ slot (by assumption:q0E).gen) H.objs 1048576 hs.fields;have h2:=hs.objs;have h3:H.objs.length*1048576<=1048576*1048576:=Nat.mul_le_mul_right _ h2;omega
   ·omega
 ·omega
end
section
open Go.RowKit
structure z0D where
 code:Int
 val:Int
 freed:List Int
def RdA(w:World)(v:Value)(A:z0D):Prop:=∃a c,v= .agg #[.int .i64 A.code,.int .i64 A.val,.slice a A.freed.length c]/\RdI w a A.freed
def q0k(X:World)(g:Nat)(x0 x1 x2:Value):Prop:=X.heap[g]? =some (.cells #[x0,x1,x2] 37 (0,0))
theorem q0k.cell{X:World}{g:Nat}{x0 x1 x2:Value}(h:q0k X g x0 x1 x2)(k:Nat):X.cell? ⟨g,k,none⟩=(#[x0,x1,x2]:Array Value)[k]?:=by have h' :X.heap[g]? =some (.cells #[x0,x1,x2] 37 (0,0)):=h;simp[World.cell?,h']
theorem q0k.frozen{X:World}{g:Nat}{x0 x1 x2:Value}(h:q0k X g x0 x1 x2)(k:Nat):X.frozen? ⟨g,k,none⟩=false:=by have h' :X.heap[g]? =some (.cells #[x0,x1,x2] 37 (0,0)):=h;simp[World.frozen?,h']
theorem q0k.lt{X:World}{g:Nat}{x0 x1 x2:Value}(h:q0k X g x0 x1 x2):g<X.heap.size:=(Array.getElem?_eq_some_iff.1 h).1
theorem q0k.later{X Y:World}{g:Nat}{x0 x1 x2:Value}(h:q0k X g x0 x1 x2)(hb:Below X.heap.size X Y):q0k Y g x0 x1 x2:=(hb.block g h.lt).trans h
theorem q0k.new(w:World)(x0 x1 x2:Value):q0k (w.alloc (.cells #[x0,x1,x2] 37)) w.heap.size x0 x1 x2:=heap_alloc_new w _
theorem x1p(w:World)(v u:Value)(A:z0D)(h1:RdA w v A)(h2:RdA w u A)(m:A.freed.length<=16777216):
 Calls Tryz.prog 12 #[v,u] w λe w' =>e= .returned (.bool true)/\Below w.heap.size w w' :=by
 obtain⟨a,c,rfl,ra⟩:=h1;obtain⟨b,d,rfl,rb⟩:=h2;obtain⟨W,hW⟩:∃W,W=(w.alloc (.cells #[.int .i64 A.code,.int .i64 A.val,.slice a A.freed.length c] 37)).alloc (.cells #[.int .i64 A.code,.int .i64 A.val,.slice b A.freed.length d] 37):=⟨_,rfl⟩;have BW:Below w.heap.size w W:=by rw[hW];exact(bl1 _).alloc (by simp) _
 have C1:Hid (∀_:Unit,_):=λ(_:Unit)=>j0Q W a b c d A.freed (q0t ra BW) (q0t rb BW) m;generalize A.freed.length=n at*;generalize A.code=co at*;generalize A.val=va at*;clear ra rb;go_enter Tryz.func12,Tryz.ntmps12;go_wp2_with fail
 rw[<-hW];clear hW;refine(C1.out ()).mono ?_;rintro e w1 ⟨rfl,b1⟩;have B1:=BW.trans (b1.mono BW.size);go_wp2;go_ret
 exact⟨rfl,B1⟩
open Go.RowKit Go.ChangeShapes Go.WideShapes Go.ChangeAt Go.Deep
section
variable {T : Type} {enc : TypeId × Value → T} {w : World} {held : Bool}
end
end
section
open Go.ChangeShapes Go.WideShapes Go.ChangeAt Go.RowKit
open Go.ChangeMaps (open_string shut_string)
structure OpD where
 kind:Int
 a:Int
 b:Int
 c:Int
 site:List UInt8
def opV(o:OpD):Value:= .agg #[.int .i64 o.kind,.int .i64 o.a,.int .i64 o.b,.int .i64 o.c,.string (txt o.site)]
structure q2t(o:OpD):Prop where
 kind:q0w o.kind
 a:q0w o.a
 b:q0w o.b
 c:q0w o.c
 site:o.site.length<=9223372036854775807
def q0m(c v:Int)(vf:Value):Value:= .agg #[.int .i64 c,.int .i64 v,vf]
theorem q1q{x:Int}(h0: -9223372036854775808<=x)(h1:x<=9223372036854775807):wrap64 x=x:=by unfold wrap64;omega
theorem z4H(w:World)(o:OpD)(left:Int)(hs:o.site.length<=9223372036854775807)(h0:0<=left)(h1:left<=1048576):
 Calls Tryz.prog 6 #[opV o,.int .i64 left] w λe w' =>e= .returned (.int .i64 (if left - (o.site.length:Int)<0 then -1 else left - (o.site.length:Int)))/\Below w.heap.size w w' :=by
 have hsz:(txt o.site).size=o.site.length:=q0L _
 have hin:IntKind.i64.wrap (left - ((txt o.site).size:Int))=left - (o.site.length:Int):=by
  rw[hsz];have hh:wrap64 (left - (o.site.length:Int))=left - (o.site.length:Int):=q1q (by omega) (by omega);have e:IntKind.i64.wrap (left - (o.site.length:Int))=wrap64 (left - (o.site.length:Int)):=by rw[IntKind.wrap_i64];simp only[wrap64]
  rw[e];exact hh
 unfold opV;obtain⟨b,hb⟩:∃b,txt o.site=b:=⟨_,rfl⟩;rw[hb]at hin hsz ⊢;generalize o.site.length=n at*;clear hb;by_cases hn:left - (n:Int)<0
 ·rw[if_pos hn];go_enter Tryz.func6,Tryz.ntmps6;go_wp2;go_ret
  exact⟨rfl,bl1 _⟩
 ·rw[if_neg hn];go_enter Tryz.func6,Tryz.ntmps6;go_wp2;go_ret
  exact⟨rfl,bl1 _⟩
theorem z4I(w:World)(o:OpD):
 Calls Tryz.prog 9 #[opV o] w λe w' =>e= .returned (opV o)/\Below w.heap.size w w' :=by
 obtain⟨k,a,b,c,s⟩:=o;unfold opV;simp only;generalize txt s=t;go_enter Tryz.func9,Tryz.ntmps9;go_wp2;refine bodyPost_ret (v:= .agg #[.int .i64 k,.int .i64 a,.int .i64 b,.int .i64 c,.string t]) (by simp[results,Tryz.results9,go_sem, *]) rfl ⟨rfl,?_⟩;exact((bl1 _).alloc (by simp) _).alloc (by simp;omega) _
theorem z3z(w:World)(c v:Int)(a:Option Addr)(n cap:Nat)(k:Int)(h:v0I w a n)(hz:n<=16777216)(h0:0<=k)(h1:k<=1000000000000000):
 Calls Tryz.prog 14 #[q0m c v (.slice a n cap),.int .i64 k] w λe w' =>e= .returned (.int .i64 (k+(n:Int)))/\∃w1,w' =q0C w1 (mkI a k n)/\Below w.heap.size w w1:=by
 unfold q0m;obtain⟨W,hW⟩:∃W,W=w.alloc (.cells #[.int .i64 c,.int .i64 v,.slice a n cap] 37):=⟨_,rfl⟩;have BW:Below w.heap.size w W:=by rw[hW];exact bl1 _
 have CM:Hid (∀_:Unit,_):=λ(_:Unit)=>u0x W a n cap k (u0X h BW) hz h0 h1;go_enter Tryz.func14,Tryz.ntmps14;go_wp2_with fail
 rw[<-hW];clear hW;refine(CM.out ()).mono ?_;rintro e w1 ⟨rfl,hw1⟩;have HX:Hid (∃w2,w1=q0C w2 (mkI a k n)/\Below w.heap.size w w2):=⟨W,hw1,BW⟩;clear hw1 BW CM h;go_wp2;go_ret
 exact⟨rfl,HX.out⟩
theorem z3q(w:World)(c v:Int)(a:Option Addr)(n cap:Nat)(k:Int)(h:∀p∈mkI a k n,w.cell? p.1=some p.2)(ha:0<n->∃g off,a=some ⟨g,off,none⟩)(hz:n<=16777216)(h0:0<=k)(h1:k<=1000000000000000):
 Calls Tryz.prog 16 #[q0m c v (.slice a n cap),.int .i64 k] w λe w' =>e= .returned (.int .i64 (k+(n:Int)))/\Below w.heap.size w w' :=by
 unfold q0m;obtain⟨W,hW⟩:∃W,W=w.alloc (.cells #[.int .i64 c,.int .i64 v,.slice a n cap] 37):=⟨_,rfl⟩;have BW:Below w.heap.size w W:=by rw[hW];exact bl1 _
 have CM:Hid (∀_:Unit,_):=λ(_:Unit)=>q1s W a n cap k (λp hp=>(BW.cell (World.block_lt_of_cell? w _ (h p hp))).trans (h p hp)) ha hz h0 h1;have hk:¬k+(n:Int)<0:=by omega
 go_enter Tryz.func16,Tryz.ntmps16;go_wp2_with fail
 rw[<-hW];clear hW;refine(CM.out ()).mono ?_;rintro e w1 ⟨rfl,hw1⟩;subst hw1;have HX:Hid (Below w.heap.size w w1):=BW;clear BW CM h ha;go_wp2;go_ret
 exact⟨rfl,HX.out⟩
section
variable {T : Type} {enc : TypeId × Value → T} {w : World} {held : Bool}
theorem v4C{r:Reach}{b0:Nat}{v:Value}{d:DataW T}{ps:List MemPlace}(hv:Value.okWide Tryz.prog w r b0 29 v)(h:DataW.Trod enc Tryz.prog w 0 (λ_=>true) held 29 v d ps):∃D:OpD,v=opV D/\q2t D:=by
 obtain⟨cs,rfl,hcs⟩:=okWide_struct Tryz.underlying29 hv;obtain⟨fuel,hf0⟩:=h;have ec:(Value.agg cs).cells.toList=cs.toList:=by simp[Value.cells]
 rw[ec]at hf0;obtain⟨xs,n,_,_,hl,hlen,hf⟩:=DataW.trod_struct Tryz.underlying29 hf0;have hl2:cs.size=5:=hcs.trans (by kernel_rfl);obtain⟨l⟩:=cs
 match l,hl2,xs,hlen with
 |[c0,c1,c2,c3,c4],_,[y0,y1,y2,y3,y4],_=>
  have e3:Tryz.prog.cellsOf 3=1:=by kernel_rfl
  have e2:Tryz.prog.cellsOf 9=1:=by kernel_rfl
  have h0:=hf 0 {name:= "Kind",type:=3,offset:=0,embedded:=false,tag:= "",pkgPath:= "",byteOffset:=0} rfl;have h1:=hf 1 {name:= "A",type:=3,offset:=1,embedded:=false,tag:= "",pkgPath:= "",byteOffset:=8} rfl;have h2:=hf 2 {name:= "B",type:=3,offset:=2,embedded:=false,tag:= "",pkgPath:= "",byteOffset:=16} rfl;have h3:=hf 3 {name:= "C",type:=3,offset:=3,embedded:=false,tag:= "",pkgPath:= "",byteOffset:=24} rfl;have h4:=hf 4 {name:= "Site",type:=9,offset:=4,embedded:=false,tag:= "",pkgPath:= "",byteOffset:=32} rfl;simp only[e2,e3]at h0 h1 h2 h3 h4;obtain⟨m0,g0,_,v0⟩:=DataW.trod_int Tryz.underlying3 (x:=y0) (by simpa using h0);obtain⟨m1,g1,_,v1⟩:=DataW.trod_int Tryz.underlying3 (x:=y1) (by simpa using h1);obtain⟨m2,g2,_,v2⟩:=DataW.trod_int Tryz.underlying3 (x:=y2) (by simpa using h2);obtain⟨m3,g3,_,v3⟩:=DataW.trod_int Tryz.underlying3 (x:=y3) (by simpa using h3);obtain⟨m4,g4,_,v4⟩:=DataW.trod_string Tryz.underlying9 (x:=y4) (by simpa using h4);exact⟨⟨m0,m1,m2,m3,m4.data.toList⟩,by unfold opV;simp_all[txt],⟨v0e v0,v0e v1,v0e v2,v0e v3,by unfold maxLen at v4;exact v4⟩⟩
end
end
section
open Go.RowKit
variable{H:q0a}
def y0n(H:q0a)(c:Int):q0a×z0D:=(H,⟨c,0,[]⟩)
def j0h(H:q0a)(id:Int):q0a×z0D:=((z0F H [id]).1,⟨0,0,(z0F H [id]).2⟩)
def y0X(g s:Int):q0E:=⟨true,g,s,1,0,1,[-1,-1,-1],false⟩
def y0b(H:q0a)(x:List UInt8):Int:=y0e x H.sites 0
def q1U(H:q0a)(x:List UInt8):q0a:=if y0b H x<0 then{H with sites:=H.sites++[x]}else H
def j2N(H:q0a)(x:List UInt8):Int:=if y0b H x<0 then(H.sites.length:Int)else y0b H x
def x0o(H:q0a)(x:List UInt8):q0a×z0D:=
 if x.length<1\/8<x.length then y0n H 2
 else if v0x H<0 then y0n H 3
 else if y0b H x<0/\6<=H.sites.length then y0n H 6
 else match H.objs[(v0x H).toNat]?with
  |none=>y0n H 3
  |some o=>(q0r (q1U H x) (v0x H).toNat (y0X (o.gen+1) (j2N H x)),⟨0,idZ (v0x H) (o.gen+1),[]⟩)
def z0Y(H:q0a)(kind a:Int):q0a×z0D:=
 if q0l H a<0 then y0n H 1
 else match H.objs[(q0l H a).toNat]?with
  |none=>y0n H 1
  |some o=>
   if kind=2 then(if 20<=o.holds then y0n H 4 else(z0n (q0r H (q0l H a).toNat {o with holds:=o.holds+1}) a,⟨0,0,[]⟩))
   else if kind=5 then(if 20<=o.roots then y0n H 4 else(z0n (q0r H (q0l H a).toNat {o with roots:=o.roots+1}) a,⟨0,0,[]⟩))
   else if kind=3 then(if o.holds<1 then y0n H 5 else j0h (q0r H (q0l H a).toNat {o with holds:=o.holds - 1}) a)
   else if o.roots<1 then y0n H 5 else j0h (q0r H (q0l H a).toNat {o with roots:=o.roots - 1}) a
def x0c(H:q0a)(a b c:Int):q0a×z0D:=
 if q0l H a<0\/(c≠ -1/\q0l H c<0)then y0n H 1
 else if b<0\/2<b then y0n H 2
 else match(z0n H c).objs[(q0l H a).toNat]?with
  |none=>y0n H 1
  |some o=>j0h (q0r (z0n H c) (q0l H a).toNat {o with field:=o.field.set b.toNat c}) (o.field.getD b.toNat (-1))
def v0l:List x0g->Int->Int
 |[],_=> -1
 |d::r,i=>if d.used=false then i else v0l r (i+1)
def j0Y(H:q0a)(a:Int):q0a×z0D:=
 if q0l H a<0 then y0n H 1
 else if v0l H.weaks 0<0 then y0n H 3
 else({H with weaks:=H.weaks.set (v0l H.weaks 0).toNat ⟨true,a⟩},⟨0,v0l H.weaks 0,[]⟩)
def z1t(H:q0a)(a:Int):Option x0g:=
 if a<0\/(H.weaks.length:Int)<=a then none
 else match H.weaks[a.toNat]?with
  |none=>none
  |some d=>if d.used=true then some d else none
def q1H(H:q0a)(a:Int):q0a×z0D:=match z1t H a with
 |none=>y0n H 2
 |some d=>(H,⟨0,if q0l H d.target<0 then -1 else d.target,[]⟩)
def q1G(H:q0a)(a:Int):q0a×z0D:=match z1t H a with
 |none=>y0n H 2
 |some _=>({H with weaks:=H.weaks.set a.toNat ⟨false,0⟩},⟨0,0,[]⟩)
theorem y4U:∀(os:List q0E)(i:Int),y0V os i= -1\/∃(j:Nat)(h:j<os.length),y0V os i=i+(j:Int)/\os[j].live=false/\os[j].gen<999:=by
 intro os
 induction os with
 |nil=>intro i;exact .inl rfl
 |cons o r ih=>
  intro i;unfold y0V;by_cases h:o.live=false/\o.gen<999
  ·rw[if_pos h];exact .inr ⟨0,by simp,by simp,h.1,h.2⟩
  ·rw[if_neg h];rcases ih (i+1)with e|⟨j,hj,e,h1⟩
   ·exact .inl e
   ·exact .inr ⟨j+1,by simpa using hj,by rw[e];omega,h1⟩
theorem q3r(H:q0a)(h:¬v0x H<0):∃(k:Nat)(hk:k<H.objs.length),v0x H=(k:Int)/\k<8/\H.objs[k].live=false/\H.objs[k].gen<999:=by
 unfold v0x at h ⊢;rcases y4U (H.objs.take 8) 0 with e|⟨j,hj,e,h1,h2⟩
 ·rw[e]at h;omega
 ·have hl:=hj;rw[List.length_take]at hl;rw[List.getElem_take]at h1 h2;exact⟨j,by omega,by rw[e];omega,by omega,h1,h2⟩
theorem y4V:∀(ds:List x0g)(i:Int),v0l ds i= -1\/∃(j:Nat)(h:j<ds.length),v0l ds i=i+(j:Int):=by
 intro ds
 induction ds with
 |nil=>intro i;exact .inl rfl
 |cons o r ih=>
  intro i;unfold v0l;split
  ·exact .inr ⟨0,by simp,by simp⟩
  ·rcases ih (i+1)with e|⟨j,hj,e⟩
   ·exact .inl e
   ·exact .inr ⟨j+1,by simpa using hj,by rw[e];omega⟩
theorem x4t(H:q0a)(h:¬v0l H.weaks 0<0):∃k:Nat,k<H.weaks.length/\v0l H.weaks 0=(k:Int):=by
 rcases y4V H.weaks 0 with e|⟨j,hj,e⟩
 ·rw[e]at h;omega
 ·exact⟨j,hj,by rw[e];omega⟩
theorem y2V(ds:List x0g)(j:Nat)(h:j<ds.length):v0l (ds.drop j) (j:Int)=if ds[j].used=false then(j:Int)else v0l (ds.drop (j+1)) ((j+1:Nat):Int):=by rw[List.drop_eq_getElem_cons h];simp[v0l]
theorem q3q(ds:List x0g)(i:Int):v0l (ds.drop ds.length) i= -1:=by rw[List.drop_length];rfl
theorem x0W(hs:q0h H)(k:Nat)(o:q0E)(ho:o.field.length<=1048576):q0h (q0r H k o):=
 ⟨by simpa[q0r]using hs.objs,λz hz=>by
   rcases z1r hz with hz|rfl
   ·exact hs.fields z hz
   ·exact ho,hs.weaks,hs.buffer,hs.sites,hs.names⟩
theorem j0D(hw:∀z∈H.objs,∀x∈z.field,q0w x)(k:Nat)(o:q0E)(ho:∀x∈o.field,q0w x):∀z∈(q0r H k o).objs,∀x∈z.field,q0w x:=λz hz=>by
 rcases z1r hz with hz|rfl
 ·exact hw z hz
 ·exact ho
theorem z1P(H:q0a)(id:Int):(z0n H id).objs.length=H.objs.length:=by
 unfold z0n;split
 ·unfold u1b;split<;>simp
 ·rfl
theorem x3z(H:q0a)(id:Int)(k:Nat)(h:k<H.objs.length)(h2:k<(z0n H id).objs.length):∃c,(z0n H id).objs[k]={H.objs[k]with count:=c}:=by
 by_cases hg:0<=q0l H id
 ·obtain⟨j,hj,ej,_⟩:=j0w H id hg;have e:z0n H id=u1b H j 1:=by unfold z0n;rw[if_pos hg,ej];rfl
  have e2:(z0n H id).objs[k]=(u1b H j 1).objs[k]'(by rw[<-e];exact h2):=by congr 1;rw[e]
  rw[e2];have e3:(u1b H j 1).objs[k]'(by rw[<-e];exact h2)=(H.objs.set j {H.objs[j]with count:=wrap64 (H.objs[j].count+1)})[k]'(by simpa using h):=by congr 1;rw[u2s hj]
  rw[e3,List.getElem_set];split
  ·rename_i e4;subst e4;exact⟨_,rfl⟩
  ·exact⟨H.objs[k].count,rfl⟩
 ·have e:z0n H id=H:=by unfold z0n;rw[if_neg hg]
  have e2:(z0n H id).objs[k]=H.objs[k]:=by congr 1;rw[e]
  rw[e2];exact⟨H.objs[k].count,rfl⟩
theorem x4u(H:q0a)(id:Int):(z0n H id).weaks=H.weaks/\(z0n H id).buffer=H.buffer/\(z0n H id).sites=H.sites:=by
 unfold z0n;split
 ·unfold u1b;split<;>exact⟨rfl,rfl,rfl⟩
 ·exact⟨rfl,rfl,rfl⟩
theorem y2X{id:Int}{z:q0E}(hz:z∈(z0n H id).objs):∃y∈H.objs,z.field=y.field:=by
 obtain⟨k,hk,rfl⟩:=List.getElem_of_mem hz;have hk2:k<H.objs.length:=by rw[<-z1P H id];exact hk
 obtain⟨c,e⟩:=x3z H id k hk2 hk;exact⟨_,List.getElem_mem hk2,by rw[e]⟩
theorem u0w(hs:q0h H)(id:Int):q0h (z0n H id):=by
 obtain⟨e1,e2,e3⟩:=x4u H id
 exact⟨by rw[z1P];exact hs.objs,λz hz=>by
  obtain⟨y,hy,e⟩:=y2X hz;rw[e];exact hs.fields y hy,by rw[e1];exact hs.weaks,by rw[e2];exact hs.buffer,by rw[e3];exact hs.sites,by rw[e3];exact hs.names⟩
theorem j1H(hw:∀z∈H.objs,∀x∈z.field,q0w x)(id:Int):∀z∈(z0n H id).objs,∀x∈z.field,q0w x:=λz hz=>by
 obtain⟨y,hy,e⟩:=y2X hz;rw[e];exact hw y hy
theorem x4P(H:q0a)(id:Int)(h:q0l H id<0):z0F H [id]=(H,[]):=by
 have e:muL [id] []=(muL [id] [] - 1)+1:=by unfold muL;simp
 unfold z0F;rw[e,j1w (by simp),j1d h,q3D (.inl rfl)]
end
section
open Go.RowKit
variable{s:HSh}{H:q0a}
theorem v1L{w:World}{B:Nat}(h:HM w B s H):v0B s.v:=by have h1:=h.b;have h2:=h.st;unfold q0i at h1;unfold z0E at h2;rw[<-h.lb]at h1;rw[<-h.ls]at h2;exact⟨_,_,_,_,_,_,_,_,_,_,_,_,rfl,h.co,h.cw,j1O h1,j1O h2⟩
def z0d(X:World)(g:Nat)(o:OpD):Prop:=X.heap[g]? =some (.cells #[.int .i64 o.kind,.int .i64 o.a,.int .i64 o.b,.int .i64 o.c,.string (txt o.site)] 41 (0,0))
theorem z0d.cell{X:World}{g:Nat}{o:OpD}(h:z0d X g o)(k:Nat):X.cell? ⟨g,k,none⟩=(#[.int .i64 o.kind,.int .i64 o.a,.int .i64 o.b,.int .i64 o.c,.string (txt o.site)]:Array Value)[k]?:=by have h' :X.heap[g]? =some (.cells #[.int .i64 o.kind,.int .i64 o.a,.int .i64 o.b,.int .i64 o.c,.string (txt o.site)] 41 (0,0)):=h;simp[World.cell?,h']
theorem z0d.cells{X:World}{g:Nat}{o:OpD}(h:z0d X g o):X.cell? ⟨g,0,none⟩=some (.int .i64 o.kind)/\X.cell? ⟨g,1,none⟩=some (.int .i64 o.a)/\X.cell? ⟨g,2,none⟩=some (.int .i64 o.b)/\X.cell? ⟨g,3,none⟩=some (.int .i64 o.c)/\X.cell? ⟨g,4,none⟩=some (.string (txt o.site)):=
 ⟨h.cell 0,h.cell 1,h.cell 2,h.cell 3,h.cell 4⟩
theorem z0d.lt{X:World}{g:Nat}{o:OpD}(h:z0d X g o):g<X.heap.size:=(Array.getElem?_eq_some_iff.1 h).1
theorem z0d.later{X Y:World}{g:Nat}{o:OpD}(h:z0d X g o)(hb:Below X.heap.size X Y):z0d Y g o:=(hb.block g h.lt).trans h
theorem z0d.same{X Y:World}{g:Nat}{o:OpD}(h:z0d X g o)(hs:Y.heap[g]? =X.heap[g]?):z0d Y g o:=hs.trans h
theorem z0d.new(X:World)(o:OpD):z0d (X.alloc (.cells #[.int .i64 o.kind,.int .i64 o.a,.int .i64 o.b,.int .i64 o.c,.string (txt o.site)] 41)) X.heap.size o:=heap_alloc_new X _
theorem q0d.cells{X:World}{g:Nat}{x0 x1 x2 x3:Value}(h:q0d X g x0 x1 x2 x3):X.cell? ⟨g,0,none⟩=some x0/\X.cell? ⟨g,1,none⟩=some x1/\X.cell? ⟨g,2,none⟩=some x2/\X.cell? ⟨g,3,none⟩=some x3:=⟨h.cell 0,h.cell 1,h.cell 2,h.cell 3⟩
theorem q0d.frees{X:World}{g:Nat}{x0 x1 x2 x3:Value}(h:q0d X g x0 x1 x2 x3):X.frozen? ⟨g,0,none⟩=false/\X.frozen? ⟨g,1,none⟩=false/\X.frozen? ⟨g,2,none⟩=false/\X.frozen? ⟨g,3,none⟩=false:=⟨h.frozen 0,h.frozen 1,h.frozen 2,h.frozen 3⟩
theorem q0k.cells{X:World}{g:Nat}{x0 x1 x2:Value}(h:q0k X g x0 x1 x2):X.cell? ⟨g,0,none⟩=some x0/\X.cell? ⟨g,1,none⟩=some x1/\X.cell? ⟨g,2,none⟩=some x2:=⟨h.cell 0,h.cell 1,h.cell 2⟩
theorem q0k.frees{X:World}{g:Nat}{x0 x1 x2:Value}(h:q0k X g x0 x1 x2):X.frozen? ⟨g,0,none⟩=false/\X.frozen? ⟨g,1,none⟩=false/\X.frozen? ⟨g,2,none⟩=false:=⟨h.frozen 0,h.frozen 1,h.frozen 2⟩
theorem q0k.same{X Y:World}{g:Nat}{x0 x1 x2:Value}(h:q0k X g x0 x1 x2)(hs:Y.heap[g]? =X.heap[g]?):q0k Y g x0 x1 x2:=hs.trans h
def q0g(X:World)(g:Nat)(y0 y1 y2:Value):World:=((X.setCell ⟨g,0,none⟩ y0).setCell ⟨g,1,none⟩ y1).setCell ⟨g,2,none⟩ y2
theorem x0k(X:World)(g:Nat)(y0 y1 y2:Value):(q0g X g y0 y1 y2).heap.size=X.heap.size:=by unfold q0g;simp[World.setCell]
theorem q0Q(X:World)(g:Nat)(y0 y1 y2:Value)(i:Nat)(h:i≠g):(q0g X g y0 y1 y2).heap[i]? =X.heap[i]?:=by unfold q0g;iterate 3 rw[heap_setCell_other _ _ _ _ (by exact h)]
theorem z0S(w:World)(x0 x1 x2 x3:Value)(o:OpD):∃W,W=(((w.alloc (.cells #[x0,x1,x2,x3] 35)).alloc (.cells #[.int .i64 o.kind,.int .i64 o.a,.int .i64 o.b,.int .i64 o.c,.string (txt o.site)] 41)).alloc (.cells #[.slice none 0 0,.slice none 0 0,.slice none 0 0,.slice none 0 0] 35)).alloc (.cells #[.int .i64 0,.int .i64 0,.slice none 0 0] 37)/\
 Below w.heap.size w W/\W.heap.size=w.heap.size+4/\q0d W w.heap.size x0 x1 x2 x3/\z0d W (w.heap.size+1) o/\q0d W (w.heap.size+2) (.slice none 0 0) (.slice none 0 0) (.slice none 0 0) (.slice none 0 0)/\q0k W (w.heap.size+3) (.int .i64 0) (.int .i64 0) (.slice none 0 0):=by
 obtain⟨w1,h1⟩:∃w1,w1=w.alloc (.cells #[x0,x1,x2,x3] 35):=⟨_,rfl⟩;obtain⟨w2,h2⟩:∃w2,w2=w1.alloc (.cells #[.int .i64 o.kind,.int .i64 o.a,.int .i64 o.b,.int .i64 o.c,.string (txt o.site)] 41):=⟨_,rfl⟩;obtain⟨w3,h3⟩:∃w3,w3=w2.alloc (.cells #[.slice none 0 0,.slice none 0 0,.slice none 0 0,.slice none 0 0] 35):=⟨_,rfl⟩;obtain⟨w4,h4⟩:∃w4,w4=w3.alloc (.cells #[.int .i64 0,.int .i64 0,.slice none 0 0] 37):=⟨_,rfl⟩;have b1:Below w.heap.size w w1:=by rw[h1];exact bl1 _
 have b2:Below w1.heap.size w1 w2:=by rw[h2];exact bl1 _
 have b3:Below w2.heap.size w2 w3:=by rw[h3];exact bl1 _
 have b4:Below w3.heap.size w3 w4:=by rw[h4];exact bl1 _
 have s1:w1.heap.size=w.heap.size+1:=by rw[h1];simp
 have s2:w2.heap.size=w.heap.size+2:=by rw[h2];simp[s1]
 have s3:w3.heap.size=w.heap.size+3:=by rw[h3];simp[s2]
 have s4:w4.heap.size=w.heap.size+4:=by rw[h4];simp[s3]
 have f1:q0d w1 w.heap.size x0 x1 x2 x3:=by rw[h1];exact q0d.new _ _ _ _ _
 have f2:z0d w2 (w.heap.size+1) o:=by rw[<-s1,h2];exact z0d.new _ _
 have f3:q0d w3 (w.heap.size+2) (.slice none 0 0) (.slice none 0 0) (.slice none 0 0) (.slice none 0 0):=by rw[<-s2,h3];exact q0d.new _ _ _ _ _
 have f4:q0k w4 (w.heap.size+3) (.int .i64 0) (.int .i64 0) (.slice none 0 0):=by rw[<-s3,h4];exact q0k.new _ _ _ _
 refine⟨w4,by rw[h4,h3,h2,h1],?_,s4,((f1.later b2).later b3).later b4,(f2.later b3).later b4,f3.later b4,f4⟩;exact((b1.trans (b2.mono (by omega))).trans (b3.mono (by omega))).trans (b4.mono (by omega))
theorem y0M(w:World)(o:OpD):∃W,W=(w.alloc (.cells #[.int .i64 o.kind,.int .i64 o.a,.int .i64 o.b,.int .i64 o.c,.string (txt o.site)] 41)).alloc (.cells #[.int .i64 0,.int .i64 0,.slice none 0 0] 37)/\
 Below w.heap.size w W/\W.heap.size=w.heap.size+2/\z0d W w.heap.size o/\q0k W (w.heap.size+1) (.int .i64 0) (.int .i64 0) (.slice none 0 0):=by
 obtain⟨w1,h1⟩:∃w1,w1=w.alloc (.cells #[.int .i64 o.kind,.int .i64 o.a,.int .i64 o.b,.int .i64 o.c,.string (txt o.site)] 41):=⟨_,rfl⟩;obtain⟨w2,h2⟩:∃w2,w2=w1.alloc (.cells #[.int .i64 0,.int .i64 0,.slice none 0 0] 37):=⟨_,rfl⟩;have b1:Below w.heap.size w w1:=by rw[h1];exact bl1 _
 have b2:Below w1.heap.size w1 w2:=by rw[h2];exact bl1 _
 have s1:w1.heap.size=w.heap.size+1:=by rw[h1];simp
 have s2:w2.heap.size=w.heap.size+2:=by rw[h2];simp[s1]
 have f1:z0d w1 w.heap.size o:=by rw[h1];exact z0d.new _ _
 have f2:q0k w2 (w.heap.size+1) (.int .i64 0) (.int .i64 0) (.slice none 0 0):=by rw[<-s1,h2];exact q0k.new _ _ _ _
 exact⟨w2,by rw[h2,h1],b1.trans (b2.mono (by omega)),s2,f1.later b2,f2⟩
def q0z(w:World)(B:Nat)(R:q0a×z0D)(e:Ending)(w' :World):Prop:=∃(s:HSh)(vf:Value),e= .returned (.tuple #[s.v,q0m R.2.code R.2.val vf])/\HM w' B s R.1/\q0i w' B vf R.2.freed/\(∀g,vf.ownBlock=some g->¬q0u s g)/\Below B w w'
theorem q0D{w:World}{B:Nat}(h:HM w B s H){g:Nat}(hg:g<B\/w.heap.size<=g):¬q0u s g:=λhh=>by have:=z0X h hh;omega
theorem y0K{w wr:World}{n B:Nat}{vf:Value}{fr:List Int}{c v:Int}(hb:Below B w wr)(m:HM wr B s H)(f:q0i wr B vf fr)(d:∀g,vf.ownBlock=some g->¬q0u s g)(hn:B<=n)(h2:¬q0u s n)(h3:¬q0u s (n+1))(f2:vf.ownBlock≠some n)(f3:vf.ownBlock≠some (n+1))(y0 y1 y2 y3 z0 z1 z2:Value):
 q0z w B (H,⟨c,v,fr⟩) (.returned (.tuple #[s.v,q0m c v vf])) (q0g (q0p wr n y0 y1 y2 y3) (n+1) z0 z1 z2):=by
 have oth:∀g,g≠n->g≠n+1->(q0g (q0p wr n y0 y1 y2 y3) (n+1) z0 z1 z2).heap[g]? =wr.heap[g]?:=λg e1 e2=>(q0Q _ _ _ _ _ g e2).trans (q0T _ _ _ _ _ _ g e1);refine⟨s,vf,rfl,y0l m (by rw[x0k,z0U];exact Nat.le_refl _) (λg hg=>oth g (λe=>h2 (by rw[<-e];exact hg)) (λe=>h3 (by rw[<-e];exact hg))),q0v f (λg hg=>oth g (λe=>f2 (by rw[<-e];exact hg)) (λe=>f3 (by rw[<-e];exact hg))),d,?_⟩;unfold q0g q0p;iterate 7 refine Below.setCell ?_ (by simp only;omega) _
 exact hb
theorem z0W{w wr:World}{n B:Nat}{c v:Int}(hb:Below B w wr)(m:HM wr B s H)(hn:B<=n)(h2:¬q0u s n)(h3:¬q0u s (n+1))(y0 y1 y2 y3 z0 z1 z2:Value):
 q0z w B (H,⟨c,v,[]⟩) (.returned (.tuple #[s.v,q0m c v (.slice none 0 0)])) (q0g (q0p wr n y0 y1 y2 y3) (n+1) z0 z1 z2):=
 y0K hb m (z0H _ _) (λg hg=>by simp[Value.ownBlock]at hg) hn h2 h3 (by simp[Value.ownBlock]) (by simp[Value.ownBlock]) _ _ _ _ _ _ _
def j5Q(w:World)(B:Nat)(s:HSh):Prop:=∀X H2 c v y0 y1 y2 y3 z0 z1 z2,Below B w X->HM X B s H2->q0z w B (H2,⟨c,v,[]⟩) (.returned (.tuple #[.agg #[.slice s.oa s.os.length s.oc,.slice s.wa s.wn s.wc,.slice s.ba s.bn s.bc,.slice s.sa s.sn s.sc],q0m c v (.slice none 0 0)])) (q0g (q0p X (w.heap.size+1+1) y0 y1 y2 y3) (w.heap.size+1+1+1) z0 z1 z2)
theorem j5S{w:World}{B:Nat}(hB:B<=w.heap.size+1+1)(n2:¬q0u s (w.heap.size+1+1))(n3:¬q0u s (w.heap.size+1+1+1)):j5Q w B s:=
 λX H2 c v y0 y1 y2 y3 z0 z1 z2 h1 h2=>z0W h1 h2 hB n2 n3 y0 y1 y2 y3 z0 z1 z2
theorem hm_holds{w:World}{B:Nat}(h:HM w B s H)(k:Nat)(hk:k<H.objs.length)(g:Nat)(hg:s.oa=some ⟨g,0,none⟩)(z:Int):HM (w.setCell ⟨g,k*8+3,none⟩ (.int .i64 z)) B s (q0r H k {H.objs[k]with holds:=z}):=
 j1I h k hk g hg 3 (.int .i64 z) (by omega) _ rfl (λf ho=>
  ⟨by rw[q0q _ _ _ _ _ (by omega)];exact ho.c0,by rw[q0q _ _ _ _ _ (by omega)];exact ho.c1,by rw[q0q _ _ _ _ _ (by omega)];exact ho.c2,World.cell?_setCell_same w _ _ ho.c3,by rw[q0q _ _ _ _ _ (by omega)];exact ho.c4,
   by rw[q0q _ _ _ _ _ (by omega)];exact ho.c5,by rw[q0q _ _ _ _ _ (by omega)];exact ho.c6,by rw[q0q _ _ _ _ _ (by omega)];exact ho.c7⟩)
theorem z2g{w:World}{B:Nat}(h:HM w B s H)(k:Nat)(hk:k<H.objs.length)(g:Nat)(hg:s.oa=some ⟨g,0,none⟩)(z:Int):HM (w.setCell ⟨g,k*8+4,none⟩ (.int .i64 z)) B s (q0r H k {H.objs[k]with roots:=z}):=
 j1I h k hk g hg 4 (.int .i64 z) (by omega) _ rfl (λf ho=>
  ⟨by rw[q0q _ _ _ _ _ (by omega)];exact ho.c0,by rw[q0q _ _ _ _ _ (by omega)];exact ho.c1,by rw[q0q _ _ _ _ _ (by omega)];exact ho.c2,by rw[q0q _ _ _ _ _ (by omega)];exact ho.c3,World.cell?_setCell_same w _ _ ho.c4,
   by rw[q0q _ _ _ _ _ (by omega)];exact ho.c5,by rw[q0q _ _ _ _ _ (by omega)];exact ho.c6,by rw[q0q _ _ _ _ _ (by omega)];exact ho.c7⟩)
theorem j1J{w:World}{B:Nat}(h:HM w B s H)(k:Nat)(hk:k<H.weaks.length)(g:Nat)(hg:s.wa=some ⟨g,0,none⟩)(d:x0g):HM (z0y w g (k*2) d) B s {H with weaks:=H.weaks.set k d}:=by
 have hp:=h.sep
 have oth:∀x,q0u s x->x≠g->(z0y w g (k*2) d).heap[x]? =w.heap[x]?:=λx _ hx=>by
  unfold z0y;iterate 2 rw[heap_setCell_other _ _ _ _ (by exact hx)]
 obtain⟨g0,e0,hw0,hf0⟩:=h.wk k hk;rw[hg]at e0;injection e0 with e0;injection e0 with e0 _ _;subst e0
 exact{
  lo:=h.lo
  lw:=by simp[h.lw]
  lb:=h.lb
  ls:=h.ls
  o:=λi hi hi2=>by
   obtain⟨g2,h1,h2,h3⟩:=h.o i hi hi2;have hb:=oth g2 (.inl ⟨_,h1,rfl⟩) (λe=>hp.ow _ _ h1 hg (by simp only;exact e));exact⟨g2,h1,x1u h2 hb,λk hk=>(World.frozen?_of_block (a:=⟨g2,i*8+k,none⟩) hb).trans (h3 k hk)⟩
  f:=λi hi hi2=>⟨(h.f i hi hi2).1,q0v (h.f i hi hi2).2 (λx hx=>by
   obtain⟨y,hy,e⟩:=z0L hx;exact oth x (.inr (.inr (.inr (.inr ⟨_,List.getElem_mem hi2,y,hy,e⟩)))) (λe2=>hp.fw _ (List.getElem_mem hi2) _ y hg hy (by simp only;rw[e,e2])))⟩
  og:=λx hx=>⟨(h.og x hx).1,by unfold z0y;simp only[World.setCell,Array.size_modify];exact(h.og x hx).2⟩
  wk:=λi hi=>by
   simp only[List.length_set]at hi;obtain⟨g2,h1,h2,h3⟩:=h.wk i hi;rw[hg]at h1;injection h1 with h1;injection h1 with h1 _ _;subst h1;refine⟨g,hg,?_,λq hq=>by unfold z0y;rw[World.frozen?_setCell,World.frozen?_setCell];exact h3 q hq⟩;by_cases e:k=i
   ·subst e;simp only[List.getElem_set_self];unfold z0y;exact⟨by rw[q0q _ _ _ _ _ (by omega)];exact World.cell?_setCell_same w _ _ hw0.c0,World.cell?_setCell_same _ _ _ (by rw[q0q _ _ _ _ _ (by omega)];exact hw0.c1)⟩
   ·simp only[List.getElem_set_ne e];unfold z0y;exact⟨by rw[q0q _ _ _ _ _ (by omega),q0q _ _ _ _ _ (by omega)];exact h2.c0,by rw[q0q _ _ _ _ _ (by omega),q0q _ _ _ _ _ (by omega)];exact h2.c1⟩
  wg:=λx hx=>⟨(h.wg x hx).1,by unfold z0y;simp only[World.setCell,Array.size_modify];exact(h.wg x hx).2⟩
  b:=q0v h.b (λx hx=>by
   obtain⟨y,hy,e⟩:=z0L hx;exact oth x (.inr (.inr (.inl ⟨y,hy,e⟩))) (λe2=>hp.wb _ y hg hy (by simp only;rw[e,e2])))
  st:=j1a h.st (λx hx=>by
   obtain⟨y,hy,e⟩:=z0L hx;exact oth x (.inr (.inr (.inr (.inl ⟨y,hy,e⟩)))) (λe2=>hp.ws _ y hg hy (by simp only;rw[e,e2])))
  sep:=hp
  co:=h.co
  cw:=h.cw}
theorem y2q{w:World}{B:Nat}(h:HM w B s H)(k:Nat)(hk:k<H.objs.length)(hk2:k<s.os.length)(g:Nat)(hg:s.os[k].f=some ⟨g,0,none⟩)(j:Nat)(z:Int)(o' :q0E)(ho:o' ={H.objs[k]with field:=H.objs[k].field.set j z}):HM (w.setCell ⟨g,j,none⟩ (.int .i64 z)) B s (q0r H k o'):=by
 subst ho;have hp:=h.sep;have hm:=List.getElem_mem hk2;have oth:∀x,x≠g->(w.setCell ⟨g,j,none⟩ (.int .i64 z)).heap[x]? =w.heap[x]?:=λx hx=>heap_setCell_other _ _ _ _ (by exact hx)
 exact{
  lo:=by simp[h.lo,q0r]
  lw:=h.lw
  lb:=h.lb
  ls:=h.ls
  o:=λi hi hi2=>by
   have hi3:i<H.objs.length:=by simpa[q0r]using hi
   obtain⟨g2,h1,h2,h3⟩:=h.o i hi3 hi2;have hb:=oth g2 (λe=>hp.fo _ hm _ _ h1 hg (by simp only;exact e));refine⟨g2,h1,?_,λq hq=>(World.frozen?_of_block (a:=⟨g2,i*8+q,none⟩) hb).trans (h3 q hq)⟩;have h4:=x1u h2 hb;by_cases e:k=i
   ·subst e;simp only[q0r,List.getElem_set_self];exact⟨h4.c0,h4.c1,h4.c2,h4.c3,h4.c4,h4.c5,h4.c6,h4.c7⟩
   ·simp only[q0r,List.getElem_set_ne e];exact h4
  f:=λi hi hi2=>by
   have hi3:i<H.objs.length:=by simpa[q0r]using hi
   obtain⟨h1,h2⟩:=h.f i hi3 hi2;by_cases e:k=i
   ·subst e;simp only[q0r,List.getElem_set_self,List.length_set];refine⟨h1,?_⟩;rw[hg]at h2 ⊢;exact u1k h2 h1 j z
   ·simp only[q0r,List.getElem_set_ne e];refine⟨h1,q0v h2 (λx hx=>oth x (λe2=> ?_))⟩;obtain⟨y,hy,e3⟩:=z0L hx;rcases Nat.lt_or_gt_of_ne e with hl|hl
    ·exact(List.pairwise_iff_getElem.1 hp.ff) k i hk2 hi2 hl _ y hg hy (by simp only;rw[e3,e2])
    ·exact(List.pairwise_iff_getElem.1 hp.ff) i k hi2 hk2 hl y _ hy hg (by simp only;rw[e3,e2])
  og:=λx hx=>⟨(h.og x hx).1,by simp only[World.setCell,Array.size_modify];exact(h.og x hx).2⟩
  wk:=λi hi=>by
   obtain⟨g2,h1,h2,h3⟩:=h.wk i hi;have hb:=oth g2 (λe=>hp.fw _ hm _ _ h1 hg (by simp only;exact e));exact⟨g2,h1,h2.keep (λq=>World.cell?_of_block (a:=⟨g2,q,none⟩) hb),λq hq=>(World.frozen?_of_block (a:=⟨g2,i*2+q,none⟩) hb).trans (h3 q hq)⟩
  wg:=λx hx=>⟨(h.wg x hx).1,by simp only[World.setCell,Array.size_modify];exact(h.wg x hx).2⟩
  b:=q0v h.b (λx hx=>by
   obtain⟨y,hy,e⟩:=z0L hx;exact oth x (λe2=>hp.fb _ hm y _ hy hg (by simp only;rw[e,e2])))
  st:=j1a h.st (λx hx=>by
   obtain⟨y,hy,e⟩:=z0L hx;exact oth x (λe2=>hp.fs _ hm y _ hy hg (by simp only;rw[e,e2])))
  sep:=hp
  co:=h.co
  cw:=h.cw}
def y2d(s:HSh)(g:Nat):Prop:=(∃x,s.oa=some x/\x.block=g)\/(∃x,s.wa=some x/\x.block=g)\/(∃x,s.ba=some x/\x.block=g)\/∃t∈s.os,∃x,t.f=some x/\x.block=g
theorem y2d.has{g:Nat}(h:y2d s g):q0u s g:=by
 rcases h with h|h|h|h
 ·exact .inl h
 ·exact .inr (.inl h)
 ·exact .inr (.inr (.inl h))
 ·exact .inr (.inr (.inr (.inr h)))
theorem j1r{sa:Option Addr}{sn sc g:Nat}(h:q0u {s with sa:=sa,sn:=sn,sc:=sc} g):y2d s g\/∃x,sa=some x/\x.block=g:=by
 rcases h with h|h|h|h|h
 ·exact .inl (.inl h)
 ·exact .inl (.inr (.inl h))
 ·exact .inl (.inr (.inr (.inl h)))
 ·exact .inr h
 ·exact .inl (.inr (.inr (.inr h)))
theorem u3j{w:World}{B:Nat}(h:HM w B s H){g:Nat}(hg:y2d s g)(x:Addr)(hx:s.sa=some x):x.block≠g:=by
 have hp:=h.sep;rcases hg with⟨y,hy,rfl⟩|⟨y,hy,rfl⟩|⟨y,hy,rfl⟩|⟨t,ht,y,hy,rfl⟩
 ·exact hp.os.symm x y hx hy
 ·exact hp.ws.symm x y hx hy
 ·exact hp.bs.symm x y hx hy
 ·exact hp.fs t ht x y hx hy
theorem j4c{w w' :World}{B:Nat}(h:HM w B s H)(hsz:w.heap.size<=w'.heap.size)(hs:∀g,y2d s g->w'.heap[g]? =w.heap[g]?)(sa:Option Addr)(sn sc:Nat)(Z:List (List UInt8))(hn:sn=Z.length)(hb:z0E w' B (.slice sa sn sc) Z)(hd:∀x,sa=some x->¬y2d s x.block):
 HM w' B {s with sa:=sa,sn:=sn,sc:=sc} {H with sites:=Z} where
 lo:=h.lo
 lw:=h.lw
 lb:=h.lb
 ls:=hn
 o:=λj hj hj2=>by
  obtain⟨g,h1,h2,h3⟩:=h.o j hj hj2;have hg:=hs g (.inl ⟨_,h1,rfl⟩);exact⟨g,h1,x1u h2 hg,λk hk=>(World.frozen?_of_block (a:=⟨g,j*8+k,none⟩) hg).trans (h3 k hk)⟩
 f:=λj hj hj2=>⟨(h.f j hj hj2).1,q0v (h.f j hj hj2).2 (λg hg=>by obtain⟨x,hx,e⟩:=z0L hg;exact hs g (.inr (.inr (.inr ⟨_,List.getElem_mem hj2,x,hx,e⟩))))⟩
 og:=λx hx=>⟨(h.og x hx).1,Nat.lt_of_lt_of_le (h.og x hx).2 hsz⟩
 wk:=λj hj=>by
  obtain⟨g,h1,h2,h3⟩:=h.wk j hj;have hg:=hs g (.inr (.inl ⟨_,h1,rfl⟩));exact⟨g,h1,h2.keep (λk=>World.cell?_of_block (a:=⟨g,k,none⟩) hg),λk hk=>(World.frozen?_of_block (a:=⟨g,j*2+k,none⟩) hg).trans (h3 k hk)⟩
 wg:=λx hx=>⟨(h.wg x hx).1,Nat.lt_of_lt_of_le (h.wg x hx).2 hsz⟩
 b:=q0v h.b (λg hg=>by obtain⟨x,hx,e⟩:=z0L hg;exact hs g (.inr (.inr (.inl ⟨x,hx,e⟩))))
 st:=hb
 sep:=⟨h.sep.ow,h.sep.ob,λx y hx hy e=>hd y hy (.inl ⟨x,hx,e⟩),h.sep.wb,λx y hx hy e=>hd y hy (.inr (.inl ⟨x,hx,e⟩)),λx y hx hy e=>hd y hy (.inr (.inr (.inl ⟨x,hx,e⟩))),h.sep.fo,h.sep.fw,h.sep.fb,λt ht x y hx hy e=>hd x hx (.inr (.inr (.inr ⟨t,ht,y,hy,e.symm⟩))),h.sep.ff⟩
 co:=h.co
 cw:=h.cw
theorem j1L{W wr w1:World}{B gx:Nat}{s1:HSh}{H1:q0a}{vq vf vf1:Value}{todo fr fr1:List Int}(h:LS W wr B gx s H vq vf todo fr)(b1:Below wr.heap.size wr w1)(m1:HM w1 wr.heap.size s1 H1)(f1:q0i w1 wr.heap.size vf1 fr1)(d1:∀g,vf1.ownBlock=some g->¬q0u s1 g):
 LS W (q0p w1 gx (.slice s1.oa s1.os.length s1.oc) (.slice s1.wa s1.wn s1.wc) (.slice s1.ba s1.bn s1.bc) (.slice s1.sa s1.sn s1.sc)) B gx s1 H1 (.slice none 0 0) vf1 [] fr1:=by
 have hl:=h.x.lt;have hx1:=h.x.later b1;have nx:¬q0u s1 gx:=q0D m1 (.inl hl);have nf:vf1.ownBlock≠some gx:=λe=>by have:=(q0n f1 gx e).1;omega
 refine⟨?_,h.hB,?_,q0d.setAll hx1 _ _ _ _,h.gB,nx,.inl ⟨rfl,rfl⟩,?_,λg hg=>by simp[Value.ownBlock]at hg,d1,λg hg=>by simp[Value.ownBlock]at hg⟩
 ·unfold q0p;iterate 4 refine Below.setCell ?_ (by simp only;exact h.gB) _
  exact h.bel.trans (b1.mono h.le)
 ·exact z0G (y0l m1 (by rw[z0U];exact Nat.le_refl _) (λg hg=>q0T _ _ _ _ _ _ g (λe=>nx (by rw[<-e];exact hg)))) h.le
 ·exact q0A (q0v f1 (λg hg=>q0T _ _ _ _ _ _ g (λe=>nf (by rw[<-e];exact hg)))) h.le
theorem v3c{W wr:World}{B gx:Nat}{vq vf:Value}{todo fr:List Int}(h:LS W wr B gx s H vq vf todo fr)(n j:Nat)(u:Value)(hn:B<=n)(h1:¬q0u s n)(h2:n≠gx)(h3:vq.ownBlock≠some n)(h4:vf.ownBlock≠some n):LS W (wr.setCell ⟨n,j,none⟩ u) B gx s H vq vf todo fr:=by have oth:∀g,g≠n->(wr.setCell ⟨n,j,none⟩ u).heap[g]? =wr.heap[g]?:=λg hg=>heap_setCell_other _ _ _ _ (by exact hg);exact⟨h.bel.setCell (by exact hn) _,h.hB,y0l h.m (by simp[World.setCell]) (λg hg=>oth g (λe=>h1 (by rw[<-e];exact hg))),h.x.same (oth gx h2.symm),h.gB,h.sx,q1f h.q (λg hg=>oth g (λe=>h3 (by rw[<-e];exact hg))),q0v h.f (λg hg=>oth g (λe=>h4 (by rw[<-e];exact hg))),h.sq,h.sf,h.qf⟩
theorem u2w{W wr:World}{B gx:Nat}{vq vf:Value}{todo fr:List Int}(h:LS W wr B gx s H vq vf todo fr)(n:Nat)(y0 y1 y2:Value)(hn:B<=n)(h1:¬q0u s n)(h2:n≠gx)(h3:vq.ownBlock≠some n)(h4:vf.ownBlock≠some n):LS W (q0g wr n y0 y1 y2) B gx s H vq vf todo fr:=
 v3c (v3c (v3c h n 0 y0 hn h1 h2 h3 h4) n 1 y1 hn h1 h2 h3 h4) n 2 y2 hn h1 h2 h3 h4
structure y5x(H:q0a)(k fo:Nat)(c:Int)(st:Int->q0E):Prop where
 cell:∀X B s go,HM X B s H->s.oa=some ⟨go,0,none⟩->X.cell? ⟨go,k*8+fo,none⟩=some (.int .i64 c)/\X.frozen? ⟨go,k*8+fo,none⟩=false
 set:∀X B s go M,HM X B s H->s.oa=some ⟨go,0,none⟩->HM (X.setCell ⟨go,k*8+fo,none⟩ (.int .i64 M)) B s (q0r H k (st M))
 small:q0h H->∀M,q0h (q0r H k (st M))
 wf:(∀z∈H.objs,∀x∈z.field,q0w x)->∀M,∀z∈(q0r H k (st M)).objs,∀x∈z.field,q0w x
theorem times_holds(H:q0a)(k:Nat)(hk:k<H.objs.length):y5x H k 3 H.objs[k].holds (λM=>{H.objs[k]with holds:=M}):=
 ⟨λX B s go h hg=>by
   obtain⟨_,hob,hfz⟩:=z0o h k hk go hg;exact⟨hob.c3,hfz 3 (by omega)⟩,λX B s go M h hg=>hm_holds h k hk go hg M,
  λhs M=>x0W hs k _ (show H.objs[k].field.length<=_ from hs.fields _ (List.getElem_mem hk)),λhw M=>j0D hw k _ (show ∀x∈H.objs[k].field,q0w x from hw _ (List.getElem_mem hk))⟩
theorem y5A(H:q0a)(k:Nat)(hk:k<H.objs.length):y5x H k 4 H.objs[k].roots (λM=>{H.objs[k]with roots:=M}):=
 ⟨λX B s go h hg=>by
   obtain⟨_,hob,hfz⟩:=z0o h k hk go hg;exact⟨hob.c4,hfz 4 (by omega)⟩,λX B s go M h hg=>z2g h k hk go hg M,
  λhs M=>x0W hs k _ (show H.objs[k].field.length<=_ from hs.fields _ (List.getElem_mem hk)),λhw M=>j0D hw k _ (show ∀x∈H.objs[k].field,q0w x from hw _ (List.getElem_mem hk))⟩
theorem y5d{a:Int}{k:Nat}(hk:k<H.objs.length)(ek:q0l H a=(k:Int)):
 (20<=H.objs[k].holds->z0Y H 2 a=(H,⟨4,0,[]⟩))/\(¬20<=H.objs[k].holds->z0Y H 2 a=(z0n (q0r H k {H.objs[k]with holds:=H.objs[k].holds+1}) a,⟨0,0,[]⟩))/\
 (20<=H.objs[k].roots->z0Y H 5 a=(H,⟨4,0,[]⟩))/\(¬20<=H.objs[k].roots->z0Y H 5 a=(z0n (q0r H k {H.objs[k]with roots:=H.objs[k].roots+1}) a,⟨0,0,[]⟩))/\
 (H.objs[k].holds<1->z0Y H 3 a=(H,⟨5,0,[]⟩))/\(¬H.objs[k].holds<1->z0Y H 3 a=j0h (q0r H k {H.objs[k]with holds:=H.objs[k].holds - 1}) a)/\
 (H.objs[k].roots<1->z0Y H 6 a=(H,⟨5,0,[]⟩))/\(¬H.objs[k].roots<1->z0Y H 6 a=j0h (q0r H k {H.objs[k]with roots:=H.objs[k].roots - 1}) a):=by
 have hz:¬q0l H a<0:=by omega
 have hget:H.objs[((k:Int)).toNat]? =some H.objs[k]:=by rw[Int.toNat_natCast,List.getElem?_eq_getElem hk]
 refine⟨λht=> ?_,λht=> ?_,λht=> ?_,λht=> ?_,λht=> ?_,λht=> ?_,λht=> ?_,λht=> ?_⟩<;>(unfold z0Y;rw[if_neg hz,ek,hget];simp[ht,y0n])
end
section
open Go.RowKit
structure q0e where
 counts:List Int
 colors:List Int
def RdT(w:World)(v:Value)(T:q0e):Prop:=∃a c b d,v= .agg #[.slice a T.counts.length c,.slice b T.colors.length d]/\RdI w a T.counts/\RdI w b T.colors
theorem v0S{w w' :World}{v:Value}{T:q0e}(h:RdT w v T)(hb:Below w.heap.size w w'):RdT w' v T:=by obtain⟨a,c,b,d,h1,h2,h3⟩:=h;exact⟨a,c,b,d,h1,q0t h2 hb,q0t h3 hb⟩
structure v0p(T:q0e):Prop where
 counts:T.counts.length<=1048576
 colors:T.colors.length<=1048576
def x0f:List Int->Int->List Int
 |[],_=>[]
 |z::r,i=>if z=2 then i::x0f r (i+1)else x0f r (i+1)
def x0l(T:q0e):List Int:=x0f T.colors 0
theorem z2T(zs:List Int)(j:Nat)(h:j<zs.length):x0f (zs.drop j) (j:Int)=if zs[j]=2 then(j:Int)::x0f (zs.drop (j+1)) ((j+1:Nat):Int)else x0f (zs.drop (j+1)) ((j+1:Nat):Int):=by rw[List.drop_eq_getElem_cons h];simp[x0f]
theorem x2W(zs:List Int)(j:Nat)(h:zs.length<=j)(i:Int):x0f (zs.drop j) i=[]:=by rw[List.drop_eq_nil_of_le h];rfl
theorem x2b(v:Value)(T:q0e)(w:World)(h:RdT w v T)(hs:v0p T):
 Calls Tryz.prog 75 #[v] w λe w' =>∃u,e= .returned u/\q0i w' w.heap.size u (x0l T)/\Below w.heap.size w w' :=by
 obtain⟨aa,ac,ab,ad,rfl,-,ri⟩:=h;have hn:=hs.colors;clear hs;obtain⟨W,hW⟩:∃W,W=w.alloc (.cells #[.slice aa T.counts.length ac,.slice ab T.colors.length ad] 101):=⟨_,rfl⟩;have BW:Below w.heap.size w W:=by rw[hW];exact bl1 _
 have hsW:W.heap.size=w.heap.size+1:=by rw[hW];simp
 have hp:W.cell? ⟨w.heap.size,1,none⟩=some (.slice ab T.colors.length ad):=by rw[hW,World.cell?_alloc_mark];rfl
 have H0:Hid (x0l T=[]++x0f (T.colors.drop 0) ((0:Nat):Int)):=by show _=_;unfold x0l;rw[List.drop_zero];rfl
 have HS:Hid (∀(j:Nat)(h:j<T.colors.length),_):=λj h=>z2T T.colors j h;have HN:Hid (∀(j:Nat),T.colors.length<=j->x0f (T.colors.drop j) (j:Int)=[]):=λj h=>x2W T.colors j h _;have HR2:Hid (∀X,Below W.heap.size W X->RdI X ab T.colors):=λX hX=>q0t (q0t ri BW) hX;generalize x0l T=Z at*;generalize T.counts.length=nc at*;generalize T.colors=zs at*;obtain⟨n,hnn⟩:∃n,zs.length=n:=⟨_,rfl⟩;have Hn:Hid (zs.length=n):=hnn;rw[hnn]at hn hp hW ⊢;clear ri hnn;have O1:q0i (W.alloc (.cells #[] 3)) W.heap.size (.slice (some ⟨W.heap.size,0,none⟩) 0 0) []:=j0C _ _ nl0;have B1:Below W.heap.size W (W.alloc (.cells #[] 3)):=bl1 _;have HP:Hid (∀X,Below W.heap.size W X->X.cell? ⟨w.heap.size,1,none⟩=some (.slice ab n ad)):=λX hX=>(hX.cell (p:=⟨w.heap.size,1,none⟩) (by show w.heap.size<_;omega)).trans hp;have HsW:Hid (W.heap.size=w.heap.size+1):=hsW;clear hp hsW;go_enter Tryz.func75,Tryz.ntmps75;go_wp2;rw[<-hW];clear hW;go_loopw[3,4] (λv i wr=>∃(j:Nat)(P:List Int),j<=n/\i= .int .i64 j/\P.length<=j/\Hid (Z=P++x0f (zs.drop j) (j:Int))/\q0i wr W.heap.size v P/\Below W.heap.size W wr) (λ_ i _=>n - (intOf i).toNat)
 case atStart=>exact⟨0,[],by omega,rfl,by simp,H0,HsW.out▸O1,B1⟩
 case round=>
  obtain⟨j,P,hj,rfl,hPl,HJ,hown,hb⟩:=hrel;have hp:=HP.out _ hb;by_cases hlt:j<n
  ·have hj2:j<zs.length:=by have:=Hn.out;omega
   obtain⟨g,off,rfl,-,hc⟩:=HR2.out _ hb j hj2;have HD:Hid (_=_):=HS.out j hj2;generalize zs[j]=z at*;by_cases hz:z=2
   ·subst hz;have HZ:Hid (Z=(P++[(j:Int)])++x0f (zs.drop (j+1)) ((j+1:Nat):Int)):=by show _=_;rw[HJ.out,HD.out,if_pos rfl];simp
    clear HD;go_wp2_with (at_builtin;refine x0F rfl _ _ rfl W.heap.size _ P rfl (v0Y _ hown) ⟨wr.heap.size,0,none⟩ [(j:Int)] 1 1 rfl rfl ?hsrc ?hlen W (hb.alloc hb.size _) nl0 ?_)
    case hsrc=>exact j0X wr (j:Int)
    case hlen=>rw[List.length_singleton];omega
    ·intro v4 w4 O4 B4;go_wp2;go_roundw
     case rel=>exact⟨j+1,P++[(j:Int)],by omega,by go_num,by rw[List.length_append,List.length_singleton];omega,HZ,O4,B4⟩
     case measure=>simp[intOf];omega
   ·have HZ:Hid (Z=P++x0f (zs.drop (j+1)) ((j+1:Nat):Int)):=by show _=_;rw[HJ.out,HD.out,if_neg hz]
    clear HD;go_wp2;go_roundw
    case rel=>exact⟨j+1,P,by omega,by go_num,by omega,HZ,hown,hb⟩
    case measure=>simp[intOf];omega
  ·obtain rfl:j=n:=by omega
   have HZ:Hid (Z=P):=by show _=_;rw[HJ.out,HN.out j (by have:=Hn.out;omega),List.append_nil]
   go_wp2;go_ret
   exact⟨_,rfl,HZ.out▸q0A hown BW.size,BW.trans (hb.mono BW.size)⟩
def v0C(H:q0a):List Int->List Int
 |[]=>[]
 |z::r=>if 0<=q0l H z then q0l H z::v0C H r else v0C H r
theorem x3P(H:q0a)(zs:List Int)(j:Nat)(h:j<zs.length):v0C H (zs.drop j)=if 0<=q0l H zs[j]then q0l H zs[j]::v0C H (zs.drop (j+1))else v0C H (zs.drop (j+1)):=by rw[List.drop_eq_getElem_cons h];simp[v0C]
theorem u3n(H:q0a)(zs:List Int)(j:Nat)(h:zs.length<=j):v0C H (zs.drop j)=[]:=by rw[List.drop_eq_nil_of_le h];rfl
theorem v2c(H:q0a)(zs:List Int):(v0C H zs).length<=zs.length:=by
 induction zs with
 |nil=>simp[v0C]
 |cons z r ih=>unfold v0C;split<;>simp<;>omega
theorem q2j(v:Value)(H:q0a)(s:Nat)(w:World)(h:RdH w v H)(hs:q0h H)(hl:s<H.objs.length)(hf:∀z∈H.objs[s].field,q0w z):
 Calls Tryz.prog 104 #[v,.int .i64 (s:Int)] w λe w' =>∃u,e= .returned u/\q0i w' w.heap.size u (v0C H H.objs[s].field)/\Below w.heap.size w w' :=by
 have HRH:Hid (RdH w v H):=h;obtain⟨ao,co,aw,cw,ab,cb,sa,sc,rfl,ro,-,-,-⟩:=h;have hn:=hs.objs;have hfl:=hs.fields _ (List.getElem_mem hl);clear hs;obtain⟨W,hW⟩:∃W,W=w.alloc (.cells #[.slice ao H.objs.length co,.slice aw H.weaks.length cw,.slice ab H.buffer.length cb,.slice sa H.sites.length sc] 35):=⟨_,rfl⟩;have BW:Below w.heap.size w W:=by rw[hW];exact bl1 _
 have hsW:W.heap.size=w.heap.size+1:=by rw[hW];simp
 have hp0:W.cell? ⟨w.heap.size,0,none⟩=some (.slice ao H.objs.length co):=by rw[hW,World.cell?_alloc_mark];rfl
 have hp1:W.cell? ⟨w.heap.size,1,none⟩=some (.slice aw H.weaks.length cw):=by rw[hW,World.cell?_alloc_mark];rfl
 have hp2:W.cell? ⟨w.heap.size,2,none⟩=some (.slice ab H.buffer.length cb):=by rw[hW,World.cell?_alloc_mark];rfl
 have hp3:W.cell? ⟨w.heap.size,3,none⟩=some (.slice sa H.sites.length sc):=by rw[hW,World.cell?_alloc_mark];rfl
 obtain⟨g,off,f,fc,rfl,hg,hc,hr⟩:=ro s hl;have hc6:=hc.c6;have hcW:W.cell? ⟨g,off+s*8+6,none⟩=some (.slice f H.objs[s].field.length fc):=(BW.cell (p:=⟨g,off+s*8+6,none⟩) hg).trans hc6;have hrW:RdI W f H.objs[s].field:=q0t hr BW;have HRW:Hid (RdH W _ H):=q0s HRH.out BW;have hgW:g<W.heap.size:=by omega
 have HFC:Hid (∀X,Below W.heap.size W X->X.cell? ⟨g,off+s*8+6,none⟩=some (.slice f H.objs[s].field.length fc)):=λX hX=>(hX.cell (p:=⟨g,off+s*8+6,none⟩) hgW).trans hcW;have HRI:Hid (∀X,Below W.heap.size W X->RdI X f H.objs[s].field):=λX hX=>q0t hrW hX;have HRX:Hid (∀X,Below W.heap.size W X->RdH X _ H):=λX hX=>q0s HRW.out hX;have HF:Hid (∀z∈H.objs[s].field,q0w z):=hf;clear hc hc6 hcW hr hrW HRW HRH ro hf hg;generalize H.objs[s].field=zs at*;have H0:Hid (v0C H zs=[]++v0C H (zs.drop 0)):=by show _=_;rw[List.drop_zero];rfl
 have HS:Hid (∀(j:Nat)(h:j<zs.length),_):=λj h=>x3P H zs j h;have HN:Hid (∀(j:Nat),zs.length<=j->v0C H (zs.drop j)=[]):=λj h=>u3n H zs j h;generalize hZ:v0C H zs=Z at*;clear hZ;obtain⟨n,hnn⟩:∃n,H.objs.length=n:=⟨_,rfl⟩;have Hn:Hid (H.objs.length=n):=hnn;have CS:Hid (∀(z:Int)X,q0w z->RdH X _ H->_):=λz X hz hX=>z0k (.agg #[.slice (some ⟨g,off,none⟩) H.objs.length co,.slice aw H.weaks.length cw,.slice ab H.buffer.length cb,.slice sa H.sites.length sc]) H z X hX (by omega) hz.1 hz.2;rw[hnn]at hn hp0 hW hl CS HRX ⊢;clear hnn;have O1:q0i (W.alloc (.cells #[] 3)) W.heap.size (.slice (some ⟨W.heap.size,0,none⟩) 0 0) []:=j0C _ _ nl0;have B1:Below W.heap.size W (W.alloc (.cells #[] 3)):=bl1 _;have hlt0:w.heap.size<W.heap.size:=by omega
 have HP:Hid (∀X,Below W.heap.size W X->X.cell? ⟨w.heap.size,0,none⟩=some (.slice (some ⟨g,off,none⟩) n co)/\X.cell? ⟨w.heap.size,1,none⟩=some (.slice aw H.weaks.length cw)/\X.cell? ⟨w.heap.size,2,none⟩=some (.slice ab H.buffer.length cb)/\X.cell? ⟨w.heap.size,3,none⟩=some (.slice sa H.sites.length sc)):=λX hX=>⟨(hX.cell (p:=⟨w.heap.size,0,none⟩) hlt0).trans hp0,(hX.cell (p:=⟨w.heap.size,1,none⟩) hlt0).trans hp1,(hX.cell (p:=⟨w.heap.size,2,none⟩) hlt0).trans hp2,(hX.cell (p:=⟨w.heap.size,3,none⟩) hlt0).trans hp3⟩;have HsW:Hid (W.heap.size=w.heap.size+1):=hsW;clear hp0 hp1 hp2 hp3 hsW hlt0 hgW;go_enter Tryz.func104,Tryz.ntmps104;go_wp2;rw[<-hW];clear hW;go_loopw[5,6] (λv i wr=>∃(j:Nat)(P:List Int),j<=zs.length/\i= .int .i64 j/\P.length<=j/\Hid (Z=P++v0C H (zs.drop j))/\q0i wr W.heap.size v P/\Below W.heap.size W wr) (λ_ i _=>zs.length - (intOf i).toNat)
 case atStart=>exact⟨0,[],by omega,rfl,by simp,H0,HsW.out▸O1,B1⟩
 case round=>
  obtain⟨j,P,hj,rfl,hPl,HJ,hown,hb⟩:=hrel;obtain⟨p0,p1,p2,p3⟩:=HP.out _ hb;have hfc:=HFC.out _ hb;by_cases hlt:j<zs.length
  ·obtain⟨fg,fo,rfl,hfg,hcz⟩:=HRI.out _ hb j hlt;have HD:Hid (_=_):=HS.out j hlt;have hz64:=HF.out _ (List.getElem_mem hlt);generalize zs[j]=z at*;have hne:=q0b.some_ wr;have HPX:Hid (∀X:q0b wr,_):=λX=>HP.out X.on (hb.trans (X.bel.mono hb.size));have y0:∀X:q0b wr,X.on.cell? ⟨w.heap.size,0,none⟩=some (.slice (some ⟨g,off,none⟩) n co):=λX=>(HPX.out X).1;have y1:∀X:q0b wr,X.on.cell? ⟨w.heap.size,1,none⟩=some (.slice aw H.weaks.length cw):=λX=>(HPX.out X).2.1;have y2:∀X:q0b wr,X.on.cell? ⟨w.heap.size,2,none⟩=some (.slice ab H.buffer.length cb):=λX=>(HPX.out X).2.2.1;have y3:∀X:q0b wr,X.on.cell? ⟨w.heap.size,3,none⟩=some (.slice sa H.sites.length sc):=λX=>(HPX.out X).2.2.2;have y6:∀X:q0b wr,X.on.cell? ⟨g,off+s*8+6,none⟩=some (.slice (some ⟨fg,fo,none⟩) zs.length fc):=λX=>HFC.out X.on (hb.trans (X.bel.mono hb.size));have yz:∀X:q0b wr,X.on.cell? ⟨fg,fo+j,none⟩=some (.int .i64 z):=λX=>(X.bel.cell (p:=⟨fg,fo+j,none⟩) hfg).trans hcz;have CSX:Hid (∀X:q0b wr,_):=λX=>CS.out z X.on hz64 (HRX.out X.on (hb.trans (X.bel.mono hb.size)));have i1:(s:Int)<(n:Int):=by omega
   have i2:(j:Int)<(zs.length:Int):=by omega
   clear hcz;obtain⟨sl,hsl⟩:∃sl,q0l H z=sl:=⟨_,rfl⟩
   have hsl7: -1<=sl/\sl<=7:=by
    rw[<-hsl];unfold q0l;split
    ·omega
    ·split
     ·omega
     ·split<;>omega
   rw[hsl]at HD CSX;clear hsl;go_wp2;refine q0j wr bl0 (by kernel_rfl) (by kernel_rfl) ?_
   repeat (go_big_quiet_step (first
    |(go_at_call 64;refine(CSX.out _).mono ?_;rintro e w1 ⟨rfl,b1⟩;exact⟨rfl,q0b.step _ b1⟩)))
   refine wpQuiet_nil ?_;intro X hXe;have hX:Below wr.heap.size wr X:=by obtain⟨q,hq⟩:=hXe;rw[hq];exact q.bel
   clear hXe;have hown2:=q0o hown hX;have hb2:=hb.trans (hX.mono hb.size);clear y0 y1 y2 y3 y6 yz hne HPX CSX hown hb p0 p1 p2 p3 hfc;by_cases hz:0<=sl
   ·have HZ:Hid (Z=(P++[sl])++v0C H (zs.drop (j+1))):=by show _=_;rw[HJ.out,HD.out,if_pos hz];simp
    clear HD;go_wp2_with (at_builtin;refine x0F rfl _ _ rfl W.heap.size _ P rfl (v0Y _ hown2) ⟨X.heap.size,0,none⟩ [sl] 1 1 rfl rfl ?hsrc ?hlen W (hb2.alloc hb2.size _) nl0 ?_)
    case hsrc=>exact j0X X sl
    case hlen=>rw[List.length_singleton];omega
    ·intro v4 w4 O4 B4;go_wp2;go_roundw
     case rel=>exact⟨j+1,P++[sl],by omega,by go_num,by rw[List.length_append,List.length_singleton];omega,HZ,O4,B4⟩
     case measure=>simp[intOf];omega
   ·have HZ:Hid (Z=P++v0C H (zs.drop (j+1))):=by show _=_;rw[HJ.out,HD.out,if_neg hz]
    clear HD;go_wp2;go_roundw
    case rel=>exact⟨j+1,P,by omega,by go_num,by omega,HZ,hown2,hb2⟩
    case measure=>simp[intOf];omega
  ·have e:zs.length<=j:=by omega
   have HZ:Hid (Z=P):=by show _=_;rw[HJ.out,HN.out j e,List.append_nil]
   go_wp2;go_ret
   exact⟨_,rfl,HZ.out▸q0A hown BW.size,BW.trans (hb.mono BW.size)⟩
end
section
open Go.RowKit
def x0A(c:Int)(zs:List Int):Nat:=zs.countP (λz=> !decide (z=c))
theorem q3P(c:Int)(zs:List Int):x0A c zs<=zs.length:=List.countP_le_length
theorem z2q(c:Int)(zs:List Int)(i:Nat)(h:i<zs.length)(hne:zs[i]≠c):x0A c (zs.set i c)+1=x0A c zs:=by unfold x0A;have h1:=List.countP_set (p:=λz:Int=> !decide (z=c)) (l:=zs) (i:=i) (a:=c) h;have h2:0<zs.countP (λz=> !decide (z=c)):=List.countP_pos_iff.2 ⟨zs[i],List.getElem_mem _,by simpa using hne⟩;rw[h1];simp only[hne,decide_false,decide_true,Bool.not_false,Bool.not_true,if_true,Bool.false_eq_true,if_false];omega
def x0q(c:Int)(zs:List Int):Nat:=zs.countP (λz=>decide (z=c))
theorem q4g(c:Int)(zs:List Int):x0q c zs<=zs.length:=List.countP_le_length
theorem v2B(c d:Int)(zs:List Int)(i:Nat)(h:i<zs.length)(hcd:d≠c):x0q c (zs.set i d)<=x0q c zs:=by unfold x0q;rw[List.countP_set (p:=λz:Int=>decide (z=c)) (l:=zs) (i:=i) (a:=d) h];simp only[hcd,decide_false,Bool.false_eq_true,if_false];omega
theorem q2Z(c d:Int)(zs:List Int)(i:Nat)(h:i<zs.length)(hcd:d≠c)(hi:zs[i]=c):x0q c (zs.set i d)+1=x0q c zs:=by unfold x0q;have h1:=List.countP_set (p:=λz:Int=>decide (z=c)) (l:=zs) (i:=i) (a:=d) h;have h2:0<zs.countP (λz=>decide (z=c)):=List.countP_pos_iff.2 ⟨zs[i],List.getElem_mem _,by simpa using hi⟩;rw[h1];simp only[hi,hcd,decide_false,decide_true,Bool.false_eq_true,if_true,if_false];omega
def q0I(T:q0e):Prop:=T.counts.length=8/\T.colors.length=8
def x0j(zs:List Int):Prop:=∀z∈zs,0<=z/\z<=7
def q0P(H:q0a)(k:Int):List Int:=match H.objs[k.toNat]?with
 |some o=>v0C H o.field
 |none=>[]
theorem x1R(H:q0a)(z:Int): -1<=q0l H z/\q0l H z<=7:=by
 unfold q0l;split
 ·omega
 ·split
  ·omega
  ·split<;>omega
theorem j1u(H:q0a)(zs:List Int):x0j (v0C H zs):=by
 induction zs with
 |nil=>intro z hz;simp[v0C]at hz
 |cons x r ih=>
  intro z hz;unfold v0C at hz;split at hz
  ·rename_i h0
   rcases List.mem_cons.1 hz with rfl|hz
   ·exact⟨h0,(x1R H x).2⟩
   ·exact ih z hz
  ·exact ih z hz
theorem x0I(H:q0a)(k:Int):x0j (q0P H k):=by
 unfold q0P;split
 ·exact j1u H _
 ·intro z hz;cases hz
theorem y1W(H:q0a)(s:Nat)(h:s<H.objs.length):q0P H (s:Int)=v0C H H.objs[s].field:=by unfold q0P;rw[show((s:Int)).toNat=s from by omega,List.getElem?_eq_getElem h]
theorem x2z(H:q0a)(k:Int)(hs:q0h H):(q0P H k).length<=1048576:=by
 unfold q0P;split
 ·rename_i o ho
  have h1:=hs.fields o (List.mem_of_getElem? ho);exact Nat.le_trans (v2c H _) h1
 ·simp
def x0m(d c:Int)(p:q0e×List Int)(z:Int):q0e×List Int:=
 if p.1.colors.getD z.toNat 0=c then(⟨p.1.counts.set z.toNat (wrap64 (p.1.counts.getD z.toNat 0+d)),p.1.colors⟩,p.2)
 else(⟨p.1.counts.set z.toNat (wrap64 (p.1.counts.getD z.toNat 0+d)),p.1.colors.set z.toNat c⟩,p.2++[z])
def mu(c:Int)(p:q0e×List Int):Nat:=2*x0A c p.1.colors+p.2.length
theorem j2m(d c:Int)(p:q0e×List Int)(z:Int)(h8:q0I p.1)(hs:x0j p.2)(hz:0<=z/\z<=7):
 q0I (x0m d c p z).1/\x0j (x0m d c p z).2/\mu c (x0m d c p z)<=mu c p:=by
 obtain⟨h1,h2⟩:=h8;unfold x0m;split
 ·exact⟨⟨by simpa using h1,h2⟩,hs,Nat.le_refl _⟩
 ·rename_i hne
  have hi:z.toNat<p.1.colors.length:=by omega
  rw[List.getD_eq_getElem?_getD,List.getElem?_eq_getElem hi,Option.getD_some]at hne;refine⟨⟨by simpa using h1,by simpa using h2⟩,λx hx=> ?_,?_⟩
  ·rcases List.mem_append.1 hx with hx|hx
   ·exact hs x hx
   ·rw[List.mem_singleton.1 hx];exact hz
  ·have:=z2q c p.1.colors z.toNat hi hne;simp only[mu,List.length_append,List.length_singleton];omega
theorem u2u(d c:Int)(ks:List Int):∀(p:q0e×List Int),q0I p.1->x0j p.2->x0j ks->q0I (ks.foldl (x0m d c) p).1/\x0j (ks.foldl (x0m d c) p).2/\mu c (ks.foldl (x0m d c) p)<=mu c p:=by
 induction ks with
 |nil=>intro p h8 hs _;exact⟨h8,hs,Nat.le_refl _⟩
 |cons z r ih=>intro p h8 hs hk;obtain⟨a1,a2,a3⟩:=j2m d c p z h8 hs (hk z (by simp));obtain⟨b1,b2,b3⟩:=ih _ a1 a2 (λx hx=>hk x (by simp[hx]));exact⟨b1,b2,Nat.le_trans b3 a3⟩
def y0S(d c:Int)(kids:Int->List Int)(T:q0e)(rest:List Int)(k:Int):q0e×List Int:=(kids k).foldl (x0m d c) (T,rest)
def x1f(d c:Int)(kids:Int->List Int):Nat->q0e->List Int->q0e
 |0,T,_=>T
 |f+1,T,todo=>match todo.getLast? with
  |none=>T
  |some k=>x1f d c kids f (y0S d c kids T todo.dropLast k).1 (y0S d c kids T todo.dropLast k).2
theorem u0r(d c:Int)(kids:Int->List Int)(f:Nat)(T:q0e):x1f d c kids f T []=T:=by cases f<;>rfl
theorem z1D(d c:Int)(kids:Int->List Int)(f:Nat)(T:q0e)(rest:List Int)(k:Int):x1f d c kids (f+1) T (rest++[k])=x1f d c kids f (y0S d c kids T rest k).1 (y0S d c kids T rest k).2:=by simp[x1f]
theorem v1e(d c:Int)(kids:Int->List Int)(hk:∀k,x0j (kids k))(T:q0e)(rest:List Int)(k:Int)(h8:q0I T)(hs:x0j (rest++[k])):
 q0I (y0S d c kids T rest k).1/\x0j (y0S d c kids T rest k).2/\mu c (y0S d c kids T rest k)<mu c (T,rest++[k]):=by
 obtain⟨a1,a2,a3⟩:=u2u d c (kids k) (T,rest) h8 (λx hx=>hs x (by simp[hx])) (hk k);refine⟨a1,a2,Nat.lt_of_le_of_lt a3 ?_⟩;simp[mu]
theorem y3l(d c:Int)(kids:Int->List Int)(hk:∀k,x0j (kids k)):∀(f:Nat)(T:q0e)(todo:List Int),q0I T->x0j todo->q0I (x1f d c kids f T todo):=by
 intro f
 induction f with
 |zero=>intro T todo h8 _;exact h8
 |succ f ih=>
  intro T todo h8 hs;rcases List.eq_nil_or_concat todo with rfl|⟨rest,k,rfl⟩
  ·rw[u0r];exact h8
  ·rw[List.concat_eq_append]at hs ⊢;rw[z1D];obtain⟨a1,a2,_⟩:=v1e d c kids hk T rest k h8 hs;exact ih _ _ a1 a2
theorem j3L(d c:Int)(kids:Int->List Int)(hk:∀k,x0j (kids k)):∀(m:Nat)(f g:Nat)(T:q0e)(todo:List Int),q0I T->x0j todo->mu c (T,todo)<=m->m<=f->m<=g->x1f d c kids f T todo=x1f d c kids g T todo:=by
 intro m
 induction m with
 |zero=>intro f g T todo h8 hs hm hf hg;have:todo=[]:=List.eq_nil_of_length_eq_zero (by simp only[mu]at hm;omega);subst this;rw[u0r,u0r]
 |succ m ih=>
  intro f g T todo h8 hs hm hf hg;rcases List.eq_nil_or_concat todo with rfl|⟨rest,k,rfl⟩
  ·rw[u0r,u0r]
  ·rw[List.concat_eq_append]at hs hm ⊢;obtain⟨f,rfl⟩:∃f',f=f' +1:=⟨f - 1,by omega⟩;obtain⟨g,rfl⟩:∃g',g=g' +1:=⟨g - 1,by omega⟩;rw[z1D,z1D];obtain⟨a1,a2,a3⟩:=v1e d c kids hk T rest k h8 hs;exact ih f g _ _ a1 a2 (by show mu c (y0S d c kids T rest k)<=m;omega) (by omega) (by omega)
def x0p(d c:Int)(H:q0a)(T:q0e)(todo:List Int):q0e:=x1f d c (q0P H) (mu c (T,todo)) T todo
theorem x2f(d c:Int)(H:q0a)(T:q0e):x0p d c H T []=T:=u0r _ _ _ _ _
theorem q2O(d c:Int)(H:q0a)(T:q0e)(rest:List Int)(k:Int)(h8:q0I T)(hs:x0j (rest++[k])):x0p d c H T (rest++[k])=x0p d c H (y0S d c (q0P H) T rest k).1 (y0S d c (q0P H) T rest k).2:=by obtain⟨a1,a2,a3⟩:=v1e d c (q0P H) (x0I H) T rest k h8 hs;unfold x0p;obtain⟨m,hm⟩:∃m,mu c (T,rest++[k])=m+1:=⟨mu c (T,rest++[k]) - 1,by omega⟩;rw[hm,z1D];exact j3L d c (q0P H) (x0I H) _ _ _ _ _ a1 a2 nl0 (by show mu c (y0S d c (q0P H) T rest k)<=m;omega) nl0
theorem u1S(d c:Int)(H:q0a)(T:q0e)(todo:List Int)(h8:q0I T)(hs:x0j todo):q0I (x0p d c H T todo):=y3l d c _ (x0I H) _ T todo h8 hs
def z2d(H:q0a)(T:q0e)(slot:Int):q0e:=x0p (-1) 1 H ⟨T.counts,T.colors.set slot.toNat 1⟩ [slot]
def q1K(H:q0a)(T:q0e)(slot:Int):q0e:=x0p 1 0 H ⟨T.counts,T.colors.set slot.toNat 0⟩ [slot]
end
section
open Go.RowKit
theorem j2l(d c e:Int)(hc:c≠e)(p:q0e×List Int)(z:Int)(h8:q0I p.1)(hz:0<=z/\z<=7):x0q e (x0m d c p z).1.colors<=x0q e p.1.colors:=by
 unfold x0m;split
 ·exact Nat.le_refl _
 ·exact v2B e c p.1.colors z.toNat (by have:=h8.2;omega) hc
theorem x3Q(d c e:Int)(hc:c≠e)(ks:List Int):∀(p:q0e×List Int),q0I p.1->x0j p.2->x0j ks->x0q e (ks.foldl (x0m d c) p).1.colors<=x0q e p.1.colors:=by
 induction ks with
 |nil=>intro p _ _ _;exact Nat.le_refl _
 |cons z r ih=>intro p h8 hs hk;obtain⟨a1,a2,_⟩:=j2m d c p z h8 hs (hk z (by simp));exact Nat.le_trans (ih _ a1 a2 (λx hx=>hk x (by simp[hx]))) (j2l d c e hc p z h8 (hk z (by simp)))
theorem u2U(d c e:Int)(hc:c≠e)(kids:Int->List Int)(hk:∀k,x0j (kids k)):∀(f:Nat)(T:q0e)(todo:List Int),q0I T->x0j todo->x0q e (x1f d c kids f T todo).colors<=x0q e T.colors:=by
 intro f
 induction f with
 |zero=>intro T todo _ _;exact Nat.le_refl _
 |succ f ih=>
  intro T todo h8 hs;rcases List.eq_nil_or_concat todo with rfl|⟨rest,k,rfl⟩
  ·rw[u0r];exact Nat.le_refl _
  ·rw[List.concat_eq_append]at hs ⊢;rw[z1D];obtain⟨a1,a2,_⟩:=v1e d c kids hk T rest k h8 hs;exact Nat.le_trans (ih _ _ a1 a2) (x3Q d c e hc (kids k) (T,rest) h8 (λx hx=>hs x (by simp[hx])) (hk k))
theorem y3H(H:q0a)(T:q0e)(k:Int)(h8:q0I T)(hk:0<=k/\k<=7):q0I (q1K H T k):=
 u1S 1 0 H _ _ ⟨h8.1,by simpa using h8.2⟩ (λz hz=>by rw[List.mem_singleton.1 hz];exact hk)
theorem u3X(H:q0a)(T:q0e)(k:Int)(h8:q0I T)(hk:0<=k/\k<=7):x0q 1 (q1K H T k).colors<=x0q 1 T.colors:=by refine Nat.le_trans (u2U 1 0 1 (by decide) (q0P H) (x0I H) _ _ _ ⟨h8.1,by simpa using h8.2⟩ (λz hz=>by rw[List.mem_singleton.1 hz];exact hk)) ?_;exact v2B 1 0 T.colors k.toNat (by have:=h8.2;omega) (by decide)
def u0p(H:q0a)(T:q0e)(rest:List Int)(k:Int):q0e×List Int:=
 if T.colors.getD k.toNat 0≠1 then(T,rest)
 else if 0<T.counts.getD k.toNat 0 then(q1K H T k,rest)
 else(⟨T.counts,T.colors.set k.toNat 2⟩,rest++q0P H k)
def nu(p:q0e×List Int):Nat:=x0q 1 p.1.colors*1048577+p.2.length
theorem z2F(H:q0a)(hs:q0h H)(T:q0e)(rest:List Int)(k:Int)(h8:q0I T)(ht:x0j (rest++[k])):
 q0I (u0p H T rest k).1/\x0j (u0p H T rest k).2/\nu (u0p H T rest k)<nu (T,rest++[k]):=by
 have hk:=ht k (by simp);have hr:x0j rest:=λz hz=>ht z (by simp[hz]);have hi:k.toNat<T.colors.length:=by have:=h8.2;omega
 unfold u0p;split
 ·exact⟨h8,hr,by simp[nu]⟩
 ·rename_i hg
  split
  ·refine⟨y3H H T k h8 hk,hr,?_⟩;have h1:=Nat.mul_le_mul_right 1048577 (u3X H T k h8 hk);simp only[nu,List.length_append,List.length_singleton];omega
  ·have hg2:T.colors[k.toNat]=1:=by
    have h1:=Decidable.not_not.1 hg;rw[List.getD_eq_getElem?_getD,List.getElem?_eq_getElem hi,Option.getD_some]at h1;exact h1
   refine⟨⟨h8.1,by simpa using h8.2⟩,λz hz=> ?_,?_⟩
   ·rcases List.mem_append.1 hz with hz|hz
    ·exact hr z hz
    ·exact x0I H k z hz
   ·have h1:=q2Z 1 2 T.colors k.toNat hi (by decide) hg2;have h2:=x2z H k hs;simp only[nu,List.length_append,List.length_singleton];rw[<-h1,Nat.add_mul];omega
def u1o(H:q0a):Nat->q0e->List Int->q0e
 |0,T,_=>T
 |f+1,T,todo=>match todo.getLast? with
  |none=>T
  |some k=>u1o H f (u0p H T todo.dropLast k).1 (u0p H T todo.dropLast k).2
theorem v1i(H:q0a)(f:Nat)(T:q0e):u1o H f T []=T:=by cases f<;>rfl
theorem u1O(H:q0a)(f:Nat)(T:q0e)(rest:List Int)(k:Int):u1o H (f+1) T (rest++[k])=u1o H f (u0p H T rest k).1 (u0p H T rest k).2:=by simp[u1o]
theorem v4W(H:q0a)(hs:q0h H):∀(m f g:Nat)(T:q0e)(todo:List Int),q0I T->x0j todo->nu (T,todo)<=m->m<=f->m<=g->u1o H f T todo=u1o H g T todo:=by
 intro m
 induction m with
 |zero=>intro f g T todo h8 ht hm hf hg;have:todo=[]:=List.eq_nil_of_length_eq_zero (by simp only[nu]at hm;omega);subst this;rw[v1i,v1i]
 |succ m ih=>
  intro f g T todo h8 ht hm hf hg;rcases List.eq_nil_or_concat todo with rfl|⟨rest,k,rfl⟩
  ·rw[v1i,v1i]
  ·rw[List.concat_eq_append]at ht hm ⊢;obtain⟨f,rfl⟩:∃f',f=f' +1:=⟨f - 1,by omega⟩;obtain⟨g,rfl⟩:∃g',g=g' +1:=⟨g - 1,by omega⟩;rw[u1O,u1O];obtain⟨a1,a2,a3⟩:=z2F H hs T rest k h8 ht;exact ih f g _ _ a1 a2 (by show nu (u0p H T rest k)<=m;omega) (by omega) (by omega)
def v1u(H:q0a)(T:q0e)(todo:List Int):q0e:=u1o H (nu (T,todo)) T todo
theorem j3F(H:q0a)(T:q0e):v1u H T []=T:=v1i _ _ _
theorem v3W(H:q0a)(hs:q0h H)(T:q0e)(rest:List Int)(k:Int)(h8:q0I T)(ht:x0j (rest++[k])):v1u H T (rest++[k])=v1u H (u0p H T rest k).1 (u0p H T rest k).2:=by obtain⟨a1,a2,a3⟩:=z2F H hs T rest k h8 ht;unfold v1u;obtain⟨m,hm⟩:∃m,nu (T,rest++[k])=m+1:=⟨nu (T,rest++[k]) - 1,by omega⟩;rw[hm,u1O];exact v4W H hs _ _ _ _ _ a1 a2 nl0 (by show nu (u0p H T rest k)<=m;omega) nl0
def v1W(H:q0a)(T:q0e)(slot:Int):q0e:=v1u H T [slot]
end
section
open Go.RowKit
variable{H:q0a}{T T0:q0e}
def col(T:q0e)(j:Nat):Int:=T.colors.getD j 0
def cnt(T:q0e)(j:Nat):Int:=T.counts.getD j 0
def y1R(d:Int):Nat->Int->Int
 |0,z=>z
 |n+1,z=>wrap64 (y1R d n z+d)
theorem y4f(d:Int)(m n:Nat)(z:Int):y1R d (m+n) z=y1R d n (y1R d m z):=by
 induction n with
 |zero=>rfl
 |succ n ih=>rw[<-Nat.add_assoc];simp only[y1R];rw[ih]
theorem y2p(zs:List Int)(i j:Nat)(x:Int)(h:i<zs.length):(zs.set i x).getD j 0=if i=j then x else zs.getD j 0:=by
 simp only[List.getD_eq_getElem?_getD,List.getElem?_set];by_cases e:i=j
 ·subst e;simp[h]
 ·simp[e]
theorem q3o{A B:q0e}(hA:q0I A)(hB:q0I B)(h1:∀j,j<8->col A j=col B j)(h2:∀j,j<8->cnt A j=cnt B j):A=B:=by
 obtain⟨a1,a2⟩:=A;obtain⟨b1,b2⟩:=B;simp only[q0I]at hA hB
 have key:∀(x y:List Int),x.length=8->y.length=8->(∀j,j<8->x.getD j 0=y.getD j 0)->x=y:=by intro x y hx hy h;refine List.ext_getElem (by omega) (λi h3 h4=> ?_);have:=h i (by omega);simpa[List.getD_eq_getElem?_getD,List.getElem?_eq_getElem h3,List.getElem?_eq_getElem h4]using this
 rw[key a1 b1 hA.1 hB.1 h2,key a2 b2 hA.2 hB.2 h1]
structure Pt(d c:Int)(T0 T:q0e)(C:List Nat)(M:List Int):Prop where
 e:q0I T
 col:∀j,j<8->col T j=if j∈C then c else col T0 j
 cnt:∀j,j<8->cnt T j=y1R d (M.count (j:Int)) (cnt T0 j)
theorem u3y(d c:Int)(T:q0e)(h:q0I T):Pt d c T T [] []:=⟨h,λj _=>by simp,λj _=>by simp[y1R]⟩
theorem v3D{d c:Int}{C:List Nat}{M:List Int}(h:Pt d c T0 T C M)(k:Nat)(hk:k<8):Pt d c T0 ⟨T.counts,T.colors.set k c⟩ (C++[k]) M:=by
 refine⟨⟨h.e.1,by simpa using h.e.2⟩,λj hj=> ?_,h.cnt⟩;show(T.colors.set k c).getD j 0=_;rw[y2p _ _ _ _ (by have:=h.e.2;omega)];have:=h.col j hj;unfold Go.Proofs.YtebgngofnmcklaaGreat.col at this;by_cases e:k=j
 ·subst e;simp
 ·rw[if_neg e,this];have:¬j=k:=λx=>e x.symm;simp[this,Go.Proofs.YtebgngofnmcklaaGreat.col]
theorem v3C{d c:Int}{C:List Nat}{M:List Int}(h:Pt d c T0 T C M)(z:Int)(hz:0<=z/\z<=7):Pt d c T0 ⟨T.counts.set z.toNat (wrap64 (T.counts.getD z.toNat 0+d)),T.colors⟩ C (M++[z]):=by
 refine⟨⟨by simpa using h.e.1,h.e.2⟩,h.col,λj hj=> ?_⟩;show(T.counts.set z.toNat _).getD j 0=_;rw[y2p _ _ _ _ (by have:=h.e.1;omega)];have hc:=h.cnt j hj;unfold Go.Proofs.YtebgngofnmcklaaGreat.cnt at hc;rw[List.count_append];by_cases e:z.toNat=j
 ·have ez:z=(j:Int):=by omega
  subst ez;rw[if_pos e,e,hc];simp[y1R,Go.Proofs.YtebgngofnmcklaaGreat.cnt]
 ·have ez:¬z=(j:Int):=by omega
  have h0:List.count (j:Int) [z]=0:=List.count_eq_zero_of_not_mem (by simp;exactλx=>ez x.symm);rw[if_neg e,hc,h0,Nat.add_zero];rfl
theorem u3x{d c:Int}{C C' :List Nat}{M M' :List Int}(h:Pt d c T0 T C M)(hC:∀j,j∈C↔j∈C')(hM:M.Perm M'):Pt d c T0 T C' M' :=
 ⟨h.e,λj hj=>by rw[h.col j hj];simp only[hC],λj hj=>by rw[h.cnt j hj,hM.count_eq]⟩
def u0c(H:q0a)(C:List Nat):List Int:=C.flatMap (λk:Nat=>q0P H (k:Int))
theorem y4S(H:q0a):u0c H []=[]:=rfl
theorem q3p(H:q0a)(k:Nat)(C:List Nat):u0c H (k::C)=q0P H (k:Int)++u0c H C:=by simp[u0c]
theorem q2c(H:q0a)(C D:List Nat):u0c H (C++D)=u0c H C++u0c H D:=by simp[u0c]
theorem u1A(H:q0a){C D:List Nat}(h:C.Perm D):(u0c H C).Perm (u0c H D):=List.Perm.flatMap_right _ h
theorem j4z{C:List Nat}{z:Int}:z∈u0c H C↔∃k∈C,z∈q0P H (k:Int):=by simp[u0c]
def y2e(c:Int)(H:q0a)(T0:q0e)(R:Nat->Prop):Prop:=∀i j:Nat,R i->(j:Int)∈q0P H (i:Int)->col T0 j≠c->R j
def Rch(c:Int)(H:q0a)(T0:q0e)(s k:Nat):Prop:=∀R:Nat->Prop,R s->y2e c H T0 R->R k
structure u3R(d c:Int)(H:q0a)(T0:q0e)(s:Nat)(T:q0e)(C:List Nat):Prop where
 pt:Pt d c T0 T C (u0c H C)
 nd:C.Nodup
 sl:∀k∈C,k<8
 st:s∈C
 no:∀k∈C,col T0 k≠c
 sound:∀k∈C,Rch c H T0 s k
 all:∀i∈C,∀j:Nat,(j:Int)∈q0P H (i:Int)->col T0 j≠c->j∈C
theorem u3e{d c:Int}{s:Nat}{C:List Nat}(h:u3R d c H T0 s T C)(k:Nat):k∈C↔Rch c H T0 s k:=
 ⟨h.sound k,λhr=>hr (λj=>j∈C) h.st (λi j hi hj hc=>h.all i hi j hj hc)⟩
theorem q5y{d c:Int}{A B:q0e}{s:Nat}{C D:List Nat}(h1:u3R d c H T0 s A C)(h2:u3R d c H T0 s B D):A=B:=by
 have hm:∀k,k∈C↔k∈D:=λk=>(u3e h1 k).trans (u3e h2 k).symm;have hp:C.Perm D:=(List.perm_ext_iff_of_nodup h1.nd h2.nd).2 hm;refine q3o h1.pt.e h2.pt.e (λj hj=> ?_) (λj hj=> ?_)
 ·rw[h1.pt.col j hj,h2.pt.col j hj];simp only[hm]
 ·rw[h1.pt.cnt j hj,h2.pt.cnt j hj,(u1A H hp).count_eq]
structure u1W(d c:Int)(H:q0a)(T0:q0e)(R:Nat->Prop)(T:q0e)(todo:List Int)(C E F:List Nat)(M:List Int):Prop where
 pt:Pt d c T0 T C M
 nd:C.Nodup
 sl:∀k∈C,k<8
 no:∀k∈C,col T0 k≠c
 sound:∀k∈C,R k
 split:C.Perm (E++todo.map Int.toNat)
 slots:x0j todo
 all:∀i∈F,∀j:Nat,(j:Int)∈q0P H (i:Int)->col T0 j≠c->j∈C
theorem u4T{d c:Int}{R:Nat->Prop}{todo:List Int}{C E F:List Nat}{M:List Int}(h:u1W d c H T0 R T todo C E F M)(z:Int)(hz:0<=z/\z<=7)(hR:col T0 z.toNat≠c->R z.toNat):
 ∃C',u1W d c H T0 R (x0m d c (T,todo) z).1 (x0m d c (T,todo) z).2 C' E F (M++[z])/\(∀k∈C,k∈C')/\(col T0 z.toNat≠c->z.toNat∈C'):=by
 have hc:=h.pt.col z.toNat (by omega);unfold x0m;split
 ·rename_i hg
  have hg2:col T z.toNat=c:=hg;refine⟨C,⟨v3C h.pt z hz,h.nd,h.sl,h.no,h.sound,h.split,h.slots,h.all⟩,λk hk=>hk,λhne=> ?_⟩;rw[hg2]at hc;by_cases hm:z.toNat∈C
  ·exact hm
  ·rw[if_neg hm]at hc;exact absurd hc.symm hne
 ·rename_i hg
  have hg2:¬col T z.toNat=c:=hg;have hm:z.toNat∉C:=λhm=>by rw[if_pos hm]at hc;exact hg2 hc
  rw[if_neg hm]at hc;have hne:col T0 z.toNat≠c:=by rw[<-hc];exact hg2
  refine⟨C++[z.toNat],⟨?_,?_,?_,?_,?_,?_,?_,?_⟩,λk hk=>by simp[hk],λ_=>by simp⟩
  ·exact v3D (v3C h.pt z hz) z.toNat (by omega)
  ·rw[List.nodup_append];exact⟨h.nd,by simp,λa ha b hb e=>by simp at hb;subst hb;subst e;exact hm ha⟩
  ·intro k hk;rcases List.mem_append.1 hk with hk|hk
   ·exact h.sl k hk
   ·simp at hk;omega
  ·intro k hk;rcases List.mem_append.1 hk with hk|hk
   ·exact h.no k hk
   ·rw[List.mem_singleton.1 hk];exact hne
  ·intro k hk;rcases List.mem_append.1 hk with hk|hk
   ·exact h.sound k hk
   ·rw[List.mem_singleton.1 hk];exact hR hne
  ·rw[List.map_append,<-List.append_assoc];exact h.split.append_right _
  ·intro x hx;rcases List.mem_append.1 hx with hx|hx
   ·exact h.slots x hx
   ·rw[List.mem_singleton.1 hx];exact hz
  ·intro i hi j hj hc;simp[h.all i hi j hj hc]
theorem y4s{d c:Int}{R:Nat->Prop}(ks:List Int)(hks:x0j ks)(hR:∀z∈ks,col T0 z.toNat≠c->R z.toNat):∀{T:q0e}{todo:List Int}{C E F:List Nat}{M:List Int},u1W d c H T0 R T todo C E F M->
 ∃C',u1W d c H T0 R (ks.foldl (x0m d c) (T,todo)).1 (ks.foldl (x0m d c) (T,todo)).2 C' E F (M++ks)/\(∀k∈C,k∈C')/\(∀z∈ks,col T0 z.toNat≠c->z.toNat∈C'):=by
 induction ks with
 |nil=>intro T todo C E F M h;exact⟨C,by simpa using h,λ_ hk=>hk,λz hz=>by cases hz⟩
 |cons z r ih=>
  intro T todo C E F M h;obtain⟨C1,h1,a1,b1⟩:=u4T h z (hks z (by simp)) (hR z (by simp));obtain⟨C2,h2,a2,b2⟩:=ih (λx hx=>hks x (by simp[hx])) (λx hx=>hR x (by simp[hx])) h1;refine⟨C2,by simpa using h2,λk hk=>a2 k (a1 k hk),λx hx hne=> ?_⟩;rcases List.mem_cons.1 hx with rfl|hx
  ·exact a2 _ (b1 hne)
  ·exact b2 x hx hne
theorem z4P{d c:Int}{R:Nat->Prop}(hR:y2e c H T0 R){rest:List Int}{k:Int}{C E:List Nat}{M:List Int}(h:u1W d c H T0 R T (rest++[k]) C E E M):
 ∃C',u1W d c H T0 R (y0S d c (q0P H) T rest k).1 (y0S d c (q0P H) T rest k).2 C' (E++[k.toNat]) (E++[k.toNat]) (M++q0P H k)/\∀x∈C,x∈C' :=by
 have hk:=h.slots k (by simp);have ek:((k.toNat:Nat):Int)=k:=by omega
 have hkC:k.toNat∈C:=h.split.mem_iff.2 (by simp)
 have hRz:∀z∈q0P H k,col T0 z.toNat≠c->R z.toNat:=λz hz hne=>by
  have h0:=x0I H k z hz;refine hR k.toNat z.toNat (h.sound _ hkC) ?_ hne;rw[ek,show((z.toNat:Nat):Int)=z from by omega];exact hz
 have h1:u1W d c H T0 R T rest C (E++[k.toNat]) E M:=by refine⟨h.pt,h.nd,h.sl,h.no,h.sound,h.split.trans ?_,λx hx=>h.slots x (by simp[hx]),h.all⟩;rw[List.map_append,List.append_assoc];exact(List.perm_append_comm (l₁:=rest.map Int.toNat) (l₂:=[k.toNat])).append_left E
 obtain⟨C',h2,a2,b2⟩:=y4s (q0P H k) (x0I H k) hRz h1;refine⟨C',⟨h2.pt,h2.nd,h2.sl,h2.no,h2.sound,h2.split,h2.slots,λi hi j hj hne=> ?_⟩,a2⟩;rcases List.mem_append.1 hi with hi|hi
 ·exact h2.all i hi j hj hne
 ·rw[List.mem_singleton.1 hi,ek]at hj;have:=b2 (j:Int) hj (by simpa using hne);simpa using this
theorem j3O{d c:Int}{R:Nat->Prop}(hR:y2e c H T0 R):∀(m:Nat)(f:Nat){T:q0e}{todo:List Int}{C E:List Nat}{M:List Int},u1W d c H T0 R T todo C E E M->mu c (T,todo)<=m->m<=f->M.Perm (u0c H E)->
 ∃C' M',u1W d c H T0 R (x1f d c (q0P H) f T todo) [] C' C' C' M' /\M'.Perm (u0c H C')/\∀x∈C,x∈C' :=by
 intro m
 induction m with
 |zero=>
  intro f T todo C E M h hm hf hM;have:todo=[]:=List.eq_nil_of_length_eq_zero (by simp only[mu]at hm;omega);subst this;rw[u0r];have hp:C.Perm E:=by simpa using h.split
  exact⟨C,M,⟨h.pt,h.nd,h.sl,h.no,h.sound,by simp,h.slots,λi hi=>h.all i (hp.mem_iff.1 hi)⟩,hM.trans (u1A H hp.symm),λ_ hx=>hx⟩
 |succ m ih=>
  intro f T todo C E M h hm hf hM;rcases List.eq_nil_or_concat todo with rfl|⟨rest,k,rfl⟩
  ·rw[u0r];have hp:C.Perm E:=by simpa using h.split
   exact⟨C,M,⟨h.pt,h.nd,h.sl,h.no,h.sound,by simp,h.slots,λi hi=>h.all i (hp.mem_iff.1 hi)⟩,hM.trans (u1A H hp.symm),λ_ hx=>hx⟩
  ·rw[List.concat_eq_append]at hm h ⊢;obtain⟨f,rfl⟩:∃f',f=f' +1:=⟨f - 1,by omega⟩;have hk:=h.slots k (by simp);obtain⟨C1,h1,a1⟩:=z4P hR h;obtain⟨e1,e2,e3⟩:=v1e d c (q0P H) (x0I H) T rest k h.pt.e h.slots;rw[z1D]
   obtain⟨C2,M2,h2,p2,a2⟩:=ih f h1 (by show mu c (y0S d c (q0P H) T rest k)<=m;omega) (by omega) (by
    rw[q2c,q3p,y4S,List.append_nil,show((k.toNat:Nat):Int)=k from by omega];exact hM.append_right _)
   exact⟨C2,M2,h2,p2,λx hx=>a2 x (a1 x hx)⟩
theorem j2O(d c:Int)(H:q0a)(T:q0e)(s:Nat)(h8:q0I T)(hs:s<8)(hc:col T s≠c):∃C,u3R d c H T s (x0p d c H ⟨T.counts,T.colors.set s c⟩ [(s:Int)]) C:=by
 have hR:y2e c H T (Rch c H T s):=λi j hi hj hne R h1 h2=>h2 i j (hi R h1 h2) hj hne
 have w0:u1W d c H T (Rch c H T s) ⟨T.counts,T.colors.set s c⟩ [(s:Int)] [s] [] [] []:=by
  refine⟨by simpa using v3D (u3y d c T h8) s hs,by simp,by simpa using hs,by simpa using hc,?_,by simp,?_,by simp⟩
  ·intro k hk;rw[List.mem_singleton.1 hk];exactλR h1 _=>h1
  ·intro z hz;rw[List.mem_singleton.1 hz];omega
 obtain⟨C,M,h,hp,a⟩:=j3O hR _ _ w0 nl0 nl0 (by simp[u0c]);exact⟨C,⟨u3x h.pt (λ_=>Iff.rfl) hp,h.nd,h.sl,a s (by simp),h.no,h.sound,h.all⟩⟩
structure x0e(d c:Int)(H:q0a)(T0:q0e)(R:Nat->Prop)(T:q0e)(C:List Nat)(M:List Int):Prop where
 pt:Pt d c T0 T C M
 nd:C.Nodup
 sl:∀k∈C,k<8
 no:∀k∈C,col T0 k≠c
 sound:∀k∈C,R k
def u3V(c:Int)(H:q0a)(T0:q0e)(C D:List Nat):Prop:=∀i∈D,∀j:Nat,(j:Int)∈q0P H (i:Int)->col T0 j≠c->j∈C
def j1E(d c:Int)(H:q0a)(T0:q0e)(R:Nat->Prop)(C:List Nat)(M:List Int)(k:Nat)(T' :q0e):Prop:=
 ∃C2,x0e d c H T0 R T' (C++C2) (M++u0c H C2)/\u3V c H T0 (C++C2) C2/\(col T0 k≠c->k∈C++C2)
def q2V(d c:Int)(H:q0a)(T0:q0e)(R:Nat->Prop)(C:List Nat)(M:List Int)(k i:Nat)(T:q0e):Prop:=
 ∃C2,x0e d c H T0 R T (C++k::C2) (M++((q0P H (k:Int)).take i++u0c H C2))/\u3V c H T0 (C++k::C2) C2/\∀z∈(q0P H (k:Int)).take i,col T0 z.toNat≠c->z.toNat∈C++k::C2
theorem v2P{d c:Int}{R:Nat->Prop}{C:List Nat}{M:List Int}{k:Nat}(h:x0e d c H T0 R T C M)(hk:k<8)(hc:col T k=c):j1E d c H T0 R C M k T:=by
 refine⟨[],by simpa[u0c]using h,λi hi=>(by cases hi),λhne=> ?_⟩;have:=h.pt.col k hk;rw[hc]at this;by_cases hm:k∈C
 ·simpa using hm
 ·rw[if_neg hm]at this;exact absurd this.symm hne
theorem j3n{d c:Int}{R:Nat->Prop}{C:List Nat}{M:List Int}{k:Nat}(h:x0e d c H T0 R T C M)(hk:k<8)(hR:col T0 k≠c->R k)(hc:col T k≠c):q2V d c H T0 R C M k 0 ⟨T.counts,T.colors.set k c⟩:=by
 have hcl:=h.pt.col k hk;have hm:k∉C:=λhm=>by rw[if_pos hm]at hcl;exact hc hcl
 rw[if_neg hm]at hcl;have hne:col T0 k≠c:=by rw[<-hcl];exact hc
 refine⟨[],⟨?_,?_,?_,?_,?_⟩,λi hi=>(by cases hi),λz hz=>(by simp at hz)⟩
 ·simpa[u0c]using v3D h.pt k hk
 ·rw[List.nodup_append];exact⟨h.nd,by simp,λa ha b hb e=>by simp at hb;subst hb;subst e;exact hm ha⟩
 all_goals
  intro x hx;rcases List.mem_append.1 hx with hx|hx
 ·exact h.sl x hx
 ·rw[List.mem_singleton.1 hx];exact hk
 ·exact h.no x hx
 ·rw[List.mem_singleton.1 hx];exact hne
 ·exact h.sound x hx
 ·rw[List.mem_singleton.1 hx];exact hR hne
theorem j3m{d c:Int}{R:Nat->Prop}(hR:y2e c H T0 R){C:List Nat}{M:List Int}{k i:Nat}(h:q2V d c H T0 R C M k i T)(hi:i<(q0P H (k:Int)).length)(z:Int)(hz:(q0P H (k:Int))[i]=z):
 ∃C2,x0e d c H T0 R ⟨T.counts.set z.toNat (wrap64 (T.counts.getD z.toNat 0+d)),T.colors⟩ (C++k::C2) (M++((q0P H (k:Int)).take (i+1)++u0c H C2))/\u3V c H T0 (C++k::C2) C2/\(∀z∈(q0P H (k:Int)).take i,col T0 z.toNat≠c->z.toNat∈C++k::C2)/\(col T0 z.toNat≠c->R z.toNat)/\(0<=z/\z<=7):=by
 obtain⟨C2,h1,h2,h3⟩:=h;have hmem:z∈q0P H (k:Int):=hz▸List.getElem_mem hi;have hzs:=x0I H (k:Int) z hmem;refine⟨C2,⟨u3x (v3C h1.pt z hzs) (λ_=>Iff.rfl) ?_,h1.nd,h1.sl,h1.no,h1.sound⟩,h2,h3,λhne=> ?_,hzs⟩
 ·rw[List.take_succ_eq_append_getElem hi,hz,List.append_assoc,List.append_assoc,List.append_assoc];exact(List.Perm.append_left _ (List.perm_append_comm)).append_left M
 ·exact hR k z.toNat (h1.sound k (by simp)) (by rw[show((z.toNat:Nat):Int)=z from by omega];exact hmem) hne
theorem q4S{d c:Int}{T' :q0e}{R:Nat->Prop}{C C2:List Nat}{M:List Int}{k i:Nat}(hi:i<(q0P H (k:Int)).length)(z:Int)(hz:(q0P H (k:Int))[i]=z)(h2:u3V c H T0 (C++k::C2) C2)(h3:∀z∈(q0P H (k:Int)).take i,col T0 z.toNat≠c->z.toNat∈C++k::C2)(hp:j1E d c H T0 R (C++k::C2) (M++((q0P H (k:Int)).take (i+1)++u0c H C2)) z.toNat T'):q2V d c H T0 R C M k (i+1) T' :=by
 obtain⟨C3,g1,g2,g3⟩:=hp;have eC:C++k::C2++C3=C++k::(C2++C3):=by simp
 refine⟨C2++C3,?_,?_,?_⟩
 ·rw[eC]at g1;rw[q2c];simpa using g1
 ·rw[<-eC];intro a ha j hj hne;rcases List.mem_append.1 ha with ha|ha
  ·exact List.mem_append_left _ (h2 a ha j hj hne)
  ·exact g2 a ha j hj hne
 ·rw[<-eC,List.take_succ_eq_append_getElem hi,hz];intro x hx hne;rcases List.mem_append.1 hx with hx|hx
  ·exact List.mem_append_left _ (h3 x hx hne)
  ·rw[List.mem_singleton.1 hx]at hne ⊢;exact g3 hne
theorem x4V{d c:Int}{R:Nat->Prop}{C:List Nat}{M:List Int}{k i:Nat}(h:q2V d c H T0 R C M k i T)(hi:(q0P H (k:Int)).length<=i):j1E d c H T0 R C M k T:=by
 obtain⟨C2,h1,h2,h3⟩:=h;rw[List.take_of_length_le hi]at h1 h3;refine⟨k::C2,by rw[q3p];exact h1,λa ha j hj hne=> ?_,λ_=>by simp⟩;rcases List.mem_cons.1 ha with rfl|ha
 ·have:=h3 (j:Int) hj (by simpa using hne);simpa using this
 ·exact h2 a ha j hj hne
theorem j3v{d c:Int}{T' :q0e}{k:Nat}(h8:q0I T)(hk:k<8)(hc:col T k≠c)(h:j1E d c H T (Rch c H T k) [] [] k T'):T' =x0p d c H ⟨T.counts,T.colors.set k c⟩ [(k:Int)]:=by obtain⟨C,h1,h2,h3⟩:=h;simp only[List.nil_append]at h1 h2 h3;obtain⟨D,hD⟩:=j2O d c H T k h8 hk hc;exact q5y (C:=C) ⟨h1.pt,h1.nd,h1.sl,h3 hc,h1.no,h1.sound,h2⟩ hD
theorem q4h{d c:Int}(R:Nat->Prop)(h8:q0I T):x0e d c H T R T [] []:=⟨u3y d c T h8,by simp,by simp,by simp,by simp⟩
theorem j4Z(c:Int)(H:q0a)(T:q0e)(s:Nat):y2e c H T (Rch c H T s):=λi j hi hj hne R h1 h2=>h2 i j (hi R h1 h2) hj hne
end
section
open Go.RowKit
variable{H:q0a}{T T0:q0e}
structure y2N(H:q0a)(T0:q0e)(A Q:Nat->Prop):Prop where
 aa:∀i j:Nat,A i->cnt T0 i<=0->(j:Int)∈q0P H (i:Int)->col T0 j=1->A j
 aq:∀i:Nat,A i->0<cnt T0 i->Q i
 qq:∀i j:Nat,Q i->(j:Int)∈q0P H (i:Int)->col T0 j≠0->Q j
structure Sc(H:q0a)(T0:q0e)(A Q:Nat->Prop)(T:q0e)(P S:List Nat):Prop where
 e:q0I T
 col:∀j,j<8->col T j=if j∈P then 0 else if j∈S then 2 else col T0 j
 cnt:∀j,j<8->cnt T j=y1R 1 ((u0c H P).count (j:Int)) (cnt T0 j)
 nd:P.Nodup
 sl:∀k∈P,k<8
 pno:∀k∈P,Go.Proofs.YtebgngofnmcklaaGreat.col T0 k≠0
 shut:∀i∈P,∀j:Nat,(j:Int)∈q0P H (i:Int)->Go.Proofs.YtebgngofnmcklaaGreat.col T0 j≠0->j∈P
 wg:∀k∈S,k<8/\Go.Proofs.YtebgngofnmcklaaGreat.col T0 k=1/\Go.Proofs.YtebgngofnmcklaaGreat.cnt T0 k<=0
 qs:∀k∈P,Q k
 ws:∀k∈S,A k
theorem v3U(H:q0a)(T:q0e)(A Q:Nat->Prop)(h8:q0I T):Sc H T A Q T [] []:=
 ⟨h8,λj _=>by simp,λj _=>by simp[u0c,y1R],by simp,by simp,by simp,by simp,by simp,by simp,by simp⟩
theorem j1P{A Q:Nat->Prop}{P S:List Nat}(h:Sc H T0 A Q T P S){k:Nat}(hk:k<8)(hg:col T k=1):k∉P/\k∉S/\col T0 k=1/\cnt T k=cnt T0 k:=by
 have hc:=h.col k hk;rw[hg]at hc;have h1:k∉P:=λhm=>by rw[if_pos hm]at hc;omega
 rw[if_neg h1]at hc;have h2:k∉S:=λhm=>by rw[if_pos hm]at hc;omega
 rw[if_neg h2]at hc;refine⟨h1,h2,hc.symm,?_⟩
 have h0:(u0c H P).count (k:Int)=0:=List.count_eq_zero_of_not_mem (λhm=>by
  obtain⟨i,hi,hz⟩:=j4z.1 hm;exact h1 (h.shut i hi k hz (by omega)))
 rw[h.cnt k hk,h0];rfl
theorem x4F{i j:Nat}(h:(j:Int)∈q0P H (i:Int)):j<8:=by have:=x0I H (i:Int) _ h;omega
theorem v3T{A Q:Nat->Prop}{P S:List Nat}(h:Sc H T0 A Q T P S){k:Nat}(hk:k<8)(hg:col T k≠1)(h0:col T0 k=1):k∈P\/k∈S:=by
 have hc:=h.col k hk;by_cases h1:k∈P
 ·exact .inl h1
 ·rw[if_neg h1]at hc;by_cases h2:k∈S
  ·exact .inr h2
  ·rw[if_neg h2,h0]at hc;exact absurd hc hg
theorem z5z{A Q:Nat->Prop}{P S:List Nat}(h:Sc H T0 A Q T P S){j:Nat}(hj:j<8)(hc:col T j≠0):j∉P/\col T0 j≠0:=by
 have he:=h.col j hj;have h1:j∉P:=λhm=>by rw[if_pos hm]at he;exact hc he
 refine⟨h1,?_⟩;rw[if_neg h1]at he;by_cases h2:j∈S
 ·have:=(h.wg j h2).2.1;omega
 ·rw[if_neg h2]at he;rw[<-he];exact hc
theorem v3S{A Q:Nat->Prop}(hy:y2N H T0 A Q){P S:List Nat}(h:Sc H T0 A Q T P S){k:Nat}(hk:k<8)(hg:col T k=1)(hp:0<cnt T k)(hA:A k):
 ∃P',Sc H T0 A Q (x0p 1 0 H ⟨T.counts,T.colors.set k 0⟩ [(k:Int)]) P' S/\(∀x∈P,x∈P')/\k∈P' :=by
 obtain⟨h1,h2,h3,h4⟩:=j1P h hk hg;obtain⟨C,hF⟩:=j2O 1 0 H T k h.e hk (by omega);have hz:∀j,j<8->col T j≠0->j∉P/\col T0 j≠0:=λj hj hc=>z5z h hj hc;have hQk:Q k:=hy.aq k hA (by omega);have hQC:∀x∈C,Q x:=λx hx=>hF.sound x hx Q hQk (λi j hi hj hc=>hy.qq i j hi hj (hz j (x4F hj) hc).2);refine⟨P++C,⟨hF.pt.e,λj hj=> ?_,λj hj=> ?_,?_,?_,?_,?_,h.wg,?_,h.ws⟩,λx hx=>by simp[hx],by simp[hF.st]⟩
 ·rw[hF.pt.col j hj,h.col j hj];by_cases hC:j∈C
  ·simp[hC]
  ·by_cases hP:j∈P
   ·simp[hP]
   ·simp[hC,hP]
 ·rw[hF.pt.cnt j hj,h.cnt j hj,q2c,List.count_append,y4f]
 ·rw[List.nodup_append];exact⟨h.nd,hF.nd,λa ha b hb e=>by subst e;exact(hz a (h.sl a ha) (hF.no a hb)).1 ha⟩
 ·intro x hx;rcases List.mem_append.1 hx with hx|hx
  ·exact h.sl x hx
  ·exact hF.sl x hx
 ·intro x hx;rcases List.mem_append.1 hx with hx|hx
  ·exact h.pno x hx
  ·exact(hz x (hF.sl x hx) (hF.no x hx)).2
 ·intro i hi j hj hne;rcases List.mem_append.1 hi with hi|hi
  ·exact List.mem_append_left _ (h.shut i hi j hj hne)
  ·by_cases hP:j∈P
   ·exact List.mem_append_left _ hP
   ·refine List.mem_append_right _ (hF.all i hi j hj ?_);rw[h.col j (x4F hj),if_neg hP];by_cases hS:j∈S
    ·rw[if_pos hS];omega
    ·rw[if_neg hS];exact hne
 ·intro x hx;rcases List.mem_append.1 hx with hx|hx
  ·exact h.qs x hx
  ·exact hQC x hx
theorem v3V{A Q:Nat->Prop}{P S:List Nat}(h:Sc H T0 A Q T P S){k:Nat}(hk:k<8)(hg:col T k=1)(hp:¬0<cnt T k)(hA:A k):
 Sc H T0 A Q ⟨T.counts,T.colors.set k 2⟩ P (S++[k]):=by
 obtain⟨h1,h2,h3,h4⟩:=j1P h hk hg;refine⟨⟨h.e.1,by simpa using h.e.2⟩,λj hj=> ?_,h.cnt,h.nd,h.sl,h.pno,h.shut,?_,h.qs,?_⟩
 ·show(T.colors.set k 2).getD j 0=_
  rw[y2p _ _ _ _ (by have:=h.e.2;omega)];by_cases e:k=j
  ·subst e;simp[h1]
  ·rw[if_neg e];have hc:=h.col j hj;unfold Go.Proofs.YtebgngofnmcklaaGreat.col at hc;rw[hc];have:¬j=k:=λx=>e x.symm;simp[this,Go.Proofs.YtebgngofnmcklaaGreat.col]
 ·intro x hx;rcases List.mem_append.1 hx with hx|hx
  ·exact h.wg x hx
  ·rw[List.mem_singleton.1 hx];exact⟨hk,h3,by omega⟩
 ·intro x hx;rcases List.mem_append.1 hx with hx|hx
  ·exact h.ws x hx
  ·rw[List.mem_singleton.1 hx];exact hA
def AS(H:q0a)(T0:q0e)(s j:Nat):Prop:=∀U:Nat->Prop,(col T0 s=1->U s)->(∀a b:Nat,U a->cnt T0 a<=0->(b:Int)∈q0P H (a:Int)->col T0 b=1->U b)->U j
def QS(H:q0a)(T0:q0e)(s j:Nat):Prop:=∀U:Nat->Prop,(∀a,AS H T0 s a->0<cnt T0 a->U a)->(∀a b:Nat,U a->(b:Int)∈q0P H (a:Int)->col T0 b≠0->U b)->U j
theorem x3b(H:q0a)(T0:q0e)(s:Nat):y2N H T0 (AS H T0 s) (QS H T0 s):=
 ⟨λi j hi hc hj hg U h1 h2=>h2 i j (hi U h1 h2) hc hj hg,λi hi hc U h1 _=>h1 i hi hc,λi j hi hj hne U h1 h2=>h2 i j (hi U h1 h2) hj hne⟩
def v5q(H:q0a)(T0:q0e)(P S X:List Nat):Prop:=∀i∈X,∀j:Nat,(j:Int)∈q0P H (i:Int)->col T0 j=1->j∈P\/j∈S
structure y2c(H:q0a)(T0:q0e)(s:Nat)(T:q0e)(P S:List Nat):Prop where
 sc:Sc H T0 (AS H T0 s) (QS H T0 s) T P S
 full:v5q H T0 P S S
 st:col T0 s=1->s∈P\/s∈S
theorem u2j{s:Nat}{P S:List Nat}(h:y2c H T0 s T P S)(j:Nat)(hj:AS H T0 s j):j∈P\/j∈S:=
 hj (λx=>x∈P\/x∈S) h.st (λa b ha hc hb hg=>by
  rcases ha with ha|ha
  ·exact .inl (h.sc.shut a ha b hb (by omega))
  ·exact h.full a ha b hb hg)
theorem x4q{s:Nat}{P S:List Nat}(h:y2c H T0 s T P S)(j:Nat):j∈P↔QS H T0 s j:=
 ⟨h.sc.qs j,λhq=>hq (λx=>x∈P) (λa ha hc=>by
   rcases u2j h a ha with h1|h1
   ·exact h1
   ·have:=(h.sc.wg a h1).2.2;omega) (λa b ha hb hne=>h.sc.shut a ha b hb hne)⟩
theorem y4R{A B:q0e}{s:Nat}{P S P' S' :List Nat}(h1:y2c H T0 s A P S)(h2:y2c H T0 s B P' S'):A=B:=by
 have hm:∀k,k∈P↔k∈P' :=λk=>(x4q h1 k).trans (x4q h2 k).symm
 have hs:∀k,k∉P->(k∈S↔k∈S'):=λk hk=>by
  constructor
  ·intro h;rcases u2j h2 k (h1.sc.ws k h)with h|h
   ·exact absurd ((hm k).2 h) hk
   ·exact h
  ·intro h;rcases u2j h1 k (h2.sc.ws k h)with h|h
   ·exact absurd h hk
   ·exact h
 have hp:P.Perm P' :=(List.perm_ext_iff_of_nodup h1.sc.nd h2.sc.nd).2 hm;refine q3o h1.sc.e h2.sc.e (λj hj=> ?_) (λj hj=> ?_)
 ·rw[h1.sc.col j hj,h2.sc.col j hj];by_cases hP:j∈P
  ·rw[if_pos hP,if_pos ((hm j).1 hP)]
  ·rw[if_neg hP,if_neg (λh=>hP ((hm j).2 h))];by_cases hS:j∈S
   ·rw[if_pos hS,if_pos ((hs j hP).1 hS)]
   ·rw[if_neg hS,if_neg (λh=>hS ((hs j hP).2 h))]
 ·rw[h1.sc.cnt j hj,h2.sc.cnt j hj,(u1A H hp).count_eq]
structure ScW(H:q0a)(T0:q0e)(s:Nat)(T:q0e)(todo:List Int)(P S:List Nat):Prop where
 sc:Sc H T0 (AS H T0 s) (QS H T0 s) T P S
 slots:x0j todo
 full:∀i∈S,∀j:Nat,(j:Int)∈q0P H (i:Int)->col T0 j=1->j∈P\/j∈S\/(j:Int)∈todo
 st:col T0 s=1->s∈P\/s∈S\/(s:Int)∈todo
 td:∀z∈todo,col T0 z.toNat=1->AS H T0 s z.toNat
theorem u4E{s:Nat}{rest:List Int}{k:Int}{P S:List Nat}(h:ScW H T0 s T (rest++[k]) P S):∃P' S',ScW H T0 s (u0p H T rest k).1 (u0p H T rest k).2 P' S' :=by
 have hk:=h.slots k (by simp);have hk8:k.toNat<8:=by omega
 have ek:((k.toNat:Nat):Int)=k:=by omega
 have hr:x0j rest:=λz hz=>h.slots z (by simp[hz])
 have mv:∀(j:Nat)(P' S' :List Nat),(∀x∈P,x∈P')->(∀x∈S,x∈S')->(k.toNat∈P' \/k.toNat∈S' \/¬(j:Int)=k)->(j∈P\/j∈S\/(j:Int)∈rest++[k])->j∈P' \/j∈S' \/(j:Int)∈rest:=by
  intro j P' S' hP hS hkk hj;rcases hj with hj|hj|hj
  ·exact .inl (hP j hj)
  ·exact .inr (.inl (hS j hj))
  ·rcases List.mem_append.1 hj with hj|hj
   ·exact .inr (.inr hj)
   ·have e:=List.mem_singleton.1 hj;rcases hkk with hkk|hkk|hkk
    ·left;rw[show j=k.toNat from by omega];exact hkk
    ·right;left;rw[show j=k.toNat from by omega];exact hkk
    ·exact absurd e hkk
 unfold u0p;split
 ·rename_i hg
  have hg2:col T k.toNat≠1:=hg;refine⟨P,S,h.sc,hr,λi hi j hj hc=> ?_,λhc=> ?_,λz hz=>h.td z (by simp[hz])⟩
  ·refine mv j P S (λ_ hx=>hx) (λ_ hx=>hx) ?_ (h.full i hi j hj hc);by_cases e:(j:Int)=k
   ·have e2:j=k.toNat:=by omega
    rcases v3T h.sc hk8 hg2 (e2▸hc)with h1|h1
    ·exact .inl h1
    ·exact .inr (.inl h1)
   ·exact .inr (.inr e)
  ·refine mv s P S (λ_ hx=>hx) (λ_ hx=>hx) ?_ (h.st hc);by_cases e:(s:Int)=k
   ·have e2:s=k.toNat:=by omega
    rcases v3T h.sc hk8 hg2 (e2▸hc)with h1|h1
    ·exact .inl h1
    ·exact .inr (.inl h1)
   ·exact .inr (.inr e)
 ·rename_i hg
  have hg2:col T k.toNat=1:=Decidable.not_not.1 hg;obtain⟨q1,q2,q3,q4⟩:=j1P h.sc hk8 hg2;have hA:=h.td k (by simp) q3;split
  ·rename_i hp
   have hp2:0<cnt T k.toNat:=hp;obtain⟨P',h1,h2,h3⟩:=v3S (x3b H T0 s) h.sc hk8 hg2 hp2 hA;have eb:q1K H T k=x0p 1 0 H ⟨T.counts,T.colors.set k.toNat 0⟩ [((k.toNat:Nat):Int)]:=by unfold q1K;rw[ek]
   rw[eb];exact⟨P',S,h1,hr,λi hi j hj hc=>mv j P' S h2 (λ_ hx=>hx) (.inl h3) (h.full i hi j hj hc),λhc=>mv s P' S h2 (λ_ hx=>hx) (.inl h3) (h.st hc),λz hz=>h.td z (by simp[hz])⟩
  ·rename_i hp
   have hp2:¬0<cnt T k.toNat:=hp;have h1:=v3V h.sc hk8 hg2 hp2 hA
   have up:∀j:Nat,j∈P\/j∈S++[k.toNat]\/(j:Int)∈rest->j∈P\/j∈S++[k.toNat]\/(j:Int)∈rest++q0P H k:=λj hj=>by
    rcases hj with hj|hj|hj
    ·exact .inl hj
    ·exact .inr (.inl hj)
    ·exact .inr (.inr (List.mem_append_left _ hj))
   refine⟨P,S++[k.toNat],h1,?_,λi hi j hj hc=> ?_,λhc=>up s (mv s P (S++[k.toNat]) (λ_ hx=>hx) (λ_ hx=>by simp[hx]) (.inr (.inl (by simp))) (h.st hc)),λz hz hc=> ?_⟩
   ·intro z hz;rcases List.mem_append.1 hz with hz|hz
    ·exact hr z hz
    ·exact x0I H k z hz
   ·rcases List.mem_append.1 hi with hi|hi
    ·exact up j (mv j P (S++[k.toNat]) (λ_ hx=>hx) (λ_ hx=>by simp[hx]) (.inr (.inl (by simp))) (h.full i hi j hj hc))
    ·rw[List.mem_singleton.1 hi,ek]at hj;exact .inr (.inr (List.mem_append_right _ hj))
   ·rcases List.mem_append.1 hz with hz|hz
    ·exact h.td z (by simp[hz]) hc
    ·have hz7:=x0I H k z hz;exact(x3b H T0 s).aa k.toNat z.toNat hA (by omega) (by rw[ek,show((z.toNat:Nat):Int)=z from by omega];exact hz) hc
theorem u4D(hs:q0h H){s:Nat}:∀(m f:Nat){T:q0e}{todo:List Int}{P S:List Nat},ScW H T0 s T todo P S->nu (T,todo)<=m->m<=f->∃P' S',y2c H T0 s (u1o H f T todo) P' S' :=by
 have fin:∀{T:q0e}{P S:List Nat},ScW H T0 s T [] P S->y2c H T0 s T P S:=λ{T P S}h=>by
  refine⟨h.sc,λi hi j hj hc=> ?_,λhc=> ?_⟩
  ·rcases h.full i hi j hj hc with h1|h1|h1
   ·exact .inl h1
   ·exact .inr h1
   ·cases h1
  ·rcases h.st hc with h1|h1|h1
   ·exact .inl h1
   ·exact .inr h1
   ·cases h1
 intro m
 induction m with
 |zero=>intro f T todo P S h hm hf;have:todo=[]:=List.eq_nil_of_length_eq_zero (by simp only[nu]at hm;omega);subst this;rw[v1i];exact⟨P,S,fin h⟩
 |succ m ih=>
  intro f T todo P S h hm hf;rcases List.eq_nil_or_concat todo with rfl|⟨rest,k,rfl⟩
  ·rw[v1i];exact⟨P,S,fin h⟩
  ·rw[List.concat_eq_append]at hm h ⊢;obtain⟨f,rfl⟩:∃f',f=f' +1:=⟨f - 1,by omega⟩;obtain⟨P',S',h1⟩:=u4E h;obtain⟨e1,e2,e3⟩:=z2F H hs T rest k h.sc.e h.slots;rw[u1O];exact ih f h1 (by show nu (u0p H T rest k)<=m;omega) (by omega)
theorem z3b(H:q0a)(hs:q0h H)(T:q0e)(s:Nat)(h8:q0I T)(hk:s<8):∃P S,y2c H T s (v1W H T (s:Int)) P S:=by
 have w0:ScW H T s T [(s:Int)] [] []:=by
  refine⟨v3U H T _ _ h8,λz hz=> ?_,λi hi=>(by cases hi),λ_=> .inr (.inr (by simp)),λz hz hc=> ?_⟩
  ·rw[List.mem_singleton.1 hz];omega
  ·rw[List.mem_singleton.1 hz]at hc ⊢;exactλU h1 _=>h1 hc
 exact u4D hs _ _ w0 nl0 nl0
def y1h(H:q0a)(T0:q0e)(A Q:Nat->Prop)(P S:List Nat)(k:Nat)(T' :q0e):Prop:=
 ∃P2 S2,Sc H T0 A Q T' P2 S2/\(∀x∈P,x∈P2)/\(∀x∈S,x∈S2)/\(∀x∈S2,x∉S->∀j:Nat,(j:Int)∈q0P H (x:Int)->col T0 j=1->j∈P2\/j∈S2)/\(col T0 k=1->k∈P2\/k∈S2)
def q2X(H:q0a)(T0:q0e)(A Q:Nat->Prop)(P S:List Nat)(k i:Nat)(T:q0e):Prop:=
 ∃P2 S2,Sc H T0 A Q T P2 S2/\(∀x∈P,x∈P2)/\(∀x∈S,x∈S2)/\k∈S2/\(∀x∈S2,x∉S->x≠k->∀j:Nat,(j:Int)∈q0P H (x:Int)->col T0 j=1->j∈P2\/j∈S2)/\(∀z∈(q0P H (k:Int)).take i,col T0 z.toNat=1->z.toNat∈P2\/z.toNat∈S2)/\A k/\cnt T0 k<=0
theorem j2L{A Q:Nat->Prop}{P S:List Nat}{k:Nat}(h:Sc H T0 A Q T P S)(hk:k<8)(hg:col T k≠1):y1h H T0 A Q P S k T:=
 ⟨P,S,h,λ_ hx=>hx,λ_ hx=>hx,λx hx hn=>absurd hx hn,λh0=>v3T h hk hg h0⟩
theorem z3L{A Q:Nat->Prop}(hy:y2N H T0 A Q){P S:List Nat}{k:Nat}(h:Sc H T0 A Q T P S)(hk:k<8)(hg:col T k=1)(hp:0<cnt T k)(hA:col T0 k=1->A k):y1h H T0 A Q P S k (x0p 1 0 H ⟨T.counts,T.colors.set k 0⟩ [(k:Int)]):=by obtain⟨P',h1,h2,h3⟩:=v3S hy h hk hg hp (hA (j1P h hk hg).2.2.1);exact⟨P',S,h1,h2,λ_ hx=>hx,λx hx hn=>absurd hx hn,λ_=> .inl h3⟩
theorem j3I{A Q:Nat->Prop}{P S:List Nat}{k:Nat}(h:Sc H T0 A Q T P S)(hk:k<8)(hg:col T k=1)(hp:¬0<cnt T k)(hA:col T0 k=1->A k):q2X H T0 A Q P S k 0 ⟨T.counts,T.colors.set k 2⟩:=by
 obtain⟨q1,q2,q3,q4⟩:=j1P h hk hg;refine⟨P,S++[k],v3V h hk hg hp (hA q3),λ_ hx=>hx,λ_ hx=>by simp[hx],by simp,λx hx hn hne=> ?_,λz hz=>(by simp at hz),hA q3,by omega⟩;rcases List.mem_append.1 hx with hx|hx
 ·exact absurd hx hn
 ·exact absurd (List.mem_singleton.1 hx) hne
theorem z4q{A Q:Nat->Prop}(hy:y2N H T0 A Q){P S:List Nat}{k i:Nat}(h:q2X H T0 A Q P S k i T)(hi:i<(q0P H (k:Int)).length)(z:Int)(hz:(q0P H (k:Int))[i]=z):
 ∃P2 S2,Sc H T0 A Q T P2 S2/\(col T0 z.toNat=1->A z.toNat)/\(0<=z/\z<=7)/\∀T',y1h H T0 A Q P2 S2 z.toNat T' ->q2X H T0 A Q P S k (i+1) T' :=by
 obtain⟨P2,S2,h1,h2,h3,h4,h5,h6,h7,h8⟩:=h;have hmem:z∈q0P H (k:Int):=hz▸List.getElem_mem hi;have hzs:=x0I H (k:Int) z hmem;refine⟨P2,S2,h1,λhc=>hy.aa k z.toNat h7 h8 (by rw[show((z.toNat:Nat):Int)=z from by omega];exact hmem) hc,hzs,λT' hT=> ?_⟩;obtain⟨P3,S3,g1,g2,g3,g4,g5⟩:=hT;refine⟨P3,S3,g1,λx hx=>g2 x (h2 x hx),λx hx=>g3 x (h3 x hx),g3 k h4,λx hx hn hne j hj hc=> ?_,λy hy2 hc=> ?_,h7,h8⟩
 ·by_cases hxS:x∈S2
  ·rcases h5 x hxS hn hne j hj hc with h|h
   ·exact .inl (g2 j h)
   ·exact .inr (g3 j h)
  ·exact g4 x hx hxS j hj hc
 ·rw[List.take_succ_eq_append_getElem hi,hz]at hy2;rcases List.mem_append.1 hy2 with hy2|hy2
  ·rcases h6 y hy2 hc with h|h
   ·exact .inl (g2 _ h)
   ·exact .inr (g3 _ h)
  ·rw[List.mem_singleton.1 hy2]at hc ⊢;exact g5 hc
theorem v4X{A Q:Nat->Prop}{P S:List Nat}{k i:Nat}(h:q2X H T0 A Q P S k i T)(hi:(q0P H (k:Int)).length<=i):y1h H T0 A Q P S k T:=by
 obtain⟨P2,S2,h1,h2,h3,h4,h5,h6,-,-⟩:=h;rw[List.take_of_length_le hi]at h6;refine⟨P2,S2,h1,h2,h3,λx hx hn j hj hc=> ?_,λ_=> .inr h4⟩;by_cases e:x=k
 ·subst e;have:=h6 (j:Int) hj (by simpa using hc);simpa using this
 ·exact h5 x hx hn e j hj hc
theorem j3H(hs:q0h H){T' :q0e}{k:Nat}(h8:q0I T)(hk:k<8)(h:y1h H T (AS H T k) (QS H T k) [] [] k T'):T' =v1W H T (k:Int):=by obtain⟨P,S,h1,-,-,h4,h5⟩:=h;obtain⟨P',S',hF⟩:=z3b H hs T k h8 hk;exact y4R (P:=P) (S:=S) ⟨h1,λx hx=>h4 x hx (by simp),h5⟩ hF
end
section
open Go.RowKit
theorem z2X(v:Value)(T:q0e)(w:World)(h:RdT w v T)(hs:v0p T):
 Calls Tryz.prog 124 #[v] w λe w' =>∃u,e= .returned u/\q0i w' w.heap.size u (x0l T)/\Below w.heap.size w w' :=by
 obtain⟨aa,ac,ab,ad,rfl,-,ri⟩:=h;have hn:=hs.colors;clear hs;obtain⟨W,hW⟩:∃W,W=w.alloc (.cells #[.slice aa T.counts.length ac,.slice ab T.colors.length ad] 101):=⟨_,rfl⟩;have BW:Below w.heap.size w W:=by rw[hW];exact bl1 _
 have hsW:W.heap.size=w.heap.size+1:=by rw[hW];simp
 have hp:W.cell? ⟨w.heap.size,1,none⟩=some (.slice ab T.colors.length ad):=by rw[hW,World.cell?_alloc_mark];rfl
 have H0:Hid (x0l T=[]++x0f (T.colors.drop 0) ((0:Nat):Int)):=by show _=_;unfold x0l;rw[List.drop_zero];rfl
 have HS:Hid (∀(j:Nat)(h:j<T.colors.length),_):=λj h=>z2T T.colors j h;have HN:Hid (∀(j:Nat),T.colors.length<=j->x0f (T.colors.drop j) (j:Int)=[]):=λj h=>x2W T.colors j h _;have HR2:Hid (∀X,Below W.heap.size W X->RdI X ab T.colors):=λX hX=>q0t (q0t ri BW) hX;generalize x0l T=Z at*;generalize T.counts.length=nc at*;generalize T.colors=zs at*;obtain⟨n,hnn⟩:∃n,zs.length=n:=⟨_,rfl⟩;have Hn:Hid (zs.length=n):=hnn;rw[hnn]at hn hp hW ⊢;clear ri hnn;have HP:Hid (∀X,Below W.heap.size W X->X.cell? ⟨w.heap.size,1,none⟩=some (.slice ab n ad)):=λX hX=>(hX.cell (p:=⟨w.heap.size,1,none⟩) (by show w.heap.size<_;omega)).trans hp;have HsW:Hid (W.heap.size=w.heap.size+1):=hsW;clear hp hsW;go_enter Tryz.func124,Tryz.ntmps124;go_wp2;rw[<-hW];clear hW;go_loopw[3,9] (λv i wr=>∃(j:Nat)(P:List Int),j<=n/\i= .int .i64 j/\P.length<=j/\Hid (Z=P++x0f (zs.drop j) (j:Int))/\q0i wr W.heap.size v P/\Below W.heap.size W wr) (λ_ i _=>n - (intOf i).toNat)
 case atStart=>exact⟨0,[],by omega,rfl,by simp,H0,z0H _ _,bl0⟩
 case round=>
  obtain⟨j,P,hj,rfl,hPl,HJ,hown,hb⟩:=hrel;have hp:=HP.out _ hb;by_cases hlt:j<n
  ·have hj2:j<zs.length:=by have:=Hn.out;omega
   obtain⟨g,off,rfl,-,hc⟩:=HR2.out _ hb j hj2;have HD:Hid (_=_):=HS.out j hj2;generalize zs[j]=z at*;by_cases hz:z=2
   ·subst hz;have HZ:Hid (Z=(P++[(j:Int)])++x0f (zs.drop (j+1)) ((j+1:Nat):Int)):=by show _=_;rw[HJ.out,HD.out,if_pos rfl];simp
    clear HD;go_wp2_with (at_builtin;refine x0F rfl _ _ rfl W.heap.size _ P rfl (v0Y _ hown) ⟨wr.heap.size,0,none⟩ [(j:Int)] 1 1 rfl rfl ?hsrc ?hlen W (hb.alloc hb.size _) nl0 ?_)
    case hsrc=>exact j0X wr (j:Int)
    case hlen=>rw[List.length_singleton];omega
    ·intro v4 w4 O4 B4;go_wp2;go_roundw
     case rel=>exact⟨j+1,P++[(j:Int)],by omega,by go_num,by rw[List.length_append,List.length_singleton];omega,HZ,O4,B4⟩
     case measure=>simp[intOf];omega
   ·have HZ:Hid (Z=P++x0f (zs.drop (j+1)) ((j+1:Nat):Int)):=by show _=_;rw[HJ.out,HD.out,if_neg hz]
    clear HD;go_wp2;go_roundw
    case rel=>exact⟨j+1,P,by omega,by go_num,by omega,HZ,hown,hb⟩
    case measure=>simp[intOf];omega
  ·obtain rfl:j=n:=by omega
   have HZ:Hid (Z=P):=by show _=_;rw[HJ.out,HN.out j (by have:=Hn.out;omega),List.append_nil]
   go_wp2;go_ret
   exact⟨_,rfl,HZ.out▸q0A hown BW.size,BW.trans (hb.mono BW.size)⟩
theorem v2D(v:Value)(H:q0a)(s:Nat)(w:World)(h:RdH w v H)(hs:q0h H)(hl:s<H.objs.length)(hf:∀z∈H.objs[s].field,q0w z):
 Calls Tryz.prog 143 #[v,.int .i64 (s:Int)] w λe w' =>∃u,e= .returned u/\q0i w' w.heap.size u (v0C H H.objs[s].field)/\Below w.heap.size w w' :=by
 have HRH:Hid (RdH w v H):=h;obtain⟨ao,co,aw,cw,ab,cb,sa,sc,rfl,ro,-,-,-⟩:=h;have hn:=hs.objs;have hfl:=hs.fields _ (List.getElem_mem hl);clear hs;obtain⟨W,hW⟩:∃W,W=w.alloc (.cells #[.slice ao H.objs.length co,.slice aw H.weaks.length cw,.slice ab H.buffer.length cb,.slice sa H.sites.length sc] 35):=⟨_,rfl⟩;have BW:Below w.heap.size w W:=by rw[hW];exact bl1 _
 have hsW:W.heap.size=w.heap.size+1:=by rw[hW];simp
 have hp0:W.cell? ⟨w.heap.size,0,none⟩=some (.slice ao H.objs.length co):=by rw[hW,World.cell?_alloc_mark];rfl
 have hp1:W.cell? ⟨w.heap.size,1,none⟩=some (.slice aw H.weaks.length cw):=by rw[hW,World.cell?_alloc_mark];rfl
 have hp2:W.cell? ⟨w.heap.size,2,none⟩=some (.slice ab H.buffer.length cb):=by rw[hW,World.cell?_alloc_mark];rfl
 have hp3:W.cell? ⟨w.heap.size,3,none⟩=some (.slice sa H.sites.length sc):=by rw[hW,World.cell?_alloc_mark];rfl
 obtain⟨g,off,f,fc,rfl,hg,hc,hr⟩:=ro s hl;have hc6:=hc.c6;have hcW:W.cell? ⟨g,off+s*8+6,none⟩=some (.slice f H.objs[s].field.length fc):=(BW.cell (p:=⟨g,off+s*8+6,none⟩) hg).trans hc6;have hrW:RdI W f H.objs[s].field:=q0t hr BW;have HRW:Hid (RdH W _ H):=q0s HRH.out BW;have hgW:g<W.heap.size:=by omega
 have HFC:Hid (∀X,Below W.heap.size W X->X.cell? ⟨g,off+s*8+6,none⟩=some (.slice f H.objs[s].field.length fc)):=λX hX=>(hX.cell (p:=⟨g,off+s*8+6,none⟩) hgW).trans hcW;have HRI:Hid (∀X,Below W.heap.size W X->RdI X f H.objs[s].field):=λX hX=>q0t hrW hX;have HRX:Hid (∀X,Below W.heap.size W X->RdH X _ H):=λX hX=>q0s HRW.out hX;have HF:Hid (∀z∈H.objs[s].field,q0w z):=hf;clear hc hc6 hcW hr hrW HRW HRH ro hf hg;generalize H.objs[s].field=zs at*;have H0:Hid (v0C H zs=[]++v0C H (zs.drop 0)):=by show _=_;rw[List.drop_zero];rfl
 have HS:Hid (∀(j:Nat)(h:j<zs.length),_):=λj h=>x3P H zs j h;have HN:Hid (∀(j:Nat),zs.length<=j->v0C H (zs.drop j)=[]):=λj h=>u3n H zs j h;generalize hZ:v0C H zs=Z at*;clear hZ;obtain⟨n,hnn⟩:∃n,H.objs.length=n:=⟨_,rfl⟩;have Hn:Hid (H.objs.length=n):=hnn;have CS:Hid (∀(z:Int)X,q0w z->RdH X _ H->_):=λz X hz hX=>z0m (.agg #[.slice (some ⟨g,off,none⟩) H.objs.length co,.slice aw H.weaks.length cw,.slice ab H.buffer.length cb,.slice sa H.sites.length sc]) H z X hX (by omega) hz.1 hz.2;rw[hnn]at hn hp0 hW hl CS HRX ⊢;clear hnn;have hlt0:w.heap.size<W.heap.size:=by omega
 have HP:Hid (∀X,Below W.heap.size W X->X.cell? ⟨w.heap.size,0,none⟩=some (.slice (some ⟨g,off,none⟩) n co)/\X.cell? ⟨w.heap.size,1,none⟩=some (.slice aw H.weaks.length cw)/\X.cell? ⟨w.heap.size,2,none⟩=some (.slice ab H.buffer.length cb)/\X.cell? ⟨w.heap.size,3,none⟩=some (.slice sa H.sites.length sc)):=λX hX=>⟨(hX.cell (p:=⟨w.heap.size,0,none⟩) hlt0).trans hp0,(hX.cell (p:=⟨w.heap.size,1,none⟩) hlt0).trans hp1,(hX.cell (p:=⟨w.heap.size,2,none⟩) hlt0).trans hp2,(hX.cell (p:=⟨w.heap.size,3,none⟩) hlt0).trans hp3⟩;have HsW:Hid (W.heap.size=w.heap.size+1):=hsW;clear hp0 hp1 hp2 hp3 hsW hlt0 hgW;have w6:=HFC.out _ bl0;rw[hW]at w6;have i0:(s:Int)<(n:Int):=by omega
 go_enter Tryz.func143,Tryz.ntmps143;go_wp2;rw[<-hW];clear hW w6;go_loopw[5,16] (λv i wr=>∃(j:Nat)(P:List Int),j<=zs.length/\i= .int .i64 j/\P.length<=j/\Hid (Z=P++v0C H (zs.drop j))/\q0i wr W.heap.size v P/\Below W.heap.size W wr) (λ_ i _=>zs.length - (intOf i).toNat)
 case atStart=>exact⟨0,[],by omega,rfl,by simp,H0,z0H _ _,bl0⟩
 case round=>
  obtain⟨j,P,hj,rfl,hPl,HJ,hown,hb⟩:=hrel;obtain⟨p0,p1,p2,p3⟩:=HP.out _ hb;have hfc:=HFC.out _ hb;by_cases hlt:j<zs.length
  ·obtain⟨fg,fo,rfl,hfg,hcz⟩:=HRI.out _ hb j hlt;have HD:Hid (_=_):=HS.out j hlt;have hz64:=HF.out _ (List.getElem_mem hlt);generalize zs[j]=z at*;have CSX:Hid (∀X,Below W.heap.size W X->_):=λX hX=>CS.out z X hz64 (HRX.out X hX);have i2:(j:Int)<(zs.length:Int):=by omega
   obtain⟨sl,hsl⟩:∃sl,q0l H z=sl:=⟨_,rfl⟩
   have hsl7: -1<=sl/\sl<=7:=by
    rw[<-hsl];unfold q0l;split
    ·omega
    ·split
     ·omega
     ·split<;>omega
   rw[hsl]at HD CSX;clear hsl;go_wp2_with fail
   refine(CSX.out _ hb).mono ?_;rintro e X ⟨rfl,hX⟩;have hown2:=q0o hown hX;have hb2:=hb.trans (hX.mono hb.size);clear CSX hown hb p0 p1 p2 p3 hfc hcz;by_cases hz:0<=sl
   ·have HZ:Hid (Z=(P++[sl])++v0C H (zs.drop (j+1))):=by show _=_;rw[HJ.out,HD.out,if_pos hz];simp
    clear HD;go_wp2_with (at_builtin;refine x0F rfl _ _ rfl W.heap.size _ P rfl (v0Y _ hown2) ⟨X.heap.size,0,none⟩ [sl] 1 1 rfl rfl ?hsrc ?hlen W (hb2.alloc hb2.size _) nl0 ?_)
    case hsrc=>exact j0X X sl
    case hlen=>rw[List.length_singleton];omega
    ·intro v4 w4 O4 B4;go_wp2;go_roundw
     case rel=>exact⟨j+1,P++[sl],by omega,by go_num,by rw[List.length_append,List.length_singleton];omega,HZ,O4,B4⟩
     case measure=>simp[intOf];omega
   ·have HZ:Hid (Z=P++v0C H (zs.drop (j+1))):=by show _=_;rw[HJ.out,HD.out,if_neg hz]
    clear HD;go_wp2;go_roundw
    case rel=>exact⟨j+1,P,by omega,by go_num,by omega,HZ,hown2,hb2⟩
    case measure=>simp[intOf];omega
  ·have e:zs.length<=j:=by omega
   have HZ:Hid (Z=P):=by show _=_;rw[HJ.out,HN.out j e,List.append_nil]
   go_wp2;go_ret
   exact⟨_,rfl,HZ.out▸q0A hown BW.size,BW.trans (hb.mono BW.size)⟩
end
end Go.Proofs.YtebgngofnmcklaaGreat
