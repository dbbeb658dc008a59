/- Texts of this claim, joined and laid tight: part 4 of 6. No condition. -/
import Derived.Test.YtebgngofnmcklaaGreatJApply3
import Derived.Deep.RegionHeld
import Derived.Shelf.Strconv.Clone
namespace Go.Proofs.YtebgngofnmcklaaGreat
set_option linter.unusedVariables false
set_option maxRecDepth 100000
set_option maxHeartbeats 8000000
section
open Go.RowKit
def x2k(ds:List x0g):Prop:=∀i(h:i<ds.length),okW ds[i]
theorem z3x(w:World)(a:Option Addr)(cap:Nat)(ds:List x0g)(h:RdW w a ds)(hn:ds.length<=1048576):
 Calls Tryz.prog 114 #[.slice a ds.length cap,.func (.func 98) #[] #[]] w λe w' =>∃z:Int,e= .returned (.int .i64 z)/\(0<=z↔¬x2k ds)/\Below w.heap.size w w' :=by
 have HA:Hid (∀X,Below w.heap.size w X->RdW X a ds):=λX hX=>z0R h hX;obtain⟨n,hnn⟩:∃n,ds.length=n:=⟨_,rfl⟩;have Hn:Hid (ds.length=n):=hnn;rw[hnn]at hn;rw[hnn];clear h hnn;go_enter Tryz.func114,Tryz.ntmps114;go_wp2;go_loopw[8] (λi X=>∃j:Nat,j<=n/\i= .int .i64 j/\Below w.heap.size w X/\Hid (∀i(h:i<ds.length),i<j->okW ds[i])) (λi _=>n - (intOf i).toNat)
 case atStart=>exact⟨0,by omega,rfl,bl0,λi _ h=>absurd h (by omega)⟩
 case round=>
  obtain⟨j,hj,rfl,hb,HJ⟩:=hrel;by_cases hlt:j<n
  ·have hj2:j<ds.length:=by have:=Hn.out;omega
   obtain⟨g,off,rfl,hg,hc⟩:=HA.out _ hb j hj2;obtain⟨c0,c1⟩:=hc;obtain⟨q,hq⟩:=j0o (okW ds[j]);have CW:Hid (∀X,_):=λX=>j2Y ds[j] X q hq
   have HW:Hid (q=true->∀i(h:i<ds.length),i<j+1->okW ds[i]):=λho i hi hl=>by
    rcases Nat.lt_or_ge i j with h3|h3
    ·exact HJ.out i hi h3
    ·obtain rfl:i=j:=by omega
     exact hq.1 ho
   have HWN:Hid (q=false->¬x2k ds):=λho hall=>by rw[hq.2 (hall j hj2)]at ho;cases ho
   clear hq;generalize ds[j].used=du at*;generalize ds[j].target=dt at*
   cases q with
   |true=>
    have HFIN:Hid _:=HW.out rfl;go_wp2_with fail
    refine(CW.out _).mono ?_;rintro e w1 ⟨rfl,b1⟩;have B1:=hb.trans (b1.mono hb.size);go_wp2;go_roundw
    case rel=>exact⟨j+1,by omega,by go_num,B1,HFIN⟩
    case measure=>simp[intOf];omega
   |false=>
    have HFIN:Hid _:=HWN.out rfl;go_wp2_with fail
    refine(CW.out _).mono ?_;rintro e w1 ⟨rfl,b1⟩;have B1:=hb.trans (b1.mono hb.size);go_wp2;go_ret
    exact⟨(j:Int),rfl,⟨λ_=>HFIN.out,λ_=>by omega⟩,B1⟩
  ·have ej:n<=j:=by omega
   go_wp2;go_ret
   exact⟨-1,rfl,⟨λh=>by omega,λh=>absurd (λi hi=>HJ.out i hi (by have:=Hn.out;omega)) h⟩,hb⟩
theorem z3o(w:World)(a:Option Addr)(cap:Nat)(ds:List x0g)(h:RdW w a ds)(hn:ds.length<=1048576)(b:Bool)(hb:b=true↔x2k ds):
 Calls Tryz.prog 97 #[.slice a ds.length cap,.func (.func 98) #[] #[]] w λe w' =>e= .returned (.bool (!b))/\Below w.heap.size w w' :=by
 have C:Hid (∀u:Unit,_):=λ(_:Unit)=>z3x w a cap ds h hn;rw[<-hb]at C;clear h hb;go_enter Tryz.func97,Tryz.ntmps97;go_wp2_with fail
 refine(C.out ()).mono ?_;rintro e w1 ⟨z,rfl,hz,b1⟩;have HZ:Hid (decide (0<=z)= !b):=by show _=_;cases b<;>simp_all
 clear hz;go_wp2;go_ret
 exact⟨u1n HZ.out,b1⟩
theorem few{n:Nat}:∀{l:List Nat},l.Nodup->(∀x∈l,x<n)->l.length<=n:=by
 induction n with
 |zero=>intro l _ h;cases l with|nil=>simp|cons x r=>exact absurd (h x (by simp)) (by omega)
 |succ n ih=>
  intro l hn h;by_cases hm:n∈l
  ·have h1:=ih (l:=l.erase n) (hn.erase n) (λx hx=>by
    have h2:=h x (List.mem_of_mem_erase hx);have h3:x≠n:=λe=>by subst e;exact(hn.mem_erase_iff.1 hx).1 rfl
    omega)
   rw[List.length_erase_of_mem hm]at h1;omega
  ·have h1:=ih (l:=l) hn (λx hx=>by
    have h2:=h x hx;have h3:x≠n:=λe=>by subst e;exact hm hx
    omega)
   omega
theorem z2J(H:q0a)(x:Int)(h:0<=q0l H x):∃k,∃(hk:k<H.objs.length),q0l H x=(k:Int)/\k<8/\x=(k:Int)+8*H.objs[k].gen:=by
 unfold q0l at h ⊢;by_cases h1:x<8\/H.objs.length≠8
 ·rw[if_pos h1]at h;omega
 ·rw[if_neg h1]at h ⊢;have h8:H.objs.length=8:=by omega
  have hk:(x%8).toNat<H.objs.length:=by omega
  rw[List.getElem?_eq_getElem hk]at h ⊢;simp only at h ⊢;by_cases h2:H.objs[(x%8).toNat].live=true/\H.objs[(x%8).toNat].gen=x / 8
  ·rw[if_pos h2]at h ⊢;refine⟨(x%8).toNat,hk,by omega,by omega,?_⟩;rw[h2.2];omega
  ·rw[if_neg h2]at h;omega
theorem q3l(H:q0a):x2X H↔∀i(h:i<H.buffer.length),okB H i H.buffer[i]:=by
 refine⟨λh=>h.2,λh=>⟨?_,h⟩⟩
 have hnd:(H.buffer.map (λx=>(q0l H x).toNat)).Nodup:=by
  unfold List.Nodup;rw[List.pairwise_iff_getElem];intro i j hi hj hij e;rw[List.length_map]at hi hj;rw[List.getElem_map,List.getElem_map]at e;obtain⟨k,hk,e1,-,e2⟩:=z2J H _ (h i hi).1;obtain⟨k',hk',e3,-,e4⟩:=z2J H _ (h j hj).1;rw[e1,e3]at e;obtain rfl:k=k' :=by omega
  refine(h j hj).2 ((y2v _ _ _).2 ⟨i,hi,hij,?_⟩);rw[e2,e4]
 have h1:=few hnd (n:=8) (λy hy=>by
  obtain⟨x,hx,rfl⟩:=List.mem_map.1 hy;obtain⟨i,hi,rfl⟩:=List.mem_iff_getElem.1 hx;obtain⟨k,hk,e1,e2,-⟩:=z2J H _ (h i hi).1;rw[e1];omega)
 rw[List.length_map]at h1;exact h1
theorem q2f(H:q0a):y1g H.sites↔H.sites.length<=6/\∀i(h:i<H.sites.length),okN H i H.sites[i]:=by
 unfold y1g okN;constructor
 ·rintro⟨h1,h2⟩;exact⟨h1,λi hi=>⟨(h2 i hi).1,λk hk hki e=>(h2 i hi).2 ((y2v _ _ _).2 ⟨k,hk,hki,e⟩)⟩⟩
 ·rintro⟨h1,h2⟩;exact⟨h1,λi hi=>⟨(h2 i hi).1,λhm=>by obtain⟨k,hk,hki,e⟩:=(y2v _ _ _).1 hm;exact(h2 i hi).2 k hk hki e⟩⟩
theorem x3m(o:q0E)(hl:o.live=false)(h3:o.field.length=3):o=q0J o.gen↔v2a o:=by
 obtain⟨ol,og,ost,oh,orr,oc,ofl,op⟩:=o;simp only at hl h3;subst hl;unfold q0J v2a;simp only[q0E.mk.injEq,true_and];constructor
 ·rintro⟨rfl,rfl,rfl,rfl,rfl,rfl⟩;refine⟨rfl,rfl,rfl,rfl,rfl,λk hk=> ?_⟩
  match k,hk with
  |0,_|1,_|2,_=>rfl
 ·rintro⟨rfl,rfl,rfl,rfl,rfl,hk⟩;refine⟨rfl,rfl,rfl,rfl,?_,rfl⟩
  match ofl,h3,hk with
  |[a,b,c],_,hk=>have h0:=hk 0 (by simp);have h1:=hk 1 (by simp);have h2:=hk 2 (by simp);simp at h0 h1 h2;rw[h0,h1,h2]
theorem y0H(v:Value)(H:q0a)(w:World)(h:RdH w v H)(hs:q0h H)(hf:WfH H)(hcap:v0B v)(b:Bool)(hbb:b=true↔OkH H):
 Calls Tryz.prog 43 #[v] w λe w' =>e= .returned (.bool b)/\Below w.heap.size w w' :=by
 have HR0:Hid (∀X,Below w.heap.size w X->RdH X v H):=λX hX=>q0s h hX;have HCP:Hid (v0B v):=hcap;obtain⟨ao,co,aw,cw,ab,cb,sa,sc,rfl,ro,rwk,ri,rs⟩:=h
 have hcs:H.sites.length<=sc:=by obtain⟨a0,n0,k0,a1,n1,k1,a2,n2,k2,a3,n3,k3,e,h0,h1,h2,h3⟩:=hcap;simp only[Value.agg.injEq,Array.mk.injEq,List.cons.injEq,Value.slice.injEq]at e;obtain⟨-,-,-,⟨-,e1,e2⟩,-⟩:=e;omega
 have HNO:Hid (¬OkH H->b=false):=x1j hbb;have HYES:Hid (OkH H->b=true):=hbb.2;clear hbb;obtain⟨bN,hbN⟩:=j0o (y1g H.sites);obtain⟨bB,hbB⟩:=j0o (x2X H);obtain⟨bW,hbW⟩:=j0o (x2k H.weaks);have l0:=hs.objs;have l1:=hs.weaks;have l2:=hs.buffer;have l3:=hs.sites;obtain⟨W,hW⟩:∃W,W=w.alloc (.cells #[.slice ao H.objs.length co,.slice aw H.weaks.length cw,.slice ab H.buffer.length cb,.slice sa H.sites.length sc] 35):=⟨_,rfl⟩;have BW:Below w.heap.size w W:=by rw[hW];exact bl1 _
 have hWs:W.heap.size=w.heap.size+1:=by rw[hW];simp
 have HK:Hid (∀X,Below W.heap.size W X->_):=λX(hX:Below W.heap.size W X)=>z0z w 35 (.slice ao H.objs.length co) (.slice aw H.weaks.length cw) (.slice ab H.buffer.length cb) (.slice sa H.sites.length sc) X (by rw[hWs,hW]at hX;exact hX);have HRS:Hid (∀X,Below W.heap.size W X->RdS X sa H.sites):=λX hX=>z0l (z0l rs BW) hX;have HRO:Hid (∀X,Below W.heap.size W X->RdO X ao H.objs):=λX hX=>q0V (q0V ro BW) hX;have HRW:Hid (∀X,Below W.heap.size W X->RdW X aw H.weaks):=λX hX=>z0R (z0R rwk BW) hX;have HRD:Hid (∀X,Below W.heap.size W X->RdH X _ H):=λX hX=>HR0.out X (BW.trans (hX.mono BW.size));have HB:Hid (∀X,Below W.heap.size W X->Below w.heap.size w X):=λX hX=>BW.trans (hX.mono BW.size);have CSI:Hid (∀X,Below W.heap.size W X->_):=λX hX=>z3O X sa sc H.sites (HRS.out X hX) hcs l3 hs.names bN hbN;have CBU:Hid (∀X,Below W.heap.size W X->_):=λX hX=>u2e _ H X (HRD.out X hX) HCP.out hs hf bB hbB;have CWK:Hid (∀X,Below W.heap.size W X->_):=λX hX=>z3o X aw cw H.weaks (HRW.out X hX) l1 bW hbW;have HS:Hid (q0h H):=hs;have HF:Hid (WfH H):=hf;clear ro rwk ri rs hs hf hcap HR0 hWs;by_cases h0:H.objs.length=8
 rotate_left
 ·have hb:=HNO.out (λok=>h0 ok.size.1);subst hb;have q0:¬((H.objs.length:Int)=8):=by omega
  clear hW;go_enter Tryz.func43,Tryz.ntmps43;go_wp2;go_ret
  exact⟨rfl,bl1 _⟩
 by_cases h1:H.weaks.length=8
 rotate_left
 ·have hb:=HNO.out (λok=>h1 ok.size.2.1);subst hb;have q1:¬((H.weaks.length:Int)=8):=by omega
  rw[h0];clear hW;go_enter Tryz.func43,Tryz.ntmps43;go_wp2;go_ret
  exact⟨rfl,bl1 _⟩
 have H0:Hid (H.objs.length=8):=h0;have H1:Hid (H.weaks.length=8):=h1;obtain⟨k0,k1,k2,k3⟩:=HK.out _ bl0;rw[h0,h1]at hW HK CBU;rw[h0]at k0 ⊢;rw[h1]at k1 CWK ⊢;clear h0 h1;by_cases hN:y1g H.sites
 rotate_left
 ·have hb:=HNO.out (λok=>hN ((q2f H).2 ⟨ok.size.2.2,ok.sites⟩));subst hb;rw[x1j hbN hN]at CSI;go_enter Tryz.func43,Tryz.ntmps43;go_wp2_with fail
  rw[<-hW];clear hW;refine(CSI.out _ bl0).mono ?_;rintro e W1 ⟨rfl,hw1⟩;subst hw1;go_wp2;go_ret
  exact⟨rfl,BW⟩
 rw[hbN.2 hN]at CSI;by_cases hB:x2X H
 rotate_left
 ·have hb:=HNO.out (λok=>hB ((q3l H).2 ok.buffer));subst hb;rw[x1j hbB hB]at CBU;go_enter Tryz.func43,Tryz.ntmps43;go_wp2_with fail
  rw[<-hW];clear hW;refine(CSI.out _ bl0).mono ?_;rintro e W1 ⟨rfl,hw1⟩;subst hw1;go_wp2_with fail
  refine(CBU.out _ bl0).mono ?_;rintro e w2 ⟨rfl,b2⟩;go_wp2;go_ret
  exact⟨rfl,HB.out _ b2⟩
 rw[hbB.2 hB]at CBU;have HNX:Hid (∀i(h:i<H.objs.length),¬okO H i H.objs[i]->b=false):=λi hi hn=>HNO.out (λok=>hn (ok.objs i hi));have HNW:Hid (¬x2k H.weaks->b=false):=λhn=>HNO.out (λok=>hn ok.weaks);have HAY:Hid ((∀i(h:i<H.objs.length),okO H i H.objs[i])->x2k H.weaks->b=true):=λa1 a2=>HYES.out ⟨⟨H0.out,H1.out,((q2f H).1 hN).1⟩,a1,a2,(q3l H).1 hB,((q2f H).1 hN).2⟩
 have hex:∃g off,ao=some ⟨g,off,none⟩:=by obtain⟨g,off,f,fc,ha,-⟩:=HRO.out _ bl0 0 (by have:=H0.out;omega);exact⟨g,off,ha⟩
 obtain⟨g,off,rfl⟩:=hex;have CC:Hid (∀X:World,_):=λX=>y0i X (some ⟨g,off,none⟩) 8 co (.slice aw 8 cw) (.slice ab H.buffer.length cb) (.slice sa H.sites.length sc) (by omega) g off (λ_=>rfl) ⟨_,_,_,_,_,_,_,_,_,rfl,rfl,rfl⟩;obtain⟨x,hx,hxs⟩:=v1C g off 8;have HX:Hid (∀s:Nat,s<8->∀X:World,(Instr.index 116 (.agg x) (.int .i64 (s:Int))).run Tryz.prog X= .ok (.pointer (z0N g off 8 s)) X):=hxs;rw[hx]at CC
 have HOB:Hid (∀X,Below W.heap.size W X->∀j(h:j<H.objs.length),∃f cap,g<X.heap.size/\x0G X g (off+j*8) H.objs[j] (.slice f H.objs[j].field.length cap)/\RdI X f H.objs[j].field):=λX hX j hj=>by
  obtain⟨g',off',f,cap,e1,e2,e3,e4⟩:=HRO.out X hX j hj;simp only[Option.some.injEq,Addr.mk.injEq,and_true]at e1;obtain⟨rfl,rfl⟩:=e1;exact⟨f,cap,e2,e3,e4⟩
 have HBW:Hid (bW=true↔x2k H.weaks):=hbW;clear HNO HYES hx hxs hN hB hbN hbB hbW;go_enter Tryz.func43,Tryz.ntmps43;go_wp2_with fail
 rw[<-hW];clear hW;refine(CSI.out _ bl0).mono ?_;rintro e W1 ⟨rfl,hw1⟩;subst hw1;go_wp2_with fail
 refine(CBU.out _ bl0).mono ?_;rintro e w2 ⟨rfl,b2⟩;clear k0 k1 k2 k3;obtain⟨k0,k1,k2,k3⟩:=HK.out _ b2;go_wp2_with fail
 refine(CC.out _).mono ?_;rintro e w3 ⟨rfl,b3⟩;have B3:=b2.trans (b3.mono b2.size);clear k0 k1 k2 k3 CSI CBU CC;go_wp2;go_loopw[28] (λi X=>∃j:Nat,j<=8/\i= .int .i64 j/\Below W1.heap.size W1 X/\Hid (∀i(h:i<H.objs.length),i<j->okO H i H.objs[i])) (λi _=>8 - (intOf i).toNat)
 case atStart=>exact⟨0,by omega,rfl,B3,λi _ h=>absurd h (by omega)⟩
 case round=>
  obtain⟨j,hj,rfl,hb,HJ⟩:=hrel;by_cases hlt:j<8
  ·have hj2:j<H.objs.length:=by have:=H0.out;omega
   have hix:=HX.out j hlt;have hA:z0N g off 8 j=some ⟨g,off+j*8,none⟩:=by unfold z0N;rw[if_pos hlt]
   rw[hA]at hix;clear hA;obtain⟨f,fc,hg,hc,hr⟩:=HOB.out _ hb j hj2;have HNJ:Hid (¬okO H j H.objs[j]->b=false):=HNX.out j hj2
   have HOX:Hid (okO H j H.objs[j]->∀i(h:i<H.objs.length),i<j+1->okO H i H.objs[i]):=λho i hi hl=>by
    rcases Nat.lt_or_ge i j with h3|h3
    ·exact HJ.out i hi h3
    ·obtain rfl:i=j:=by omega
     exact ho
   have hfl:=HS.out.fields _ (List.getElem_mem hj2);have HWF:Hid (WfO H.objs[j]):=HF.out.objs _ (List.getElem_mem hj2);obtain⟨o,ho⟩:∃o,H.objs[j]=o:=⟨_,rfl⟩;rw[ho]at hc hr HNJ HOX hfl HWF;obtain⟨ql,hql⟩:=j0o (j1v H j o);have HQL:Hid (ql=true↔j1v H j o):=hql;clear hql;have CL:Hid (∀X:q0b wr,_):=λX=>x3X _ H j o X.on (HRD.out _ (hb.trans (X.bel.mono hb.size))) HS.out HF.out hlt g (off+j*8) f fc (Nat.lt_of_lt_of_le hg X.bel.size) (hc.keep (λk=>X.bel.cell (p:=⟨g,k,none⟩) hg)) (q0t hr X.bel) hfl HWF.out ql HQL.out;rw[H0.out,H1.out]at CL;have HRF:Hid (∀X,Below wr.heap.size wr X->RdI X f o.field):=λX hX=>q0t hr hX;have HCE:Hid (∀X,Below wr.heap.size wr X->x0G X g (off+j*8) o (.slice f o.field.length fc)):=λX hX=>hc.keep (λk=>hX.cell (p:=⟨g,k,none⟩) hg);have HK2:Hid (∀X:q0b wr,_):=λX=>HK.out X.on (hb.trans (X.bel.mono hb.size));clear ho hr HJ;obtain⟨c0,c1,c2,c3,c4,c5,c6,c7⟩:=hc;by_cases hgen:0<=o.gen/\o.gen<=999
   rotate_left
   ·have hb0:=HNJ.out (λok=>hgen ok.1.1);subst hb0;go_wp2_with fail
    refine(y0U o.gen 0 999 _ (by omega)).mono ?_;rintro e V ⟨rfl,hV⟩;subst hV;go_wp2;go_ret
    exact⟨rfl,HB.out _ hb⟩
   by_cases hf3:o.field.length=3
   rotate_left
   ·have hb0:=HNJ.out (λok=>hf3 ok.1.2);subst hb0;have q3:¬((o.field.length:Int)=3):=by omega
    go_wp2_with fail
    refine(z0Z o.gen 0 999 _ hgen.1 hgen.2).mono ?_;rintro e V ⟨rfl,hV⟩;subst hV;go_wp2;go_ret
    exact⟨rfl,HB.out _ hb⟩
   have H3:Hid (o.field.length=3):=hf3;rw[hf3]at c6
   cases hlive:o.live with
   |true=>
    have HL:Hid (ql=false->b=false):=λhn=>HNJ.out (λok=>by have:=HQL.out.2 (ok.2.2 hlive);rw[hn]at this;cases this);have HFN:Hid (ql=true->∀i(h:i<H.objs.length),i<j+1->okO H i H.objs[i]):=λhd=>HOX.out ⟨⟨hgen,H3.out⟩,λh=>(by rw[hlive]at h;cases h),λ_=>HQL.out.1 hd⟩;have z0:∀X:q0b wr,X.on.cell? ⟨g,off+j*8,none⟩=some (.bool true):=λX=>by rw[<-hlive];exact(HCE.out _ X.bel).c0
    have hne:=q0b.some_ wr;have y0:∀X:q0b wr,X.on.cell? ⟨w.heap.size,0,none⟩=some (.slice (some ⟨g,off,none⟩) 8 co):=λX=>(HK2.out X).1;have y1:∀X:q0b wr,X.on.cell? ⟨w.heap.size,1,none⟩=some (.slice aw 8 cw):=λX=>(HK2.out X).2.1;have y2:∀X:q0b wr,X.on.cell? ⟨w.heap.size,2,none⟩=some (.slice ab H.buffer.length cb):=λX=>(HK2.out X).2.2.1;have y3:∀X:q0b wr,X.on.cell? ⟨w.heap.size,3,none⟩=some (.slice sa H.sites.length sc):=λX=>(HK2.out X).2.2.2;clear HQL;rw[hlive]at c0;clear hlive hf3
    cases ql with
    |true=>
     have HFIN:Hid _:=HFN.out rfl;go_wp2_with fail
     refine(z0Z o.gen 0 999 _ hgen.1 hgen.2).mono ?_;rintro e V ⟨rfl,hV⟩;subst hV;go_wp2;refine q0j V bl0 (by kernel_rfl) (by kernel_rfl) ?_
     repeat (go_big_quiet_step (first
      |(go_at_call 94;refine(CL.out _).mono ?_;rintro e w1 ⟨rfl,b1⟩;exact⟨rfl,q0b.step _ b1⟩)))
     refine wpQuiet_nil ?_;rintro _ ⟨⟨X,hX⟩,rfl⟩;go_wp2;go_roundw
     case rel=>exact⟨j+1,by omega,by go_num,hb.trans (hX.mono hb.size),HFIN⟩
     case measure=>simp[intOf];omega
    |false=>
     have hb0:=HL.out rfl;subst hb0;go_wp2_with fail
     refine(z0Z o.gen 0 999 _ hgen.1 hgen.2).mono ?_;rintro e V ⟨rfl,hV⟩;subst hV;go_wp2;refine q0j V bl0 (by kernel_rfl) (by kernel_rfl) ?_
     repeat (go_big_quiet_step (first
      |(go_at_call 94;refine(CL.out _).mono ?_;rintro e w1 ⟨rfl,b1⟩;exact⟨rfl,q0b.step _ b1⟩)))
     refine wpQuiet_nil ?_;rintro _ ⟨⟨X,hX⟩,rfl⟩;go_wp2;go_ret
     exact⟨rfl,HB.out _ (hb.trans (hX.mono hb.size))⟩
   |false=>
    obtain⟨q,hq⟩:=j0o (o=q0J o.gen);have HQE:Hid (q=true↔o=q0J o.gen):=hq;clear hq;have HL:Hid (q=false->b=false):=λhn=>HNJ.out (λok=>by have:=HQE.out.2 ((x3m o hlive H3.out).2 (ok.2.1 hlive));rw[hn]at this;cases this);have HFN:Hid (q=true->∀i(h:i<H.objs.length),i<j+1->okO H i H.objs[i]):=λhd=>HOX.out ⟨⟨hgen,H3.out⟩,λ_=>(x3m o hlive H3.out).1 (HQE.out.1 hd),λh=>(by rw[hlive]at h;cases h)⟩;have SO:Hid (∀X fa fk,Below wr.heap.size wr X->RdI X fa [-1,-1,-1]->_):=λX fa fk hX hfa=>x2c o (q0J o.gen) f fa fc fk X (HRF.out X hX) hfa (by omega) (by simp[q0J]) q HQE.out;have EO:Hid (∀X:World,_):=λX=>j0z o.gen X;have D1:Below wr.heap.size wr wr.drew:=bl0.drew;clear HQE;rw[hf3]at SO HCE;rw[hlive]at c0;have hcell:=HCE;obtain⟨ol,og,ost,oh,orr,oc,ofl,op⟩:=o;simp only at*;subst hlive;unfold y0J at SO EO;simp only at SO EO;clear HNJ HOX HRF HWF CL HK2;have HSX:Hid (∀X,Below wr.heap.size wr X->(λX=>X.cell? ⟨g,off+j*8,none⟩=some (.bool false)/\X.cell? ⟨g,off+j*8+1,none⟩=some (.int .i64 og)/\X.cell? ⟨g,off+j*8+2,none⟩=some (.int .i64 ost)/\X.cell? ⟨g,off+j*8+3,none⟩=some (.int .i64 oh)/\X.cell? ⟨g,off+j*8+4,none⟩=some (.int .i64 orr)/\X.cell? ⟨g,off+j*8+5,none⟩=some (.int .i64 oc)/\X.cell? ⟨g,off+j*8+6,none⟩=some (.slice f 3 fc)/\X.cell? ⟨g,off+j*8+7,none⟩=some (.bool op)) X):=λX hX=>⟨(HCE.out X hX).c0,(HCE.out X hX).c1,(HCE.out X hX).c2,(HCE.out X hX).c3,(HCE.out X hX).c4,(HCE.out X hX).c5,(HCE.out X hX).c6,(HCE.out X hX).c7⟩;clear hcell;go_wp2_with fail
    refine(z0Z og 0 999 _ hgen.1 hgen.2).mono ?_;rintro e V ⟨rfl,hV⟩;subst hV;go_wp2;clear c0 c1 c2 c3 c4 c5 c6 c7;refine wp_region_held_drew (S:=(λX=>X.cell? ⟨g,off+j*8,none⟩=some (.bool false)/\X.cell? ⟨g,off+j*8+1,none⟩=some (.int .i64 og)/\X.cell? ⟨g,off+j*8+2,none⟩=some (.int .i64 ost)/\X.cell? ⟨g,off+j*8+3,none⟩=some (.int .i64 oh)/\X.cell? ⟨g,off+j*8+4,none⟩=some (.int .i64 orr)/\X.cell? ⟨g,off+j*8+5,none⟩=some (.int .i64 oc)/\X.cell? ⟨g,off+j*8+6,none⟩=some (.slice f 3 fc)/\X.cell? ⟨g,off+j*8+7,none⟩=some (.bool op))) (by kernel_rfl) (HSX.out _ D1) (λhHeld=> ?_);refine wpAnyH_take (i:=0) (v:= ?_) rfl (by kernel_rfl) (by kernel_rfl) (by kernel_rfl) (λ_ _ _ h=>h) (Or.inl ⟨by rfl,?_⟩) (by assumption) ?_
    rotate_left 1
    ·intro wX hSw
     (try dsimp only at hSw)
     go_simp;all_goals (try with_reducible rfl)
    (try simp only[Act.put,List.setIfInBounds_toArray])
    refine wpAnyH_take (i:=1) (v:= ?_) rfl (by kernel_rfl) (by kernel_rfl) (by kernel_rfl) (λ_ _ _ h=>h) (Or.inl ⟨by rfl,?_⟩) (by assumption) ?_
    rotate_left 1
    ·intro wX hSw
     (try dsimp only at hSw)
     go_simp;all_goals (try with_reducible rfl)
    (try simp only[Act.put])
    refine wpAnyH_take (i:=2) (v:= ?_) rfl (by kernel_rfl) (by kernel_rfl) (by kernel_rfl) (λ_ _ _ h=>h) (Or.inl ⟨by rfl,?_⟩) (by assumption) ?_
    rotate_left 1
    ·intro wX hSw
     (try dsimp only at hSw)
     go_simp;all_goals (try with_reducible rfl)
    (try simp only[Act.put])
    refine wpAnyH_take (i:=3) (v:= ?_) rfl (by kernel_rfl) (by kernel_rfl) (by kernel_rfl) (λ_ _ _ h=>h) (Or.inl ⟨by rfl,?_⟩) (by assumption) ?_
    rotate_left 1
    ·intro wX hSw
     (try dsimp only at hSw)
     go_simp;all_goals (try with_reducible rfl)
    (try simp only[Act.put])
    refine wpAnyH_take (i:=4) (v:= ?_) rfl (by kernel_rfl) (by kernel_rfl) (by kernel_rfl) (λ_ _ _ h=>h) (Or.inl ⟨by rfl,?_⟩) (by assumption) ?_
    rotate_left 1
    ·intro wX hSw
     (try dsimp only at hSw)
     go_simp;all_goals (try with_reducible rfl)
    (try simp only[Act.put])
    refine wpAnyH_take (i:=5) (v:=undef) rfl (by kernel_rfl) (by kernel_rfl) (by kernel_rfl) (λ_ _ _ h=>h) (Or.inr ⟨by simp[Region.wanted,yielded],rfl⟩) (by assumption) ?_
    (try simp only[Act.put])
    refine wpAnyH_take (i:=6) (v:=undef) rfl (by kernel_rfl) (by kernel_rfl) (by kernel_rfl) (λ_ _ _ h=>h) (Or.inr ⟨by simp[Region.wanted,yielded],rfl⟩) (by assumption) ?_
    (try simp only[Act.put])
    refine wpAnyH_take (i:=7) (v:=undef) rfl (by kernel_rfl) (by kernel_rfl) (by kernel_rfl) (λ_ _ _ h=>h) (Or.inr ⟨by simp[Region.wanted,yielded],rfl⟩) (by assumption) ?_
    (try simp only[Act.put])
    refine wpAnyH_take (i:=8) (v:=undef) rfl (by kernel_rfl) (by kernel_rfl) (by kernel_rfl) (λ_ _ _ h=>h) (Or.inr ⟨by simp[Region.wanted,yielded],rfl⟩) (by assumption) ?_
    (try simp only[Act.put])
    refine wpAnyH_take (i:=9) (v:=undef) rfl (by kernel_rfl) (by kernel_rfl) (by kernel_rfl) (λ_ _ _ h=>h) (Or.inr ⟨by simp[Region.wanted,yielded],rfl⟩) (by assumption) ?_
    (try simp only[Act.put])
    refine wpAnyH_take (i:=10) (v:= ?_) rfl (by kernel_rfl) (by kernel_rfl) (by kernel_rfl) (λ_ _ _ h=>h) (Or.inl ⟨by rfl,?_⟩) (by assumption) ?_
    rotate_left 1
    ·intro wX hSw
     (try dsimp only at hSw)
     go_simp;all_goals (try with_reducible rfl)
    (try simp only[Act.put])
    refine wpAnyH_take (i:=11) (v:= ?_) rfl (by kernel_rfl) (by kernel_rfl) (by kernel_rfl) (λ_ _ _ h=>h) (Or.inl ⟨by rfl,?_⟩) (by assumption) ?_
    rotate_left 1
    ·intro wX hSw
     (try dsimp only at hSw)
     go_simp;all_goals (try with_reducible rfl)
    (try simp only[Act.put])
    refine wpAnyH_take (i:=12) (v:= ?_) rfl (by kernel_rfl) (by kernel_rfl) (by kernel_rfl) (λ_ _ _ h=>h) (Or.inl ⟨by simp[Region.wanted,yielded],?_⟩) (by assumption) ?_
    rotate_left 1
    ·intro wX hSw
     (try dsimp only at hSw)
     go_simp;all_goals (try with_reducible rfl)
    (try simp only[Act.put])
    refine wpAnyH_take (i:=13) (v:= ?_) rfl (by kernel_rfl) (by kernel_rfl) (by kernel_rfl) (λ_ _ _ h=>h) (Or.inl ⟨by simp[Region.wanted,yielded],?_⟩) (by assumption) ?_
    rotate_left 1
    ·intro wX hSw
     (try dsimp only at hSw)
     go_simp;all_goals (try with_reducible rfl)
    (try simp only[Act.put])
    refine wpAnyH_take (i:=14) (v:= ?_) rfl (by kernel_rfl) (by kernel_rfl) (by kernel_rfl) (λ_ _ _ h=>h) (Or.inl ⟨by simp[Region.wanted,yielded],?_⟩) (by assumption) ?_
    rotate_left 1
    ·intro wX hSw
     (try dsimp only at hSw)
     go_simp;all_goals (try with_reducible rfl)
    (try simp only[Act.put])
    refine wpAnyH_take (i:=15) (v:= ?_) rfl (by kernel_rfl) (by kernel_rfl) (by kernel_rfl) (λ_ _ _ h=>h) (Or.inl ⟨by simp[Region.wanted,yielded],?_⟩) (by assumption) ?_
    rotate_left 1
    ·intro wX hSw
     (try dsimp only at hSw)
     go_simp;all_goals (try with_reducible rfl)
    (try simp only[Act.put])
    refine wpAnyH_take (i:=16) (v:= ?_) rfl (by kernel_rfl) (by kernel_rfl) (by kernel_rfl) (λ_ _ _ h=>h) (Or.inl ⟨by simp[Region.wanted,yielded],?_⟩) (by assumption) ?_
    rotate_left 1
    ·intro wX hSw
     (try dsimp only at hSw)
     go_simp;all_goals (try with_reducible rfl)
    (try simp only[Act.put])
    refine wpAnyH_take (i:=17) (v:= ?_) rfl (by kernel_rfl) (by kernel_rfl) (by kernel_rfl) (λ_ _ _ h=>h) (Or.inl ⟨by simp[Region.wanted,yielded],?_⟩) (by assumption) ?_
    rotate_left 1
    ·intro wX hSw
     (try dsimp only at hSw)
     go_simp;all_goals (try with_reducible rfl)
    (try simp only[Act.put])
    refine wpAnyH_take (i:=18) (v:= ?_) rfl (by kernel_rfl) (by kernel_rfl) (by kernel_rfl) (λ_ _ _ h=>h) (Or.inl ⟨by simp[Region.wanted,yielded],?_⟩) (by assumption) ?_
    rotate_left 1
    ·intro wX hSw
     (try dsimp only at hSw)
     go_simp;all_goals (try with_reducible rfl)
    (try simp only[Act.put])
    refine wpAnyH_take (i:=19) (v:= ?_) rfl (by kernel_rfl) (by kernel_rfl) (by kernel_rfl) (λ_ _ _ h=>h) (Or.inl ⟨by simp[Region.wanted,yielded],?_⟩) (by assumption) ?_
    rotate_left 1
    ·intro wX hSw
     (try dsimp only at hSw)
     go_simp;all_goals (try with_reducible rfl)
    (try simp only[Act.put])
    refine wpAnyH_take (i:=20) (v:= ?_) rfl (by kernel_rfl) (by kernel_rfl) (by kernel_rfl) (λ_ _ _ h=>h) (Or.inl ⟨by simp[Region.wanted,yielded],?_⟩) (by assumption) ?_
    rotate_left 1
    ·intro wX hSw
     (try dsimp only at hSw)
     go_simp;all_goals (try with_reducible rfl)
    (try simp only[Act.put])
    refine wpAnyH_take (i:=21) (v:= ?_) rfl (by kernel_rfl) (by kernel_rfl) (by kernel_rfl) (λ_ _ _ h=>h) (Or.inl ⟨by simp[Region.wanted,yielded],?_⟩) (by assumption) ?_
    rotate_left 1
    ·intro wX hSw
     (try dsimp only at hSw)
     go_simp;all_goals (try with_reducible rfl)
    (try simp only[Act.put])
    refine wpAnyH_take (i:=22) (v:= ?_) rfl (by kernel_rfl) (by kernel_rfl) (by kernel_rfl) (λ_ _ _ h=>h) (Or.inl ⟨by simp[Region.wanted,yielded],?_⟩) (by assumption) ?_
    rotate_left 1
    ·intro wX hSw
     (try dsimp only at hSw)
     go_simp;all_goals (try with_reducible rfl)
    (try simp only[Act.put])
    refine wpAnyH_take (i:=23) (v:= ?_) rfl (by kernel_rfl) (by kernel_rfl) (by kernel_rfl) (λ_ _ _ h=>h) (Or.inl ⟨by simp[Region.wanted,yielded],?_⟩) (by assumption) ?_
    rotate_left 1
    ·intro wX hSw
     (try dsimp only at hSw)
     go_simp;all_goals (try with_reducible rfl)
    (try simp only[Act.put])
    refine wpAnyH_take (i:=24) (v:= ?_) rfl (by kernel_rfl) (by kernel_rfl) (by kernel_rfl) (λ_ _ _ h=>h) (Or.inl ⟨by simp[Region.wanted,yielded],?_⟩) (by assumption) ?_
    rotate_left 1
    ·intro wX hSw
     (try dsimp only at hSw)
     go_simp;all_goals (try with_reducible rfl)
    (try simp only[Act.put])
    refine wpAnyH_ready (rs:=[25]) (by kernel_rfl) (by simp) ?_;refine AllReadyH.cons rfl (λK hK=> ?_) AllReadyH.nil;go_simp;refine(EO.out _).mono ?_;rintro e w1 ⟨fv,rfl,O1,b1⟩;obtain⟨fa,fk,hfv,hr1⟩:=z0e O1;subst hfv;have B1:=D1.trans (b1.mono D1.size);refine hK.out _ _ (HSX.out _ B1) (λhHeld2=> ?_);clear hK K hHeld
    (try simp only[Act.put,List.setIfInBounds_toArray,List.set_cons_zero,List.set_cons_succ])
    refine wpAnyH_ready (rs:=[26]) (by kernel_rfl) (by simp) ?_;refine AllReadyH.cons rfl (λK hK=> ?_) AllReadyH.nil;go_simp;refine(SO.out _ _ _ B1 hr1).mono ?_;rintro e w2 ⟨rfl,b2⟩;have B2:=B1.trans (b2.mono B1.size);refine hK.out _ _ (HSX.out _ B2) (λhHeld3=> ?_);clear hK K hHeld2
    (try simp only[Act.put,List.setIfInBounds_toArray,List.set_cons_zero,List.set_cons_succ])
    cases q with
    |true=>
     have HFIN:Hid _:=HFN.out rfl;clear HL HFN;refine wpAnyH_take (i:=27) (v:= .bool false) rfl (by kernel_rfl) (by kernel_rfl) (by kernel_rfl) (λ_ _ _ h=>h) (Or.inl ⟨by simp[Region.wanted,yielded],?_⟩) (by assumption) ?_
     ·intro wX hSw
      (try dsimp only at hSw)
      go_simp;all_goals (try with_reducible rfl)
     (try simp only[Act.put,List.setIfInBounds_toArray])
     refine wpAnyH_take (i:=28) (v:= .bool false) rfl (by kernel_rfl) (by kernel_rfl) (by kernel_rfl) (λ_ _ _ h=>h) (Or.inl ⟨by simp[Region.wanted,yielded],?_⟩) (by assumption) ?_
     ·intro wX hSw
      (try dsimp only at hSw)
      go_simp;all_goals (try with_reducible rfl)
     (try simp only[Act.put])
     refine wpAnyH_take (i:=29) (v:= .bool false) rfl (by kernel_rfl) (by kernel_rfl) (by kernel_rfl) (λ_ _ _ h=>h) (Or.inl ⟨by rfl,?_⟩) (by assumption) ?_
     ·intro wX hSw
      (try dsimp only at hSw)
      go_simp;all_goals (try with_reducible rfl)
     (try simp only[Act.put])
     refine wpAnyH_done (by kernel_rfl) ?_ _;go_wp2;go_roundw
     case rel=>exact⟨j+1,by omega,by go_num,hb.trans (B2.mono hb.size),HFIN⟩
     case measure=>simp[intOf];omega
    |false=>
     have hb0:=HL.out rfl;subst hb0;clear HL HFN;refine wpAnyH_take (i:=27) (v:= .bool true) rfl (by kernel_rfl) (by kernel_rfl) (by kernel_rfl) (λ_ _ _ h=>h) (Or.inl ⟨by simp[Region.wanted,yielded],?_⟩) (by assumption) ?_
     ·intro wX hSw
      (try dsimp only at hSw)
      go_simp;all_goals (try with_reducible rfl)
     (try simp only[Act.put,List.setIfInBounds_toArray])
     refine wpAnyH_take (i:=28) (v:= .bool true) rfl (by kernel_rfl) (by kernel_rfl) (by kernel_rfl) (λ_ _ _ h=>h) (Or.inl ⟨by simp[Region.wanted,yielded],?_⟩) (by assumption) ?_
     ·intro wX hSw
      (try dsimp only at hSw)
      go_simp;all_goals (try with_reducible rfl)
     (try simp only[Act.put])
     refine wpAnyH_take (i:=29) (v:= .bool true) rfl (by kernel_rfl) (by kernel_rfl) (by kernel_rfl) (λ_ _ _ h=>h) (Or.inl ⟨by rfl,?_⟩) (by assumption) ?_
     ·intro wX hSw
      (try dsimp only at hSw)
      go_simp;all_goals (try with_reducible rfl)
     (try simp only[Act.put])
     refine wpAnyH_done (by kernel_rfl) ?_ _;go_wp2;go_ret
     exact⟨rfl,HB.out _ (hb.trans (B2.mono hb.size))⟩
  ·have ej:8<=j:=by omega
   obtain⟨k0,k1,k2,k3⟩:=HK.out _ hb;by_cases hw:x2k H.weaks
   ·have hb1:=HAY.out (λi hi=>HJ.out i hi (by have:=H0.out;omega)) hw;subst hb1;rw[HBW.out.2 hw]at CWK;go_wp2_with fail
    refine(CWK.out _ hb).mono ?_;rintro e w4 ⟨rfl,b4⟩;go_wp2;go_ret
    exact⟨rfl,HB.out _ (hb.trans (b4.mono hb.size))⟩
   ·have hb1:=HNW.out hw;subst hb1;rw[x1j HBW.out hw]at CWK;go_wp2_with fail
    refine(CWK.out _ hb).mono ?_;rintro e w4 ⟨rfl,b4⟩;go_wp2;go_ret
    exact⟨rfl,HB.out _ (hb.trans (b4.mono hb.size))⟩
end
section
open Go.RowKit
variable{H:q0a}
theorem z0f(c:Int)(w:World):
 Calls Tryz.prog 44 #[.int .i64 c] w λe w' =>e= .returned (q0m c 0 (.slice none 0 0))/\Below w.heap.size w w' :=by
 go_enter Tryz.func44,Tryz.ntmps44;go_wp2;refine bodyPost_ret (v:=q0m c 0 (.slice none 0 0)) (by simp[results,Tryz.results44,go_sem,q0m, *]) rfl ⟨rfl,?_⟩;exact bl1 _
def v0o(k:Int):Value:=
 if k=1 then .func (.func 83) #[] #[]
 else if k=2\/k=3\/k=5\/k=6 then .func (.func 84) #[] #[]
 else if k=4 then .func (.func 85) #[] #[]
 else if k=7 then .func (.func 86) #[] #[]
 else if k=8 then .func (.func 87) #[] #[]
 else if k=9 then .func (.func 88) #[] #[]
 else if k=10 then .func (.func 89) #[] #[]
 else .nilFunc
theorem j0n(k:Int)(w:World)(hk:q0w k):
 Calls Tryz.prog 42 #[.int .i64 k] w λe w' =>e= .returned (v0o k)/\Below w.heap.size w w' :=by
 have hsf:=λ(F:Fn)(a:Addr)(W:World)=>run_store Tryz.prog W a (.func F #[] #[]) .plain rfl;have hsn:=λ(a:Addr)(W:World)=>run_store Tryz.prog W a .nilFunc .plain rfl;by_cases h0:k<0
 ·have HV:Hid (v0o k= .nilFunc):=by show _=_;unfold v0o;iterate 7 rw[if_neg (by omega)]
  rw[HV.out];go_enter Tryz.func42,Tryz.ntmps42;go_wp2;go_ret
  exact⟨rfl,bl1 _⟩
 ·by_cases h9:11<=k
  ·have HV:Hid (v0o k= .nilFunc):=by show _=_;unfold v0o;iterate 7 rw[if_neg (by omega)]
   rw[HV.out];go_enter Tryz.func42,Tryz.ntmps42;go_wp2;go_ret
   exact⟨rfl,bl1 _⟩
  ·have hc:k=0\/k=1\/k=2\/k=3\/k=4\/k=5\/k=6\/k=7\/k=8\/k=9\/k=10:=by omega
   obtain⟨v,hv⟩:∃v,v0o k=v:=⟨_,rfl⟩;have HV:Hid (v0o k=v):=hv;rw[hv];clear hv h0 h9 hk;rcases hc with rfl|rfl|rfl|rfl|rfl|rfl|rfl|rfl|rfl|rfl|rfl
   all_goals
    have e:=HV.out;simp only[v0o,Int.reduceEq,if_true,if_false,or_true,or_self,or_false]at e;subst e;clear HV;go_enter Tryz.func42,Tryz.ntmps42;go_wp2;go_ret
    exact⟨rfl,bl1 _⟩
theorem y3y(d:x0g)(w:World):
 Calls Tryz.prog 115 #[y1e d] w λe w' =>e= .returned (.bool (!d.used))/\Below w.heap.size w w' :=by
 obtain⟨u,t⟩:=d;unfold y1e;simp only;go_enter Tryz.func115,Tryz.ntmps115;go_wp2;go_ret
 exact⟨rfl,bl1 _⟩
theorem j2h(w:World)(a:Option Addr)(cap:Nat)(ds:List x0g)(h:RdW w a ds)(hn:ds.length<=1048576):
 Calls Tryz.prog 114 #[.slice a ds.length cap,.func (.func 115) #[] #[]] w λe w' =>e= .returned (.int .i64 (v0l ds 0))/\Below w.heap.size w w' :=by
 have HA:Hid (∀X,Below w.heap.size w X->RdW X a ds):=λX hX=>z0R h hX;have H0:Hid (v0l ds 0=v0l (ds.drop 0) ((0:Nat):Int)):=rfl;have HS:Hid (∀(j:Nat)(h:j<ds.length),v0l (ds.drop j) (j:Int)=_):=λj h=>y2V ds j h;have HN:Hid (v0l (ds.drop ds.length) (ds.length:Int)= -1):=q3q ds _;generalize v0l ds 0=z at*;obtain⟨n,hnn⟩:∃n,ds.length=n:=⟨_,rfl⟩;have Hn:Hid (ds.length=n):=hnn;rw[hnn]at hn HN;rw[hnn];clear h hnn;go_enter Tryz.func114,Tryz.ntmps114;go_wp2;go_loopw[8] (λi X=>∃j:Nat,j<=n/\i= .int .i64 j/\Below w.heap.size w X/\Hid (z=v0l (ds.drop j) (j:Int))) (λi _=>n - (intOf i).toNat)
 case atStart=>exact⟨0,by omega,rfl,bl0,H0⟩
 case round=>
  obtain⟨j,hj,rfl,hb,HJ⟩:=hrel;by_cases hlt:j<n
  ·have hj2:j<ds.length:=by have:=Hn.out;omega
   obtain⟨g,off,rfl,hg,hc⟩:=HA.out _ hb j hj2;obtain⟨c0,c1⟩:=hc;have HD:=HS.out j hj2;have CW:Hid (∀X,_):=λX=>y3y ds[j] X;rw[show y1e ds[j]= .agg #[.bool ds[j].used,.int .i64 ds[j].target]from rfl]at CW;generalize ds[j].used=du at*;generalize ds[j].target=dt at*
   cases du with
   |true=>
    have HFIN:Hid (z=v0l (ds.drop (j+1)) ((j+1:Nat):Int)):=by show _=_;rw[HJ.out,HD];simp
    clear HD;go_wp2_with fail
    refine(CW.out _).mono ?_;rintro e w1 ⟨rfl,b1⟩;have B1:=hb.trans (b1.mono hb.size);go_wp2;go_roundw
    case rel=>exact⟨j+1,by omega,by go_num,B1,HFIN⟩
    case measure=>simp[intOf];omega
   |false=>
    have HFIN:Hid (z=(j:Int)):=by show _=_;rw[HJ.out,HD];simp
    clear HD;go_wp2_with fail
    refine(CW.out _).mono ?_;rintro e w1 ⟨rfl,b1⟩;have B1:=hb.trans (b1.mono hb.size);go_wp2;go_ret
    exact⟨z0x HFIN.out.symm,B1⟩
  ·obtain rfl:j=n:=by omega
   have HFIN:Hid (z= -1):=by show _=_;rw[HJ.out,HN.out]
   go_wp2;go_ret
   exact⟨z0x HFIN.out.symm,hb⟩
def q0N(W:World)(B gx:Nat)(R:q0a×z0D)(e:Ending)(w' :World):Prop:=∃(s:HSh)(vf:Value),e= .returned (q0m R.2.code R.2.val vf)/\LS W w' B gx s R.1 (.slice none 0 0) vf [] R.2.freed
theorem q3a{a:Int}(h:z1t H a=none):a<0\/(H.weaks.length:Int)<=a\/∃(k:Nat)(hk:k<H.weaks.length),a=(k:Int)/\H.weaks[k].used=false:=by
 unfold z1t at h;by_cases h0:a<0\/(H.weaks.length:Int)<=a
 ·rcases h0 with h0|h0
  ·exact .inl h0
  ·exact .inr (.inl h0)
 ·rw[if_neg h0]at h;have hk:a.toNat<H.weaks.length:=by omega
  rw[List.getElem?_eq_getElem hk]at h;refine .inr (.inr ⟨a.toNat,hk,by omega,?_⟩)
  cases hu:H.weaks[a.toNat].used with
  |false=>rfl
  |true=>simp[hu]at h
theorem z2P{a:Int}{d:x0g}(h:z1t H a=some d):∃(k:Nat)(hk:k<H.weaks.length),a=(k:Int)/\H.weaks[k]=d/\d.used=true:=by
 unfold z1t at h;by_cases h0:a<0\/(H.weaks.length:Int)<=a
 ·rw[if_pos h0]at h;cases h
 ·rw[if_neg h0]at h;have hk:a.toNat<H.weaks.length:=by omega
  rw[List.getElem?_eq_getElem hk]at h;simp only at h;split at h
  ·rename_i hu
   injection h with h;exact⟨a.toNat,hk,by omega,h,by rw[<-h];exact hu⟩
  ·cases h
theorem x2i(W wr:World)(B gx:Nat)(s:HSh)(H:q0a)(vq vf:Value)(todo fr:List Int)(hL:LS W wr B gx s H vq vf todo fr)(hn:H.weaks.length<=1048576)(a:Int)(h:z1t H a=none):
 Calls Tryz.prog 116 #[.pointer (some ⟨gx,0,none⟩),.int .i64 a] wr λe w' =>e= .returned (.pointer none)/\w' =wr:=by
 have c1:wr.cell? ⟨gx,1,none⟩=some (.slice s.wa s.wn s.wc):=hL.x.cell 1;rw[hL.m.lw]at c1;rcases q3a h with h0|h0|⟨k,hk,rfl,hu⟩
 ·clear h;go_enter Tryz.func116,Tryz.ntmps116;go_wp2;go_ret
  exact⟨rfl,rfl⟩
 ·have h1:¬a<0:=by omega
  generalize H.weaks.length=n at*;clear h hL;go_enter Tryz.func116,Tryz.ntmps116;go_wp2;go_ret
  exact⟨rfl,rfl⟩
 ·obtain⟨g,hg,hw,-⟩:=hL.m.wk k hk;have d0:=hw.c0;rw[hu]at d0;rw[hg]at c1;have hi:(k:Int)<(H.weaks.length:Int):=by omega
  clear h hL hw hu hg;generalize H.weaks.length=n at*;go_enter Tryz.func116,Tryz.ntmps116;go_wp2;go_ret
  exact⟨rfl,rfl⟩
theorem q2T(W wr:World)(B gx:Nat)(s:HSh)(H:q0a)(vq vf:Value)(todo fr:List Int)(hL:LS W wr B gx s H vq vf todo fr)(hn:H.weaks.length<=1048576)(k g:Nat)(hk:k<H.weaks.length)(hu:H.weaks[k].used=true)(hg:s.wa=some ⟨g,0,none⟩):
 Calls Tryz.prog 116 #[.pointer (some ⟨gx,0,none⟩),.int .i64 (k:Int)] wr λe w' =>e= .returned (.pointer (some ⟨g,k*2,none⟩))/\w' =wr:=by
 have c1:wr.cell? ⟨gx,1,none⟩=some (.slice s.wa s.wn s.wc):=hL.x.cell 1;rw[hL.m.lw]at c1;obtain⟨g2,hg2,hw,-⟩:=hL.m.wk k hk;rw[hg]at hg2;injection hg2 with hg2;injection hg2 with hg2 _ _;subst hg2;have d0:=hw.c0;rw[hu]at d0;rw[hg]at c1;have hi:(k:Int)<(H.weaks.length:Int):=by omega
 clear hL hw hu hg;generalize H.weaks.length=n at*;go_enter Tryz.func116,Tryz.ntmps116;go_wp2;go_ret
 exact⟨rfl,rfl⟩
end
section
open Go.RowKit
def x0z(H:q0a)(o:OpD):q0a×z0D:=
 if o.kind=1 then x0o H o.site
 else if o.kind=2\/o.kind=3\/o.kind=5\/o.kind=6 then z0Y H o.kind o.a
 else if o.kind=4 then x0c H o.a o.b o.c
 else if o.kind=7 then j0Y H o.a
 else if o.kind=8 then q1H H o.a
 else if o.kind=9 then q1G H o.a
 else if o.kind=10 then(j0c H,⟨0,0,y0v H⟩)
 else y0n H 2
end
section
open Go.RowKit
theorem u1D(v:Value)(H:q0a)(w:World)(h:RdH w v H)(hs:q0h H)(hcap:v0B v):
 Calls Tryz.prog 133 #[v] w λe w' =>∃s:TSh,e= .returned s.v/\TM w' w.heap.size s (y0h H)/\Below w.heap.size w w' :=by
 obtain⟨ao,co,aw,cw,ab,cb,sa,sc,rfl,ro,-,-,-⟩:=h;have hn:=hs.objs;obtain⟨_,_,_,_,_,_,_,_,_,_,_,_,ev,hcap,-⟩:=hcap;simp only[Value.agg.injEq,List.cons.injEq,Value.slice.injEq,Array.mk.injEq]at ev;obtain⟨⟨rfl,rfl,rfl⟩,-⟩:=ev;clear hs;obtain⟨W,hW⟩:∃W,W=(w.alloc (.cells #[.slice ao H.objs.length co,.slice aw H.weaks.length cw,.slice ab H.buffer.length cb,.slice sa H.sites.length sc] 35)).alloc (.cells #[.slice none 0 0,.slice none 0 0] 101):=⟨_,rfl⟩;have BW:Below w.heap.size w W:=by rw[hW];exact(bl1 _).alloc (by simp) _
 have hWs:W.heap.size=w.heap.size+2:=by rw[hW];simp
 have p0:W.cell? ⟨w.heap.size,0,none⟩=some (.slice ao H.objs.length co):=by
  have f1:=q0d.new w (.slice ao H.objs.length co) (.slice aw H.weaks.length cw) (.slice ab H.buffer.length cb) (.slice sa H.sites.length sc);have hb2:Below (w.heap.size+1) (w.alloc (.cells #[.slice ao H.objs.length co,.slice aw H.weaks.length cw,.slice ab H.buffer.length cb,.slice sa H.sites.length sc] 35)) W:=by rw[hW];exact bl0.alloc (by simp) _
  exact(hb2.cell (p:=⟨w.heap.size,0,none⟩) (by simp)).trans (f1.cell 0)
 have FR:Two W (w.heap.size+1) (.slice none 0 0) (.slice none 0 0):=by rw[hW];have f1:=Two.new (w.alloc (.cells #[.slice ao H.objs.length co,.slice aw H.weaks.length cw,.slice ab H.buffer.length cb,.slice sa H.sites.length sc] 35)) (.slice none 0 0) (.slice none 0 0);simpa using f1
 have HP:Hid (∀X,Below W.heap.size W X->X.cell? ⟨w.heap.size,0,none⟩=some (.slice ao H.objs.length co)):=λX hX=>(hX.cell (p:=⟨w.heap.size,0,none⟩) (by show w.heap.size<_;omega)).trans p0;have HR:Hid (∀X,Below W.heap.size W X->RdO X ao H.objs):=λX hX=>q0V (q0V ro BW) hX;have HFR:Hid (∀X,Below W.heap.size W X->Two X (w.heap.size+1) (.slice none 0 0) (.slice none 0 0)):=λX hX=>FR.later hX (by omega);have HWs:Hid (W.heap.size=w.heap.size+2):=hWs;have HBW:Hid (Below w.heap.size w W):=BW;have HT0:Hid _:=y3s W;have HCS:Hid (∀(j:Nat)(h:j<H.objs.length),(H.objs.take (j+1)).map (·.count)=(H.objs.take j).map (·.count)++[H.objs[j].count]):=λj h=>x3i H j h;have HZS:Hid (∀(j:Nat)(h:j<H.objs.length),(H.objs.take (j+1)).map (λ_=>(0:Int))=(H.objs.take j).map (λ_=>(0:Int))++[0]):=λj h=>y3F H j h
 have HE:Hid (∀j:Nat,j<=8->j<=H.objs.length->(j=8\/j=H.objs.length)->y0h H=⟨(H.objs.take j).map (·.count),(H.objs.take j).map (λ_=>0)⟩):=by
  intro j h8 hl hj;unfold y0h;rcases hj with rfl|rfl
  ·rfl
  ·rw[List.take_of_length_le h8,List.take_of_length_le nl0]
 obtain⟨n,hnn⟩:∃n,H.objs.length=n:=⟨_,rfl⟩;have Hn:Hid (H.objs.length=n):=hnn;rw[hnn]at hn hW HP HE hcap ⊢;obtain⟨gt,hgt⟩:∃gt,W.heap.size=gt:=⟨_,rfl⟩;have Hgt:Hid (W.heap.size=gt):=hgt;rw[hgt]at HP HR HFR HT0;have HR8:Hid (∀X,Below gt W X->RdO X ao H.objs):=HR;obtain⟨m,hm,hm8⟩:∃m:Nat,m=min n 8/\m<=8:=⟨_,rfl,Nat.min_le_right _ _⟩;have hmn:m<=n:=by omega
 have HM:Hid (m=8\/m=n):=by show _\/_;omega
 have hmc:min n 8<=co:=by omega
 clear ro p0 FR BW hnn;go_enter Tryz.func133,Tryz.ntmps133;go_wp2;rw[<-hW,<-hWs,hgt];clear hW hWs hgt;go_loopw[14] (λi wr=>∃(j:Nat)(xa:Option Addr)(xc:Nat)(ya:Option Addr)(yc:Nat),i= .int .i64 (j:Int)/\j<=m/\Hid (TI W wr gt (.slice xa j xc) (.slice ya j yc) ((H.objs.take j).map (·.count)) ((H.objs.take j).map (λ_=>0)))) (λi _=>m - (intOf i).toNat)
 case atStart=>exact⟨0,none,0,none,0,rfl,by omega,HT0⟩
 case round=>
  obtain⟨j,xa,xc,ya,yc,rfl,hjm,HI⟩:=hrel;by_cases hlt:j<m
  ·have hj2:j<H.objs.length:=by have:=Hn.out;omega
   obtain⟨g,off,f,fc,rfl,hg,hc,-⟩:=HR.out wr HI.out.bel j hj2;have HXS:Hid (_=_):=HCS.out j hj2;have HYS:Hid (_=_):=HZS.out j hj2;obtain⟨o,ho⟩:∃o,H.objs[j]=o:=⟨_,rfl⟩;rw[ho]at hc HXS;obtain⟨c0,c1,c2,c3,c4,c5,c6,c7⟩:=hc;have hll:((H.objs.take j).map (λo:q0E=>o.count)).length=j:=by rw[List.length_map,List.length_take];omega
   have hly0:((H.objs.take j).map (λ_:q0E=>(0:Int))).length=j:=by rw[List.length_map,List.length_take];omega
   obtain⟨XS,hXS⟩:∃XS,(H.objs.take j).map (λo:q0E=>o.count)=XS:=⟨_,rfl⟩;obtain⟨YS,hYS⟩:∃YS,(H.objs.take j).map (λ_:q0E=>(0:Int))=YS:=⟨_,rfl⟩;rw[hXS]at HI HXS hll;rw[hYS]at HI HYS hly0;have HLX:Hid (XS.length=j):=hll;have HLY:Hid (YS.length=j):=hly0;clear ho hXS hYS hll hly0;generalize o.live=b0 at*;generalize o.gen=z1 at*;generalize o.site=z2 at*;generalize o.holds=z3 at*;generalize o.roots=z4 at*;generalize o.count=z at*;generalize o.field.length=fl at*;generalize o.purple=b7 at*;have t0:wr.cell? ⟨gt,0,none⟩=some (.slice xa j xc):=HI.out.t.cell 0;have hgl:=HI.out.t.lt;have hgn:¬gt=wr.heap.size:=by omega
   have HY:Hid (∀X,Below wr.heap.size wr X->TI W X gt (.slice xa j xc) (.slice ya j yc) XS YS):=λX hX=>⟨HI.out.bel.trans (hX.mono (by omega)),q0o HI.out.x hX,q0o HI.out.y hX,HI.out.dif,HI.out.t.same (hX.block gt hgl)⟩;obtain⟨U,hU⟩:∃U,U=wr.alloc (.cells #[.bool b0,.int .i64 z1,.int .i64 z2,.int .i64 z3,.int .i64 z4,.int .i64 z,.slice f fl fc,.bool b7] 90):=⟨_,rfl⟩;obtain⟨V,hV⟩:∃V,V=U.alloc (.cells #[.int .i64 z] 3):=⟨_,rfl⟩;have bU:Below wr.heap.size wr U:=by rw[hU];exact bl1 _
   have sU:U.heap.size=wr.heap.size+1:=by rw[hU];simp
   have HIV:Hid _:=HY.out V (by rw[hV];exact bU.alloc bU.size _);have hVc:V.cell? ⟨U.heap.size,0,none⟩=some (.int .i64 z):=by rw[hV,World.cell?_alloc_mark];rfl
   have HVs:Hid (gt+1<=V.heap.size):=by have:=HIV.out.t.lt;exact this
   have HU:Hid (U=_):=hU;have HsU:Hid (U.heap.size=wr.heap.size+1):=sU;clear hU bU sU HI;go_wp2_with (at_builtin;rw[<-HU.out];try rw[<-HsU.out];rw[<-hV];clear hV HU HsU;refine x0T rfl _ _ rfl (gt+1) _ _ rfl HIV.out.x ⟨U.heap.size,0,none⟩ z rfl hVc ?hlen HVs.out ?_)
   case hlen=>rw[HLX.out];omega
   intro v4 X4 O4 s4 H4 A4 B4;obtain⟨xa2,xc2,rfl,-⟩:=q0Y O4;have hlx:(XS++[z]).length=j+1:=by rw[List.length_append,HLX.out];rfl
   rw[hlx]at O4 A4 ⊢;have T4:Two X4 gt (.slice xa j xc) (.slice ya j yc):=HIV.out.t.same (H4.out gt HIV.out.t.lt (λe=>by have:=(q0n HIV.out.x gt e).1;omega));have y4:q0i X4 (gt+1) (.slice ya j yc) _:=q0v HIV.out.y (λq hq=>H4.out q (q0n HIV.out.y q hq).2 (λe=>HIV.out.dif q e hq))
   have HI2:Hid _:=x5R HIV.out (B4.out gt W HIV.out.bel (by omega)) T4 y4 O4 (by
    rcases A4.out with e|e
    ·exact .inl e
    ·exact .inr ⟨_,e,Nat.le_refl _⟩)
   have d4:X4.cell? ⟨gt,0,none⟩=some (.slice xa j xc):=T4.cell 0;have f4:=T4.frozen 0;obtain⟨Y,hY⟩:∃Y,Y=X4.setCell ⟨gt,0,none⟩ (.slice xa2 (j+1) xc2):=⟨_,rfl⟩;rw[<-hY]at HI2;have y1:Y.cell? ⟨gt,1,none⟩=some (.slice ya j yc):=HI2.out.t.cell 1;have hgY:=HI2.out.t.lt;have hgY2:¬gt=Y.heap.size:=by omega
   have HY2:Hid (∀X,Below Y.heap.size Y X->TI W X gt (.slice xa2 (j+1) xc2) (.slice ya j yc) (XS++[z]) YS):=λX hX=>⟨HI2.out.bel.trans (hX.mono (by omega)),q0o HI2.out.x hX,q0o HI2.out.y hX,HI2.out.dif,HI2.out.t.same (hX.block gt hgY)⟩;obtain⟨V5,hV5⟩:∃V,V=Y.alloc (.cells #[.int .i64 0] 3):=⟨_,rfl⟩;have HIV5:Hid _:=HY2.out V5 (by rw[hV5];exact bl1 _);have hVc5:V5.cell? ⟨Y.heap.size,0,none⟩=some (.int .i64 0):=by rw[hV5,World.cell?_alloc_mark];rfl
   have HVs5:Hid (gt+1<=V5.heap.size):=by have:=HIV5.out.t.lt;exact this
   clear T4 y4 O4 H4 A4 B4 hVc c0 c1 c2 c3 c4 c5 c6 c7 t0 HY HY2;rw[hY]at y1;have hYs:(X4.setCell ⟨gt,0,none⟩ (.slice xa2 (j+1) xc2)).heap.size=Y.heap.size:=by rw[hY]
   have HhY:Hid (Y=_):=hY;clear hY;go_wp2_with (at_builtin;rw[<-HhY.out];rw[<-hV5];clear hV5;refine x0T rfl _ _ rfl (gt+1) _ _ rfl HIV5.out.y ⟨Y.heap.size,0,none⟩ 0 rfl hVc5 ?hlen2 HVs5.out ?_)
   case hlen2=>rw[HLY.out];omega
   intro v6 X6 O6 s6 H6 A6 B6;obtain⟨ya4,yc4,rfl,-⟩:=q0Y O6;have hly:(YS++[0]).length=j+1:=by rw[List.length_append,HLY.out];rfl
   rw[hly]at O6 A6 ⊢;have T6:Two X6 gt (.slice xa2 (j+1) xc2) (.slice ya j yc):=HIV5.out.t.same (H6.out gt HIV5.out.t.lt (λe=>by have:=(q0n HIV5.out.y gt e).1;omega));have x6:q0i X6 (gt+1) (.slice xa2 (j+1) xc2) _:=q0v HIV5.out.x (λq hq=>H6.out q (q0n HIV5.out.x q hq).2 (λe=>HIV5.out.dif q hq e))
   have HF:Hid _:=x5S HIV5.out (B6.out gt W HIV5.out.bel (by omega)) T6 x6 O6 (by
    rcases A6.out with e|e
    ·exact .inl e
    ·exact .inr ⟨_,e,Nat.le_refl _⟩)
   have e4:X6.cell? ⟨gt,1,none⟩=some (.slice ya j yc):=T6.cell 1;have g4:=T6.frozen 1;rw[<-HXS.out,<-HYS.out]at HF;clear T6 x6 O6 H6 A6 B6 y1 d4 f4;go_wp2;go_roundw
   case rel=>exact⟨j+1,xa2,xc2,ya4,yc4,by go_num,by omega,HF⟩
   case measure=>simp[intOf];omega
  ·have e8:m<=j:=by omega
   have HEE:Hid (_=_):=HE.out j (by omega) (by omega) (by have:=HM.out;omega);have TW:=HI.out.t;have RW:=HFR.out _ HI.out.bel;have x0:wr.cell? ⟨gt,0,none⟩=some (.slice xa j xc):=TW.cell 0;have x1:wr.cell? ⟨gt,1,none⟩=some (.slice ya j yc):=TW.cell 1;have r0:wr.cell? ⟨w.heap.size+1,0,none⟩=some (.slice none 0 0):=RW.cell 0;have r1:wr.cell? ⟨w.heap.size+1,1,none⟩=some (.slice none 0 0):=RW.cell 1;have z0:=RW.frozen 0;have z1:=RW.frozen 1
   have HTM:Hid (TM (q0B wr (w.heap.size+1) (.slice xa j xc) (.slice ya j yc)) w.heap.size ⟨xa,j,xc,ya,j,yc⟩ (y0h H)):=by
    have oth:∀q,gt+1<=q->(q0B wr (w.heap.size+1) (.slice xa j xc) (.slice ya j yc)).heap[q]? =wr.heap[q]?:=λq hq=>z0c _ _ _ _ q (by have:=HWs.out;have:=Hgt.out;omega);rw[HEE.out];have hle:w.heap.size<=gt+1:=by have:=HWs.out;have:=Hgt.out;omega
    exact⟨q0A (q0v HI.out.x (λq hq=>oth q (q0n HI.out.x q hq).1)) hle,q0A (q0v HI.out.y (λq hq=>oth q (q0n HI.out.y q hq).1)) hle,HI.out.dif⟩
   have HBL:Hid (Below w.heap.size w (q0B wr (w.heap.size+1) (.slice xa j xc) (.slice ya j yc))):=by unfold q0B;exact((HBW.out.trans (HI.out.bel.mono (by have:=HWs.out;have:=Hgt.out;omega))).setCell (by simp) _).setCell (by simp) _
   clear TW RW HI HEE;go_wp2;exact bodyPost_ret (v:= .agg #[.slice xa j xc,.slice ya j yc]) (by simp[results,Tryz.results133,go_sem, *]) rfl ⟨⟨xa,j,xc,ya,j,yc⟩,rfl,HTM.out,HBL.out⟩
end
section
open Go.RowKit Go.ChangeShapes Go.WideShapes Go.ChangeAt Go.Deep
variable{T:q0e}
def v0X(s:TSh)(k:Int):Sts:=mkI s.a k s.n++mkI s.b (k+(s.n:Int)) s.m
structure y4v(w:World)(s:TSh):Prop where
 x:v0I w s.a s.n
 y:v0I w s.b s.m
 ln:s.n<=16777216
 lm:s.m<=16777216
theorem y0Y(s:TSh):s.v= .agg #[.slice s.a s.n s.c,.slice s.b s.m s.d]:=rfl
theorem TM.can{w:World}{B:Nat}{s:TSh}(h:TM w B s T)(h1:T.counts.length<=16777216)(h2:T.colors.length<=16777216):y4v w s:=by obtain⟨l1,l2⟩:=h.lens;have hx:q0i w B (.slice s.a s.n s.c) T.counts:=h.x;have hy:q0i w B (.slice s.b s.m s.d) T.colors:=h.y;obtain⟨a,c,e,q,-⟩:=j0B hx;obtain⟨b,d,e2,q2,-⟩:=j0B hy;simp only[Value.slice.injEq]at e e2;exact⟨by rw[e.1,l1];exact q,by rw[e2.1,l2];exact q2,by omega,by omega⟩
theorem TM.blk{w:World}{B:Nat}{s:TSh}(h:TM w B s T)(k:Int):∀q∈v0X s k,B<=q.1.block/\q.1.block<w.heap.size:=by
 intro q hq;rcases List.mem_append.1 hq with hq|hq
 ·obtain⟨-,x,hx,e⟩:=x0M _ _ _ _ hq;have:=q0n h.x x.block (by show(Value.slice s.a s.n s.c).ownBlock=_;rw[hx];rfl);rw[e];exact this
 ·obtain⟨-,x,hx,e⟩:=x0M _ _ _ _ hq;have:=q0n h.y x.block (by show(Value.slice s.b s.m s.d).ownBlock=_;rw[hx];rfl);rw[e];exact this
theorem TM.nodup{w:World}{B:Nat}{s:TSh}(h:TM w B s T)(k:Int):((v0X s k).map (·.1)).Nodup:=by unfold v0X;rw[List.map_append,List.nodup_append];refine⟨v1r _ _ _,v1r _ _ _,?_⟩;intro x hx y hy e;obtain⟨p,hp,rfl⟩:=List.mem_map.1 hx;obtain⟨q,hq,rfl⟩:=List.mem_map.1 hy;obtain⟨-,x,h1,e1⟩:=x0M _ _ _ _ hp;obtain⟨-,y,h2,e2⟩:=x0M _ _ _ _ hq;refine h.dif x.block (by show(Value.slice s.a s.n s.c).ownBlock=_;rw[h1];rfl) ?_;show(Value.slice s.b s.m s.d).ownBlock=_;rw[h2,<-e1,e,e2];rfl
structure z1c(w:World)(s:TSh)(k:Int):Prop where
 all:∀q∈v0X s k,w.cell? q.1=some q.2
 x:0<s.n->∃g off,s.a=some ⟨g,off,none⟩/\g<w.heap.size
 y:0<s.m->∃g off,s.b=some ⟨g,off,none⟩/\g<w.heap.size
theorem z1c.later{w w' :World}{s:TSh}{k:Int}(h:z1c w s k)(hb:Below w.heap.size w w'):z1c w' s k:=by
 refine⟨λq hq=> ?_,λhn=> ?_,λhn=> ?_⟩
 ·refine(hb.cell ?_).trans (h.all q hq);rcases List.mem_append.1 hq with hq|hq
  ·obtain⟨h0,x,hx,e⟩:=x0M _ _ _ _ hq;obtain⟨g,off,h1,h2⟩:=h.x h0;rw[hx]at h1;injection h1 with h1;rw[e,h1];exact h2
  ·obtain⟨h0,x,hx,e⟩:=x0M _ _ _ _ hq;obtain⟨g,off,h1,h2⟩:=h.y h0;rw[hx]at h1;injection h1 with h1;rw[e,h1];exact h2
 ·obtain⟨g,off,h1,h2⟩:=h.x hn;exact⟨g,off,h1,Nat.lt_of_lt_of_le h2 hb.size⟩
 ·obtain⟨g,off,h1,h2⟩:=h.y hn;exact⟨g,off,h1,Nat.lt_of_lt_of_le h2 hb.size⟩
theorem TM.held{w w' :World}{B:Nat}{s:TSh}{k:Int}(h:TM w B s T)(h1:T.counts.length<=16777216)(h2:T.colors.length<=16777216)(hb:Below w.heap.size (q0C w (v0X s k)) w'):z1c w' s k:=by
 have hc:=h.can h1 h2
 have hz:z1c (q0C w (v0X s k)) s k:=by
  refine⟨j1D _ (h.nodup k) w (λp hp=> ?_),λhn=> ?_,λhn=> ?_⟩
  ·rcases List.mem_append.1 hp with hp|hp
   ·exact u1d hc.x p hp
   ·exact u1d hc.y p hp
  ·obtain⟨g,off,e,l,-⟩:=hc.x 0 hn;exact⟨g,off,e,by rw[q0Z];exact l⟩
  ·obtain⟨g,off,e,l,-⟩:=hc.y 0 hn;exact⟨g,off,e,by rw[q0Z];exact l⟩
 refine hz.later ?_;rw[q0Z];exact hb
section
variable {T : Type} {enc : TypeId × Value → T} {w : World} {held : Bool}
end
end
section
open Go.RowKit
variable{a:Act}{K:Act → World → Prop}{af:Array Edge}{ats:Array TypeId}{post:Ending → World → Prop}{Q:Exit → Act → World → Prop}{pos:String}{ty:TypeId}
theorem q2I{t i j k:Tmp}{X:World}{u v z:Value}(h1:a.eval (.tmp i)=u)(h2:a.eval (.tmp j)=v)(h3:a.eval (.tmp k)=z)(hC:Calls Tryz.prog 73 #[u,v,z] X post)(hK:∀e w',post e w' ->∃x,e= .returned x/\K (a.put (some t) x) w'):
 Oper.wp Tryz.prog ⟨some t,.call {callee:= .value (.func 73),args:= #[.tmp i,.tmp j,.tmp k],argTypes:=ats},ty,pos,af,none⟩ a X K Q:=by
 have e1:=q0x h1;have e2:=q0x h2;have e3:=q0x h3;go_simp;refine hC.mono (λe w' hp=> ?_);obtain⟨x,rfl,hx⟩:=hK e w' hp;exact hx
theorem q2G{t i j k:Tmp}{X:World}{u v z:Value}(h1:a.eval (.tmp i)=u)(h2:a.eval (.tmp j)=v)(h3:a.eval (.tmp k)=z)(hC:Calls Tryz.prog 134 #[u,v,z] X post)(hK:∀e w',post e w' ->∃x,e= .returned x/\K (a.put (some t) x) w'):
 Oper.wp Tryz.prog ⟨some t,.call {callee:= .value (.func 134),args:= #[.tmp i,.tmp j,.tmp k],argTypes:=ats},ty,pos,af,none⟩ a X K Q:=by
 have e1:=q0x h1;have e2:=q0x h2;have e3:=q0x h3;go_simp;refine hC.mono (λe w' hp=> ?_);obtain⟨x,rfl,hx⟩:=hK e w' hp;exact hx
theorem q2J{t i j k:Tmp}{X:World}{u v z:Value}(h1:a.eval (.tmp i)=u)(h2:a.eval (.tmp j)=v)(h3:a.eval (.tmp k)=z)(hC:Calls Tryz.prog 74 #[u,v,z] X post)(hK:∀e w',post e w' ->∃x,e= .returned x/\K (a.put (some t) x) w'):
 Oper.wp Tryz.prog ⟨some t,.call {callee:= .value (.func 74),args:= #[.tmp i,.tmp j,.tmp k],argTypes:=ats},ty,pos,af,none⟩ a X K Q:=by
 have e1:=q0x h1;have e2:=q0x h2;have e3:=q0x h3;go_simp;refine hC.mono (λe w' hp=> ?_);obtain⟨x,rfl,hx⟩:=hK e w' hp;exact hx
theorem q2H{t i j k:Tmp}{X:World}{u v z:Value}(h1:a.eval (.tmp i)=u)(h2:a.eval (.tmp j)=v)(h3:a.eval (.tmp k)=z)(hC:Calls Tryz.prog 135 #[u,v,z] X post)(hK:∀e w',post e w' ->∃x,e= .returned x/\K (a.put (some t) x) w'):
 Oper.wp Tryz.prog ⟨some t,.call {callee:= .value (.func 135),args:= #[.tmp i,.tmp j,.tmp k],argTypes:=ats},ty,pos,af,none⟩ a X K Q:=by
 have e1:=q0x h1;have e2:=q0x h2;have e3:=q0x h3;go_simp;refine hC.mono (λe w' hp=> ?_);obtain⟨x,rfl,hx⟩:=hK e w' hp;exact hx
theorem q1g{X:World}{B g:Nat}{v x0 x1:Value}{zs:List Int}(h:q0i X B v zs)(ht:Two X g x0 x1):v.ownBlock≠some g:=by
 intro hv;rcases h with⟨h1,⟨h2,-⟩|⟨g2,cap,cur,h2,h3,h4,h5⟩⟩
 ·rw[h2]at hv;simp[Value.ownBlock]at hv
 ·rw[h2]at hv;have e:g2=g:=by simpa[Value.ownBlock]using hv
  subst e;have ht' :X.heap[g2]? =some (.cells #[x0,x1] 101 (0,0)):=ht;rw[ht']at h4;simp at h4
theorem j1R{X:World}{g:Nat}{x0 x1:Value}(h:Two X g x0 x1)(y0 y1:Value):Two (q0B X g y0 y1) g y0 y1:=by have h1:=heap_setCell_same X g 0 _ _ y0 h;exact heap_setCell_same _ g 1 _ _ y1 h1
theorem u2W(H:q0a):szH H 1048576<=1048576:=by
 have l1:=x2R H.objs 1048576 (by omega);unfold szH;generalize szO H.objs 1048576=a at*;split
 ·omega
 ·have l2:=q1l H.weaks.length a (by omega);generalize szN H.weaks.length a=b at*;split
  ·omega
  ·have l3:=q1l H.buffer.length b (by omega);generalize szN H.buffer.length b=c at*;split
   ·omega
   ·have l4:=x2S H.sites c (by omega);split<;>omega
end
section
open Go.RowKit
variable{a:Act}{K:Act → World → Prop}{af:Array Edge}{ats:Array TypeId}{post:Ending → World → Prop}{Q:Exit → Act → World → Prop}{pos:String}{T:q0e}{ty:TypeId}
theorem z2o{t i:Tmp}{X:World}{g:Nat}{s:TSh}(h1:a.eval (.tmp i)= .pointer (some ⟨g,0,none⟩))(hF:Two X g (.slice s.a s.n s.c) (.slice s.b s.m s.d))(hK:K (a.put (some t) s.v) X):
 Oper.wp Tryz.prog ⟨some t,.load 101 (.tmp i),ty,pos,af,none⟩ a X K Q:=by
 have h:=q0x h1;have q0:X.cell? ⟨g,0,none⟩=some (.slice s.a s.n s.c):=hF.cell 0;have q1:X.cell? ⟨g,1,none⟩=some (.slice s.b s.m s.d):=hF.cell 1;rw[y0Y]at hK;go_simp;exact hK
theorem v3o{t i j:Tmp}{X:World}{u v:Value}(h1:a.eval (.tmp i)=u)(h2:a.eval (.tmp j)=v)(hC:Calls Tryz.prog 111 #[u,v] X post)(hK:∀e w',post e w' ->∃x,e= .returned x/\K (a.put (some t) x) w'):
 Oper.wp Tryz.prog ⟨some t,.call {callee:= .value (.func 111),args:= #[.tmp i,.tmp j],argTypes:=ats},ty,pos,af,none⟩ a X K Q:=by
 have e1:=q0x h1;have e2:=q0x h2;go_simp;refine hC.mono (λe w' hp=> ?_);obtain⟨x,rfl,hx⟩:=hK e w' hp;exact hx
def RS(B:Nat)(vh vt vi vs:Value)(G:q0e):Nat->World->Value->Prop
 |0,_,v=>v=vh
 |1,_,v=>v=vt
 |2,_,v=>v=vh
 |3,_,v=>v=vi
 |4,_,v=>v=vs
 |5,X,v=>∃s:TSh,v=s.v/\TM X B s G
 |_,_,_=>True
theorem u3C{B:Nat}{vh vt vi vs:Value}{G:q0e}(i:Nat)(X Y:World)(v:Value)(h:RS B vh vt vi vs G i X v)(hb:Below X.heap.size X Y):RS B vh vt vi vs G i Y v:=by
 match i,h with
 |0,h=>exact h
 |1,h=>exact h
 |2,h=>exact h
 |3,h=>exact h
 |4,h=>exact h
 |5,⟨s,h1,h2⟩=>exact⟨s,h1,h2.later hb⟩
 |n+6,_=>exact trivial
structure SF(w wr:World)(gt:Nat)(x0 x1 x2 x3:Value)(q:TSh)(T:q0e):Prop where
 bel:Below w.heap.size w wr
 heap:q0d wr w.heap.size x0 x1 x2 x3
 res:Two wr (w.heap.size+1) (.slice none 0 0) (.slice none 0 0)
 t:Two wr gt (.slice q.a q.n q.c) (.slice q.b q.m q.d)
 lo:w.heap.size+2<=gt
 tm:TM wr (w.heap.size+2) q T
theorem v4Z{w wr X:World}{gt:Nat}{x0 x1 x2 x3:Value}{q q2:TSh}{T2:q0e}(h:SF w wr gt x0 x1 x2 x3 q T)(hX:Below wr.heap.size wr X)(hT:TM X (w.heap.size+2) q2 T2):SF w (q0B X gt (.slice q2.a q2.n q2.c) (.slice q2.b q2.m q2.d)) gt x0 x1 x2 x3 q2 T2:=by have ht:=h.t.later hX h.t.lt;have hl:=h.lo;have oth:∀g,g≠gt->(q0B X gt (.slice q2.a q2.n q2.c) (.slice q2.b q2.m q2.d)).heap[g]? =X.heap[g]?:=λg hg=>z0c _ _ _ _ g hg;refine⟨?_,(h.heap.later hX).same (oth _ (by omega)),(h.res.later hX h.res.lt).same (oth _ (by omega)),j1R ht _ _,h.lo,⟨q0v hT.x (λi hi=>oth i (λe=>q1g hT.x ht (e▸hi))),q0v hT.y (λi hi=>oth i (λe=>q1g hT.y ht (e▸hi))),hT.dif⟩⟩;unfold q0B;exact((h.bel.trans (hX.mono h.bel.size)).setCell (p:=⟨gt,0,none⟩) (by show w.heap.size<=gt;omega) _).setCell (p:=⟨gt,1,none⟩) (by show w.heap.size<=gt;omega) _
theorem j3b(v:Value)(H:q0a)(w:World)(h:RdH w v H)(hs:q0h H)(h8:H.objs.length=8)(hcap:v0B v)(hf:∀o∈H.objs,∀z∈o.field,q0w z)(hbf:∀z∈H.buffer,q0w z):
 Calls Tryz.prog 125 #[v] w λe w' =>∃s:TSh,e= .returned s.v/\TM w' w.heap.size s (z0K H)/\Below w.heap.size w w' :=by
 have HRH:Hid (∀X,Below w.heap.size w X->RdH X v H):=λX hX=>q0s h hX;have CN:Hid (∀X,Below w.heap.size w X->_):=λX hX=>u1D v H X (HRH.out X hX) hs hcap;have HSM:Hid (q0h H):=hs;have HL8:Hid (H.objs.length=8):=h8;have HF:Hid (∀o∈H.objs,∀z∈o.field,q0w z):=hf;have HBF:Hid (∀z∈H.buffer,q0w z):=hbf;have HG0:Hid (v0A H 0=y0h H):=j2Q H;have HS0:Hid (v0n H 0=v0A H H.buffer.length):=j2S H;have HSE:Hid (z0K H=v0n H H.buffer.length):=rfl;have hbl:=hs.buffer;obtain⟨ao,co,aw,cw,ab,cb,sa,sc,rfl,-,-,ri,-⟩:=h;have HRB:Hid (∀X,Below w.heap.size w X->RdI X ab H.buffer):=λX hX=>q0t ri hX;obtain⟨nb,hnb⟩:∃nb,H.buffer.length=nb:=⟨_,rfl⟩;have HLB:Hid (H.buffer.length=nb):=hnb;rw[h8,hnb]at HRH CN ⊢;rw[hnb]at hbl HS0 HSE;generalize H.weaks.length=nw at*;generalize H.sites.length=ns at*;obtain⟨W,hW⟩:∃W,W=(w.alloc (.cells #[.slice ao 8 co,.slice aw nw cw,.slice ab nb cb,.slice sa ns sc] 35)).alloc (.cells #[.slice none 0 0,.slice none 0 0] 101):=⟨_,rfl⟩;have BW:Below w.heap.size w W:=by rw[hW];exact(bl1 _).alloc (by simp) _
 have sW:W.heap.size=w.heap.size+2:=by rw[hW];simp
 have FH:q0d W w.heap.size (.slice ao 8 co) (.slice aw nw cw) (.slice ab nb cb) (.slice sa ns sc):=by have f:=q0d.new w (.slice ao 8 co) (.slice aw nw cw) (.slice ab nb cb) (.slice sa ns sc);have f2:=f.later (bl1 (.cells #[.slice none 0 0,.slice none 0 0] 101));rw[hW];exact f2
 have FR:Two W (w.heap.size+1) (.slice none 0 0) (.slice none 0 0):=by have f:=Two.new (w.alloc (.cells #[.slice ao 8 co,.slice aw nw cw,.slice ab nb cb,.slice sa ns sc] 35)) (.slice none 0 0) (.slice none 0 0);rw[<-hW]at f;simpa using f
 clear hs h8 hcap hf hbf ri hnb;go_enter Tryz.func125,Tryz.ntmps125;go_wp2_with fail
 rw[<-hW];clear hW;refine(CN.out _ BW).mono ?_;rintro e w1 ⟨q0,rfl,M1,b1⟩;have hv0:=y0Y q0;obtain⟨V,hV⟩:∃V,V=w1.alloc (.cells #[.slice q0.a q0.n q0.c,.slice q0.b q0.m q0.d] 101):=⟨_,rfl⟩;have BV:Below w1.heap.size w1 V:=by rw[hV];exact bl1 _
 have hs1:=b1.size
 have HSF0:Hid (SF w V w1.heap.size (.slice ao 8 co) (.slice aw nw cw) (.slice ab nb cb) (.slice sa ns sc) q0 (v0A H 0)):=by have bb:=b1.trans (BV.mono b1.size);refine⟨BW.trans (bb.mono BW.size),(FH.later b1).later BV,(FR.later b1 (by omega)).later BV (by omega),by rw[hV];exact Two.new w1 _ _,by omega,?_⟩;rw[HG0.out,<-sW];exact M1.later BV
 have c2:w1.cell? ⟨w.heap.size,2,none⟩=some (.slice ab nb cb):=(FH.later b1).cell 2;have hq0:w.heap.size<w1.heap.size:=by omega
 have hn0:¬w.heap.size=w1.heap.size:=by omega
 rw[hv0];clear M1 BV FH FR BW b1 CN;go_wp2;rw[<-hV];obtain⟨gt,hgt⟩:∃gt,w1.heap.size=gt:=⟨_,rfl⟩;rw[hgt]at HSF0 ⊢;clear hV c2 hgt hq0 hn0 hs1 sW;go_loopw[13] (λi wr=>∃(j:Nat)(q:TSh),i= .int .i64 (j:Int)/\j<=nb/\Hid (SF w wr gt (.slice ao 8 co) (.slice aw nw cw) (.slice ab nb cb) (.slice sa ns sc) q (v0A H j))) (λi _=>nb - (intOf i).toNat)
 case atStart=>exact⟨0,_,rfl,by omega,HSF0⟩
 case round=>
  obtain⟨j,q,rfl,hjn,HI⟩:=hrel;by_cases hlt:j<nb
  ·have hj2:j<H.buffer.length:=by have:=HLB.out;omega
   obtain⟨bg,bo,rfl,hbg,hbc⟩:=HRB.out wr HI.out.bel j hj2;have hz64:=HBF.out _ (List.getElem_mem hj2);have HST:Hid (v0A H (j+1)=v1K H (v0A H j) H.buffer[j]):=j2P H j hj2;have HE8:Hid (q0I (v0A H j)):=q2o H HL8.out j;generalize H.buffer[j]=id at*;have CS:Hid (∀X,Below wr.heap.size wr X->_):=λX hX=>z0m _ H id X (HRH.out X (HI.out.bel.trans (hX.mono HI.out.bel.size))) (by rw[HL8.out];omega) hz64.1 hz64.2;have CM:Hid (∀X,Below wr.heap.size wr X->_):=λX hX=>v2C _ _ H (v0A H j) (q0l H id) X (HRH.out X (HI.out.bel.trans (hX.mono HI.out.bel.size))) ((HI.out.tm.later hX).rd) HSM.out ⟨by rw[HE8.out.1];omega,by rw[HE8.out.2];omega⟩ HF.out (v0A H (j+1)) (λhok=>by rw[HST.out];unfold v1K;rw[if_pos hok.lo]) (λhno=>by rw[HST.out];unfold v1K;rw[if_neg (λh0=>hno ((y1N H _ id HE8.out HL8.out).2 h0))]);generalize q0l H id=sl at*;have hjl:(j:Int)<(nb:Int):=by omega
   have hq1:=HI.out.t;clear hz64 HST;go_wp2;refine q0R 6 (by kernel_rfl) (by kernel_rfl) (RS (w.heap.size+2) (.agg #[.slice ao 8 co,.slice aw nw cw,.slice (some ⟨bg,bo,none⟩) nb cb,.slice sa ns sc]) q.v (.int .i64 id) (.int .i64 sl) (v0A H (j+1))) u3C ?_ ?_
   ·intro i o hi ho a X hX hA hdep;have FX:=HI.out.heap.later hX;have TX:=HI.out.t.later hX HI.out.t.lt
    match i,hi,ho with
    |0,_,ho=>
     cases ho
     exact q1z (q0f hA (t:=1) (by kernel_rfl)) FX ⟨_,rfl,bl0,rfl⟩
    |1,_,ho=>
     cases ho
     exact z2o (q0f hA (t:=3) (by kernel_rfl)) TX ⟨_,rfl,bl0,rfl⟩
    |2,_,ho=>
     cases ho
     exact q1z (q0f hA (t:=1) (by kernel_rfl)) FX ⟨_,rfl,bl0,rfl⟩
    |3,_,ho=>
     cases ho
     exact z0p (q0f hA (t:=5) (by kernel_rfl)) ⟨_,rfl,bl0,rfl⟩
    |4,_,ho=>
     cases ho
     have e1:a.eval (.tmp 19)= .agg #[.slice ao 8 co,.slice aw nw cw,.slice (some ⟨bg,bo,none⟩) nb cb,.slice sa ns sc]:=hdep ⟨2,.data⟩ (by simp) rfl 19 rfl;have e2:a.eval (.tmp 20)= .int .i64 id:=hdep ⟨3,.data⟩ (by simp) rfl 20 rfl;refine v3o e1 e2 (CS.out X hX) ?_;rintro e w' ⟨rfl,hb⟩;exact⟨_,rfl,_,rfl,hb,rfl⟩
    |5,_,ho=>
     cases ho
     have e1:a.eval (.tmp 17)= .agg #[.slice ao 8 co,.slice aw nw cw,.slice (some ⟨bg,bo,none⟩) nb cb,.slice sa ns sc]:=hdep ⟨0,.data⟩ (by simp) rfl 17 rfl;have e2:a.eval (.tmp 18)=q.v:=hdep ⟨1,.data⟩ (by simp) rfl 18 rfl;have e3:a.eval (.tmp 21)= .int .i64 sl:=hdep ⟨4,.data⟩ (by simp) rfl 21 rfl;refine q2G e1 e2 e3 (CM.out X hX) ?_;rintro e w' ⟨x,rfl,hx,hb⟩;exact⟨_,rfl,_,rfl,hb,x,rfl,hx.mono (by have:=hX.size;have:=HI.out.bel.size;have:=HI.out.lo;have:=HI.out.t.lt;omega)⟩
   ·intro o ho a X hX hA hdep
    cases ho
    obtain⟨q2,e5,hT5⟩:=hdep ⟨5,.data⟩ (by simp) rfl 22 rfl;have e3:a.eval (.tmp 3)= .pointer (some ⟨gt,0,none⟩):=q0f hA (t:=3) (by kernel_rfl);have hTw:=HI.out.t.later hX HI.out.t.lt;rw[y0Y]at e5;refine j0l e3 e5 hTw ?_;have HI2:Hid (SF w (q0B X gt (.slice q2.a q2.n q2.c) (.slice q2.b q2.m q2.d)) gt (.slice ao 8 co) (.slice aw nw cw) (.slice (some ⟨bg,bo,none⟩) nb cb) (.slice sa ns sc) q2 (v0A H (j+1))):=v4Z HI.out hX hT5;obtain⟨us,hus,rfl⟩:=q0F hA [17,18,19,20,21,22] (by kernel_rfl);clear hdep hA hus e3 e5 hTw hT5 CS CM;generalize q0B X gt (.slice q2.a q2.n q2.c) (.slice q2.b q2.m q2.d)=Y at*;simp only[List.mapIdx_cons,List.mapIdx_nil,Nat.reduceAdd,List.contains_cons,List.contains_nil,Nat.reduceBEq,Bool.or_false,Bool.or_true,if_true,if_false,Bool.false_eq_true];go_wp2;go_roundw
    case rel=>exact⟨j+1,q2,by go_num,by omega,HI2⟩
    case measure=>simp[intOf];omega
  ·have hjn2:nb<=j:=by omega
   have HJN:Hid (j=nb):=by show _=_;omega
   have c2:wr.cell? ⟨w.heap.size,2,none⟩=some (.slice ab nb cb):=HI.out.heap.cell 2
   have HSF1:Hid (SF w wr gt (.slice ao 8 co) (.slice aw nw cw) (.slice ab nb cb) (.slice sa ns sc) q (v0n H 0)):=by
    have h2:v0A H j=v0n H 0:=by rw[HS0.out,HJN.out]
    rw[<-h2];exact HI.out
   go_wp2;clear c2 HI HJN hlt hjn hjn2;go_loopw[27] (λi wr=>∃(j:Nat)(q:TSh),i= .int .i64 (j:Int)/\j<=nb/\Hid (SF w wr gt (.slice ao 8 co) (.slice aw nw cw) (.slice ab nb cb) (.slice sa ns sc) q (v0n H j))) (λi _=>nb - (intOf i).toNat)
   case atStart=>exact⟨0,_,rfl,by omega,HSF1⟩
   case round=>
    obtain⟨j,q,rfl,hjn,HI⟩:=hrel;by_cases hlt:j<nb
    ·have hj2:j<H.buffer.length:=by have:=HLB.out;omega
     obtain⟨bg,bo,rfl,hbg,hbc⟩:=HRB.out wr HI.out.bel j hj2;have hz64:=HBF.out _ (List.getElem_mem hj2);have HST:Hid (v0n H (j+1)=v1V H (v0n H j) H.buffer[j]):=j2R H j hj2;have HE8:Hid (q0I (v0n H j)):=z1F H HSM.out HL8.out j;generalize H.buffer[j]=id at*;have CS:Hid (∀X,Below wr.heap.size wr X->_):=λX hX=>z0m _ H id X (HRH.out X (HI.out.bel.trans (hX.mono HI.out.bel.size))) (by rw[HL8.out];omega) hz64.1 hz64.2;have CM:Hid (∀X,Below wr.heap.size wr X->_):=λX hX=>v2G _ _ H (v0n H j) (q0l H id) X (HRH.out X (HI.out.bel.trans (hX.mono HI.out.bel.size))) ((HI.out.tm.later hX).rd) HSM.out ⟨by rw[HE8.out.1];omega,by rw[HE8.out.2];omega⟩ HF.out (v0n H (j+1)) (λhok=>by rw[HST.out];unfold v1V;rw[if_pos hok.lo]) (λhno=>by rw[HST.out];unfold v1V;rw[if_neg (λh0=>hno ((y1N H _ id HE8.out HL8.out).2 h0))]);generalize q0l H id=sl at*;have hjl:(j:Int)<(nb:Int):=by omega
     have hq1:=HI.out.t;clear hz64 HST;go_wp2;refine q0R 6 (by kernel_rfl) (by kernel_rfl) (RS (w.heap.size+2) (.agg #[.slice ao 8 co,.slice aw nw cw,.slice (some ⟨bg,bo,none⟩) nb cb,.slice sa ns sc]) q.v (.int .i64 id) (.int .i64 sl) (v0n H (j+1))) u3C ?_ ?_
     ·intro i o hi ho a X hX hA hdep;have FX:=HI.out.heap.later hX;have TX:=HI.out.t.later hX HI.out.t.lt
      match i,hi,ho with
      |0,_,ho=>
       cases ho
       exact q1z (q0f hA (t:=1) (by kernel_rfl)) FX ⟨_,rfl,bl0,rfl⟩
      |1,_,ho=>
       cases ho
       exact z2o (q0f hA (t:=3) (by kernel_rfl)) TX ⟨_,rfl,bl0,rfl⟩
      |2,_,ho=>
       cases ho
       exact q1z (q0f hA (t:=1) (by kernel_rfl)) FX ⟨_,rfl,bl0,rfl⟩
      |3,_,ho=>
       cases ho
       exact z0p (q0f hA (t:=7) (by kernel_rfl)) ⟨_,rfl,bl0,rfl⟩
      |4,_,ho=>
       cases ho
       have e1:a.eval (.tmp 33)= .agg #[.slice ao 8 co,.slice aw nw cw,.slice (some ⟨bg,bo,none⟩) nb cb,.slice sa ns sc]:=hdep ⟨2,.data⟩ (by simp) rfl 33 rfl;have e2:a.eval (.tmp 34)= .int .i64 id:=hdep ⟨3,.data⟩ (by simp) rfl 34 rfl;refine v3o e1 e2 (CS.out X hX) ?_;rintro e w' ⟨rfl,hb⟩;exact⟨_,rfl,_,rfl,hb,rfl⟩
      |5,_,ho=>
       cases ho
       have e1:a.eval (.tmp 31)= .agg #[.slice ao 8 co,.slice aw nw cw,.slice (some ⟨bg,bo,none⟩) nb cb,.slice sa ns sc]:=hdep ⟨0,.data⟩ (by simp) rfl 31 rfl;have e2:a.eval (.tmp 32)=q.v:=hdep ⟨1,.data⟩ (by simp) rfl 32 rfl;have e3:a.eval (.tmp 35)= .int .i64 sl:=hdep ⟨4,.data⟩ (by simp) rfl 35 rfl;refine q2H e1 e2 e3 (CM.out X hX) ?_;rintro e w' ⟨x,rfl,hx,hb⟩;exact⟨_,rfl,_,rfl,hb,x,rfl,hx.mono (by have:=hX.size;have:=HI.out.bel.size;have:=HI.out.lo;have:=HI.out.t.lt;omega)⟩
     ·intro o ho a X hX hA hdep
      cases ho
      obtain⟨q2,e5,hT5⟩:=hdep ⟨5,.data⟩ (by simp) rfl 36 rfl;have e3:a.eval (.tmp 3)= .pointer (some ⟨gt,0,none⟩):=q0f hA (t:=3) (by kernel_rfl);have hTw:=HI.out.t.later hX HI.out.t.lt;rw[y0Y]at e5;refine j0l e3 e5 hTw ?_;have HI2:Hid (SF w (q0B X gt (.slice q2.a q2.n q2.c) (.slice q2.b q2.m q2.d)) gt (.slice ao 8 co) (.slice aw nw cw) (.slice (some ⟨bg,bo,none⟩) nb cb) (.slice sa ns sc) q2 (v0n H (j+1))):=v4Z HI.out hX hT5;obtain⟨us,hus,rfl⟩:=q0F hA [31,32,33,34,35,36] (by kernel_rfl);clear hdep hA hus e3 e5 hTw hT5 CS CM;generalize q0B X gt (.slice q2.a q2.n q2.c) (.slice q2.b q2.m q2.d)=Y at*;simp only[List.mapIdx_cons,List.mapIdx_nil,Nat.reduceAdd,List.contains_cons,List.contains_nil,Nat.reduceBEq,Bool.or_false,Bool.or_true,if_true,if_false,Bool.false_eq_true];go_wp2;go_roundw
      case rel=>exact⟨j+1,q2,by go_num,by omega,HI2⟩
      case measure=>simp[intOf];omega
    ·have hjn2:nb<=j:=by omega
     have HJN:Hid (j=nb):=by show _=_;omega
     have HE:Hid (z0K H=v0n H j):=by show _=_;rw[HJN.out];exact HSE.out
     have TW:=HI.out.t;have RW:=HI.out.res;have x0:wr.cell? ⟨gt,0,none⟩=some (.slice q.a q.n q.c):=TW.cell 0;have x1:wr.cell? ⟨gt,1,none⟩=some (.slice q.b q.m q.d):=TW.cell 1;have r0:wr.cell? ⟨w.heap.size+1,0,none⟩=some (.slice none 0 0):=RW.cell 0;have r1:wr.cell? ⟨w.heap.size+1,1,none⟩=some (.slice none 0 0):=RW.cell 1;have z0:=RW.frozen 0;have z1:=RW.frozen 1
     have HFIN:Hid (TM (q0B wr (w.heap.size+1) (.slice q.a q.n q.c) (.slice q.b q.m q.d)) w.heap.size q (z0K H)/\Below w.heap.size w (q0B wr (w.heap.size+1) (.slice q.a q.n q.c) (.slice q.b q.m q.d))):=by rw[HE.out];refine⟨(HI.out.tm.same (λg hg _=>z0c _ _ _ _ g (by omega))).mono (by omega),?_⟩;unfold q0B;exact(HI.out.bel.setCell (by simp) _).setCell (by simp) _
     clear TW RW HI;go_wp2;exact bodyPost_ret (v:= .agg #[.slice q.a q.n q.c,.slice q.b q.m q.d]) (by simp[results,Tryz.results125,go_sem, *]) rfl ⟨q,rfl,HFIN.out⟩
end
section
open Go.RowKit
variable{H:q0a}
theorem z4S(hs:q0h H)(ws:List Int)(j:Nat):q0h (x0K H ws j):=by
 refine⟨by rw[j0O];exact hs.objs,λz hz=> ?_,hs.weaks,hs.buffer,hs.sites,hs.names⟩;obtain⟨i,hi,rfl⟩:=List.getElem_of_mem hz;have hi2:i<H.objs.length:=by rw[j0O]at hi;exact hi
 rw[y1f H ws j i hi2];split
 ·show([-1,-1,-1]:List Int).length<=_;simp
 ·exact hs.fields _ (List.getElem_mem _)
theorem x2w(v:Value)(H:q0a)(w:World)(h:RdH w v H)(hs:q0h H)(h8:H.objs.length=8)(hcap:v0B v)(hf:∀o∈H.objs,∀z∈o.field,q0w z)(hbf:∀z∈H.buffer,q0w z):
 Calls Tryz.prog 117 #[v] w λe w' =>∃(s:HSh)(vf:Value),e= .returned (.tuple #[s.v,vf])/\HM w' w.heap.size s (j0c H)/\q0i w' w.heap.size vf (y0v H)/\(∀g,vf.ownBlock=some g->¬q0u s g)/\Below w.heap.size w w' :=by
 have HRH:Hid (∀X,Below w.heap.size w X->RdH X v H):=λX hX=>q0s h hX;have CC:Hid (∀X,Below w.heap.size w X->_):=λX hX=>v0O v H X (HRH.out X hX) hs;have CS:Hid (∀X,Below w.heap.size w X->_):=λX hX=>j3b v H X (HRH.out X hX) hs h8 hcap hf hbf;have hT8:=z1F H hs h8 H.buffer.length;have CWH:Hid (∀X(q:TSh),RdT X q.v (z0K H)->_):=λX q hq=>z2X q.v (z0K H) X hq ⟨by have:=hT8.1;unfold z0K;omega,by have:=hT8.2;unfold z0K;omega⟩;have HWS:Hid (x0j (x0l (z0K H))):=y3B _ hT8;have HFIN0:Hid (v1v (x0K H (x0l (z0K H)) (x0l (z0K H)).length)=j0c H):=j3R H (z0K H) hT8 h8 rfl;have HFR0:Hid (y0B H (x0l (z0K H)) (x0l (z0K H)).length=y0v H):=by show _=_;unfold y0B y0v;rw[List.take_length]
 have hwl:(x0l (z0K H)).length<=8:=by
  have:∀(zs:List Int)(i:Int),(x0f zs i).length<=zs.length:=by
   intro zs
   induction zs with
   |nil=>intro i;simp[x0f]
   |cons o r ih=>intro i;unfold x0f;have:=ih (i+1);split<;>simp<;>omega
  have h1:=this (z0K H).colors 0;have h2:(z0K H).colors.length=8:=hT8.2;unfold x0l;omega
 have HSM:Hid (q0h H):=hs;have HL8:Hid (H.objs.length=8):=h8;generalize x0l (z0K H)=ws at*;obtain⟨L,hL⟩:∃L,ws.length=L:=⟨_,rfl⟩;have HL:Hid (ws.length=L):=hL;obtain⟨ao,co,aw,cw,ab,cb,sa,sc,rfl,-,-,-,-⟩:=h;rw[h8]at HRH CC CS ⊢;rw[hL]at hwl HFIN0 HFR0;generalize H.weaks.length=nw at*;generalize H.buffer.length=nb at*;generalize H.sites.length=ns at*;obtain⟨W,hW⟩:∃W,W=(w.alloc (.cells #[.slice ao 8 co,.slice aw nw cw,.slice ab nb cb,.slice sa ns sc] 35)).alloc (.cells #[.slice none 0 0,.slice none 0 0,.slice none 0 0,.slice none 0 0] 35):=⟨_,rfl⟩;have BW:Below w.heap.size w W:=by rw[hW];exact(bl1 _).alloc (by simp) _
 have sW:W.heap.size=w.heap.size+2:=by rw[hW];simp
 have FH:q0d W w.heap.size (.slice ao 8 co) (.slice aw nw cw) (.slice ab nb cb) (.slice sa ns sc):=by have f:=q0d.new w (.slice ao 8 co) (.slice aw nw cw) (.slice ab nb cb) (.slice sa ns sc);have f2:=f.later (bl1 (.cells #[.slice none 0 0,.slice none 0 0,.slice none 0 0,.slice none 0 0] 35));rw[hW];exact f2
 have FR:q0d W (w.heap.size+1) (.slice none 0 0) (.slice none 0 0) (.slice none 0 0) (.slice none 0 0):=by have f:=q0d.new (w.alloc (.cells #[.slice ao 8 co,.slice aw nw cw,.slice ab nb cb,.slice sa ns sc] 35)) (.slice none 0 0) (.slice none 0 0) (.slice none 0 0) (.slice none 0 0);rw[<-hW]at f;simpa using f
 have HFR:Hid (q0d W (w.heap.size+1) (.slice none 0 0) (.slice none 0 0) (.slice none 0 0) (.slice none 0 0)):=FR;have HBW:Hid (Below w.heap.size w W):=BW;have HsW:Hid (W.heap.size=w.heap.size+2):=sW;clear hs h8 hcap hf hbf hT8 hL FR;go_enter Tryz.func117,Tryz.ntmps117;go_wp2_with fail
 rw[<-hW];clear hW;refine(CC.out _ BW).mono ?_;rintro e w1 ⟨s0,rfl,M1,b1⟩;have hs1:=b1.size;obtain⟨V,hV⟩:∃V,V=w1.alloc (.cells #[.slice s0.oa s0.os.length s0.oc,.slice s0.wa s0.wn s0.wc,.slice s0.ba s0.bn s0.bc,.slice s0.sa s0.sn s0.sc] 35):=⟨_,rfl⟩;have BV:Below w1.heap.size w1 V:=by rw[hV];exact bl1 _
 have bb:Below W.heap.size W V:=b1.trans (BV.mono b1.size)
 have HLS0:Hid (LS0 W V W.heap.size w1.heap.size s0 H):=
  ⟨bb,Nat.le_refl _,q0c M1 BV,by rw[hV];exact q0d.new w1 _ _ _ _,hs1,λhh=>by have:=(z0X M1 hh).2;omega,.inl ⟨rfl,rfl⟩,z0H _ _,λg hg=>(by simp[Value.ownBlock]at hg),λg hg=>(by simp[Value.ownBlock]at hg),λg hg=>(by simp[Value.ownBlock]at hg)⟩
 have F1:=FH.later b1;have c0:w1.cell? ⟨w.heap.size,0,none⟩=some (.slice ao 8 co):=F1.cell 0;have c1:w1.cell? ⟨w.heap.size,1,none⟩=some (.slice aw nw cw):=F1.cell 1;have c2:w1.cell? ⟨w.heap.size,2,none⟩=some (.slice ab nb cb):=F1.cell 2;have c3:w1.cell? ⟨w.heap.size,3,none⟩=some (.slice sa ns sc):=F1.cell 3;have hq0:w.heap.size<w1.heap.size:=by omega
 have hn0:¬w.heap.size=w1.heap.size:=by omega
 have HBV:Hid (Below w.heap.size w V):=HBW.out.trans (bb.mono HBW.out.size);rw[show s0.v= .agg #[.slice s0.oa s0.os.length s0.oc,.slice s0.wa s0.wn s0.wc,.slice s0.ba s0.bn s0.bc,.slice s0.sa s0.sn s0.sc]from rfl];clear M1 b1 BV bb F1 FH BW CC sW;go_wp2_with fail
 rw[<-hV];clear hV c0 c1 c2 c3 hq0 hn0;refine(CS.out _ HBV.out).mono ?_;rintro e w2 ⟨q,rfl,M2,b2⟩;have HLS2:Hid (LS0 W w2 W.heap.size w1.heap.size s0 H):=q0y HLS0.out b2;have R2:=M2.rd;have hvq:V.heap.size<=w2.heap.size:=b2.size;go_wp2_with fail
 refine(CWH.out _ q R2).mono ?_;rintro e w3 ⟨vk,rfl,O3,b3⟩;obtain⟨ka,kc,hvk,-⟩:=q0Y O3;rw[HL.out]at hvk;subst hvk
 have HLS3:Hid (LS W w3 W.heap.size w1.heap.size s0 (x0K H ws 0) (.slice ka L kc) (.slice none 0 0) ws (y0B H ws 0)):=by
  have l:=q0y HLS2.out b3;rw[j3Q];have e0:y0B H ws 0=[]:=by simp[y0B]
  rw[e0];exact⟨l.bel,l.hB,l.m,l.x,l.gB,l.sx,z2t (q0A O3 HLS2.out.le),l.f,λg hg hh=>(by have h1:=(z0X HLS2.out.m hh).2;have h2:=(q0n O3 g hg).1;omega),l.sf,λg hg h2=>(by simp[Value.ownBlock]at h2)⟩
 obtain⟨go,hgo,-,-⟩:=v0E HLS3.out.m 0 (by rw[j0O,HL8.out];omega);have HGO0:Hid (s0.oa=some ⟨go,0,none⟩):=hgo;obtain⟨gx,hgx⟩:∃gx,w1.heap.size=gx:=⟨_,rfl⟩;rw[hgx]at HLS3 ⊢;clear hgo HLS0 HLS2 M2 b2 R2 O3 b3 CS CWH hgx hs1 hvq;go_wp2;go_loopw[5,20] (λvf i wr=>∃(j:Nat)(s:HSh)(fa:Option Addr)(fc:Nat),i= .int .i64 (j:Int)/\j<=L/\vf= .slice fa j fc/\Hid (s.oa=some ⟨go,0,none⟩)/\Hid (LS W wr W.heap.size gx s (x0K H ws j) (.slice ka L kc) vf ws (y0B H ws j))) (λ_ i _=>L - (intOf i).toNat)
 case atStart=>exact⟨0,s0,none,0,rfl,by omega,rfl,HGO0,HLS3⟩
 case round=>
  obtain⟨j,s,fa,fc,rfl,hjL,rfl,HGO,HI⟩:=hrel;by_cases hlt:j<L
  ·have hj2:j<ws.length:=by have:=HL.out;omega
   obtain⟨ka2,kc2,hka,hr⟩:=z1W HI.out.q;rw[HL.out]at hka;simp only[Value.slice.injEq]at hka;obtain⟨rfl,-,rfl⟩:=hka;obtain⟨kg,ko,rfl,hkg,hcz⟩:=hr j hj2;obtain⟨k,hk⟩:∃k:Nat,ws[j]=(k:Int):=⟨ws[j].toNat,by have:=HWS.out _ (List.getElem_mem hj2);omega⟩;have hk8:k<8:=by have:=HWS.out _ (List.getElem_mem hj2);omega
   have hkH:k<H.objs.length:=by have:=HL8.out;omega
   have hkW:k<(x0K H ws j).objs.length:=by rw[j0O];exact hkH
   rw[hk]at hcz;have HWK:Hid (x0K H ws (j+1)=q0r (x0K H ws j) k (q0J H.objs[k].gen)):=j3P H ws j k hj2 hkH hk;have HFK:Hid (y0B H ws (j+1)=y0B H ws j++[idZ (k:Int) H.objs[k].gen]):=x3y H ws j k hj2 hkH hk;have HFL:Hid ((y0B H ws j).length=j):=by show _=_;unfold y0B;rw[List.length_map,List.length_take];omega
   have HGN:Hid (∀X,HM X W.heap.size s (x0K H ws j)->X.cell? ⟨go,k*8+1,none⟩=some (.int .i64 H.objs[k].gen)):=λX hX=>by
    have e:=(z0o hX k hkW go HGO.out).2.1.c1;rw[z4R H ws j k hkH]at e;exact e
   have c1:=HGN.out wr HI.out.m;have CE:Hid (∀X,_):=λX=>j0z H.objs[k].gen X;have CID:Hid (∀X,_):=λX=>q1u (k:Int) H.objs[k].gen X;have hsl:s.os.length=8:=by rw[HI.out.m.lo,j0O,HL8.out]
   have x0:wr.cell? ⟨gx,0,none⟩=some (.slice (some ⟨go,0,none⟩) 8 s.oc):=by have e:wr.cell? ⟨gx,0,none⟩=some (.slice s.oa s.os.length s.oc):=HI.out.x.cell 0;rw[HGO.out,hsl]at e;exact e
   generalize H.objs[k].gen=og at*;generalize idZ (k:Int) og=id at*;have hk8i:(k:Int)<8:=by omega
   have hjl:(j:Int)<(L:Int):=by omega
   obtain⟨V4,hV4⟩:∃V4,V4=wr.alloc (.cells #[.int .i64 id] 3):=⟨_,rfl⟩;have b4:Below wr.heap.size wr V4:=by rw[hV4];exact bl1 _
   have HI4:Hid (LS W V4 W.heap.size gx s (x0K H ws j) (.slice (some ⟨kg,ko,none⟩) L kc) (.slice fa j fc) ws (y0B H ws j)):=q0y HI.out b4;have hVc:V4.cell? ⟨wr.heap.size,0,none⟩=some (.int .i64 id):=by rw[hV4,World.cell?_alloc_mark];rfl
   have HW4:Hid (W.heap.size<=V4.heap.size):=HI4.out.le;clear hk hr b4 hsl;go_wp2_with fail
   refine(CID.out _).mono ?_;rintro e w3 ⟨rfl,hw3⟩;subst hw3;clear CID x0 c1 hcz;go_wp2_with (at_builtin;rw[<-hV4];clear hV4;refine x0T rfl _ _ rfl W.heap.size _ _ rfl HI4.out.f ⟨w3.heap.size,0,none⟩ id rfl hVc ?hlen HW4.out ?_)
   case hlen=>rw[HFL.out];omega
   intro v4 X4 O4 s4 H4 A4 B4;obtain⟨fa4,fc4,rfl,-⟩:=q0Y O4;have hfl:(y0B H ws j++[id]).length=j+1:=by rw[List.length_append,HFL.out];rfl
   rw[hfl]at O4 A4 ⊢
   have HL4:Hid (LS W X4 W.heap.size gx s (x0K H ws j) (.slice (some ⟨kg,ko,none⟩) L kc) (.slice fa4 (j+1) fc4) ws (y0B H ws (j+1))):=by
    rw[HFK.out];refine v2d HI4.out (B4.out _ _ HI4.out.bel nl0) s4 H4.out _ _ O4 ?_;rcases A4.out with e|e
    ·exact .inl e
    ·exact .inr ⟨_,e,Nat.le_refl _⟩
   have c1:=HGN.out X4 HL4.out.m;clear O4 s4 H4 A4 B4 HI4 HI hVc;go_wp2_with fail
   refine(CE.out _).mono ?_;rintro e w7 ⟨f7,rfl,o7,b7⟩;obtain⟨a7,c7,hv7,-⟩:=z0e o7;rw[show([-1,-1,-1]:List Int).length=3 from rfl]at hv7;subst hv7
   have HLE:Hid (LS W (z0r w7 go (k*8) (q0J og) (.slice a7 3 c7)) W.heap.size gx {s with os:=s.os.set k ⟨a7,3,c7⟩} (x0K H ws (j+1)) (.slice (some ⟨kg,ko,none⟩) L kc) (.slice fa4 (j+1) fc4) ws (y0B H ws (j+1))):=by rw[HWK.out];exact y1X HL4.out b7 k hkW go HGO.out (q0J og) a7 c7 o7
   obtain⟨_,ob7,fz7⟩:=z0o (q0c HL4.out.m b7) k hkW go HGO.out;obtain⟨v0,e0⟩:=q0H ob7 0 (by omega);obtain⟨v1,e1⟩:=q0H ob7 1 (by omega);obtain⟨v2,e2⟩:=q0H ob7 2 (by omega);obtain⟨v3,e3⟩:=q0H ob7 3 (by omega);obtain⟨v4,e4⟩:=q0H ob7 4 (by omega);obtain⟨v5,e5⟩:=q0H ob7 5 (by omega);obtain⟨v6,e6⟩:=q0H ob7 6 (by omega);obtain⟨v7,e7⟩:=q0H ob7 7 (by omega);have n0:=fz7 0 (by omega);have n1:=fz7 1 (by omega);have n2:=fz7 2 (by omega);have n3:=fz7 3 (by omega);have n4:=fz7 4 (by omega);have n5:=fz7 5 (by omega);have n6:=fz7 6 (by omega);have n7:=fz7 7 (by omega);rw[Nat.add_zero]at e0 n0;have HGO2:Hid (({s with os:=s.os.set k ⟨a7,3,c7⟩}:HSh).oa=some ⟨go,0,none⟩):=HGO.out;clear o7 b7 ob7 fz7 HL4 HWK HFK c1 CE HGN;unfold y0J;go_wp2;go_roundw
   case rel=>exact⟨j+1,{s with os:=s.os.set k ⟨a7,3,c7⟩},fa4,fc4,by go_num,by omega,rfl,HGO2,HLE⟩
   case measure=>simp[intOf];omega
  ·have HJ:Hid (j=L):=by show _=_;omega
   have hwm:q0h (x0K H ws j):=z4S HSM.out ws j;have CSE:Hid (∀_:Unit,_):=λ(_:Unit)=>y3e W wr W.heap.size gx s (x0K H ws j) _ _ _ _ HI.out hwm (by rw[j0O,HL8.out]);clear hwm HI;go_wp2_with fail
   refine(CSE.out ()).mono ?_;rintro e w4 ⟨rfl,s9,L9⟩
   have HL9:Hid (LS W w4 W.heap.size gx s9 (j0c H) (.slice ka L kc) (.slice fa j fc) ws (y0v H)):=by
    have e1:v1v (x0K H ws j)=j0c H:=by rw[HJ.out];exact HFIN0.out
    have e2:y0B H ws j=y0v H:=by rw[HJ.out];exact HFR0.out
    rw[e1,e2]at L9;exact L9
   have e3:=HsW.out;have XF:=HL9.out.x;have RF:q0d w4 (w.heap.size+1) (.slice none 0 0) (.slice none 0 0) (.slice none 0 0) (.slice none 0 0):=(HL9.out.bel.block (w.heap.size+1) (by omega)).trans HFR.out;have q0:=XF.cell 0;have q1:=XF.cell 1;have q2:=XF.cell 2;have q3:=XF.cell 3;have r0:=RF.cell 0;have r1:=RF.cell 1;have r2:=RF.cell 2;have r3:=RF.cell 3;have z0:=RF.frozen 0;have z1:=RF.frozen 1;have z2:=RF.frozen 2;have z3:=RF.frozen 3;simp only[List.getElem?_toArray,List.getElem?_cons_zero,List.getElem?_cons_succ]at q0 q1 q2 q3 r0 r1 r2 r3;have HBl:Hid (Below w.heap.size w w4):=HBW.out.trans (HL9.out.bel.mono HBW.out.size);clear XF RF CSE L9 e3;go_wp2;have e3:=HsW.out;refine bodyPost_ret (v:= .tuple #[.agg #[.slice s9.oa s9.os.length s9.oc,.slice s9.wa s9.wn s9.wc,.slice s9.ba s9.bn s9.bc,.slice s9.sa s9.sn s9.sc],.slice fa j fc]) (by simp[results,Tryz.results117,go_sem, *]) rfl ⟨s9,.slice fa j fc,rfl,?_,?_,HL9.out.sf,?_⟩
   ·refine z0G (v0V HL9.out.m ?_) (by omega);refine(((q0G _ _ ⟨w.heap.size+1,0,none⟩ _ (by simp only;omega)).trans (q0G _ _ ⟨w.heap.size+1,1,none⟩ _ (by simp only;omega))).trans (q0G _ _ ⟨w.heap.size+1,2,none⟩ _ (by simp only;omega))).trans (q0G _ _ ⟨w.heap.size+1,3,none⟩ _ (by simp only;omega))
   ·exact q0A (q0v (w' :=q0p w4 (w.heap.size+1) _ _ _ _) HL9.out.f (λg hg=>q0T _ _ _ _ _ _ g (by have:=(q0n HL9.out.f g hg).1;omega))) (by omega)
   ·iterate 4 refine Below.setCell ?_ (by simp only;omega) _
    exact HBl.out
end
section
open Go.RowKit
variable{s:HSh}{H:q0a}
theorem hsv(s:HSh):s.v= .agg #[.slice s.oa s.os.length s.oc,.slice s.wa s.wn s.wc,.slice s.ba s.bn s.bc,.slice s.sa s.sn s.sc]:=rfl
theorem v0g{W w wr:World}{B gx:Nat}{vf:Value}{fr:List Int}(n:Nat)(c v:Int)(hL:LS W wr B gx s H (.slice none 0 0) vf [] fr)(hn:B<=n)(h1:¬q0u s n)(h2:n≠gx)(h4:vf.ownBlock≠some n)(y0 y1 y2:Value):q0N W B gx (H,⟨c,v,fr⟩) (.returned (q0m c v vf)) (q0g wr n y0 y1 y2):=
 ⟨s,vf,rfl,u2w hL n y0 y1 y2 hn h1 h2 (by simp[Value.ownBlock]) h4⟩
theorem hdx{p:Prop}(h:p):Hid p:=h
def j5P(W wr:World)(B gx:Nat)(s:HSh):Prop:=∀X H2 c v y0 y1 y2,LS0 W X B gx s H2->q0N W B gx (H2,⟨c,v,[]⟩) (.returned (q0m c v (.slice none 0 0))) (q0g X (wr.heap.size+1) y0 y1 y2)
theorem j5R{W wr:World}{B gx:Nat}(hB:B<=wr.heap.size+1)(nh:¬q0u s (wr.heap.size+1))(hne:wr.heap.size+1≠gx):j5P W wr B gx s:=
 λX H2 c v y0 y1 y2 hX=>v0g (w:=wr) (wr.heap.size+1) c v hX hB nh hne (by simp[Value.ownBlock]) y0 y1 y2
theorem u3p{W wr:World}{B gx:Nat}{vq vf:Value}{todo fr:List Int}(h:LS W wr B gx s H vq vf todo fr)(k:Nat)(hk:k<H.weaks.length)(g:Nat)(hg:s.wa=some ⟨g,0,none⟩)(d:x0g):LS W (z0y wr g (k*2) d) B gx s {H with weaks:=H.weaks.set k d} vq vf todo fr:=by
 have hh:q0u s g:= .inr (.inl ⟨_,hg,rfl⟩)
 have oth:∀x,x≠g->(z0y wr g (k*2) d).heap[x]? =wr.heap[x]?:=λx hx=>by
  unfold z0y;iterate 2 rw[heap_setCell_other _ _ _ _ (by exact hx)]
 refine⟨?_,h.hB,j1J h.m k hk g hg d,h.x.same (oth gx (λe=>h.sx (by rw[e];exact hh))),h.gB,h.sx,q1f h.q (λx hx=>oth x (λe=>h.sq x hx (by rw[e];exact hh))),q0v h.f (λx hx=>oth x (λe=>h.sf x hx (by rw[e];exact hh))),h.sq,h.sf,h.qf⟩;unfold z0y;exact(h.bel.setCell (z0X h.m hh).1 _).setCell (z0X h.m hh).1 _
theorem v3s(W wr:World)(B gx:Nat)(s:HSh)(H:q0a)(o:OpD)(hL:LS0 W wr B gx s H)(hs:q0h H)(hwf:∀d∈H.weaks,q0w d.target):
 Calls Tryz.prog 87 #[opV o,.pointer (some ⟨gx,0,none⟩)] wr λe w' =>q0N W B gx (q1H H o.a) e w' :=by
 obtain⟨V,hV,BV,sV,F5,F3⟩:=y0M wr o;have LV:LS0 W V B gx s H:=q0y hL BV;have hgx:=hL.x.lt;have hle:=hL.le;have nh:¬q0u s (wr.heap.size+1):=q0D hL.m (.inr (by omega));have hne:wr.heap.size+1≠gx:=by omega
 have HE:Hid (∀X H2 c v y0 y1 y2,LS0 W X B gx s H2->q0N W B gx (H2,⟨c,v,[]⟩) (.returned (q0m c v (.slice none 0 0))) (q0g X (wr.heap.size+1) y0 y1 y2)):=λX H2 c v y0 y1 y2 hX=>v0g (w:=wr) (wr.heap.size+1) c v hX (by omega) nh hne (by simp[Value.ownBlock]) y0 y1 y2;have HT:Hid (q0k V (wr.heap.size+1) (.int .i64 0) (.int .i64 0) (.slice none 0 0)):=F3;have HL:Hid (LS0 W V B gx s H):=LV;have CR:Hid (∀c X,_):=λc X=>z0f c X;unfold opV;obtain⟨k0,k1,k2,k3,k4⟩:=F5.cells
 cases hu:z1t H o.a with
 |none=>
  have HR:Hid (q1H H o.a=(H,⟨2,0,[]⟩)):=by show _=_;unfold q1H;rw[hu];rfl
  have CU:Hid (∀_:Unit,_):=λ(_:Unit)=>x2i W V B gx s H _ _ _ _ LV hs.weaks o.a hu;rw[HR.out];clear hs hwf hL LV F5 F3 BV HR hu nh;go_enter Tryz.func87,Tryz.ntmps87;go_wp2_with fail
  rw[<-hV];clear hV;refine(CU.out ()).mono ?_;rintro e w1 ⟨rfl,rfl⟩;go_wp2_with fail
  refine(CR.out 2 _).mono ?_;rintro e w2 ⟨rfl,b2⟩;have T2:=HT.out.later b2;obtain⟨q0,q1,q2⟩:=T2.cells;obtain⟨z0,z1,z2⟩:=T2.frees;have HX:Hid _:=HE.out w2 _ 2 0 (.int .i64 2) (.int .i64 0) (.slice none 0 0) (q0y HL.out b2);rw[show q0m 2 0 (.slice none 0 0)= .agg #[.int .i64 2,.int .i64 0,.slice none 0 0]from rfl];clear T2 HE HL HT CR b2 k0 k1 k2 k3 k4 CU;go_wp2;exact bodyPost_ret (v:=q0m 2 0 (.slice none 0 0)) (by simp[results,Tryz.results87,go_sem,q0m, *]) rfl HX.out
 |some d=>
  obtain⟨k,hk,hka,hd,hut⟩:=z2P hu;obtain⟨gw,hgw,hw,-⟩:=LV.m.wk k hk;have hgl:=(LV.m.wg _ hgw).2;have CU:Hid (∀_:Unit,_):=λ(_:Unit)=>q2T W V B gx s H _ _ _ _ LV hs.weaks k gw hk (by rw[hd];exact hut) hgw;have hti:q0w d.target:=by rw[<-hd];exact hwf _ (List.getElem_mem hk)
  have CS:Hid (∀X:q0b V,_):=λX=>z0m s.v H d.target X.on (q0K (q0c LV.m X.bel)) hs.objs hti.1 hti.2;have HR:Hid (q1H H o.a=(H,⟨0,if q0l H d.target<0 then -1 else d.target,[]⟩)):=by show _=_;unfold q1H;rw[hu]
  have yt:∀X:q0b V,X.on.cell? ⟨gw,k*2+1,none⟩=some (.int .i64 d.target):=λX=>(X.bel.cell (p:=⟨gw,k*2+1,none⟩) hgl).trans (by rw[hw.c1,hd]);have HYT:Hid (∀X,Below V.heap.size V X->X.cell? ⟨gw,k*2+1,none⟩=some (.int .i64 d.target)):=λX hX=>(hX.cell (p:=⟨gw,k*2+1,none⟩) hgl).trans (by rw[hw.c1,hd]);have y0:∀X:q0b V,X.on.cell? ⟨gx,0,none⟩=some (.slice s.oa s.os.length s.oc):=λX=>(LV.x.later X.bel).cell 0;have y1:∀X:q0b V,X.on.cell? ⟨gx,1,none⟩=some (.slice s.wa s.wn s.wc):=λX=>(LV.x.later X.bel).cell 1;have y2:∀X:q0b V,X.on.cell? ⟨gx,2,none⟩=some (.slice s.ba s.bn s.bc):=λX=>(LV.x.later X.bel).cell 2;have y3:∀X:q0b V,X.on.cell? ⟨gx,3,none⟩=some (.slice s.sa s.sn s.sc):=λX=>(LV.x.later X.bel).cell 3;have hnel:=q0b.some_ V;rw[HR.out];rw[hsv]at CS;rw[hka]at k1;rw[hka]at hV;generalize q0l H d.target=z at*;generalize d.target=dt at*;obtain⟨v,hv⟩:∃v,(if z<0 then -1 else dt)=v:=⟨_,rfl⟩;have HV:Hid ((if z<0 then -1 else dt)=v):=hv;rw[hv];clear hv;clear hs hwf hL LV F5 F3 BV HR hu nh hw hd hti hgw hut;unfold q0m at*;rw[hka];go_enter Tryz.func87,Tryz.ntmps87;go_wp2_with fail
  rw[<-hV];clear hV;refine(CU.out ()).mono ?_;rintro e w1 ⟨rfl,rfl⟩;clear CU k0 k1 k2 k3 k4;go_wp2;refine q0j w1 bl0 (by kernel_rfl) (by kernel_rfl) ?_
  repeat (go_big_quiet_step (first
   |(go_at_call 111;refine(CS.out _).mono ?_;rintro e w2 ⟨rfl,b2⟩;exact⟨rfl,q0b.step _ b2⟩)))
  refine wpQuiet_nil ?_;intro X hXe;have hX:Below w1.heap.size w1 X:=by obtain⟨n,hn⟩:=hXe;rw[hn];exact n.bel
  clear hXe yt y0 y1 y2 y3 hnel CS CR;have T2:=HT.out.later hX;obtain⟨q0,q1,q2⟩:=T2.cells;obtain⟨z0,z1,z2⟩:=T2.frees;have hyt:=HYT.out X hX;by_cases hz:z<0
  ·have hv:v= -1:=by rw[<-HV.out,if_pos hz]
   have HX:Hid (q0N W B gx (H,⟨0,v,[]⟩) (.returned (.agg #[.int .i64 0,.int .i64 (-1),.slice none 0 0])) (q0g X (wr.heap.size+1) (.int .i64 0) (.int .i64 (-1)) (.slice none 0 0))):=by rw[hv];exact HE.out X _ 0 (-1) (.int .i64 0) (.int .i64 (-1)) (.slice none 0 0) (q0y HL.out hX)
   clear hv;clear T2 HE HL HT HYT hX;go_wp2;exact bodyPost_ret (v:=q0m 0 (-1) (.slice none 0 0)) (by simp[results,Tryz.results87,go_sem,q0m, *]) rfl HX.out
  ·have hv:v=dt:=by rw[<-HV.out,if_neg hz]
   have HX:Hid (q0N W B gx (H,⟨0,v,[]⟩) (.returned (.agg #[.int .i64 0,.int .i64 dt,.slice none 0 0])) (q0g X (wr.heap.size+1) (.int .i64 0) (.int .i64 dt) (.slice none 0 0))):=by rw[hv];exact HE.out X _ 0 dt (.int .i64 0) (.int .i64 dt) (.slice none 0 0) (q0y HL.out hX)
   clear hv;clear T2 HE HL HT HYT hX;go_wp2;exact bodyPost_ret (v:=q0m 0 dt (.slice none 0 0)) (by simp[results,Tryz.results87,go_sem,q0m, *]) rfl HX.out
theorem v3q(W wr:World)(B gx:Nat)(s:HSh)(H:q0a)(o:OpD)(hL:LS0 W wr B gx s H)(hs:q0h H)(hwf:∀d∈H.weaks,q0w d.target):
 Calls Tryz.prog 88 #[opV o,.pointer (some ⟨gx,0,none⟩)] wr λe w' =>q0N W B gx (q1G H o.a) e w' :=by
 obtain⟨V,hV,BV,sV,F5,F3⟩:=y0M wr o;have LV:LS0 W V B gx s H:=q0y hL BV;have hgx:=hL.x.lt;have hle:=hL.le;have nh:¬q0u s (wr.heap.size+1):=q0D hL.m (.inr (by omega));have hne:wr.heap.size+1≠gx:=by omega
 have HE:Hid (∀X H2 c v y0 y1 y2,LS0 W X B gx s H2->q0N W B gx (H2,⟨c,v,[]⟩) (.returned (q0m c v (.slice none 0 0))) (q0g X (wr.heap.size+1) y0 y1 y2)):=λX H2 c v y0 y1 y2 hX=>v0g (w:=wr) (wr.heap.size+1) c v hX (by omega) nh hne (by simp[Value.ownBlock]) y0 y1 y2;have HT:Hid (q0k V (wr.heap.size+1) (.int .i64 0) (.int .i64 0) (.slice none 0 0)):=F3;have HL:Hid (LS0 W V B gx s H):=LV;have CR:Hid (∀c X,_):=λc X=>z0f c X;unfold opV;obtain⟨k0,k1,k2,k3,k4⟩:=F5.cells
 cases hu:z1t H o.a with
 |none=>
  have HR:Hid (q1G H o.a=(H,⟨2,0,[]⟩)):=by show _=_;unfold q1G;rw[hu];rfl
  have CU:Hid (∀_:Unit,_):=λ(_:Unit)=>x2i W V B gx s H _ _ _ _ LV hs.weaks o.a hu;rw[HR.out];clear hs hwf hL LV F5 F3 BV HR hu nh;go_enter Tryz.func88,Tryz.ntmps88;go_wp2_with fail
  rw[<-hV];clear hV;refine(CU.out ()).mono ?_;rintro e w1 ⟨rfl,rfl⟩;go_wp2_with fail
  refine(CR.out 2 _).mono ?_;rintro e w2 ⟨rfl,b2⟩;have T2:=HT.out.later b2;obtain⟨q0,q1,q2⟩:=T2.cells;obtain⟨z0,z1,z2⟩:=T2.frees;have HX:Hid _:=HE.out w2 _ 2 0 (.int .i64 2) (.int .i64 0) (.slice none 0 0) (q0y HL.out b2);rw[show q0m 2 0 (.slice none 0 0)= .agg #[.int .i64 2,.int .i64 0,.slice none 0 0]from rfl];clear T2 HE HL HT CR b2 k0 k1 k2 k3 k4 CU;go_wp2;exact bodyPost_ret (v:=q0m 2 0 (.slice none 0 0)) (by simp[results,Tryz.results88,go_sem,q0m, *]) rfl HX.out
 |some d=>
  obtain⟨k,hk,hka,hd,hut⟩:=z2P hu;obtain⟨gw,hgw,hw,hfw⟩:=LV.m.wk k hk;have hgl:=(LV.m.wg _ hgw).2;have CU:Hid (∀_:Unit,_):=λ(_:Unit)=>q2T W V B gx s H _ _ _ _ LV hs.weaks k gw hk (by rw[hd];exact hut) hgw;have HR:Hid (q1G H o.a=({H with weaks:=H.weaks.set k ⟨false,0⟩},⟨0,0,[]⟩)):=by show _=_;unfold q1G;rw[hu,hka];rfl
  have LW:LS W (z0y V gw (k*2) ⟨false,0⟩) B gx s {H with weaks:=H.weaks.set k ⟨false,0⟩} (.slice none 0 0) (.slice none 0 0) [] []:=u3p LV k hk gw hgw ⟨false,0⟩;have HX:Hid _:=HE.out _ _ 0 0 (.int .i64 0) (.int .i64 0) (.slice none 0 0) LW;have d0:=hw.c0;have d1:=hw.c1;have e0:=hfw 0 (by omega);have e1:=hfw 1 (by omega);rw[Nat.add_zero]at e0;obtain⟨q0,q1,q2⟩:=F3.cells;obtain⟨z0,z1,z2⟩:=F3.frees;have hng:¬gw=wr.heap.size+1:=λe=>nh (by rw[<-e];exact .inr (.inl ⟨_,hgw,rfl⟩));have hng2:¬wr.heap.size+1=gw:=λe=>hng e.symm;rw[HR.out];rw[hka]at k1;rw[hka]at hV;clear hs hwf hL LV LW F5 F3 BV HR hu nh hw hd hgw hut hfw HE HL HT CR;unfold q0m at*;rw[hka];go_enter Tryz.func88,Tryz.ntmps88;go_wp2_with fail
  rw[<-hV];clear hV;refine(CU.out ()).mono ?_;rintro e w1 ⟨rfl,rfl⟩;clear CU k0 k1 k2 k3 k4;unfold z0y q0g at HX;go_wp2;exact bodyPost_ret (v:=q0m 0 0 (.slice none 0 0)) (by simp[results,Tryz.results88,go_sem,q0m, *]) rfl HX.out
theorem v3w(W wr:World)(B gx:Nat)(s:HSh)(H:q0a)(o:OpD)(hL:LS0 W wr B gx s H)(hs:q0h H)(hoa:q0w o.a):
 Calls Tryz.prog 86 #[opV o,.pointer (some ⟨gx,0,none⟩)] wr λe w' =>q0N W B gx (j0Y H o.a) e w' :=by
 obtain⟨V,hV,BV,sV,F5,F3⟩:=y0M wr o;have LV:LS0 W V B gx s H:=q0y hL BV;have hgx:=hL.x.lt;have hle:=hL.le;have nh:¬q0u s (wr.heap.size+1):=q0D hL.m (.inr (by omega));have hne:wr.heap.size+1≠gx:=by omega
 have HE:Hid (∀X H2 c v y0 y1 y2,LS0 W X B gx s H2->q0N W B gx (H2,⟨c,v,[]⟩) (.returned (q0m c v (.slice none 0 0))) (q0g X (wr.heap.size+1) y0 y1 y2)):=λX H2 c v y0 y1 y2 hX=>v0g (w:=wr) (wr.heap.size+1) c v hX (by omega) nh hne (by simp[Value.ownBlock]) y0 y1 y2;have HT:Hid (q0k V (wr.heap.size+1) (.int .i64 0) (.int .i64 0) (.slice none 0 0)):=F3;have HL:Hid (LS0 W V B gx s H):=LV;have CR:Hid (∀c X,_):=λc X=>z0f c X;unfold opV;obtain⟨k0,k1,k2,k3,k4⟩:=F5.cells;have CS:Hid (∀X:q0b V,_):=λX=>z0m s.v H o.a X.on (q0K (q0c LV.m X.bel)) hs.objs hoa.1 hoa.2;have y0:∀X:q0b V,X.on.cell? ⟨gx,0,none⟩=some (.slice s.oa s.os.length s.oc):=λX=>(LV.x.later X.bel).cell 0;have y1:∀X:q0b V,X.on.cell? ⟨gx,1,none⟩=some (.slice s.wa s.wn s.wc):=λX=>(LV.x.later X.bel).cell 1;have y2:∀X:q0b V,X.on.cell? ⟨gx,2,none⟩=some (.slice s.ba s.bn s.bc):=λX=>(LV.x.later X.bel).cell 2;have y3:∀X:q0b V,X.on.cell? ⟨gx,3,none⟩=some (.slice s.sa s.sn s.sc):=λX=>(LV.x.later X.bel).cell 3;have l0:∀X:q0b V,X.on.cell? ⟨wr.heap.size,0,none⟩=some (.int .i64 o.kind):=λX=>(F5.later X.bel).cell 0;have l1:∀X:q0b V,X.on.cell? ⟨wr.heap.size,1,none⟩=some (.int .i64 o.a):=λX=>(F5.later X.bel).cell 1;have l2:∀X:q0b V,X.on.cell? ⟨wr.heap.size,2,none⟩=some (.int .i64 o.b):=λX=>(F5.later X.bel).cell 2;have l3:∀X:q0b V,X.on.cell? ⟨wr.heap.size,3,none⟩=some (.int .i64 o.c):=λX=>(F5.later X.bel).cell 3;have hnel:=q0b.some_ V;have H5:Hid (z0d V wr.heap.size o):=F5;rw[hsv]at CS;by_cases hz:q0l H o.a<0
 ·have HR:Hid (j0Y H o.a=(H,⟨1,0,[]⟩)):=by show _=_;unfold j0Y;rw[if_pos hz];rfl
  rw[HR.out];generalize q0l H o.a=z at*;clear hs hL LV F5 F3 BV HR nh hoa k0 k1 k2 k3 k4;go_enter Tryz.func86,Tryz.ntmps86;go_wp2;rw[<-hV];clear hV;refine q0j V bl0 (by kernel_rfl) (by kernel_rfl) ?_
  repeat (go_big_quiet_step (first
   |(go_at_call 111;refine(CS.out _).mono ?_;rintro e w2 ⟨rfl,b2⟩;exact⟨rfl,q0b.step _ b2⟩)))
  refine wpQuiet_nil ?_;intro X hXe;have hX:Below V.heap.size V X:=by obtain⟨n,hn⟩:=hXe;rw[hn];exact n.bel
  clear hXe y0 y1 y2 y3 l0 l1 l2 l3 hnel CS;have HTX:Hid (q0k X (wr.heap.size+1) (.int .i64 0) (.int .i64 0) (.slice none 0 0)):=HT.out.later hX;go_wp2_with fail
  refine(CR.out 1 _).mono ?_;rintro e w2 ⟨rfl,b2⟩;have T2:=HTX.out.later b2;obtain⟨q0,q1,q2⟩:=T2.cells;obtain⟨z0,z1,z2⟩:=T2.frees;have HX:Hid _:=HE.out w2 _ 1 0 (.int .i64 1) (.int .i64 0) (.slice none 0 0) (q0y (q0y HL.out hX) b2);rw[show q0m 1 0 (.slice none 0 0)= .agg #[.int .i64 1,.int .i64 0,.slice none 0 0]from rfl];clear T2 HE HL HT CR b2 HTX hX H5;go_wp2;exact bodyPost_ret (v:=q0m 1 0 (.slice none 0 0)) (by simp[results,Tryz.results86,go_sem,q0m, *]) rfl HX.out
 ·obtain⟨n,hn⟩:∃n,H.weaks.length=n:=⟨_,rfl⟩;have HWN:Hid (s.wn=n):=by show _=_;rw[hL.m.lw,hn]
  have CF:Hid (∀X,Below V.heap.size V X->_):=λX hX=>j2h X s.wa s.wc H.weaks (q1t (q0c LV.m hX)).2.1 hs.weaks;rw[hn,<-HWN.out]at CF
  have HWK:Hid (∀j(h:j<H.weaks.length),∃g,s.wa=some ⟨g,0,none⟩/\∀X,Below V.heap.size V X->j0y X g (j*2) H.weaks[j]/\∀k,k<2->X.frozen? ⟨g,j*2+k,none⟩=false):=λj h=>by
   obtain⟨g,e1,-,-⟩:=LV.m.wk j h;refine⟨g,e1,λX hX=> ?_⟩;obtain⟨g2,e2,e3,e4⟩:=(q0c LV.m hX).wk j h;rw[e1]at e2;injection e2 with e2;injection e2 with e2 _ _;subst e2;exact⟨e3,e4⟩
  have HLW:Hid (∀X k(hk:k<H.weaks.length)g(hg:s.wa=some ⟨g,0,none⟩)d,Below V.heap.size V X->LS W (z0y X g (k*2) d) B gx s {H with weaks:=H.weaks.set k d} (.slice none 0 0) (.slice none 0 0) [] []):=λX k hk g hg d hX=>u3p (q0y LV hX) k hk g hg d;by_cases hw:v0l H.weaks 0<0
  ·have HR:Hid (j0Y H o.a=(H,⟨3,0,[]⟩)):=by show _=_;unfold j0Y;rw[if_neg hz,if_pos hw];rfl
   rw[HR.out];generalize q0l H o.a=z at*;generalize v0l H.weaks 0=f at*;clear hs hL LV F5 F3 BV HR nh hoa k0 k1 k2 k3 k4 hn HLW HWK;go_enter Tryz.func86,Tryz.ntmps86;go_wp2;rw[<-hV];clear hV;refine q0j V bl0 (by kernel_rfl) (by kernel_rfl) ?_
   repeat (go_big_quiet_step (first
    |(go_at_call 111;refine(CS.out _).mono ?_;rintro e w2 ⟨rfl,b2⟩;exact⟨rfl,q0b.step _ b2⟩)))
   refine wpQuiet_nil ?_;intro X hXe;have hX:Below V.heap.size V X:=by obtain⟨n,hn⟩:=hXe;rw[hn];exact n.bel
   clear hXe y0 y1 y2 y3 l0 l1 l2 l3 hnel CS;have HTX:Hid (q0k X (wr.heap.size+1) (.int .i64 0) (.int .i64 0) (.slice none 0 0)):=HT.out.later hX;have x1:X.cell? ⟨gx,1,none⟩=some (.slice s.wa s.wn s.wc):=(HL.out.x.later hX).cell 1;go_wp2_with fail
   refine(CF.out _ hX).mono ?_;rintro e w3 ⟨rfl,b3⟩;go_wp2_with fail
   refine(CR.out 3 _).mono ?_;rintro e w4 ⟨rfl,b4⟩;have T2:=(HTX.out.later b3).later b4;obtain⟨q0,q1,q2⟩:=T2.cells;obtain⟨z0,z1,z2⟩:=T2.frees;have HX:Hid _:=HE.out w4 _ 3 0 (.int .i64 3) (.int .i64 0) (.slice none 0 0) (q0y (q0y (q0y HL.out hX) b3) b4);rw[show q0m 3 0 (.slice none 0 0)= .agg #[.int .i64 3,.int .i64 0,.slice none 0 0]from rfl];clear T2 HE HL HT CR b4 b3 HTX hX H5 CF x1;go_wp2;exact bodyPost_ret (v:=q0m 3 0 (.slice none 0 0)) (by simp[results,Tryz.results86,go_sem,q0m, *]) rfl HX.out
  ·obtain⟨k,hk,hfk⟩:=x4t H hw;have HR:Hid (j0Y H o.a=({H with weaks:=H.weaks.set k ⟨true,o.a⟩},⟨0,(k:Int),[]⟩)):=by show _=_;unfold j0Y;rw[if_neg hz,if_neg hw,hfk];rfl
   obtain⟨gw,hgw,HWA⟩:=HWK.out k hk;have HWA2:Hid (∀X,Below V.heap.size V X->j0y X gw (k*2) H.weaks[k]/\∀q,q<2->X.frozen? ⟨gw,k*2+q,none⟩=false):=HWA;have HGW:Hid (s.wa=some ⟨gw,0,none⟩):=hgw;have hgwl:=(LV.m.wg _ hgw).2;have hng:¬gw=wr.heap.size+1:=λe=>nh (by rw[<-e];exact .inr (.inl ⟨_,hgw,rfl⟩));have hng2:¬wr.heap.size+1=gw:=λe=>hng e.symm;rw[HR.out];rw[hfk]at CF;have hkn:(k:Int)<(n:Int):=by omega
   have hk0:(0:Int)<=(k:Int):=by omega
   generalize q0l H o.a=z at*;clear hs hL LV F5 F3 BV HR nh hoa k0 k1 k2 k3 k4 hn HWK HWA hw hfk CR hgw;go_enter Tryz.func86,Tryz.ntmps86;go_wp2;rw[<-hV];clear hV;refine q0j V bl0 (by kernel_rfl) (by kernel_rfl) ?_
   repeat (go_big_quiet_step (first
    |(go_at_call 111;refine(CS.out _).mono ?_;rintro e w2 ⟨rfl,b2⟩;exact⟨rfl,q0b.step _ b2⟩)))
   refine wpQuiet_nil ?_;intro X hXe;have hX:Below V.heap.size V X:=by obtain⟨n,hn⟩:=hXe;rw[hn];exact n.bel
   clear hXe y0 y1 y2 y3 l0 l1 l2 l3 hnel CS;have x1:X.cell? ⟨gx,1,none⟩=some (.slice s.wa s.wn s.wc):=(HL.out.x.later hX).cell 1;go_wp2_with fail
   refine(CF.out _ hX).mono ?_;rintro e w3 ⟨rfl,b3⟩;have hX3:Below V.heap.size V w3:=hX.trans (b3.mono hX.size);have T3:=HT.out.later hX3;obtain⟨q0,q1,q2⟩:=T3.cells;obtain⟨z0,z1,z2⟩:=T3.frees;have K3:=H5.out.later hX3;have a1:w3.cell? ⟨wr.heap.size,1,none⟩=some (.int .i64 o.a):=K3.cell 1
   have HXX:Hid (∀Y,Below w3.heap.size w3 Y->Y.cell? ⟨gx,1,none⟩=some (.slice (some ⟨gw,0,none⟩) n s.wc)/\Y.cell? ⟨wr.heap.size,1,none⟩=some (.int .i64 o.a)/\j0y Y gw (k*2) H.weaks[k]/\Y.frozen? ⟨gw,k*2,none⟩=false/\Y.frozen? ⟨gw,k*2+1,none⟩=false/\q0k Y (wr.heap.size+1) (.int .i64 0) (.int .i64 0) (.slice none 0 0)):=λY hY=>by
    have hVY:=hX3.trans (hY.mono hX3.size);obtain⟨a1,a2⟩:=HWA2.out Y hVY;refine⟨?_,(H5.out.later hVY).cell 1,a1,by have:=a2 0 (by omega);rwa[Nat.add_zero]at this,a2 1 (by omega),HT.out.later hVY⟩;have e:=(HL.out.x.later hVY).cell 1;rw[HGW.out,HWN.out]at e;exact e
   have HXE:Hid (∀Y,Below w3.heap.size w3 Y->q0N W B gx ({H with weaks:=H.weaks.set k ⟨true,o.a⟩},⟨0,(k:Int),[]⟩) (.returned (q0m 0 (k:Int) (.slice none 0 0))) (q0g (z0y Y gw (k*2) ⟨true,o.a⟩) (wr.heap.size+1) (.int .i64 0) (.int .i64 (k:Int)) (.slice none 0 0))):=λY hY=>HE.out _ _ 0 (k:Int) (.int .i64 0) (.int .i64 (k:Int)) (.slice none 0 0) (HLW.out Y k hk gw HGW.out ⟨true,o.a⟩ (hX3.trans (hY.mono hX3.size)));clear HE HL HT CF x1 hX H5 hX3 T3 K3 HLW HWA2 b3 a1 q0 q1 q2 z0 z1 z2 HGW HWN;go_wp2;refine q0R 9 (by kernel_rfl) (by kernel_rfl) (RP 1000 (noP) [.pointer (some ⟨gx,0,none⟩),.pointer (some ⟨gx,0,none⟩),.pointer (some ⟨gx,1,none⟩),.slice (some ⟨gw,0,none⟩) n s.wc,.int .i64 (k:Int),.pointer (some ⟨wr.heap.size,1,none⟩),.int .i64 o.a,.agg #[.bool true,.int .i64 o.a],.pointer (some ⟨gw,k*2,none⟩)]) (x1y u1g) ?_ ?_
   ·intro i o hi ho a X hX hA hdep
    match i,hi,ho with
    |0,_,ho=>
     cases ho
     exact z0p (q0f hA (t:=1) (by kernel_rfl)) ⟨_,rfl,bl0,q0S (by decide) rfl⟩
    |1,_,ho=>
     cases ho
     have g0_:a.eval (.tmp 22)= .pointer (some ⟨gx,0,none⟩):=z0g (hdep ⟨0,.data⟩ (by simp) rfl 22 rfl) (by decide) rfl;exact x1v g0_ ⟨_,rfl,bl0,q0S (by decide) rfl⟩
    |2,_,ho=>
     cases ho
     have g0_:a.eval (.tmp 23)= .pointer (some ⟨gx,0,none⟩):=z0g (hdep ⟨1,.data⟩ (by simp) rfl 23 rfl) (by decide) rfl;exact v0f 1 (by omega) g0_ ⟨_,rfl,bl0,q0S (by decide) rfl⟩
    |3,_,ho=>
     cases ho
     have g0_:a.eval (.tmp 24)= .pointer (some ⟨gx,1,none⟩):=z0g (hdep ⟨2,.data⟩ (by simp) rfl 24 rfl) (by decide) rfl;exact u2F g0_ (HXX.out X hX).1 ⟨_,rfl,bl0,q0S (by decide) rfl⟩
    |4,_,ho=>
     cases ho
     exact z0p (q0f hA (t:=5) (by kernel_rfl)) ⟨_,rfl,bl0,q0S (by decide) rfl⟩
    |5,_,ho=>
     cases ho
     exact y0w 1 (by omega) (q0f hA (t:=2) (by kernel_rfl)) ⟨_,rfl,bl0,q0S (by decide) rfl⟩
    |6,_,ho=>
     cases ho
     have g0_:a.eval (.tmp 27)= .pointer (some ⟨wr.heap.size,1,none⟩):=z0g (hdep ⟨5,.data⟩ (by simp) rfl 27 rfl) (by decide) rfl;exact z0V g0_ (HXX.out X hX).2.1 ⟨_,rfl,bl0,q0S (by decide) rfl⟩
    |7,_,ho=>
     cases ho
     have g0_:a.eval (.tmp 28)= .int .i64 o.a:=z0g (hdep ⟨6,.data⟩ (by simp) rfl 28 rfl) (by decide) rfl;exact v4p g0_ ⟨_,rfl,bl0,q0S (by decide) rfl⟩
    |8,_,ho=>
     cases ho
     have g0_:a.eval (.tmp 25)= .slice (some ⟨gw,0,none⟩) n s.wc:=z0g (hdep ⟨3,.data⟩ (by simp) rfl 25 rfl) (by decide) rfl;have g1_:a.eval (.tmp 26)= .int .i64 (k:Int):=z0g (hdep ⟨4,.data⟩ (by simp) rfl 26 rfl) (by decide) rfl;exact j4R g0_ g1_ (by omega) ⟨_,rfl,bl0,q0S (by decide) rfl⟩
   ·intro o ho a X hX hA hdep
    cases ho
    have g0_:a.eval (.tmp 30)= .pointer (some ⟨gw,k*2,none⟩):=z0g (hdep ⟨8,.data⟩ (by simp) rfl 30 rfl) (by decide) rfl;have g1_:a.eval (.tmp 29)= .agg #[.bool true,.int .i64 o.a]:=z0g (hdep ⟨7,.data⟩ (by simp) rfl 29 rfl) (by decide) rfl;refine v4x g0_ g1_ (HXX.out X hX).2.2.1.c0 (HXX.out X hX).2.2.1.c1 (HXX.out X hX).2.2.2.1 (HXX.out X hX).2.2.2.2.1 ?_;obtain⟨us,hus,rfl⟩:=q0F hA [22,23,24,25,26,27,28,29,30] (by kernel_rfl);simp only[List.mapIdx_cons,List.mapIdx_nil,Nat.reduceAdd,List.contains_cons,List.contains_nil,Nat.reduceBEq,Bool.or_false,Bool.or_true,if_true,if_false,Bool.false_eq_true];have HX:Hid _:=HXE.out X hX;have T4:=(HXX.out X hX).2.2.2.2.2;obtain⟨q0,q1,q2⟩:=T4.cells;obtain⟨z0,z1,z2⟩:=T4.frees;clear HXE HXX hus hdep hA T4 hX g0_ g1_;unfold z0y q0g at HX;unfold z0y;go_wp2;exact bodyPost_ret (v:=q0m 0 (k:Int) (.slice none 0 0)) (by simp[results,Tryz.results86,go_sem,q0m, *]) rfl HX.out
end
section
open Go.RowKit
variable{s:HSh}{H:q0a}
theorem v3b{W wr:World}{B gx:Nat}{vf:Value}{fr:List Int}(n:Nat)(c v:Int)(hL:LS W wr B gx s H (.slice none 0 0) vf [] fr)(hn:B<=n)(h1:¬q0u s n)(h2:n≠gx)(h4:vf.ownBlock≠some n)(y0 y1 y2:Value)(o:Obj):q0N W B gx (H,⟨c,v,fr⟩) (.returned (q0m c v vf)) ((q0g wr n y0 y1 y2).alloc o):=
 ⟨s,vf,rfl,q0y (u2w hL n y0 y1 y2 hn h1 h2 (by simp[Value.ownBlock]) h4) (bl1 _)⟩
def z4W(W wr:World)(B gx:Nat)(R:q0a×List Int)(e:Ending)(w' :World):Prop:=∃(s:HSh)(fa:Option Addr)(fc:Nat),e= .returned (q0m 0 0 (.slice fa R.2.length fc))/\LS W w' B gx s R.1 (.slice none 0 0) (.slice fa R.2.length fc) [] R.2/\(∀g,q0u s g->wr.heap.size<=g)/\(∀g,(Value.slice fa R.2.length fc).ownBlock=some g->wr.heap.size<=g)/\(∀i,i<wr.heap.size->i≠gx->w'.heap[i]? =wr.heap[i]?)/\wr.heap.size<=w'.heap.size
theorem y1M(W wr:World)(B gx:Nat)(s:HSh)(H:q0a)(id:Int)(hL:LS0 W wr B gx s H)(hs:q0h H)(hw:∀z∈H.objs,∀x∈z.field,q0w x)(hid:q0w id):
 Calls Tryz.prog 113 #[.pointer (some ⟨gx,0,none⟩),.int .i64 id] wr λe w' =>z4W W wr B gx (z0F H [id]) e w' :=by
 obtain⟨V,hV⟩:∃V,V=(wr.alloc (.cells #[.int .i64 0,.int .i64 0,.slice none 0 0] 37)).alloc (.cells #[.int .i64 id] 3):=⟨_,rfl⟩;have BV:Below wr.heap.size wr V:=by rw[hV];exact(bl1 _).alloc (by simp) _
 have sV:V.heap.size=wr.heap.size+2:=by rw[hV];simp
 have LV:LS0 W V B gx s H:=q0y hL BV
 have T0:q0k V wr.heap.size (.int .i64 0) (.int .i64 0) (.slice none 0 0):=by rw[hV];exact(q0k.new wr _ _ _).later (bl1 _)
 have hri:RdI V (some ⟨wr.heap.size+1,0,none⟩) [id]:=by
  intro j hj;obtain rfl:j=0:=by simpa using hj
  refine⟨wr.heap.size+1,0,rfl,by omega,?_⟩;rw[hV,show wr.heap.size+1=(wr.alloc (.cells #[.int .i64 0,.int .i64 0,.slice none 0 0] 37)).heap.size from by simp,World.cell?_alloc_mark];rfl
 have CL:Hid (∀_:Unit,_):=λ(_:Unit)=>v2E s.v H (some ⟨wr.heap.size+1,0,none⟩) 1 [id] V (q0K LV.m) hs hw hri (by simp) (λx hx=>by simp at hx;subst hx;exact hid);rw[show([id]:List Int).length=1 from rfl,hsv]at CL;have hgx:=hL.x.lt;have hle:=hL.le;have nh:¬q0u s wr.heap.size:=q0D hL.m (.inr nl0);have HLV:=hdx LV;have HT:Hid (q0k V wr.heap.size (.int .i64 0) (.int .i64 0) (.slice none 0 0)):=T0;have c0:wr.cell? ⟨gx,0,none⟩=some (.slice s.oa s.os.length s.oc):=hL.x.cell 0;have c1:wr.cell? ⟨gx,1,none⟩=some (.slice s.wa s.wn s.wc):=hL.x.cell 1;have c2:wr.cell? ⟨gx,2,none⟩=some (.slice s.ba s.bn s.bc):=hL.x.cell 2;have c3:wr.cell? ⟨gx,3,none⟩=some (.slice s.sa s.sn s.sc):=hL.x.cell 3;have hn0:¬gx=wr.heap.size:=by omega
 obtain⟨R,hR⟩:∃R,z0F H [id]=R:=⟨_,rfl⟩;rw[hR]at CL ⊢;have HBV:Hid (Below wr.heap.size wr V):=BV;clear hL LV T0 hri hs hw hid hR BV;go_enter Tryz.func113,Tryz.ntmps113;go_wp2_with fail
 rw[<-hV];clear hV c0 c1 c2 c3 hn0;refine(CL.out ()).mono ?_;rintro e w2 ⟨s1,vf,rfl,M1,f1,d1,b2⟩;obtain⟨fa,fc,rfl,-⟩:=q0Y f1;have hs2:=b2.size;have HLS:Hid (LS W (q0p w2 gx (.slice s1.oa s1.os.length s1.oc) (.slice s1.wa s1.wn s1.wc) (.slice s1.ba s1.bn s1.bc) (.slice s1.sa s1.sn s1.sc)) B gx s1 R.1 (.slice none 0 0) (.slice fa R.2.length fc) [] R.2):=j1L HLV.out b2 M1 f1 d1;have hsn:¬q0u s1 wr.heap.size:=q0D M1 (.inl (by omega));have hfn:(Value.slice fa R.2.length fc).ownBlock≠some wr.heap.size:=λe=>by have:=(q0n f1 _ e).1;omega
 have HX:Hid (LS W ((q0g (q0p w2 gx (.slice s1.oa s1.os.length s1.oc) (.slice s1.wa s1.wn s1.wc) (.slice s1.ba s1.bn s1.bc) (.slice s1.sa s1.sn s1.sc)) wr.heap.size (.int .i64 0) (.int .i64 0) (.slice fa R.2.length fc)).alloc (.cells #[.slice s1.oa s1.os.length s1.oc,.slice s1.wa s1.wn s1.wc,.slice s1.ba s1.bn s1.bc,.slice s1.sa s1.sn s1.sc] 35)) B gx s1 R.1 (.slice none 0 0) (.slice fa R.2.length fc) [] R.2):=q0y (u2w HLS.out wr.heap.size _ _ _ hle hsn (by omega) (by simp[Value.ownBlock]) hfn) (bl1 _);have HS1:Hid (∀g,q0u s1 g->wr.heap.size<=g):=λg hg=>by have:=(z0X M1 hg).1;omega
 have HF1:Hid (∀g,(Value.slice fa R.2.length fc).ownBlock=some g->wr.heap.size<=g):=λg hg=>by have:=(q0n f1 g hg).1;omega
 have HSZ:Hid (wr.heap.size<=((q0g (q0p w2 gx (.slice s1.oa s1.os.length s1.oc) (.slice s1.wa s1.wn s1.wc) (.slice s1.ba s1.bn s1.bc) (.slice s1.sa s1.sn s1.sc)) wr.heap.size (.int .i64 0) (.int .i64 0) (.slice fa R.2.length fc)).alloc (.cells #[.slice s1.oa s1.os.length s1.oc,.slice s1.wa s1.wn s1.wc,.slice s1.ba s1.bn s1.bc,.slice s1.sa s1.sn s1.sc] 35)).heap.size):=by
  have e1:(q0g (q0p w2 gx (.slice s1.oa s1.os.length s1.oc) (.slice s1.wa s1.wn s1.wc) (.slice s1.ba s1.bn s1.bc) (.slice s1.sa s1.sn s1.sc)) wr.heap.size (.int .i64 0) (.int .i64 0) (.slice fa R.2.length fc)).heap.size=w2.heap.size:=by rw[x0k,z0U]
  show _<=_;simp only[World.alloc,Array.size_push];omega
 have HFRM:Hid (∀i,i<wr.heap.size->i≠gx->((q0g (q0p w2 gx (.slice s1.oa s1.os.length s1.oc) (.slice s1.wa s1.wn s1.wc) (.slice s1.ba s1.bn s1.bc) (.slice s1.sa s1.sn s1.sc)) wr.heap.size (.int .i64 0) (.int .i64 0) (.slice fa R.2.length fc)).alloc (.cells #[.slice s1.oa s1.os.length s1.oc,.slice s1.wa s1.wn s1.wc,.slice s1.ba s1.bn s1.bc,.slice s1.sa s1.sn s1.sc] 35)).heap[i]? =wr.heap[i]?):=λi hi hne=>by
  have e1:(q0g (q0p w2 gx (.slice s1.oa s1.os.length s1.oc) (.slice s1.wa s1.wn s1.wc) (.slice s1.ba s1.bn s1.bc) (.slice s1.sa s1.sn s1.sc)) wr.heap.size (.int .i64 0) (.int .i64 0) (.slice fa R.2.length fc)).heap.size=w2.heap.size:=by rw[x0k,z0U]
  rw[((Below.refl (q0g (q0p w2 gx (.slice s1.oa s1.os.length s1.oc) (.slice s1.wa s1.wn s1.wc) (.slice s1.ba s1.bn s1.bc) (.slice s1.sa s1.sn s1.sc)) wr.heap.size (.int .i64 0) (.int .i64 0) (.slice fa R.2.length fc)).heap.size _).alloc nl0 _).block i (by rw[e1];omega)];rw[q0Q _ _ _ _ _ i (by omega),q0T _ _ _ _ _ _ i hne,b2.block i (by omega),HBV.out.block i hi]
 have T2:=HT.out.later b2;obtain⟨q0,q1,q2⟩:=T2.cells;obtain⟨z0,z1,z2⟩:=T2.frees;have F2:=HLV.out.x.later b2;obtain⟨x0,x1,x2,x3⟩:=F2.cells;obtain⟨y0,y1,y2,y3⟩:=F2.frees;have m1:gx<w2.heap.size:=by omega
 have m2:¬gx=w2.heap.size:=by omega
 have m3:wr.heap.size<w2.heap.size:=by omega
 have m4:¬wr.heap.size=w2.heap.size:=by omega
 have m5:¬gx=wr.heap.size:=by omega
 have m6:¬wr.heap.size=gx:=by omega
 rw[hsv];clear HLS HLV HT CL M1 f1 d1 b2 T2 F2 hsn hfn hs2 nh;unfold q0g q0p at HX HFRM HSZ;go_wp2;exact bodyPost_ret (v:=q0m 0 0 (.slice fa R.2.length fc)) (by simp[results,Tryz.results113,go_sem,q0m, *]) rfl ⟨s1,fa,fc,rfl,HX.out,HS1.out,HF1.out,HFRM.out,HSZ.out⟩
theorem j2x(W wr:World)(B gx:Nat)(s:HSh)(H:q0a)(o:OpD)(hL:LS0 W wr B gx s H)(hs:q0h H)(h8:H.objs.length=8)(hw:∀z∈H.objs,∀x∈z.field,q0w x)(hb:∀z∈H.buffer,q0w z):
 Calls Tryz.prog 89 #[opV o,.pointer (some ⟨gx,0,none⟩)] wr λe w' =>q0N W B gx ((j0c H,⟨0,0,y0v H⟩)) e w' :=by
 obtain⟨V,hV,BV,sV,F5,F3⟩:=y0M wr o;have LV:LS0 W V B gx s H:=q0y hL BV;have hgx:=hL.x.lt;have hle:=hL.le;have nh:¬q0u s (wr.heap.size+1):=q0D hL.m (.inr (by omega));have hne:wr.heap.size+1≠gx:=by omega
 have HE:Hid (j5P W wr B gx s):=j5R (by omega) nh hne;have HT:=hdx F3;have HL:=hdx LV;have CR:Hid (∀c X,_):=λc X=>z0f c X;unfold opV;obtain⟨k0,k1,k2,k3,k4⟩:=F5.cells;have CL:Hid (∀_:Unit,_):=λ(_:Unit)=>x2w s.v H V (q0K LV.m) hs h8 (v1L LV.m) hw hb;rw[hsv]at CL;obtain⟨R1,hR1⟩:∃R,j0c H=R:=⟨_,rfl⟩;obtain⟨R2,hR2⟩:∃R,y0v H=R:=⟨_,rfl⟩;rw[hR1,hR2]at CL ⊢;obtain⟨c0,c1,c2,c3⟩:=hL.x.cells;have hn0:¬gx=wr.heap.size:=by omega
 have hn1:¬gx=wr.heap.size+1:=by omega
 clear hL LV hs hw hb hR1 hR2 BV k0 k1 k2 k3 k4 F5 F3 CR nh HE;go_enter Tryz.func89,Tryz.ntmps89;go_wp2_with fail
 rw[<-hV];clear hV c0 c1 c2 c3 hn0 hn1;refine(CL.out ()).mono ?_;rintro e w2 ⟨s1,vf,rfl,M1,f1,d1,b2⟩;obtain⟨fa,fc,rfl,-⟩:=q0Y f1;have hs2:=b2.size;have HLS:Hid (LS W (q0p w2 gx (.slice s1.oa s1.os.length s1.oc) (.slice s1.wa s1.wn s1.wc) (.slice s1.ba s1.bn s1.bc) (.slice s1.sa s1.sn s1.sc)) B gx s1 R1 (.slice none 0 0) (.slice fa R2.length fc) [] R2):=j1L HL.out b2 M1 f1 d1;have hsn:¬q0u s1 (wr.heap.size+1):=q0D M1 (.inl (by omega));have hfn:(Value.slice fa R2.length fc).ownBlock≠some (wr.heap.size+1):=λe=>by have:=(q0n f1 _ e).1;omega
 have HX:Hid (q0N W B gx (R1,⟨0,0,R2⟩) (.returned (q0m 0 0 (.slice fa R2.length fc))) ((q0g (q0p w2 gx (.slice s1.oa s1.os.length s1.oc) (.slice s1.wa s1.wn s1.wc) (.slice s1.ba s1.bn s1.bc) (.slice s1.sa s1.sn s1.sc)) (wr.heap.size+1) (.int .i64 0) (.int .i64 0) (.slice fa R2.length fc)).alloc (.cells #[.slice s1.oa s1.os.length s1.oc,.slice s1.wa s1.wn s1.wc,.slice s1.ba s1.bn s1.bc,.slice s1.sa s1.sn s1.sc] 35))):=v3b (wr.heap.size+1) 0 0 HLS.out (by omega) hsn hne hfn _ _ _ _;have T2:=HT.out.later b2;obtain⟨q0,q1,q2⟩:=T2.cells;obtain⟨z0,z1,z2⟩:=T2.frees;have F2:=HL.out.x.later b2;obtain⟨x0,x1,x2,x3⟩:=F2.cells;obtain⟨y0,y1,y2,y3⟩:=F2.frees;have m1:gx<w2.heap.size:=by omega
 have m2:¬gx=w2.heap.size:=by omega
 have m3:wr.heap.size+1<w2.heap.size:=by omega
 have m4:¬wr.heap.size+1=w2.heap.size:=by omega
 have m5:¬gx=wr.heap.size+1:=by omega
 have m6:¬wr.heap.size+1=gx:=by omega
 rw[hsv];clear HLS HL HT CL M1 f1 d1 b2 T2 F2 hsn hfn hs2;generalize R2.length=fn at*;unfold q0g q0p at HX;go_wp2;exact bodyPost_ret (v:=q0m 0 0 (.slice fa fn fc)) (by simp[results,Tryz.results89,go_sem,q0m, *]) rfl HX.out
theorem v4u(W wr:World)(B gx:Nat)(s:HSh)(H:q0a)(o:OpD)(hL:LS0 W wr B gx s H)(hs:q0h H)(hoa:q0w o.a)(hz:q0l H o.a<0):
 Calls Tryz.prog 84 #[opV o,.pointer (some ⟨gx,0,none⟩)] wr λe w' =>q0N W B gx (z0Y H o.kind o.a) e w' :=by
 obtain⟨V,hV,BV,sV,F5,F3⟩:=y0M wr o;have LV:LS0 W V B gx s H:=q0y hL BV;have hgx:=hL.x.lt;have hle:=hL.le;have nh:¬q0u s (wr.heap.size+1):=q0D hL.m (.inr (by omega));have hne:wr.heap.size+1≠gx:=by omega
 have HE:Hid (j5P W wr B gx s):=j5R (by omega) nh hne;have HT:=hdx F3;have HL:=hdx LV;have CR:Hid (∀c X,_):=λc X=>z0f c X;unfold opV;obtain⟨k0,k1,k2,k3,k4⟩:=F5.cells;have CS:Hid (∀X:q0b V,_):=λX=>z0m s.v H o.a X.on (q0K (q0c LV.m X.bel)) hs.objs hoa.1 hoa.2;have CN:Hid (∀X:q0b V,∀z,u0k H z->_):=λX z hz=>v0R s.v H z X.on (q0K (q0c LV.m X.bel)) hs.objs hz;have y0:∀X:q0b V,X.on.cell? ⟨gx,0,none⟩=some (.slice s.oa s.os.length s.oc):=λX=>(LV.x.later X.bel).cell 0;have y1:∀X:q0b V,X.on.cell? ⟨gx,1,none⟩=some (.slice s.wa s.wn s.wc):=λX=>(LV.x.later X.bel).cell 1;have y2:∀X:q0b V,X.on.cell? ⟨gx,2,none⟩=some (.slice s.ba s.bn s.bc):=λX=>(LV.x.later X.bel).cell 2;have y3:∀X:q0b V,X.on.cell? ⟨gx,3,none⟩=some (.slice s.sa s.sn s.sc):=λX=>(LV.x.later X.bel).cell 3;have l0:∀X:q0b V,X.on.cell? ⟨wr.heap.size,0,none⟩=some (.int .i64 o.kind):=λX=>(F5.later X.bel).cell 0;have l1:∀X:q0b V,X.on.cell? ⟨wr.heap.size,1,none⟩=some (.int .i64 o.a):=λX=>(F5.later X.bel).cell 1;have l2:∀X:q0b V,X.on.cell? ⟨wr.heap.size,2,none⟩=some (.int .i64 o.b):=λX=>(F5.later X.bel).cell 2;have l3:∀X:q0b V,X.on.cell? ⟨wr.heap.size,3,none⟩=some (.int .i64 o.c):=λX=>(F5.later X.bel).cell 3;have hnel:=q0b.some_ V;have H5:=hdx F5;rw[hsv]at CS CN;have HR:Hid (z0Y H o.kind o.a=(H,⟨1,0,[]⟩)):=by show _=_;unfold z0Y;rw[if_pos hz];rfl
 have CL:Hid (∀X:q0b V,_):=λX=>CN.out X (q0l H o.a) (.inl hz);rw[HR.out];generalize q0l H o.a=z at*;clear hs hL LV F5 F3 BV HR nh hoa k0 k1 k2 k3 k4 CN;go_enter Tryz.func84,Tryz.ntmps84;go_wp2;rw[<-hV];clear hV;refine q0j V bl0 (by kernel_rfl) (by kernel_rfl) ?_
 repeat (go_big_quiet_step (first
  |(go_at_call 111;refine(CS.out _).mono ?_;rintro e w2 ⟨rfl,b2⟩;exact⟨rfl,q0b.step _ b2⟩)
  |(go_at_call 110;refine(CL.out _).mono ?_;rintro e w2 ⟨rfl,b2⟩;exact⟨rfl,q0b.step _ b2⟩)))
 refine wpQuiet_nil ?_;intro X hXe;have hX:Below V.heap.size V X:=by obtain⟨n,hn⟩:=hXe;rw[hn];exact n.bel
 clear hXe y0 y1 y2 y3 l0 l1 l2 l3 hnel CS CL;have HTX:Hid (q0k X (wr.heap.size+1) (.int .i64 0) (.int .i64 0) (.slice none 0 0)):=HT.out.later hX;go_wp2_with fail
 refine(CR.out 1 _).mono ?_;rintro e w2 ⟨rfl,b2⟩;have T2:=HTX.out.later b2;obtain⟨q0,q1,q2⟩:=T2.cells;obtain⟨z0,z1,z2⟩:=T2.frees;have HX:Hid _:=HE.out w2 _ 1 0 (.int .i64 1) (.int .i64 0) (.slice none 0 0) (q0y (q0y HL.out hX) b2);rw[show q0m 1 0 (.slice none 0 0)= .agg #[.int .i64 1,.int .i64 0,.slice none 0 0]from rfl];clear T2 HE HL HT CR b2 HTX hX H5;go_wp2;exact bodyPost_ret (v:=q0m 1 0 (.slice none 0 0)) (by simp[results,Tryz.results84,go_sem,q0m, *]) rfl HX.out
theorem y5O(kd:Int)(fo:Nat)(hkf:(kd=2/\fo=3)\/(kd=5/\fo=4))(c:Int)(st:Int->q0E)(W wr:World)(B gx:Nat)(s:HSh)(H:q0a)(o:OpD)(hL:LS0 W wr B gx s H)(hs:q0h H)(hkd:o.kind=kd)(hoa:q0w o.a)(hw:∀z∈H.objs,∀x∈z.field,q0w x)(k:Nat)(hkl:k<H.objs.length)(ek:q0l H o.a=(k:Int))(hk8:k<8)(hlv:H.objs[k].live=true)(hT:y5x H k fo c st)(hHi:20<=c->z0Y H kd o.a=(H,⟨4,0,[]⟩))(hLo:¬20<=c->z0Y H kd o.a=(z0n (q0r H k (st (c+1))) o.a,⟨0,0,[]⟩))(hb:0<=c/\c<=20):
 Calls Tryz.prog 84 #[opV o,.pointer (some ⟨gx,0,none⟩)] wr λe w' =>q0N W B gx (z0Y H kd o.a) e w' :=by
 obtain⟨V,hV,BV,sV,F5,F3⟩:=y0M wr o;have LV:LS0 W V B gx s H:=q0y hL BV;have hgx:=hL.x.lt;have hle:=hL.le;have nh:¬q0u s (wr.heap.size+1):=q0D hL.m (.inr (by omega));have hne:wr.heap.size+1≠gx:=by omega
 have HE:Hid (j5P W wr B gx s):=j5R (by omega) nh hne;have HT:=hdx F3;have HL:=hdx LV;have CR:Hid (∀c X,_):=λc X=>z0f c X;unfold opV;obtain⟨k0,k1,k2,k3,k4⟩:=F5.cells;have CS:Hid (∀X:q0b V,_):=λX=>z0m s.v H o.a X.on (q0K (q0c LV.m X.bel)) hs.objs hoa.1 hoa.2;have CN:Hid (∀X:q0b V,∀z,u0k H z->_):=λX z hz=>v0R s.v H z X.on (q0K (q0c LV.m X.bel)) hs.objs hz;have y0:∀X:q0b V,X.on.cell? ⟨gx,0,none⟩=some (.slice s.oa s.os.length s.oc):=λX=>(LV.x.later X.bel).cell 0;have y1:∀X:q0b V,X.on.cell? ⟨gx,1,none⟩=some (.slice s.wa s.wn s.wc):=λX=>(LV.x.later X.bel).cell 1;have y2:∀X:q0b V,X.on.cell? ⟨gx,2,none⟩=some (.slice s.ba s.bn s.bc):=λX=>(LV.x.later X.bel).cell 2;have y3:∀X:q0b V,X.on.cell? ⟨gx,3,none⟩=some (.slice s.sa s.sn s.sc):=λX=>(LV.x.later X.bel).cell 3;have l0:∀X:q0b V,X.on.cell? ⟨wr.heap.size,0,none⟩=some (.int .i64 o.kind):=λX=>(F5.later X.bel).cell 0;have l1:∀X:q0b V,X.on.cell? ⟨wr.heap.size,1,none⟩=some (.int .i64 o.a):=λX=>(F5.later X.bel).cell 1;have l2:∀X:q0b V,X.on.cell? ⟨wr.heap.size,2,none⟩=some (.int .i64 o.b):=λX=>(F5.later X.bel).cell 2;have l3:∀X:q0b V,X.on.cell? ⟨wr.heap.size,3,none⟩=some (.int .i64 o.c):=λX=>(F5.later X.bel).cell 3;have hnel:=q0b.some_ V;have H5:=hdx F5;rw[hsv]at CS CN;obtain⟨go,hgo,hgB,hgl⟩:=v0E LV.m k hkl;obtain⟨hk2,hob,hfz⟩:=z0o LV.m k hkl go hgo;have hgq:go≠gx:=λe=>hL.sx (by rw[<-e];exact .inl ⟨_,hgo,rfl⟩);have hgn:go<wr.heap.size:=(z0X hL.m (.inl ⟨_,hgo,rfl⟩)).2;have HGO:=hdx hgo;have hlen:s.os.length<=1048576:=by rw[LV.m.lo];exact hs.objs
 have CL:Hid (∀X:q0b V,_):=λX=>q1c k s.os.length s.oc X.on go s.wa s.wn s.wc s.ba s.bn s.bc s.sa s.sn s.sc ((X.bel.cell (p:=⟨go,k*8,none⟩) hgl).trans (hob.c0.trans (by rw[hlv]))) hlen hk8 hk2;rw[<-hgo]at CL;rw[ek]at CS;have HCC:Hid (∀X,Below V.heap.size V X->X.cell? ⟨go,k*8+fo,none⟩=some (.int .i64 c)/\X.frozen? ⟨go,k*8+fo,none⟩=false):=λX hX=>hT.cell X B s go (q0c LV.m hX) hgo;have hg1:¬go=wr.heap.size:=by omega
 have hg2:¬wr.heap.size=go:=by omega
 have hg3:¬go=wr.heap.size+1:=by omega
 have hg4:¬wr.heap.size+1=go:=by omega
 have hg5:¬go=gx:=hgq;have hg6:¬gx=go:=λe=>hgq e.symm;have KK:Hid (∀X:World,z0d X wr.heap.size o->X.cell? ⟨wr.heap.size,0,none⟩=some (.int .i64 kd)):=λX h=>by have e:=h.cell 0;rw[hkd]at e;exact e
 by_cases ht:20<=c
 ·have HR:Hid (_=_):=hHi ht;have hc:c=20:=by omega
  subst hc;rw[HR.out];rw[hkd]at hV k0 l0;clear hs hL LV F5 F3 BV HR nh hoa CN hw hob hfz hgo hlv ht hb ek k0 k1 k2 k3 k4 hT hHi hLo;rw[hkd];rcases hkf with⟨rfl,rfl⟩|⟨rfl,rfl⟩
  all_goals
   go_enter Tryz.func84,Tryz.ntmps84;go_wp2;rw[<-hV];clear hV;refine q0j V bl0 (by kernel_rfl) (by kernel_rfl) ?_
   repeat (go_big_quiet_step (first
    |(go_at_call 111;refine(CS.out _).mono ?_;rintro e w2 ⟨rfl,b2⟩;exact⟨rfl,q0b.step _ b2⟩)
    |(go_at_call 110;refine(CL.out _).mono ?_;rintro e w2 ⟨rfl,b2⟩;exact⟨rfl,q0b.step _ b2⟩)))
   refine wpQuiet_nil ?_;intro X hXe;have hX:Below V.heap.size V X:=by obtain⟨n,hn⟩:=hXe;rw[hn];exact n.bel
   clear hXe y0 y1 y2 y3 l0 l1 l2 l3 hnel CS CL;have HTX:Hid (q0k X (wr.heap.size+1) (.int .i64 0) (.int .i64 0) (.slice none 0 0)):=HT.out.later hX;obtain⟨cc,cz⟩:=HCC.out X hX;have K5:=H5.out.later hX;have kk:=KK.out X K5;clear K5;go_wp2_with fail
   refine(CR.out 4 _).mono ?_;rintro e w2 ⟨rfl,b2⟩;have T2:=HTX.out.later b2;obtain⟨q0,q1,q2⟩:=T2.cells;obtain⟨z0,z1,z2⟩:=T2.frees;have HX:Hid _:=HE.out w2 _ 4 0 (.int .i64 4) (.int .i64 0) (.slice none 0 0) (q0y (q0y HL.out hX) b2);rw[show q0m 4 0 (.slice none 0 0)= .agg #[.int .i64 4,.int .i64 0,.slice none 0 0]from rfl];clear T2 HE HL HT CR b2 HTX hX H5 HCC cc cz kk HGO;go_wp2;exact bodyPost_ret (v:=q0m 4 0 (.slice none 0 0)) (by simp[results,Tryz.results84,go_sem,q0m, *]) rfl HX.out
 ·obtain⟨M,hMc⟩:∃M,c+1=M:=⟨_,rfl⟩;have HMC:Hid (c+1=M):=hMc;have HW:Hid (∀X:World,∃w1,w1=X.setCell ⟨go,k*8+fo,none⟩ (.int .i64 M)):=λX=>⟨_,rfl⟩;have HR:Hid (_=_):=hLo ht;rw[hMc]at HR;have HL1:Hid (∀X,Below V.heap.size V X->LS0 W (X.setCell ⟨go,k*8+fo,none⟩ (.int .i64 M)) B gx s (q0r H k (st M))):=λX hX=>j0i (q0y LV hX) go (k*8+fo) _ hgo (hT.set _ _ _ _ M (q0y LV hX).m hgo);have HSM:Hid (q0h (q0r H k (st M))):=hT.small hs M;have HWF:Hid (∀z∈(q0r H k (st M)).objs,∀x∈z.field,q0w x):=hT.wf hw M;have HOA:=hdx hoa;rw[HR.out];rw[hkd]at hV k0 l0;obtain⟨H1,hH1⟩:∃H1,q0r H k (st M)=H1:=⟨_,rfl⟩;rw[hH1]at HL1 HSM HWF ⊢;have hc1:c<20:=by omega
  have hcb:c+1<=21:=by omega
  have hcd: -1<=c+1:=by omega
  have hq:(c==20)=false:=by rw[beq_eq_false_iff_ne];omega
  have hq2:¬c=20:=by omega
  clear hs hL LV F5 F3 BV HR nh hoa CN hw hob hfz hgo hlv ht hb ek k0 k1 k2 k3 k4 hT hHi hLo CR hMc hH1;rw[hkd];rcases hkf with⟨rfl,rfl⟩|⟨rfl,rfl⟩
  all_goals
   go_enter Tryz.func84,Tryz.ntmps84;go_wp2;rw[<-hV];clear hV;refine q0j V bl0 (by kernel_rfl) (by kernel_rfl) ?_
   repeat (go_big_quiet_step (first
    |(go_at_call 111;refine(CS.out _).mono ?_;rintro e w2 ⟨rfl,b2⟩;exact⟨rfl,q0b.step _ b2⟩)
    |(go_at_call 110;refine(CL.out _).mono ?_;rintro e w2 ⟨rfl,b2⟩;exact⟨rfl,q0b.step _ b2⟩)))
   refine wpQuiet_nil ?_;intro X hXe;have hX:Below V.heap.size V X:=by obtain⟨n,hn⟩:=hXe;rw[hn];exact n.bel
   clear hXe y0 y1 y2 y3 l0 l1 l2 l3 hnel CS CL;have HTX:Hid (q0k X (wr.heap.size+1) (.int .i64 0) (.int .i64 0) (.slice none 0 0)):=HT.out.later hX;obtain⟨cc,cz⟩:=HCC.out X hX;have K5:=H5.out.later hX;have HK5:Hid (z0d X wr.heap.size o):=K5;have kk:=KK.out X K5;have ka:X.cell? ⟨wr.heap.size,1,none⟩=some (.int .i64 o.a):=K5.cell 1;clear K5;obtain⟨w1,hw1⟩:=HW.out X;have HL2:Hid (LS0 W w1 B gx s H1):=by rw[hw1];exact HL1.out X hX
   have hXs:=hX.size;have s1w:w1.heap.size=X.heap.size:=by rw[hw1];simp[World.setCell]
   have oth:∀i,i≠go->w1.heap[i]? =X.heap[i]?:=λi hi=>by rw[hw1];exact heap_setCell_other _ _ _ _ (by exact hi)
   have HT2:Hid (q0k w1 (wr.heap.size+1) (.int .i64 0) (.int .i64 0) (.slice none 0 0)):=HTX.out.same (oth _ hg4);have HK2:Hid (z0d w1 wr.heap.size o):=HK5.out.same (oth _ hg2);clear oth;go_wp2;rw[HMC.out,<-hw1];clear HMC hw1 cc cz kk ka;have HXX:Hid (∀Y,Below w1.heap.size w1 Y->LS0 W Y B gx s H1/\z0d Y wr.heap.size o/\q0k Y (wr.heap.size+1) (.int .i64 0) (.int .i64 0) (.slice none 0 0)):=λY hY=>⟨q0y HL2.out hY,HK2.out.later hY,HT2.out.later hY⟩;have HCG:Hid (∀Y,Below w1.heap.size w1 Y->_):=λY hY=>x1L s.v H1 o.a Y (q0K (HXX.out Y hY).1.m) HSM.out HOA.out;clear HCC HGO HL1 H5 HTX hX HK5 HSM HWF HOA HL;refine q0R 8 (by kernel_rfl) (by kernel_rfl) (RP 6 (λX v=>∃s1:HSh,v=s1.v/\HM X w1.heap.size s1 (z0n H1 o.a)) [.pointer (some ⟨gx,0,none⟩),.pointer (some ⟨gx,0,none⟩),.pointer (some ⟨gx,0,none⟩),.agg #[.slice s.oa s.os.length s.oc,.slice s.wa s.wn s.wc,.slice s.ba s.bn s.bc,.slice s.sa s.sn s.sc],.pointer (some ⟨wr.heap.size,1,none⟩),.int .i64 o.a,.nilFunc,.pointer (some ⟨gx,0,none⟩)]) (x1y (λX Y v h hb=>by obtain⟨s1,h1,h2⟩:=h;exact⟨s1,h1,q0c h2 hb⟩)) ?_ ?_
   ·intro i o hi ho a X hX hA hdep
    match i,hi,ho with
    |0,_,ho=>
     cases ho
     exact z0p (q0f hA (t:=1) (by kernel_rfl)) ⟨_,rfl,bl0,q0S (by decide) rfl⟩
    |1,_,ho=>
     cases ho
     exact z0p (q0f hA (t:=1) (by kernel_rfl)) ⟨_,rfl,bl0,q0S (by decide) rfl⟩
    |2,_,ho=>
     cases ho
     have g0_:a.eval (.tmp 47)= .pointer (some ⟨gx,0,none⟩):=z0g (hdep ⟨1,.data⟩ (by simp) rfl 47 rfl) (by decide) rfl;exact x1v g0_ ⟨_,rfl,bl0,q0S (by decide) rfl⟩
    |3,_,ho=>
     cases ho
     have g0_:a.eval (.tmp 48)= .pointer (some ⟨gx,0,none⟩):=z0g (hdep ⟨2,.data⟩ (by simp) rfl 48 rfl) (by decide) rfl;exact y0q g0_ (HXX.out X hX).1.x ⟨_,rfl,bl0,q0S (by decide) rfl⟩
    |4,_,ho=>
     cases ho
     exact y0w 1 (by omega) (q0f hA (t:=2) (by kernel_rfl)) ⟨_,rfl,bl0,q0S (by decide) rfl⟩
    |5,_,ho=>
     cases ho
     have g0_:a.eval (.tmp 50)= .pointer (some ⟨wr.heap.size,1,none⟩):=z0g (hdep ⟨4,.data⟩ (by simp) rfl 50 rfl) (by decide) rfl;exact z0V g0_ ((HXX.out X hX).2.1.cell 1) ⟨_,rfl,bl0,q0S (by decide) rfl⟩
    |6,_,ho=>
     cases ho
     have g0_:a.eval (.tmp 49)= .agg #[.slice s.oa s.os.length s.oc,.slice s.wa s.wn s.wc,.slice s.ba s.bn s.bc,.slice s.sa s.sn s.sc]:=z0g (hdep ⟨3,.data⟩ (by simp) rfl 49 rfl) (by decide) rfl;have g1_:a.eval (.tmp 51)= .int .i64 o.a:=z0g (hdep ⟨5,.data⟩ (by simp) rfl 51 rfl) (by decide) rfl;exact v2e g0_ g1_ (HCG.out X hX) (λe w' ⟨s1,h1,h2,h3⟩=>⟨s1.v,h1,s1.v,rfl,h3,v2i ⟨s1,rfl,z0G h2 hX.size⟩⟩)
    |7,_,ho=>
     cases ho
     have g0_:a.eval (.tmp 46)= .pointer (some ⟨gx,0,none⟩):=z0g (hdep ⟨0,.data⟩ (by simp) rfl 46 rfl) (by decide) rfl;exact x1v g0_ ⟨_,rfl,bl0,q0S (by decide) rfl⟩
   ·intro o ho a X hX hA hdep
    cases ho
    have g0_:a.eval (.tmp 53)= .pointer (some ⟨gx,0,none⟩):=z0g (hdep ⟨7,.data⟩ (by simp) rfl 53 rfl) (by decide) rfl;have g1_:=z4l (hdep ⟨6,.data⟩ (by simp) rfl 52 rfl);obtain⟨s1,hv1,M1⟩:=g1_;rw[hsv]at hv1;refine v0t g0_ hv1 (HXX.out X hX).1.x ?_;obtain⟨us,hus,rfl⟩:=q0F hA [46,47,48,49,50,51,52,53] (by kernel_rfl);have HX2:Hid (LS0 W (q0p X gx (.slice s1.oa s1.os.length s1.oc) (.slice s1.wa s1.wn s1.wc) (.slice s1.ba s1.bn s1.bc) (.slice s1.sa s1.sn s1.sc)) B gx s1 (z0n H1 o.a)):=j1L HL2.out hX M1 (z0H _ _) (λg hg=>by simp[Value.ownBlock]at hg);have hsn:¬q0u s1 (wr.heap.size+1):=q0D M1 (.inl (by omega));have HX:Hid _:=v0g (w:=wr) (wr.heap.size+1) 0 0 HX2.out (by omega) hsn hne (by simp[Value.ownBlock]) (.int .i64 0) (.int .i64 0) (.slice none 0 0);have T4:q0k (q0p X gx (.slice s1.oa s1.os.length s1.oc) (.slice s1.wa s1.wn s1.wc) (.slice s1.ba s1.bn s1.bc) (.slice s1.sa s1.sn s1.sc)) (wr.heap.size+1) (.int .i64 0) (.int .i64 0) (.slice none 0 0):=(HXX.out X hX).2.2.same (q0T _ _ _ _ _ _ _ hne);clear HX2 hsn M1 HXX HCG HT2 HK2 HL2 hdep hA hus hX g0_ hv1;simp only[List.mapIdx_cons,List.mapIdx_nil,Nat.reduceAdd,List.contains_cons,List.contains_nil,Nat.reduceBEq,Bool.or_false,Bool.or_true,if_true,if_false,Bool.false_eq_true];generalize q0p X gx (.slice s1.oa s1.os.length s1.oc) (.slice s1.wa s1.wn s1.wc) (.slice s1.ba s1.bn s1.bc) (.slice s1.sa s1.sn s1.sc)=Y at*;obtain⟨q0,q1,q2⟩:=T4.cells;obtain⟨z0,z1,z2⟩:=T4.frees;clear T4;unfold q0g at HX;go_wp2;exact bodyPost_ret (v:=q0m 0 0 (.slice none 0 0)) (by simp[results,Tryz.results84,go_sem,q0m, *]) rfl HX.out
theorem y5z(kd:Int)(fo:Nat)(hkf:(kd=3/\fo=3)\/(kd=6/\fo=4))(c:Int)(st:Int->q0E)(W wr:World)(B gx:Nat)(s:HSh)(H:q0a)(o:OpD)(hL:LS0 W wr B gx s H)(hs:q0h H)(hkd:o.kind=kd)(hoa:q0w o.a)(hw:∀z∈H.objs,∀x∈z.field,q0w x)(k:Nat)(hkl:k<H.objs.length)(ek:q0l H o.a=(k:Int))(hk8:k<8)(hlv:H.objs[k].live=true)(hT:y5x H k fo c st)(hHi:c<1->z0Y H kd o.a=(H,⟨5,0,[]⟩))(hLo:¬c<1->z0Y H kd o.a=j0h (q0r H k (st (c - 1))) o.a)(hb:0<=c/\c<=20):
 Calls Tryz.prog 84 #[opV o,.pointer (some ⟨gx,0,none⟩)] wr λe w' =>q0N W B gx (z0Y H kd o.a) e w' :=by
 obtain⟨V,hV,BV,sV,F5,F3⟩:=y0M wr o;have LV:LS0 W V B gx s H:=q0y hL BV;have hgx:=hL.x.lt;have hle:=hL.le;have nh:¬q0u s (wr.heap.size+1):=q0D hL.m (.inr (by omega));have hne:wr.heap.size+1≠gx:=by omega
 have HE:Hid (j5P W wr B gx s):=j5R (by omega) nh hne;have HT:=hdx F3;have HL:=hdx LV;have CR:Hid (∀c X,_):=λc X=>z0f c X;unfold opV;obtain⟨k0,k1,k2,k3,k4⟩:=F5.cells;have CS:Hid (∀X:q0b V,_):=λX=>z0m s.v H o.a X.on (q0K (q0c LV.m X.bel)) hs.objs hoa.1 hoa.2;have CN:Hid (∀X:q0b V,∀z,u0k H z->_):=λX z hz=>v0R s.v H z X.on (q0K (q0c LV.m X.bel)) hs.objs hz;have y0:∀X:q0b V,X.on.cell? ⟨gx,0,none⟩=some (.slice s.oa s.os.length s.oc):=λX=>(LV.x.later X.bel).cell 0;have y1:∀X:q0b V,X.on.cell? ⟨gx,1,none⟩=some (.slice s.wa s.wn s.wc):=λX=>(LV.x.later X.bel).cell 1;have y2:∀X:q0b V,X.on.cell? ⟨gx,2,none⟩=some (.slice s.ba s.bn s.bc):=λX=>(LV.x.later X.bel).cell 2;have y3:∀X:q0b V,X.on.cell? ⟨gx,3,none⟩=some (.slice s.sa s.sn s.sc):=λX=>(LV.x.later X.bel).cell 3;have l0:∀X:q0b V,X.on.cell? ⟨wr.heap.size,0,none⟩=some (.int .i64 o.kind):=λX=>(F5.later X.bel).cell 0;have l1:∀X:q0b V,X.on.cell? ⟨wr.heap.size,1,none⟩=some (.int .i64 o.a):=λX=>(F5.later X.bel).cell 1;have l2:∀X:q0b V,X.on.cell? ⟨wr.heap.size,2,none⟩=some (.int .i64 o.b):=λX=>(F5.later X.bel).cell 2;have l3:∀X:q0b V,X.on.cell? ⟨wr.heap.size,3,none⟩=some (.int .i64 o.c):=λX=>(F5.later X.bel).cell 3;have hnel:=q0b.some_ V;have H5:=hdx F5;rw[hsv]at CS CN;obtain⟨go,hgo,hgB,hgl⟩:=v0E LV.m k hkl;obtain⟨hk2,hob,hfz⟩:=z0o LV.m k hkl go hgo;have hgq:go≠gx:=λe=>hL.sx (by rw[<-e];exact .inl ⟨_,hgo,rfl⟩);have hgn:go<wr.heap.size:=(z0X hL.m (.inl ⟨_,hgo,rfl⟩)).2;have HGO:=hdx hgo;have hlen:s.os.length<=1048576:=by rw[LV.m.lo];exact hs.objs
 have CL:Hid (∀X:q0b V,_):=λX=>q1c k s.os.length s.oc X.on go s.wa s.wn s.wc s.ba s.bn s.bc s.sa s.sn s.sc ((X.bel.cell (p:=⟨go,k*8,none⟩) hgl).trans (hob.c0.trans (by rw[hlv]))) hlen hk8 hk2;rw[<-hgo]at CL;rw[ek]at CS;have HCC:Hid (∀X,Below V.heap.size V X->X.cell? ⟨go,k*8+fo,none⟩=some (.int .i64 c)/\X.frozen? ⟨go,k*8+fo,none⟩=false):=λX hX=>hT.cell X B s go (q0c LV.m hX) hgo;have hg1:¬go=wr.heap.size:=by omega
 have hg2:¬wr.heap.size=go:=by omega
 have hg3:¬go=wr.heap.size+1:=by omega
 have hg4:¬wr.heap.size+1=go:=by omega
 have hg5:¬go=gx:=hgq;have hg6:¬gx=go:=λe=>hgq e.symm;have KK:Hid (∀X:World,z0d X wr.heap.size o->X.cell? ⟨wr.heap.size,0,none⟩=some (.int .i64 kd)):=λX h=>by have e:=h.cell 0;rw[hkd]at e;exact e
 by_cases ht:c<1
 ·have HR:Hid (_=_):=hHi ht;have hc:c=0:=by omega
  subst hc;rw[HR.out];rw[hkd]at hV k0 l0;clear hs hL LV F5 F3 BV HR nh hoa CN hw hob hfz hgo hlv ht hb ek k0 k1 k2 k3 k4 hT hHi hLo;rw[hkd];rcases hkf with⟨rfl,rfl⟩|⟨rfl,rfl⟩
  all_goals
   go_enter Tryz.func84,Tryz.ntmps84;go_wp2;rw[<-hV];clear hV;refine q0j V bl0 (by kernel_rfl) (by kernel_rfl) ?_
   repeat (go_big_quiet_step (first
    |(go_at_call 111;refine(CS.out _).mono ?_;rintro e w2 ⟨rfl,b2⟩;exact⟨rfl,q0b.step _ b2⟩)
    |(go_at_call 110;refine(CL.out _).mono ?_;rintro e w2 ⟨rfl,b2⟩;exact⟨rfl,q0b.step _ b2⟩)))
   refine wpQuiet_nil ?_;intro X hXe;have hX:Below V.heap.size V X:=by obtain⟨n,hn⟩:=hXe;rw[hn];exact n.bel
   clear hXe y0 y1 y2 y3 l0 l1 l2 l3 hnel CS CL;have HTX:Hid (q0k X (wr.heap.size+1) (.int .i64 0) (.int .i64 0) (.slice none 0 0)):=HT.out.later hX;obtain⟨cc,cz⟩:=HCC.out X hX;have K5:=H5.out.later hX;have kk:=KK.out X K5;clear K5;go_wp2_with fail
   refine(CR.out 5 _).mono ?_;rintro e w2 ⟨rfl,b2⟩;have T2:=HTX.out.later b2;obtain⟨q0,q1,q2⟩:=T2.cells;obtain⟨z0,z1,z2⟩:=T2.frees;have HX:Hid _:=HE.out w2 _ 5 0 (.int .i64 5) (.int .i64 0) (.slice none 0 0) (q0y (q0y HL.out hX) b2);rw[show q0m 5 0 (.slice none 0 0)= .agg #[.int .i64 5,.int .i64 0,.slice none 0 0]from rfl];clear T2 HE HL HT CR b2 HTX hX H5 HCC cc cz kk HGO;go_wp2;exact bodyPost_ret (v:=q0m 5 0 (.slice none 0 0)) (by simp[results,Tryz.results84,go_sem,q0m, *]) rfl HX.out
 ·obtain⟨M,hMc⟩:∃M,c - 1=M:=⟨_,rfl⟩;have HMC:Hid (c - 1=M):=hMc;have HW:Hid (∀X:World,∃w1,w1=X.setCell ⟨go,k*8+fo,none⟩ (.int .i64 M)):=λX=>⟨_,rfl⟩;have HR:Hid (_=_):=hLo ht;rw[hMc]at HR;have HL1:Hid (∀X,Below V.heap.size V X->LS0 W (X.setCell ⟨go,k*8+fo,none⟩ (.int .i64 M)) B gx s (q0r H k (st M))):=λX hX=>j0i (q0y LV hX) go (k*8+fo) _ hgo (hT.set _ _ _ _ M (q0y LV hX).m hgo);have HSM:Hid (q0h (q0r H k (st M))):=hT.small hs M;have HWF:Hid (∀z∈(q0r H k (st M)).objs,∀x∈z.field,q0w x):=hT.wf hw M;have HOA:=hdx hoa;rw[HR.out];rw[hkd]at hV k0 l0;obtain⟨H1,hH1⟩:∃H1,q0r H k (st M)=H1:=⟨_,rfl⟩;rw[hH1]at HL1 HSM HWF ⊢;have hc1:1<=c:=by omega
  have hcb:c - 1<=21:=by omega
  have hcd: -1<=c - 1:=by omega
  have hq:(c==0)=false:=by rw[beq_eq_false_iff_ne];omega
  have hq2:¬c=0:=by omega
  clear hs hL LV F5 F3 BV HR nh hoa CN hw hob hfz hgo hlv ht hb ek k0 k1 k2 k3 k4 hT hHi hLo CR hMc hH1;rw[hkd];rcases hkf with⟨rfl,rfl⟩|⟨rfl,rfl⟩
  all_goals
   go_enter Tryz.func84,Tryz.ntmps84;go_wp2;rw[<-hV];clear hV;refine q0j V bl0 (by kernel_rfl) (by kernel_rfl) ?_
   repeat (go_big_quiet_step (first
    |(go_at_call 111;refine(CS.out _).mono ?_;rintro e w2 ⟨rfl,b2⟩;exact⟨rfl,q0b.step _ b2⟩)
    |(go_at_call 110;refine(CL.out _).mono ?_;rintro e w2 ⟨rfl,b2⟩;exact⟨rfl,q0b.step _ b2⟩)))
   refine wpQuiet_nil ?_;intro X hXe;have hX:Below V.heap.size V X:=by obtain⟨n,hn⟩:=hXe;rw[hn];exact n.bel
   clear hXe y0 y1 y2 y3 l0 l1 l2 l3 hnel CS CL;have HTX:Hid (q0k X (wr.heap.size+1) (.int .i64 0) (.int .i64 0) (.slice none 0 0)):=HT.out.later hX;obtain⟨cc,cz⟩:=HCC.out X hX;have K5:=H5.out.later hX;have HK5:Hid (z0d X wr.heap.size o):=K5;have kk:=KK.out X K5;have ka:X.cell? ⟨wr.heap.size,1,none⟩=some (.int .i64 o.a):=K5.cell 1;clear K5;obtain⟨w1,hw1⟩:=HW.out X;have HL2:Hid (LS0 W w1 B gx s H1):=by rw[hw1];exact HL1.out X hX
   have hXs:=hX.size;have s1w:w1.heap.size=X.heap.size:=by rw[hw1];simp[World.setCell]
   have oth:∀i,i≠go->w1.heap[i]? =X.heap[i]?:=λi hi=>by rw[hw1];exact heap_setCell_other _ _ _ _ (by exact hi)
   have HT2:Hid (q0k w1 (wr.heap.size+1) (.int .i64 0) (.int .i64 0) (.slice none 0 0)):=HTX.out.same (oth _ hg4);have HK2:Hid (z0d w1 wr.heap.size o):=HK5.out.same (oth _ hg2);clear oth;have CLS:Hid (∀_:Unit,_):=λ(_:Unit)=>y1M W w1 B gx s H1 o.a HL2.out HSM.out HWF.out HOA.out;go_wp2_with fail
   rw[HMC.out,<-hw1];clear HMC hw1 cc cz kk ka HCC HGO HL1 H5 HTX hX HK5 HSM HWF HOA HL;refine(CLS.out ()).mono ?_;rintro e w2 ⟨s2,fa,fc,rfl,L2,hS2,hF2,hfr,hsz⟩;have T2:q0k w2 (wr.heap.size+1) (.int .i64 0) (.int .i64 0) (.slice none 0 0):=HT2.out.same (hfr _ (by omega) hne);obtain⟨q0,q1,q2⟩:=T2.cells;obtain⟨z0,z1,z2⟩:=T2.frees;have hsn:¬q0u s2 (wr.heap.size+1):=λhh=>by have:=hS2 _ hh;omega
   have hfn:(Value.slice fa (z0F H1 [o.a]).2.length fc).ownBlock≠some (wr.heap.size+1):=λe=>by have:=hF2 _ e;omega
   have HX:Hid (q0N W B gx (j0h H1 o.a) (.returned (q0m 0 0 (.slice fa (z0F H1 [o.a]).2.length fc))) (q0g w2 (wr.heap.size+1) (.int .i64 0) (.int .i64 0) (.slice fa (z0F H1 [o.a]).2.length fc))):=v0g (w:=wr) (wr.heap.size+1) 0 0 L2 (by omega) hsn hne hfn (.int .i64 0) (.int .i64 0) (.slice fa (z0F H1 [o.a]).2.length fc);rw[show q0m 0 0 (.slice fa (z0F H1 [o.a]).2.length fc)= .agg #[.int .i64 0,.int .i64 0,.slice fa (z0F H1 [o.a]).2.length fc]from rfl];clear hsn hfn T2 HT2 HK2 HL2 CLS L2 hS2 hF2 hfr;unfold q0g at HX;go_wp2;exact bodyPost_ret (v:=q0m 0 0 (.slice fa (z0F H1 [o.a]).2.length fc)) (by simp[results,Tryz.results84,go_sem,q0m, *]) rfl HX.out
end
section
open Go.RowKit
variable{s:HSh}{H:q0a}
theorem v3d{W wr:World}{B gx:Nat}{vq vf:Value}{todo fr:List Int}(h:LS W wr B gx s H vq vf todo fr)(k:Nat)(hk:k<H.objs.length)(hk2:k<s.os.length)(g:Nat)(hg:s.os[k].f=some ⟨g,0,none⟩)(j:Nat)(z:Int)(o' :q0E)(ho:o' ={H.objs[k]with field:=H.objs[k].field.set j z}):LS W (wr.setCell ⟨g,j,none⟩ (.int .i64 z)) B gx s (q0r H k o') vq vf todo fr:=by have hh:q0u s g:= .inr (.inr (.inr (.inr ⟨_,List.getElem_mem hk2,_,hg,rfl⟩)));have oth:∀x,x≠g->(wr.setCell ⟨g,j,none⟩ (.int .i64 z)).heap[x]? =wr.heap[x]?:=λx hx=>heap_setCell_other _ _ _ _ (by exact hx);exact⟨h.bel.setCell (z0X h.m hh).1 _,h.hB,y2q h.m k hk hk2 g hg j z o' ho,h.x.same (oth gx (λe=>h.sx (by rw[e];exact hh))),h.gB,h.sx,q1f h.q (λx hx=>oth x (λe=>h.sq x hx (by rw[e];exact hh))),q0v h.f (λx hx=>oth x (λe=>h.sf x hx (by rw[e];exact hh))),h.sq,h.sf,h.qf⟩
theorem v1o{w:World}{B:Nat}(h:HM w B s H)(k:Nat)(hk:k<H.objs.length)(hk2:k<s.os.length)(j:Nat)(hj:j<H.objs[k].field.length):∃g,s.os[k].f=some ⟨g,0,none⟩/\s.os[k].n=H.objs[k].field.length/\B<=g/\g<w.heap.size/\w.cell? ⟨g,j,none⟩=some (.int .i64 H.objs[k].field[j])/\w.frozen? ⟨g,j,none⟩=false:=by
 obtain⟨h1,h2⟩:=h.f k hk hk2;have h3:=h2;rw[h1]at h3;unfold q0i at h3;rcases h3 with⟨e1,⟨e2,e3⟩|⟨g,cap,cur,e2,e3,e4,e5,e6,e7⟩⟩
 ·omega
 ·have e8:=e2;simp only[Value.slice.injEq]at e8;refine⟨g,e8.1,h1,e3,(Array.getElem?_eq_some_iff.1 e4).1,?_,?_⟩
  ·have h4:=h2;rw[h1,e8.1]at h4;unfold q0i at h4;rw[World.ownsRow.cellAt h4 j (by omega),List.getElem?_map,List.getElem?_eq_getElem hj];rfl
  ·have h4:=h2;rw[h1,e8.1]at h4;unfold q0i at h4;exact World.ownsRow.frozenAt h4 j
theorem u1B(H:q0a)(id:Int)(k:Nat)(h:k<H.objs.length)(h2:k<(z0n H id).objs.length):(z0n H id).objs[k].live=H.objs[k].live/\(z0n H id).objs[k].field=H.objs[k].field:=by obtain⟨c,e⟩:=x3z H id k h h2;rw[e];exact⟨rfl,rfl⟩
theorem v4y(W wr:World)(B gx:Nat)(s:HSh)(H:q0a)(o:OpD)(hL:LS0 W wr B gx s H)(hs:q0h H)(hoa:q0w o.a)(hob:q0w o.b)(hoc:q0w o.c)(hz:q0l H o.a<0):
 Calls Tryz.prog 85 #[opV o,.pointer (some ⟨gx,0,none⟩)] wr λe w' =>q0N W B gx (x0c H o.a o.b o.c) e w' :=by
 obtain⟨V,hV,BV,sV,F5,F3⟩:=y0M wr o;have LV:LS0 W V B gx s H:=q0y hL BV;have hgx:=hL.x.lt;have hle:=hL.le;have nh:¬q0u s (wr.heap.size+1):=q0D hL.m (.inr (by omega));have hne:wr.heap.size+1≠gx:=by omega
 have HE:Hid (j5P W wr B gx s):=j5R (by omega) nh hne;have HT:=hdx F3;have HL:=hdx LV;have CR:Hid (∀c X,_):=λc X=>z0f c X;unfold opV;obtain⟨k0,k1,k2,k3,k4⟩:=F5.cells;have CS:Hid (∀X:q0b V,_):=λX=>z0m s.v H o.a X.on (q0K (q0c LV.m X.bel)) hs.objs hoa.1 hoa.2;have CN:Hid (∀X:q0b V,∀z,u0k H z->_):=λX z hz=>v0R s.v H z X.on (q0K (q0c LV.m X.bel)) hs.objs hz;have y0:∀X:q0b V,X.on.cell? ⟨gx,0,none⟩=some (.slice s.oa s.os.length s.oc):=λX=>(LV.x.later X.bel).cell 0;have y1:∀X:q0b V,X.on.cell? ⟨gx,1,none⟩=some (.slice s.wa s.wn s.wc):=λX=>(LV.x.later X.bel).cell 1;have y2:∀X:q0b V,X.on.cell? ⟨gx,2,none⟩=some (.slice s.ba s.bn s.bc):=λX=>(LV.x.later X.bel).cell 2;have y3:∀X:q0b V,X.on.cell? ⟨gx,3,none⟩=some (.slice s.sa s.sn s.sc):=λX=>(LV.x.later X.bel).cell 3;have l0:∀X:q0b V,X.on.cell? ⟨wr.heap.size,0,none⟩=some (.int .i64 o.kind):=λX=>(F5.later X.bel).cell 0;have l1:∀X:q0b V,X.on.cell? ⟨wr.heap.size,1,none⟩=some (.int .i64 o.a):=λX=>(F5.later X.bel).cell 1;have l2:∀X:q0b V,X.on.cell? ⟨wr.heap.size,2,none⟩=some (.int .i64 o.b):=λX=>(F5.later X.bel).cell 2;have l3:∀X:q0b V,X.on.cell? ⟨wr.heap.size,3,none⟩=some (.int .i64 o.c):=λX=>(F5.later X.bel).cell 3;have hnel:=q0b.some_ V;have H5:=hdx F5;rw[hsv]at CS CN;have CC:Hid (∀X:q0b V,_):=λX=>z0m s.v H o.c X.on (q0K (q0c LV.m X.bel)) hs.objs hoc.1 hoc.2;rw[hsv]at CC;have HR:Hid (x0c H o.a o.b o.c=(H,⟨1,0,[]⟩)):=by show _=_;unfold x0c;rw[if_pos (.inl hz)];rfl
 rw[HR.out];have hd:decide (q0l H o.a<0)=true:=decide_eq_true hz;generalize q0l H o.a=z at*;generalize q0l H o.c=zc at*;clear hs hL LV F5 F3 BV HR nh hoa hob hoc k0 k1 k2 k3 k4 CN;go_enter Tryz.func85,Tryz.ntmps85;go_wp2;rw[<-hV];clear hV;refine q0j V bl0 (by kernel_rfl) (by kernel_rfl) ?_
 repeat (go_big_quiet_step (first
  |(go_at_call 111;refine(CS.out _).mono ?_;rintro e w2 ⟨rfl,b2⟩;exact⟨rfl,q0b.step _ b2⟩)))
 refine wpQuiet_nil ?_;intro X hXe;have hX:Below V.heap.size V X:=by obtain⟨n,hn⟩:=hXe;rw[hn];exact n.bel
 clear hXe;go_wp2;refine q0j V hX (by kernel_rfl) (by kernel_rfl) ?_
 repeat (go_big_quiet_step (first
  |(go_at_call 111;refine(CC.out _).mono ?_;rintro e w2 ⟨rfl,b2⟩;exact⟨rfl,q0b.step _ b2⟩)))
 refine wpQuiet_nil ?_;clear hX;intro X2 hXe;have hX:Below V.heap.size V X2:=by obtain⟨n,hn⟩:=hXe;rw[hn];exact n.bel
 clear hXe y0 y1 y2 y3 l0 l1 l2 l3 hnel CS CC;have HTX:Hid (q0k X2 (wr.heap.size+1) (.int .i64 0) (.int .i64 0) (.slice none 0 0)):=HT.out.later hX;go_wp2_with fail
 refine(CR.out 1 _).mono ?_;rintro e w2 ⟨rfl,b2⟩;have T2:=HTX.out.later b2;obtain⟨q0,q1,q2⟩:=T2.cells;obtain⟨z0,z1,z2⟩:=T2.frees;have HX:Hid _:=HE.out w2 _ 1 0 (.int .i64 1) (.int .i64 0) (.slice none 0 0) (q0y (q0y HL.out hX) b2);rw[show q0m 1 0 (.slice none 0 0)= .agg #[.int .i64 1,.int .i64 0,.slice none 0 0]from rfl];clear T2 HE HL HT CR b2 HTX hX H5;go_wp2;exact bodyPost_ret (v:=q0m 1 0 (.slice none 0 0)) (by simp[results,Tryz.results85,go_sem,q0m, *]) rfl HX.out
theorem v4z(W wr:World)(B gx:Nat)(s:HSh)(H:q0a)(o:OpD)(hL:LS0 W wr B gx s H)(hs:q0h H)(hoa:q0w o.a)(hob:q0w o.b)(hoc:q0w o.c)(hz:0<=q0l H o.a)(hc:o.c≠ -1)(hzc:q0l H o.c<0):
 Calls Tryz.prog 85 #[opV o,.pointer (some ⟨gx,0,none⟩)] wr λe w' =>q0N W B gx (x0c H o.a o.b o.c) e w' :=by
 obtain⟨V,hV,BV,sV,F5,F3⟩:=y0M wr o;have LV:LS0 W V B gx s H:=q0y hL BV;have hgx:=hL.x.lt;have hle:=hL.le;have nh:¬q0u s (wr.heap.size+1):=q0D hL.m (.inr (by omega));have hne:wr.heap.size+1≠gx:=by omega
 have HE:Hid (j5P W wr B gx s):=j5R (by omega) nh hne;have HT:=hdx F3;have HL:=hdx LV;have CR:Hid (∀c X,_):=λc X=>z0f c X;unfold opV;obtain⟨k0,k1,k2,k3,k4⟩:=F5.cells;have CS:Hid (∀X:q0b V,_):=λX=>z0m s.v H o.a X.on (q0K (q0c LV.m X.bel)) hs.objs hoa.1 hoa.2;have CN:Hid (∀X:q0b V,∀z,u0k H z->_):=λX z hz=>v0R s.v H z X.on (q0K (q0c LV.m X.bel)) hs.objs hz;have y0:∀X:q0b V,X.on.cell? ⟨gx,0,none⟩=some (.slice s.oa s.os.length s.oc):=λX=>(LV.x.later X.bel).cell 0;have y1:∀X:q0b V,X.on.cell? ⟨gx,1,none⟩=some (.slice s.wa s.wn s.wc):=λX=>(LV.x.later X.bel).cell 1;have y2:∀X:q0b V,X.on.cell? ⟨gx,2,none⟩=some (.slice s.ba s.bn s.bc):=λX=>(LV.x.later X.bel).cell 2;have y3:∀X:q0b V,X.on.cell? ⟨gx,3,none⟩=some (.slice s.sa s.sn s.sc):=λX=>(LV.x.later X.bel).cell 3;have l0:∀X:q0b V,X.on.cell? ⟨wr.heap.size,0,none⟩=some (.int .i64 o.kind):=λX=>(F5.later X.bel).cell 0;have l1:∀X:q0b V,X.on.cell? ⟨wr.heap.size,1,none⟩=some (.int .i64 o.a):=λX=>(F5.later X.bel).cell 1;have l2:∀X:q0b V,X.on.cell? ⟨wr.heap.size,2,none⟩=some (.int .i64 o.b):=λX=>(F5.later X.bel).cell 2;have l3:∀X:q0b V,X.on.cell? ⟨wr.heap.size,3,none⟩=some (.int .i64 o.c):=λX=>(F5.later X.bel).cell 3;have hnel:=q0b.some_ V;have H5:=hdx F5;rw[hsv]at CS CN;have CC:Hid (∀X:q0b V,_):=λX=>z0m s.v H o.c X.on (q0K (q0c LV.m X.bel)) hs.objs hoc.1 hoc.2;rw[hsv]at CC;have HR:Hid (x0c H o.a o.b o.c=(H,⟨1,0,[]⟩)):=by show _=_;unfold x0c;rw[if_pos (.inr ⟨hc,hzc⟩)];rfl
 rw[HR.out];have hd:decide (q0l H o.a<0)=false:=decide_eq_false (by omega);have hd2:decide (q0l H o.c<0)=true:=decide_eq_true hzc;have hd3:(o.c !=(-1:Int))=true:=by simpa using hc
 generalize q0l H o.a=z at*;generalize q0l H o.c=zc at*;clear hs hL LV F5 F3 BV HR nh hoa hob hoc k0 k1 k2 k3 k4 CN;go_enter Tryz.func85,Tryz.ntmps85;go_wp2;rw[<-hV];clear hV;refine q0j V bl0 (by kernel_rfl) (by kernel_rfl) ?_
 repeat (go_big_quiet_step (first
  |(go_at_call 111;refine(CS.out _).mono ?_;rintro e w2 ⟨rfl,b2⟩;exact⟨rfl,q0b.step _ b2⟩)))
 refine wpQuiet_nil ?_;intro X hXe;have hX:Below V.heap.size V X:=by obtain⟨n,hn⟩:=hXe;rw[hn];exact n.bel
 clear hXe;go_wp2;refine q0j V hX (by kernel_rfl) (by kernel_rfl) ?_
 repeat (go_big_quiet_step (first
  |(go_at_call 111;refine(CC.out _).mono ?_;rintro e w2 ⟨rfl,b2⟩;exact⟨rfl,q0b.step _ b2⟩)))
 refine wpQuiet_nil ?_;clear hX;intro X2 hXe;have hX:Below V.heap.size V X2:=by obtain⟨n,hn⟩:=hXe;rw[hn];exact n.bel
 clear hXe y0 y1 y2 y3 l0 l1 l2 l3 hnel CS CC;have HTX:Hid (q0k X2 (wr.heap.size+1) (.int .i64 0) (.int .i64 0) (.slice none 0 0)):=HT.out.later hX;go_wp2_with fail
 refine(CR.out 1 _).mono ?_;rintro e w2 ⟨rfl,b2⟩;have T2:=HTX.out.later b2;obtain⟨q0,q1,q2⟩:=T2.cells;obtain⟨z0,z1,z2⟩:=T2.frees;have HX:Hid _:=HE.out w2 _ 1 0 (.int .i64 1) (.int .i64 0) (.slice none 0 0) (q0y (q0y HL.out hX) b2);rw[show q0m 1 0 (.slice none 0 0)= .agg #[.int .i64 1,.int .i64 0,.slice none 0 0]from rfl];clear T2 HE HL HT CR b2 HTX hX H5;go_wp2;exact bodyPost_ret (v:=q0m 1 0 (.slice none 0 0)) (by simp[results,Tryz.results85,go_sem,q0m, *]) rfl HX.out
theorem z4c(W wr:World)(B gx:Nat)(s:HSh)(H:q0a)(o:OpD)(hL:LS0 W wr B gx s H)(hs:q0h H)(hoa:q0w o.a)(hob:q0w o.b)(hoc:q0w o.c)(hz:0<=q0l H o.a)(hc:o.c= -1)(hb:o.b<0\/2<o.b):
 Calls Tryz.prog 85 #[opV o,.pointer (some ⟨gx,0,none⟩)] wr λe w' =>q0N W B gx (x0c H o.a o.b o.c) e w' :=by
 obtain⟨V,hV,BV,sV,F5,F3⟩:=y0M wr o;have LV:LS0 W V B gx s H:=q0y hL BV;have hgx:=hL.x.lt;have hle:=hL.le;have nh:¬q0u s (wr.heap.size+1):=q0D hL.m (.inr (by omega));have hne:wr.heap.size+1≠gx:=by omega
 have HE:Hid (j5P W wr B gx s):=j5R (by omega) nh hne;have HT:=hdx F3;have HL:=hdx LV;have CR:Hid (∀c X,_):=λc X=>z0f c X;unfold opV;obtain⟨k0,k1,k2,k3,k4⟩:=F5.cells;have CS:Hid (∀X:q0b V,_):=λX=>z0m s.v H o.a X.on (q0K (q0c LV.m X.bel)) hs.objs hoa.1 hoa.2;have CN:Hid (∀X:q0b V,∀z,u0k H z->_):=λX z hz=>v0R s.v H z X.on (q0K (q0c LV.m X.bel)) hs.objs hz;have y0:∀X:q0b V,X.on.cell? ⟨gx,0,none⟩=some (.slice s.oa s.os.length s.oc):=λX=>(LV.x.later X.bel).cell 0;have y1:∀X:q0b V,X.on.cell? ⟨gx,1,none⟩=some (.slice s.wa s.wn s.wc):=λX=>(LV.x.later X.bel).cell 1;have y2:∀X:q0b V,X.on.cell? ⟨gx,2,none⟩=some (.slice s.ba s.bn s.bc):=λX=>(LV.x.later X.bel).cell 2;have y3:∀X:q0b V,X.on.cell? ⟨gx,3,none⟩=some (.slice s.sa s.sn s.sc):=λX=>(LV.x.later X.bel).cell 3;have l0:∀X:q0b V,X.on.cell? ⟨wr.heap.size,0,none⟩=some (.int .i64 o.kind):=λX=>(F5.later X.bel).cell 0;have l1:∀X:q0b V,X.on.cell? ⟨wr.heap.size,1,none⟩=some (.int .i64 o.a):=λX=>(F5.later X.bel).cell 1;have l2:∀X:q0b V,X.on.cell? ⟨wr.heap.size,2,none⟩=some (.int .i64 o.b):=λX=>(F5.later X.bel).cell 2;have l3:∀X:q0b V,X.on.cell? ⟨wr.heap.size,3,none⟩=some (.int .i64 o.c):=λX=>(F5.later X.bel).cell 3;have hnel:=q0b.some_ V;have H5:=hdx F5;rw[hsv]at CS CN;have CC:Hid (∀X:q0b V,_):=λX=>z0m s.v H o.c X.on (q0K (q0c LV.m X.bel)) hs.objs hoc.1 hoc.2;rw[hsv]at CC
 have hno:¬(q0l H o.a<0\/(o.c≠ -1/\q0l H o.c<0)):=by
  rintro(h|⟨h,h2⟩)
  ·omega
  ·exact h hc
 have hd:decide (q0l H o.a<0)=false:=decide_eq_false (by omega);have hd3:(o.c !=(-1:Int))=false:=by simp[hc]
 have HR:Hid (x0c H o.a o.b o.c=(H,⟨2,0,[]⟩)):=by show _=_;unfold x0c;rw[if_neg hno,if_pos hb];rfl
 rw[HR.out];have CW:Hid (∀X,_):=λX=>y0U o.b 0 2 X hb;have HL5:Hid (∀X,Below V.heap.size V X->X.cell? ⟨wr.heap.size,2,none⟩=some (.int .i64 o.b)):=λX hX=>(F5.later hX).cell 2;generalize q0l H o.a=z at*;generalize q0l H o.c=zc at*;clear hs hL LV F5 F3 BV HR nh hoa hob hoc k0 k1 k2 k3 k4 CN hno hb;rw[hc]at hV l3;rw[hc];go_enter Tryz.func85,Tryz.ntmps85;go_wp2;rw[<-hV];clear hV;refine q0j V bl0 (by kernel_rfl) (by kernel_rfl) ?_
 repeat (go_big_quiet_step (first
  |(go_at_call 111;refine(CS.out _).mono ?_;rintro e w2 ⟨rfl,b2⟩;exact⟨rfl,q0b.step _ b2⟩)))
 refine wpQuiet_nil ?_;intro X hXe;have hX:Below V.heap.size V X:=by obtain⟨n,hn⟩:=hXe;rw[hn];exact n.bel
 clear hXe;go_wp2;refine q0j V hX (by kernel_rfl) (by kernel_rfl) ?_
 repeat (go_big_quiet_step (first
  |(go_at_call 111;refine(CC.out _).mono ?_;rintro e w2 ⟨rfl,b2⟩;exact⟨rfl,q0b.step _ b2⟩)))
 refine wpQuiet_nil ?_;clear hX;intro X2 hXe;have hX:Below V.heap.size V X2:=by obtain⟨n,hn⟩:=hXe;rw[hn];exact n.bel
 clear hXe y0 y1 y2 y3 l0 l1 l2 l3 hnel CS CC;have HTX:Hid (q0k X2 (wr.heap.size+1) (.int .i64 0) (.int .i64 0) (.slice none 0 0)):=HT.out.later hX;have kb:=HL5.out X2 hX;go_wp2_with fail
 refine(CW.out _).mono ?_;rintro e w5 ⟨rfl,rfl⟩;go_wp2_with fail
 refine(CR.out 2 _).mono ?_;rintro e w2 ⟨rfl,b2⟩;have T2:=HTX.out.later b2;obtain⟨q0,q1,q2⟩:=T2.cells;obtain⟨z0,z1,z2⟩:=T2.frees;have HX:Hid _:=HE.out w2 _ 2 0 (.int .i64 2) (.int .i64 0) (.slice none 0 0) (q0y (q0y HL.out hX) b2);rw[show q0m 2 0 (.slice none 0 0)= .agg #[.int .i64 2,.int .i64 0,.slice none 0 0]from rfl];clear T2 HE HL HT CR b2 HTX hX H5 CW HL5 kb;go_wp2;exact bodyPost_ret (v:=q0m 2 0 (.slice none 0 0)) (by simp[results,Tryz.results85,go_sem,q0m, *]) rfl HX.out
theorem z4d(W wr:World)(B gx:Nat)(s:HSh)(H:q0a)(o:OpD)(hL:LS0 W wr B gx s H)(hs:q0h H)(hoa:q0w o.a)(hob:q0w o.b)(hoc:q0w o.c)(hz:0<=q0l H o.a)(hc:o.c≠ -1)(hzc:0<=q0l H o.c)(hb:o.b<0\/2<o.b):
 Calls Tryz.prog 85 #[opV o,.pointer (some ⟨gx,0,none⟩)] wr λe w' =>q0N W B gx (x0c H o.a o.b o.c) e w' :=by
 obtain⟨V,hV,BV,sV,F5,F3⟩:=y0M wr o;have LV:LS0 W V B gx s H:=q0y hL BV;have hgx:=hL.x.lt;have hle:=hL.le;have nh:¬q0u s (wr.heap.size+1):=q0D hL.m (.inr (by omega));have hne:wr.heap.size+1≠gx:=by omega
 have HE:Hid (j5P W wr B gx s):=j5R (by omega) nh hne;have HT:=hdx F3;have HL:=hdx LV;have CR:Hid (∀c X,_):=λc X=>z0f c X;unfold opV;obtain⟨k0,k1,k2,k3,k4⟩:=F5.cells;have CS:Hid (∀X:q0b V,_):=λX=>z0m s.v H o.a X.on (q0K (q0c LV.m X.bel)) hs.objs hoa.1 hoa.2;have CN:Hid (∀X:q0b V,∀z,u0k H z->_):=λX z hz=>v0R s.v H z X.on (q0K (q0c LV.m X.bel)) hs.objs hz;have y0:∀X:q0b V,X.on.cell? ⟨gx,0,none⟩=some (.slice s.oa s.os.length s.oc):=λX=>(LV.x.later X.bel).cell 0;have y1:∀X:q0b V,X.on.cell? ⟨gx,1,none⟩=some (.slice s.wa s.wn s.wc):=λX=>(LV.x.later X.bel).cell 1;have y2:∀X:q0b V,X.on.cell? ⟨gx,2,none⟩=some (.slice s.ba s.bn s.bc):=λX=>(LV.x.later X.bel).cell 2;have y3:∀X:q0b V,X.on.cell? ⟨gx,3,none⟩=some (.slice s.sa s.sn s.sc):=λX=>(LV.x.later X.bel).cell 3;have l0:∀X:q0b V,X.on.cell? ⟨wr.heap.size,0,none⟩=some (.int .i64 o.kind):=λX=>(F5.later X.bel).cell 0;have l1:∀X:q0b V,X.on.cell? ⟨wr.heap.size,1,none⟩=some (.int .i64 o.a):=λX=>(F5.later X.bel).cell 1;have l2:∀X:q0b V,X.on.cell? ⟨wr.heap.size,2,none⟩=some (.int .i64 o.b):=λX=>(F5.later X.bel).cell 2;have l3:∀X:q0b V,X.on.cell? ⟨wr.heap.size,3,none⟩=some (.int .i64 o.c):=λX=>(F5.later X.bel).cell 3;have hnel:=q0b.some_ V;have H5:=hdx F5;rw[hsv]at CS CN;have CC:Hid (∀X:q0b V,_):=λX=>z0m s.v H o.c X.on (q0K (q0c LV.m X.bel)) hs.objs hoc.1 hoc.2;rw[hsv]at CC
 have hno:¬(q0l H o.a<0\/(o.c≠ -1/\q0l H o.c<0)):=by
  rintro(h|⟨h,h2⟩)
  ·omega
  ·omega
 have hd:decide (q0l H o.a<0)=false:=decide_eq_false (by omega);have hd2:decide (q0l H o.c<0)=false:=decide_eq_false (by omega);have hd3:(o.c !=(-1:Int))=true:=by simpa using hc
 have HR:Hid (x0c H o.a o.b o.c=(H,⟨2,0,[]⟩)):=by show _=_;unfold x0c;rw[if_neg hno,if_pos hb];rfl
 rw[HR.out];have CW:Hid (∀X,_):=λX=>y0U o.b 0 2 X hb;have HL5:Hid (∀X,Below V.heap.size V X->X.cell? ⟨wr.heap.size,2,none⟩=some (.int .i64 o.b)):=λX hX=>(F5.later hX).cell 2;generalize q0l H o.a=z at*;generalize q0l H o.c=zc at*;clear hs hL LV F5 F3 BV HR nh hoa hob hoc k0 k1 k2 k3 k4 CN hno hb;go_enter Tryz.func85,Tryz.ntmps85;go_wp2;rw[<-hV];clear hV;refine q0j V bl0 (by kernel_rfl) (by kernel_rfl) ?_
 repeat (go_big_quiet_step (first
  |(go_at_call 111;refine(CS.out _).mono ?_;rintro e w2 ⟨rfl,b2⟩;exact⟨rfl,q0b.step _ b2⟩)))
 refine wpQuiet_nil ?_;intro X hXe;have hX:Below V.heap.size V X:=by obtain⟨n,hn⟩:=hXe;rw[hn];exact n.bel
 clear hXe;go_wp2;refine q0j V hX (by kernel_rfl) (by kernel_rfl) ?_
 repeat (go_big_quiet_step (first
  |(go_at_call 111;refine(CC.out _).mono ?_;rintro e w2 ⟨rfl,b2⟩;exact⟨rfl,q0b.step _ b2⟩)))
 refine wpQuiet_nil ?_;clear hX;intro X2 hXe;have hX:Below V.heap.size V X2:=by obtain⟨n,hn⟩:=hXe;rw[hn];exact n.bel
 clear hXe y0 y1 y2 y3 l0 l1 l2 l3 hnel CS CC;have HTX:Hid (q0k X2 (wr.heap.size+1) (.int .i64 0) (.int .i64 0) (.slice none 0 0)):=HT.out.later hX;have kb:=HL5.out X2 hX;go_wp2_with fail
 refine(CW.out _).mono ?_;rintro e w5 ⟨rfl,rfl⟩;go_wp2_with fail
 refine(CR.out 2 _).mono ?_;rintro e w2 ⟨rfl,b2⟩;have T2:=HTX.out.later b2;obtain⟨q0,q1,q2⟩:=T2.cells;obtain⟨z0,z1,z2⟩:=T2.frees;have HX:Hid _:=HE.out w2 _ 2 0 (.int .i64 2) (.int .i64 0) (.slice none 0 0) (q0y (q0y HL.out hX) b2);rw[show q0m 2 0 (.slice none 0 0)= .agg #[.int .i64 2,.int .i64 0,.slice none 0 0]from rfl];clear T2 HE HL HT CR b2 HTX hX H5 CW HL5 kb;go_wp2;exact bodyPost_ret (v:=q0m 2 0 (.slice none 0 0)) (by simp[results,Tryz.results85,go_sem,q0m, *]) rfl HX.out
theorem j5U(W wr:World)(B gx:Nat)(s:HSh)(H:q0a)(o:OpD)(hL:LS0 W wr B gx s H)(hs:q0h H)(hoa:q0w o.a)(hob:q0w o.b)(hoc:q0w o.c)(hw:∀z∈H.objs,∀x∈z.field,q0w x)(k:Nat)(hkl:k<H.objs.length)(hk8:k<8)(hlv:H.objs[k].live=true)(hfl:H.objs[k].field.length=3)(ek:q0l H o.a=(k:Int))(hyn:o.c= -1\/(o.c≠ -1/\0<=q0l H o.c))(j:Nat)(hj:j<3)(hbj:o.b=(j:Int)):
 Calls Tryz.prog 85 #[opV o,.pointer (some ⟨gx,0,none⟩)] wr λe w' =>q0N W B gx (x0c H o.a o.b o.c) e w' :=by
 rcases hyn with hc|⟨hc,hzc⟩
 all_goals
  obtain⟨V,hV,BV,sV,F5,F3⟩:=y0M wr o;have LV:LS0 W V B gx s H:=q0y hL BV;have hgx:=hL.x.lt;have hle:=hL.le;have nh:¬q0u s (wr.heap.size+1):=q0D hL.m (.inr (by omega));have hne:wr.heap.size+1≠gx:=by omega
  have HE:Hid (j5P W wr B gx s):=j5R (by omega) nh hne;have HT:=hdx F3;have HL:=hdx LV;have CR:Hid (∀c X,_):=λc X=>z0f c X;unfold opV;obtain⟨k0,k1,k2,k3,k4⟩:=F5.cells;have hz:0<=q0l H o.a:=by omega
  have CS:Hid (∀X:q0b V,_):=λX=>z0m s.v H o.a X.on (q0K (q0c LV.m X.bel)) hs.objs hoa.1 hoa.2;have CN:Hid (∀X:q0b V,∀z,u0k H z->_):=λX z hz=>v0R s.v H z X.on (q0K (q0c LV.m X.bel)) hs.objs hz;have y0:∀X:q0b V,X.on.cell? ⟨gx,0,none⟩=some (.slice s.oa s.os.length s.oc):=λX=>(LV.x.later X.bel).cell 0;have y1:∀X:q0b V,X.on.cell? ⟨gx,1,none⟩=some (.slice s.wa s.wn s.wc):=λX=>(LV.x.later X.bel).cell 1;have y2:∀X:q0b V,X.on.cell? ⟨gx,2,none⟩=some (.slice s.ba s.bn s.bc):=λX=>(LV.x.later X.bel).cell 2;have y3:∀X:q0b V,X.on.cell? ⟨gx,3,none⟩=some (.slice s.sa s.sn s.sc):=λX=>(LV.x.later X.bel).cell 3;have l0:∀X:q0b V,X.on.cell? ⟨wr.heap.size,0,none⟩=some (.int .i64 o.kind):=λX=>(F5.later X.bel).cell 0;have l1:∀X:q0b V,X.on.cell? ⟨wr.heap.size,1,none⟩=some (.int .i64 o.a):=λX=>(F5.later X.bel).cell 1;have l2:∀X:q0b V,X.on.cell? ⟨wr.heap.size,2,none⟩=some (.int .i64 o.b):=λX=>(F5.later X.bel).cell 2;have l3:∀X:q0b V,X.on.cell? ⟨wr.heap.size,3,none⟩=some (.int .i64 o.c):=λX=>(F5.later X.bel).cell 3;have hnel:=q0b.some_ V;have H5:=hdx F5;rw[hsv]at CS CN;have CC:Hid (∀X:q0b V,_):=λX=>z0m s.v H o.c X.on (q0K (q0c LV.m X.bel)) hs.objs hoc.1 hoc.2;rw[hsv]at CC
  have hno:¬(q0l H o.a<0\/(o.c≠ -1/\q0l H o.c<0)):=by
   rintro(h|⟨h,h2⟩)
   ·omega
   ·first|exact h hc|omega
  have hd:decide (q0l H o.a<0)=false:=decide_eq_false (by omega)
  first
   |(have hd3:(o.c !=(-1:Int))=false:=by simp[hc])
   |(have hd2:decide (q0l H o.c<0)=false:=decide_eq_false (by omega);have hd3:(o.c !=(-1:Int))=true:=by simpa using hc)
  have hG0:k<(z0n H o.c).objs.length:=by rw[z1P];exact hkl
  obtain⟨hG1,hG2⟩:=u1B H o.c k hkl hG0;have HSM0:q0h (z0n H o.c):=u0w hs o.c;have HWF0:=j1H hw o.c;have HCG:Hid (∀X,RdH X s.v H->_):=λX hX=>x1L s.v H o.c X hX hs hoc;rw[hsv]at HCG;rw[ek]at CS hd;obtain⟨G,hG⟩:∃G,z0n H o.c=G:=⟨_,rfl⟩;have hGg:(z0n H o.c).objs[((k:Int)).toNat]? =G.objs[k]?:=by rw[hG,Int.toNat_natCast]
  simp only[hG]at hG0 hG1 hG2 HSM0 HWF0 HCG;rw[hlv]at hG1;have hG3:G.objs[k].field.length=3:=by rw[hG2];exact hfl
  have hj3:j<G.objs[k].field.length:=by omega
  obtain⟨o1,ho1⟩:∃o1:q0E,o1={G.objs[k]with field:=G.objs[k].field.set j o.c}:=⟨_,rfl⟩;obtain⟨old,hold⟩:∃z,G.objs[k].field[j]=z:=⟨_,rfl⟩
  have HR:Hid (x0c H o.a o.b o.c=j0h (q0r G k o1) old):=by show _=_;unfold x0c;rw[if_neg hno,if_neg (by omega),ek,hGg,hbj,List.getElem?_eq_getElem hG0];simp only[Int.toNat_natCast,hG];rw[<-ho1,List.getD_eq_getElem?_getD,List.getElem?_eq_getElem hj3,hold];rfl
  have hof:∀x∈o1.field,q0w x:=by
   rw[ho1];intro x hx;rcases List.mem_or_eq_of_mem_set hx with hx|rfl
   ·exact HWF0 _ (List.getElem_mem hG0) x hx
   ·exact hoc
  have HSM:Hid (q0h (q0r G k o1)):=x0W HSM0 k _ (by rw[ho1];simp only[List.length_set];omega);have HWF:Hid (∀z∈(q0r G k o1).objs,∀x∈z.field,q0w x):=j0D HWF0 k _ hof;have HOLD:Hid (q0w old):=by show q0w old;rw[<-hold];exact HWF0 _ (List.getElem_mem hG0) _ (List.getElem_mem hj3)
  have HGO:Hid (G.objs.length<=1048576):=HSM0.objs;have H0:Hid (k<G.objs.length):=hG0;have HG1:Hid (G.objs[k].live=true):=hG1;have HO1:Hid (o1={G.objs[k]with field:=G.objs[k].field.set j o.c}):=ho1;have HG3:Hid (G.objs[k].field.length=3):=hG3
  have HFR:Hid (∀X(s1:HSh),HM X V.heap.size s1 G->∃(hk2:k<s1.os.length)(go gf:Nat),s1.oa=some ⟨go,0,none⟩/\V.heap.size<=go/\go<X.heap.size/\s1.os[k].f=some ⟨gf,0,none⟩/\s1.os[k].n=3/\V.heap.size<=gf/\gf<X.heap.size/\X.cell? ⟨gf,j,none⟩=some (.int .i64 old)/\X.frozen? ⟨gf,j,none⟩=false/\X.cell? ⟨go,k*8,none⟩=some (.bool true)/\X.cell? ⟨go,k*8+6,none⟩=some (.slice (some ⟨gf,0,none⟩) 3 s1.os[k].c)):=by intro X s1 hX;obtain⟨go,e1,e2,e3⟩:=v0E hX k hG0;obtain⟨hk2,e4,e5⟩:=z0o hX k hG0 go e1;obtain⟨gf,f1,f2,f3,f4,f5,f6⟩:=v1o hX k hG0 hk2 j hj3;refine⟨hk2,go,gf,e1,e2,e3,f1,by rw[f2,hG3],f3,f4,by rw[f5,hold],f6,by rw[e4.c0,hG1],?_⟩;rw[e4.c6,f1,f2,hG3]
  have CW:Hid (∀X,_):=λX=>z0Z (j:Int) 0 2 X (by omega) (by omega);have HL5:Hid (∀X,Below V.heap.size V X->X.cell? ⟨wr.heap.size,2,none⟩=some (.int .i64 (j:Int))):=λX hX=>by rw[<-hbj];exact(F5.later hX).cell 2
  have HBJ:Hid (o.b=(j:Int)):=hbj;rw[HR.out];generalize q0l H o.c=zc at*;clear hs hL LV F5 F3 BV HR nh hoa hob hoc k0 k1 k2 k3 k4 CN hno hbj hG hGg ho1 hold hof hG0 hG1 hG2 hG3 hj3 HSM0 HWF0 hw hlv hfl hkl ek hz CR
  first
   |(rw[hc]at hV l3;rw[hc];have HCM:Hid (o.c= -1):=hc)
   |have HCM:Hid (o.c≠ -1):=hc
  clear hc;go_enter Tryz.func85,Tryz.ntmps85;go_wp2;rw[<-hV];clear hV;refine q0j V bl0 (by kernel_rfl) (by kernel_rfl) ?_
  repeat (go_big_quiet_step (first
   |(go_at_call 111;refine(CS.out _).mono ?_;rintro e w2 ⟨rfl,b2⟩;exact⟨rfl,q0b.step _ b2⟩)))
  refine wpQuiet_nil ?_;intro X hXe;have hX:Below V.heap.size V X:=by obtain⟨n,hn⟩:=hXe;rw[hn];exact n.bel
  clear hXe;go_wp2;refine q0j V hX (by kernel_rfl) (by kernel_rfl) ?_
  repeat (go_big_quiet_step (first
   |(go_at_call 111;refine(CC.out _).mono ?_;rintro e w2 ⟨rfl,b2⟩;exact⟨rfl,q0b.step _ b2⟩)))
  refine wpQuiet_nil ?_;clear hX;intro X2 hXe;have hX:Below V.heap.size V X2:=by obtain⟨n,hn⟩:=hXe;rw[hn];exact n.bel
  clear hXe y0 y1 y2 y3 l0 l1 l2 l3 hnel CS CC;have kb:=HL5.out X2 hX;have HTX:Hid (q0k X2 (wr.heap.size+1) (.int .i64 0) (.int .i64 0) (.slice none 0 0)):=HT.out.later hX;go_wp2_with fail
  refine(CW.out _).mono ?_;rintro e w5 ⟨rfl,rfl⟩;have HXX:Hid (∀Y,Below w5.heap.size w5 Y->LS0 W Y B gx s H/\z0d Y wr.heap.size o/\q0k Y (wr.heap.size+1) (.int .i64 0) (.int .i64 0) (.slice none 0 0)):=λY hY=>⟨q0y HL.out (hX.trans (hY.mono hX.size)),H5.out.later (hX.trans (hY.mono hX.size)),HTX.out.later hY⟩;have hXs:=hX.size;clear kb CW HL5 hd hd3;go_wp2;refine q0R 8 (by kernel_rfl) (by kernel_rfl) (RP 6 (λX v=>∃s1:HSh,v=s1.v/\HM X w5.heap.size s1 G) [.pointer (some ⟨gx,0,none⟩),.pointer (some ⟨gx,0,none⟩),.pointer (some ⟨gx,0,none⟩),.agg #[.slice s.oa s.os.length s.oc,.slice s.wa s.wn s.wc,.slice s.ba s.bn s.bc,.slice s.sa s.sn s.sc],.pointer (some ⟨wr.heap.size,3,none⟩),.int .i64 o.c,.nilFunc,.pointer (some ⟨gx,0,none⟩)]) (x1y (λX Y v h hb=>by obtain⟨s1,h1,h2⟩:=h;exact⟨s1,h1,q0c h2 hb⟩)) ?_ ?_
  ·intro i o hi ho a X hX2 hA hdep
   match i,hi,ho with
   |0,_,ho=>
    cases ho
    exact z0p (q0f hA (t:=1) (by kernel_rfl)) ⟨_,rfl,bl0,q0S (by decide) rfl⟩
   |1,_,ho=>
    cases ho
    exact z0p (q0f hA (t:=1) (by kernel_rfl)) ⟨_,rfl,bl0,q0S (by decide) rfl⟩
   |2,_,ho=>
    cases ho
    have g0_:a.eval (.tmp 39)= .pointer (some ⟨gx,0,none⟩):=z0g (hdep ⟨1,.data⟩ (by simp) rfl 39 rfl) (by decide) rfl;exact x1v g0_ ⟨_,rfl,bl0,q0S (by decide) rfl⟩
   |3,_,ho=>
    cases ho
    have g0_:a.eval (.tmp 40)= .pointer (some ⟨gx,0,none⟩):=z0g (hdep ⟨2,.data⟩ (by simp) rfl 40 rfl) (by decide) rfl;exact y0q g0_ (HXX.out X hX2).1.x ⟨_,rfl,bl0,q0S (by decide) rfl⟩
   |4,_,ho=>
    cases ho
    exact y0w 3 (by omega) (q0f hA (t:=2) (by kernel_rfl)) ⟨_,rfl,bl0,q0S (by decide) rfl⟩
   |5,_,ho=>
    cases ho
    have g0_:a.eval (.tmp 42)= .pointer (some ⟨wr.heap.size,3,none⟩):=z0g (hdep ⟨4,.data⟩ (by simp) rfl 42 rfl) (by decide) rfl;exact z0V g0_ ((HXX.out X hX2).2.1.cell 3) ⟨_,rfl,bl0,q0S (by decide) rfl⟩
   |6,_,ho=>
    cases ho
    have g0_:a.eval (.tmp 41)= .agg #[.slice s.oa s.os.length s.oc,.slice s.wa s.wn s.wc,.slice s.ba s.bn s.bc,.slice s.sa s.sn s.sc]:=z0g (hdep ⟨3,.data⟩ (by simp) rfl 41 rfl) (by decide) rfl;have g1_:a.eval (.tmp 43)= .int .i64 o.c:=z0g (hdep ⟨5,.data⟩ (by simp) rfl 43 rfl) (by decide) rfl;exact v2e g0_ g1_ (HCG.out X (q0K (HXX.out X hX2).1.m)) (λe w' ⟨s1,h1,h2,h3⟩=>⟨s1.v,h1,s1.v,rfl,h3,v2i ⟨s1,rfl,z0G h2 hX2.size⟩⟩)
   |7,_,ho=>
    cases ho
    have g0_:a.eval (.tmp 38)= .pointer (some ⟨gx,0,none⟩):=z0g (hdep ⟨0,.data⟩ (by simp) rfl 38 rfl) (by decide) rfl;exact x1v g0_ ⟨_,rfl,bl0,q0S (by decide) rfl⟩
  ·intro o ho a X hX2 hA hdep
   cases ho
   have g0_:a.eval (.tmp 45)= .pointer (some ⟨gx,0,none⟩):=z0g (hdep ⟨7,.data⟩ (by simp) rfl 45 rfl) (by decide) rfl;have g1_:=z4l (hdep ⟨6,.data⟩ (by simp) rfl 44 rfl);obtain⟨s1,hv1,M1⟩:=g1_;rw[hsv]at hv1;refine v0t g0_ hv1 (HXX.out X hX2).1.x ?_;obtain⟨us,hus,rfl⟩:=q0F hA [38,39,40,41,42,43,44,45] (by kernel_rfl);have L2:LS0 W (q0p X gx (.slice s1.oa s1.os.length s1.oc) (.slice s1.wa s1.wn s1.wc) (.slice s1.ba s1.bn s1.bc) (.slice s1.sa s1.sn s1.sc)) B gx s1 G:=j1L (HXX.out _ bl0).1 hX2 M1 (z0H _ _) (λg hg=>by simp[Value.ownBlock]at hg);have M2:HM (q0p X gx (.slice s1.oa s1.os.length s1.oc) (.slice s1.wa s1.wn s1.wc) (.slice s1.ba s1.bn s1.bc) (.slice s1.sa s1.sn s1.sc)) w5.heap.size s1 G:=y0l M1 (by rw[z0U];exact Nat.le_refl _) (λg hg=>q0T _ _ _ _ _ _ g (λe=>by have:=(z0X M1 hg).1;omega));have T2:q0k (q0p X gx (.slice s1.oa s1.os.length s1.oc) (.slice s1.wa s1.wn s1.wc) (.slice s1.ba s1.bn s1.bc) (.slice s1.sa s1.sn s1.sc)) (wr.heap.size+1) (.int .i64 0) (.int .i64 0) (.slice none 0 0):=(HXX.out X hX2).2.2.same (q0T _ _ _ _ _ _ _ hne);have K2:z0d (q0p X gx (.slice s1.oa s1.os.length s1.oc) (.slice s1.wa s1.wn s1.wc) (.slice s1.ba s1.bn s1.bc) (.slice s1.sa s1.sn s1.sc)) wr.heap.size o:=(HXX.out X hX2).2.1.same (q0T _ _ _ _ _ _ _ (by omega));have hYs:X.heap.size=(q0p X gx (.slice s1.oa s1.os.length s1.oc) (.slice s1.wa s1.wn s1.wc) (.slice s1.ba s1.bn s1.bc) (.slice s1.sa s1.sn s1.sc)).heap.size:=(z0U _ _ _ _ _ _).symm;have hws:=hX2.size;simp only[List.mapIdx_cons,List.mapIdx_nil,Nat.reduceAdd,List.contains_cons,List.contains_nil,Nat.reduceBEq,Bool.or_false,Bool.or_true,if_true,if_false,Bool.false_eq_true];clear M1 HXX HCG HTX hdep hA hus hX hX2 g0_ hv1 H5;generalize q0p X gx (.slice s1.oa s1.os.length s1.oc) (.slice s1.wa s1.wn s1.wc) (.slice s1.ba s1.bn s1.bc) (.slice s1.sa s1.sn s1.sc)=Y at*;obtain⟨hk2,go,gf,e1,e2,e3,f1,f2,f3,f4,f5,f6,f7,f8⟩:=HFR.out Y s1 (z0G M2 hXs);clear HFR;have hlen:s1.os.length<=1048576:=by rw[L2.m.lo];exact HGO.out
   have CV:Hid (∀_:Unit,_):=λ(_:Unit)=>q1c k s1.os.length s1.oc Y go s1.wa s1.wn s1.wc s1.ba s1.bn s1.bc s1.sa s1.sn s1.sc f7 hlen hk8 hk2;obtain⟨x0,x1,x2,x3⟩:=L2.x.cells;rw[e1]at x0;have HK2:Hid (k<s1.os.length):=hk2;have hsn:¬q0u s1 (wr.heap.size+1):=q0D M2 (.inl (by omega));have HSN:Hid (¬q0u s1 (wr.heap.size+1)):=hsn;have hgg:¬gf=wr.heap.size+1:=by omega
   have hgg2:¬wr.heap.size+1=gf:=by omega
   have HL2:Hid (LS0 W Y B gx s1 G):=L2;have HT2:Hid (q0k Y (wr.heap.size+1) (.int .i64 0) (.int .i64 0) (.slice none 0 0)):=T2;have HK5:Hid (z0d Y wr.heap.size o):=K2;have HF1:Hid (s1.os[k].f=some ⟨gf,0,none⟩):=f1;have HYL:Hid (∀Z,Below Y.heap.size Y Z->Z.cell? ⟨gf,j,none⟩=some (.int .i64 old)/\Z.frozen? ⟨gf,j,none⟩=false/\Z.cell? ⟨go,k*8+6,none⟩=some (.slice (some ⟨gf,0,none⟩) 3 s1.os[k].c)/\z0d Z wr.heap.size o):=λZ hZ=>⟨(hZ.cell (p:=⟨gf,j,none⟩) f4).trans f5,(hZ.frozen (p:=⟨gf,j,none⟩) f4).trans f6,(hZ.cell (p:=⟨go,k*8+6,none⟩) e3).trans f8,K2.later hZ⟩;clear L2 M2 T2 K2 hk2 e1 f1 f2 hsn hlen f7 f5 f6 f8;generalize s1.os[k].c=fcc at*;go_wp2_with fail
   refine(CV.out ()).mono ?_;rintro e w6 ⟨rfl,b6⟩;clear CV x0 x1 x2 x3;have q1_:∀Z:q0b w6,Z.on.cell? ⟨gf,j,none⟩=some (.int .i64 old):=λZ=>(HYL.out _ (b6.trans (Z.bel.mono b6.size))).1;have q2_:∀Z:q0b w6,Z.on.cell? ⟨go,k*8+6,none⟩=some (.slice (some ⟨gf,0,none⟩) 3 fcc):=λZ=>(HYL.out _ (b6.trans (Z.bel.mono b6.size))).2.2.1;have q3_:∀Z:q0b w6,Z.on.cell? ⟨wr.heap.size,2,none⟩=some (.int .i64 (j:Int)):=λZ=>by rw[<-HBJ.out];exact(HYL.out _ (b6.trans (Z.bel.mono b6.size))).2.2.2.cell 2
   have hnel:=q0b.some_ w6;have hj0:(0:Int)<=(j:Int):=by omega
   have hj1:(j:Int)<3:=by omega
   have HB6:Hid (Below Y.heap.size Y w6):=b6;clear b6;go_wp2;refine q0j w6 bl0 (by kernel_rfl) (by kernel_rfl) ?_;repeat (go_big_quiet_step (fail))
   refine wpQuiet_nil ?_;intro X3 hXe;have hX3:Below w6.heap.size w6 X3:=by obtain⟨n,hn⟩:=hXe;rw[hn];exact n.bel
   clear hXe q1_ q2_ q3_ hnel;have HB7:Hid (Below Y.heap.size Y X3):=HB6.out.trans (hX3.mono HB6.out.size);clear hX3 HB6;go_wp2;refine q0R 9 (by kernel_rfl) (by kernel_rfl) (RP 1000 (noP) [.pointer (some ⟨go,k*8,none⟩),.pointer (some ⟨go,k*8,none⟩),.pointer (some ⟨go,k*8+6,none⟩),.slice (some ⟨gf,0,none⟩) 3 fcc,.pointer (some ⟨wr.heap.size,2,none⟩),.int .i64 (j:Int),.pointer (some ⟨wr.heap.size,3,none⟩),.int .i64 o.c,.pointer (some ⟨gf,j,none⟩)]) (x1y u1g) ?_ ?_
   ·intro i o hi ho a X hX hA hdep
    match i,hi,ho with
    |0,_,ho=>
     cases ho
     exact z0p (q0f hA (t:=6) (by kernel_rfl)) ⟨_,rfl,bl0,q0S (by decide) rfl⟩
    |1,_,ho=>
     cases ho
     have g0_:a.eval (.tmp 59)= .pointer (some ⟨go,k*8,none⟩):=z0g (hdep ⟨0,.data⟩ (by simp) rfl 59 rfl) (by decide) rfl;exact x1v g0_ ⟨_,rfl,bl0,q0S (by decide) rfl⟩
    |2,_,ho=>
     cases ho
     have g0_:a.eval (.tmp 60)= .pointer (some ⟨go,k*8,none⟩):=z0g (hdep ⟨1,.data⟩ (by simp) rfl 60 rfl) (by decide) rfl;exact u1I g0_ ⟨_,rfl,bl0,q0S (by decide) rfl⟩
    |3,_,ho=>
     cases ho
     have g0_:a.eval (.tmp 61)= .pointer (some ⟨go,k*8+6,none⟩):=z0g (hdep ⟨2,.data⟩ (by simp) rfl 61 rfl) (by decide) rfl;exact x0E g0_ (HYL.out X (HB7.out.trans (hX.mono HB7.out.size))).2.2.1 ⟨_,rfl,bl0,q0S (by decide) rfl⟩
    |4,_,ho=>
     cases ho
     exact y0w 2 (by omega) (q0f hA (t:=2) (by kernel_rfl)) ⟨_,rfl,bl0,q0S (by decide) rfl⟩
    |5,_,ho=>
     cases ho
     have g0_:a.eval (.tmp 63)= .pointer (some ⟨wr.heap.size,2,none⟩):=z0g (hdep ⟨4,.data⟩ (by simp) rfl 63 rfl) (by decide) rfl;exact z0V g0_ (by rw[<-HBJ.out];exact(HYL.out X (HB7.out.trans (hX.mono HB7.out.size))).2.2.2.cell 2:X.cell? ⟨wr.heap.size,2,none⟩=some (.int .i64 (j:Int))) ⟨_,rfl,bl0,q0S (by decide) rfl⟩
    |6,_,ho=>
     cases ho
     exact y0w 3 (by omega) (q0f hA (t:=2) (by kernel_rfl)) ⟨_,rfl,bl0,q0S (by decide) rfl⟩
    |7,_,ho=>
     cases ho
     have g0_:a.eval (.tmp 65)= .pointer (some ⟨wr.heap.size,3,none⟩):=z0g (hdep ⟨6,.data⟩ (by simp) rfl 65 rfl) (by decide) rfl;exact z0V g0_ ((HYL.out X (HB7.out.trans (hX.mono HB7.out.size))).2.2.2.cell 3) ⟨_,rfl,bl0,q0S (by decide) rfl⟩
    |8,_,ho=>
     cases ho
     have g0_:a.eval (.tmp 62)= .slice (some ⟨gf,0,none⟩) 3 fcc:=z0g (hdep ⟨3,.data⟩ (by simp) rfl 62 rfl) (by decide) rfl;have g1_:a.eval (.tmp 64)= .int .i64 (j:Int):=z0g (hdep ⟨5,.data⟩ (by simp) rfl 64 rfl) (by decide) rfl;exact y0p g0_ g1_ hj ⟨_,rfl,bl0,q0S (by decide) rfl⟩
   ·intro o ho a X hX hA hdep
    cases ho
    have g0_:a.eval (.tmp 67)= .pointer (some ⟨gf,j,none⟩):=z0g (hdep ⟨8,.data⟩ (by simp) rfl 67 rfl) (by decide) rfl;have g1_:a.eval (.tmp 66)= .int .i64 o.c:=z0g (hdep ⟨7,.data⟩ (by simp) rfl 66 rfl) (by decide) rfl;refine q1e g0_ g1_ (HYL.out X (HB7.out.trans (hX.mono HB7.out.size))).1 (HYL.out X (HB7.out.trans (hX.mono HB7.out.size))).2.1 ?_;obtain⟨us,hus,rfl⟩:=q0F hA [59,60,61,62,63,64,65,66,67] (by kernel_rfl);simp only[List.mapIdx_cons,List.mapIdx_nil,Nat.reduceAdd,List.contains_cons,List.contains_nil,Nat.reduceBEq,Bool.or_false,Bool.or_true,if_true,if_false,Bool.false_eq_true];have hB8:=HB7.out.trans (hX.mono HB7.out.size);obtain⟨w1,hw1⟩:∃w1,w1=X.setCell ⟨gf,j,none⟩ (.int .i64 o.c):=⟨_,rfl⟩;have HL9:Hid (LS0 W w1 B gx s1 (q0r G k o1)):=by rw[hw1];exact v3d (q0y HL2.out hB8) k H0.out HK2.out gf HF1.out j o.c o1 HO1.out
    have s1w:w1.heap.size=X.heap.size:=by rw[hw1];simp[World.setCell]
    have hws8:=hB8.size
    have HT9:Hid (q0k w1 (wr.heap.size+1) (.int .i64 0) (.int .i64 0) (.slice none 0 0)):=by rw[hw1];exact(HT2.out.later hB8).same (heap_setCell_other _ _ _ _ (by exact hgg2))
    have CLS:Hid (∀_:Unit,_):=λ(_:Unit)=>y1M W w1 B gx s1 (q0r G k o1) old HL9.out HSM.out HWF.out HOLD.out;rw[<-hw1];clear hw1 hB8 hX hdep hA hus g0_ g1_ HYL HB7 HL2 HT2 HK5 HF1 HSM HWF HOLD HO1 HG1 HG3 HK2 HGO H0 HBJ HL HT;go_wp2_with fail
    refine(CLS.out ()).mono ?_;rintro e w2 ⟨s2,fa,fc,rfl,L2,hS2,hF2,hfr,hsz⟩;have T2:q0k w2 (wr.heap.size+1) (.int .i64 0) (.int .i64 0) (.slice none 0 0):=HT9.out.same (hfr _ (by omega) hne);obtain⟨q0,q1,q2⟩:=T2.cells;obtain⟨z0,z1,z2⟩:=T2.frees;have hsn:¬q0u s2 (wr.heap.size+1):=λhh=>by have:=hS2 _ hh;omega
    have hfn:(Value.slice fa (z0F (q0r G k o1) [old]).2.length fc).ownBlock≠some (wr.heap.size+1):=λe=>by have:=hF2 _ e;omega
    have HX:Hid (q0N W B gx (j0h (q0r G k o1) old) (.returned (q0m 0 0 (.slice fa (z0F (q0r G k o1) [old]).2.length fc))) (q0g w2 (wr.heap.size+1) (.int .i64 0) (.int .i64 0) (.slice fa (z0F (q0r G k o1) [old]).2.length fc))):=v0g (w:=wr) (wr.heap.size+1) 0 0 L2 (by omega) hsn hne hfn (.int .i64 0) (.int .i64 0) (.slice fa (z0F (q0r G k o1) [old]).2.length fc);rw[show q0m 0 0 (.slice fa (z0F (q0r G k o1) [old]).2.length fc)= .agg #[.int .i64 0,.int .i64 0,.slice fa (z0F (q0r G k o1) [old]).2.length fc]from rfl];clear hsn hfn T2 HT9 HL9 CLS L2 hS2 hF2 hfr HSN HCM HE;unfold q0g at HX;go_wp2;exact bodyPost_ret (v:=q0m 0 0 (.slice fa (z0F (q0r G k o1) [old]).2.length fc)) (by simp[results,Tryz.results85,go_sem,q0m, *]) rfl HX.out
end
section
open Go.RowKit
variable{s:HSh}{H:q0a}
theorem q0d.set3{X:World}{g:Nat}{x0 x1 x2 x3:Value}(h:q0d X g x0 x1 x2 x3)(u:Value):q0d (X.setCell ⟨g,3,none⟩ u) g x0 x1 x2 u:=heap_setCell_same X g 3 _ _ u h
theorem v3e{W wr w1:World}{B gx:Nat}{vq vf:Value}{todo fr:List Int}(h:LS W wr B gx s H vq vf todo fr)(hb:Below B W w1)(hsz:wr.heap.size<=w1.heap.size)(oth:∀i,i<wr.heap.size->(Value.slice s.sa s.sn s.sc).ownBlock≠some i->w1.heap[i]? =wr.heap[i]?)(sa:Option Addr)(sn sc:Nat)(Z:List (List UInt8))(hn:sn=Z.length)(hz:z0E w1 B (.slice sa sn sc) Z)(hl:∀g,(Value.slice sa sn sc).ownBlock=some g->(Value.slice s.sa s.sn s.sc).ownBlock=some g\/wr.heap.size<=g):LS W (w1.setCell ⟨gx,3,none⟩ (.slice sa sn sc)) B gx {s with sa:=sa,sn:=sn,sc:=sc} {H with sites:=Z} vq vf todo fr:=by
 have old:∀g,y2d s g->(Value.slice s.sa s.sn s.sc).ownBlock≠some g:=λg hg e=>by
  obtain⟨x,hx,e2⟩:=z0L e;exact u3j h.m hg x hx e2
 have new:∀x,sa=some x->(∃y,s.sa=some y/\y.block=x.block)\/wr.heap.size<=x.block:=λx hx=>by
  rcases hl _ (x0b hx)with e|e
  ·obtain⟨y,hy,e2⟩:=z0L e;exact .inl ⟨y,hy,e2⟩
  ·exact .inr e
 have bk:∀x,s.sa=some x->q0u s x.block:=λx hx=> .inr (.inr (.inr (.inl ⟨x,hx,rfl⟩)));have hx1:w1.heap[gx]? =wr.heap[gx]?:=oth gx h.x.lt (λe=>by obtain⟨x,hx,e2⟩:=z0L e;exact h.sx (by rw[<-e2];exact bk x hx));have x1:=h.x.same hx1;have oth2:∀i,i≠gx->(w1.setCell ⟨gx,3,none⟩ (.slice sa sn sc)).heap[i]? =w1.heap[i]?:=λi hi=>heap_setCell_other _ _ _ _ (by exact hi)
 have m1:HM w1 B {s with sa:=sa,sn:=sn,sc:=sc} {H with sites:=Z}:=j4c h.m hsz (λg hg=>oth g (z0X h.m hg.has).2 (old g hg)) sa sn sc Z hn hz (λx hx hh=>by
  rcases new x hx with⟨y,hy,e⟩|e
  ·exact u3j h.m hh y hy e
  ·have:=(z0X h.m hh.has).2;omega)
 have sx' :¬q0u {s with sa:=sa,sn:=sn,sc:=sc} gx:=λhh=>by
  rcases j1r hh with h1|⟨x,hx,e⟩
  ·exact h.sx h1.has
  ·rcases new x hx with⟨y,hy,e2⟩|e2
   ·exact h.sx (by rw[<-e,<-e2];exact bk y hy)
   ·have:=h.x.lt;omega
 have apart:∀{g:Nat},g<wr.heap.size->¬q0u s g->¬q0u {s with sa:=sa,sn:=sn,sc:=sc} g:=λhg hn hh=>by
  rcases j1r hh with h1|⟨x,hx,e⟩
  ·exact hn h1.has
  ·rcases new x hx with⟨y,hy,e2⟩|e2
   ·exact hn (by rw[<-e,<-e2];exact bk y hy)
   ·omega
 have nb:∀g,¬q0u s g->(Value.slice s.sa s.sn s.sc).ownBlock≠some g:=λg hn e=>by obtain⟨x,hx,e2⟩:=z0L e;exact hn (by rw[<-e2];exact bk x hx)
 refine⟨hb.setCell h.gB _,h.hB,?_,x1.set3 _,h.gB,sx',?_,?_,λg hg=>apart (v1s h.q g hg).2 (h.sq g hg),λg hg=>apart (q0n h.f g hg).2 (h.sf g hg),h.qf⟩
 ·exact y0l m1 (by simp[World.setCell]) (λg hg=>oth2 g (λe=>sx' (by rw[<-e];exact hg)))
 ·exact q1f h.q (λg hg=>(oth2 g (h.qx g hg)).trans (oth g (v1s h.q g hg).2 (nb g (h.sq g hg))))
 ·exact q0v h.f (λg hg=>(oth2 g (h.fx g hg)).trans (oth g (q0n h.f g hg).2 (nb g (h.sf g hg))))
theorem q5B{w:World}{B:Nat}(h:HM w B s H)(k:Nat)(hk:k<H.objs.length)(g:Nat)(hg:s.oa=some ⟨g,0,none⟩)(z:Bool):HM (w.setCell ⟨g,k*8,none⟩ (.bool z)) B s (q0r H k {H.objs[k]with live:=z}):=
 j1I h k hk g hg 0 (.bool z) (by omega) _ rfl (λf ho=>
  ⟨World.cell?_setCell_same w _ _ ho.c0,by rw[q0q _ _ _ _ _ (by omega)];exact ho.c1,by rw[q0q _ _ _ _ _ (by omega)];exact ho.c2,by rw[q0q _ _ _ _ _ (by omega)];exact ho.c3,by rw[q0q _ _ _ _ _ (by omega)];exact ho.c4,
   by rw[q0q _ _ _ _ _ (by omega)];exact ho.c5,by rw[q0q _ _ _ _ _ (by omega)];exact ho.c6,by rw[q0q _ _ _ _ _ (by omega)];exact ho.c7⟩)
theorem j4d{w:World}{B:Nat}(h:HM w B s H)(k:Nat)(hk:k<H.objs.length)(g:Nat)(hg:s.oa=some ⟨g,0,none⟩)(z:Int):HM (w.setCell ⟨g,k*8+2,none⟩ (.int .i64 z)) B s (q0r H k {H.objs[k]with site:=z}):=
 j1I h k hk g hg 2 (.int .i64 z) (by omega) _ rfl (λf ho=>
  ⟨by rw[q0q _ _ _ _ _ (by omega)];exact ho.c0,by rw[q0q _ _ _ _ _ (by omega)];exact ho.c1,World.cell?_setCell_same w _ _ ho.c2,by rw[q0q _ _ _ _ _ (by omega)];exact ho.c3,by rw[q0q _ _ _ _ _ (by omega)];exact ho.c4,
   by rw[q0q _ _ _ _ _ (by omega)];exact ho.c5,by rw[q0q _ _ _ _ _ (by omega)];exact ho.c6,by rw[q0q _ _ _ _ _ (by omega)];exact ho.c7⟩)
theorem z2H(H:q0a)(k:Nat)(o:q0E):(q0r H k o).objs.length=H.objs.length:=by simp[q0r]
theorem z2G{k:Nat}(o:q0E)(h:k<(q0r H k o).objs.length):(q0r H k o).objs[k]=o:=by simp[q0r]
theorem z2I(H:q0a)(k:Nat)(o p:q0E):q0r (q0r H k o) k p=q0r H k p:=by simp[q0r]
theorem u3o{W w1 wr:World}{B gx:Nat}(h:LS0 W wr B gx s H)(b1:Below wr.heap.size wr w1)(k:Nat)(hk:k<H.objs.length)(go:Nat)(hgo:s.oa=some ⟨go,0,none⟩)(gen m:Int)(f:Option Addr)(c:Nat)(hf:q0i w1 wr.heap.size (.slice f 3 c) [-1,-1,-1]):
 LS W (((((z0r w1 go (k*8) (q0J gen) (.slice f 3 c)).setCell ⟨go,k*8,none⟩ (.bool true)).setCell ⟨go,k*8+2,none⟩ (.int .i64 m)).setCell ⟨go,k*8+3,none⟩ (.int .i64 1)).setCell ⟨go,k*8+5,none⟩ (.int .i64 1)) B gx {s with os:=s.os.set k ⟨f,3,c⟩} (q0r H k (y0X gen m)) (.slice none 0 0) (.slice none 0 0) [] []:=by
 have h0:=y1X h b1 k hk go hgo (q0J gen) f c hf;have l0:k<(q0r H k (q0J gen)).objs.length:=by rw[z2H];exact hk
 have hg0:({s with os:=s.os.set k ⟨f,3,c⟩}:HSh).oa=some ⟨go,0,none⟩:=hgo;have h1:=j0i h0 go (k*8) (.bool true) hg0 (q5B h0.m k l0 go hg0 true);rw[z2G _ l0,z2I]at h1;have l1:k<(q0r H k {q0J gen with live:=true}).objs.length:=by rw[z2H];exact hk
 have h2:=j0i h1 go (k*8+2) (.int .i64 m) hg0 (j4d h1.m k l1 go hg0 m);rw[z2G _ l1,z2I]at h2;have l2:k<(q0r H k {q0J gen with live:=true,site:=m}).objs.length:=by rw[z2H];exact hk
 have h3:=j0i h2 go (k*8+3) (.int .i64 1) hg0 (hm_holds h2.m k l2 go hg0 1);rw[z2G _ l2,z2I]at h3;have l3:k<(q0r H k {q0J gen with live:=true,site:=m,holds:=1}).objs.length:=by rw[z2H];exact hk
 have h4:=j0i h3 go (k*8+5) (.int .i64 1) hg0 (z1h h3.m k l3 go hg0 1);rw[z2G _ l3]at h4
 have e:({(q0r H k {q0J gen with live:=true,site:=m,holds:=1})with objs:=(q0r H k {q0J gen with live:=true,site:=m,holds:=1}).objs.set k {({q0J gen with live:=true,site:=m,holds:=1}:q0E)with count:=1}}:q0a)=q0r H k (y0X gen m):=by show q0r (q0r H k _) k _=_;rw[z2I];rfl
 rw[e]at h4;exact h4
theorem v4j(W wr:World)(B gx:Nat)(s:HSh)(H:q0a)(o:OpD)(hL:LS0 W wr B gx s H)(hs:q0h H)(hsl:o.site.length<=1048576)(hl:o.site.length<1\/8<o.site.length):
 Calls Tryz.prog 83 #[opV o,.pointer (some ⟨gx,0,none⟩)] wr λe w' =>q0N W B gx (x0o H o.site) e w' :=by
 obtain⟨V,hV,BV,sV,F5,F3⟩:=y0M wr o;have LV:LS0 W V B gx s H:=q0y hL BV;have hgx:=hL.x.lt;have hle:=hL.le;have nh:¬q0u s (wr.heap.size+1):=q0D hL.m (.inr (by omega));have hne:wr.heap.size+1≠gx:=by omega
 have HE:Hid (j5P W wr B gx s):=j5R (by omega) nh hne;have HT:=hdx F3;have HL:=hdx LV;have CR:Hid (∀c X,_):=λc X=>z0f c X;unfold opV;obtain⟨k0,k1,k2,k3,k4⟩:=F5.cells;have CW:Hid (∀X,_):=λX=>y0U ((txt o.site).size:Int) 1 8 X (by rw[q0L];omega);have HR:Hid (x0o H o.site=(H,⟨2,0,[]⟩)):=by show _=_;unfold x0o;rw[if_pos hl];rfl
 rw[HR.out];clear hs hL LV F5 F3 BV HR nh hl hsl;go_enter Tryz.func83,Tryz.ntmps83;go_wp2_with fail
 rw[<-hV];clear hV;refine(CW.out _).mono ?_;rintro e w5 ⟨rfl,rfl⟩;go_wp2_with fail
 refine(CR.out 2 _).mono ?_;rintro e w2 ⟨rfl,b2⟩;have T2:=HT.out.later b2;obtain⟨q0,q1,q2⟩:=T2.cells;obtain⟨z0,z1,z2⟩:=T2.frees;have HX:Hid _:=HE.out w2 _ 2 0 (.int .i64 2) (.int .i64 0) (.slice none 0 0) (q0y HL.out b2);rw[show q0m 2 0 (.slice none 0 0)= .agg #[.int .i64 2,.int .i64 0,.slice none 0 0]from rfl];clear T2 HE HL HT CR b2 k0 k1 k2 k3 k4 CW;go_wp2;exact bodyPost_ret (v:=q0m 2 0 (.slice none 0 0)) (by simp[results,Tryz.results83,go_sem,q0m, *]) rfl HX.out
theorem v4k(W wr:World)(B gx:Nat)(s:HSh)(H:q0a)(o:OpD)(hL:LS0 W wr B gx s H)(hs:q0h H)(hsl:o.site.length<=1048576)(hl:1<=o.site.length/\o.site.length<=8)(hfz:v0x H<0):
 Calls Tryz.prog 83 #[opV o,.pointer (some ⟨gx,0,none⟩)] wr λe w' =>q0N W B gx (x0o H o.site) e w' :=by
 obtain⟨V,hV,BV,sV,F5,F3⟩:=y0M wr o;have LV:LS0 W V B gx s H:=q0y hL BV;have hgx:=hL.x.lt;have hle:=hL.le;have nh:¬q0u s (wr.heap.size+1):=q0D hL.m (.inr (by omega));have hne:wr.heap.size+1≠gx:=by omega
 have HE:Hid (j5P W wr B gx s):=j5R (by omega) nh hne;have HT:=hdx F3;have HL:=hdx LV;have CR:Hid (∀c X,_):=λc X=>z0f c X;unfold opV;obtain⟨k0,k1,k2,k3,k4⟩:=F5.cells;have CW:Hid (∀X,_):=λX=>z0Z ((txt o.site).size:Int) 1 8 X (by rw[q0L];omega) (by rw[q0L];omega);have CFR:Hid (∀_:Unit,_):=λ(_:Unit)=>u0Z s.v H V (q0K LV.m) hs;rw[hsv]at CFR;obtain⟨x0,x1,x2,x3⟩:=LV.x.cells;have HR:Hid (x0o H o.site=(H,⟨3,0,[]⟩)):=by show _=_;unfold x0o;rw[if_neg (by omega),if_pos hfz];rfl
 rw[HR.out];generalize v0x H=fz at*;clear hs hL LV F5 F3 BV HR nh hl hsl;go_enter Tryz.func83,Tryz.ntmps83;go_wp2_with fail
 rw[<-hV];clear hV;refine(CW.out _).mono ?_;rintro e w5 ⟨rfl,rfl⟩;go_wp2_with fail
 refine(CFR.out ()).mono ?_;rintro e w3 ⟨rfl,b3⟩;go_wp2_with fail
 refine(CR.out 3 _).mono ?_;rintro e w2 ⟨rfl,b2⟩;have T2:=(HT.out.later b3).later b2;obtain⟨q0,q1,q2⟩:=T2.cells;obtain⟨z0,z1,z2⟩:=T2.frees;have HX:Hid _:=HE.out w2 _ 3 0 (.int .i64 3) (.int .i64 0) (.slice none 0 0) (q0y (q0y HL.out b3) b2);rw[show q0m 3 0 (.slice none 0 0)= .agg #[.int .i64 3,.int .i64 0,.slice none 0 0]from rfl];clear T2 HE HL HT CR b2 k0 k1 k2 k3 k4 CW CFR x0 x1 x2 x3 b3;go_wp2;exact bodyPost_ret (v:=q0m 3 0 (.slice none 0 0)) (by simp[results,Tryz.results83,go_sem,q0m, *]) rfl HX.out
theorem v4l(W wr:World)(B gx:Nat)(s:HSh)(H:q0a)(o:OpD)(hL:LS0 W wr B gx s H)(hs:q0h H)(hsl:o.site.length<=1048576)(hl:1<=o.site.length/\o.site.length<=8)(k:Nat)(hkl:k<H.objs.length)(hk8:k<8)(ekf:v0x H=(k:Int))(h6:H.sites.length<=6)(hgen:0<=H.objs[k].gen/\H.objs[k].gen<999)(hsz:y0b H o.site<0)(hfull:H.sites.length=6):
 Calls Tryz.prog 83 #[opV o,.pointer (some ⟨gx,0,none⟩)] wr λe w' =>q0N W B gx (x0o H o.site) e w' :=by
 obtain⟨V,hV,BV,sV,F5,F3⟩:=y0M wr o;have LV:LS0 W V B gx s H:=q0y hL BV;have hgx:=hL.x.lt;have hle:=hL.le;have nh:¬q0u s (wr.heap.size+1):=q0D hL.m (.inr (by omega));have hne:wr.heap.size+1≠gx:=by omega
 have HE:Hid (j5P W wr B gx s):=j5R (by omega) nh hne;have HT:=hdx F3;have HL:=hdx LV;have CR:Hid (∀c X,_):=λc X=>z0f c X;unfold opV;obtain⟨k0,k1,k2,k3,k4⟩:=F5.cells;have CW:Hid (∀X,_):=λX=>z0Z ((txt o.site).size:Int) 1 8 X (by rw[q0L];omega) (by rw[q0L];omega);have CFR:Hid (∀_:Unit,_):=λ(_:Unit)=>u0Z s.v H V (q0K LV.m) hs;rw[hsv]at CFR;obtain⟨x0,x1,x2,x3⟩:=LV.x.cells;have HSN:Hid (s.sn=H.sites.length):=LV.m.ls;have HRS:Hid (∀X,Below V.heap.size V X->RdS X s.sa H.sites):=λX hX=>(q1t (q0c LV.m hX)).2.2.2;have HQ:Hid (∀X,Below V.heap.size V X->X.cell? ⟨gx,3,none⟩=some (.slice s.sa s.sn s.sc)/\X.cell? ⟨wr.heap.size,4,none⟩=some (.string (txt o.site))):=λX hX=>⟨(LV.x.later hX).cell 3,(F5.later hX).cell 4⟩;have CI0:Hid (∀X,Below V.heap.size V X->_):=λX hX=>v1N X s.sa s.sc H.sites o.site (HRS.out X hX) (by have:=hs.sites;omega);rw[<-HSN.out]at CI0;have hsn6:s.sn<=6:=by rw[HSN.out];exact h6
 have HR:Hid (x0o H o.site=(H,⟨6,0,[]⟩)):=by show _=_;unfold x0o;rw[if_neg (by omega),if_neg (by omega),if_pos ⟨hsz,by omega⟩];rfl
 rw[HR.out];rw[ekf]at CFR;have hq6:s.sn=6:=by rw[HSN.out];exact hfull
 rw[hq6]at HQ CI0 x3;rw[hq6]at CFR;unfold y0b at hsz;generalize y0e o.site H.sites 0=z at*;clear hs hL LV F5 F3 BV HR nh hl hsl hgen ekf hfull k0 k1 k2 k3;go_enter Tryz.func83,Tryz.ntmps83;go_wp2_with fail
 rw[<-hV];clear hV;refine(CW.out _).mono ?_;rintro e w5 ⟨rfl,rfl⟩;go_wp2_with fail
 refine(CFR.out ()).mono ?_;rintro e w3 ⟨rfl,b3⟩;clear x0 x1 x2 x3 CFR CW;have CI:Hid (∀X:q0b w3,_):=λX=>CI0.out X.on (b3.trans (X.bel.mono b3.size));have y1:∀X:q0b w3,X.on.cell? ⟨gx,3,none⟩=some (.slice s.sa 6 s.sc):=λX=>(HQ.out X.on (b3.trans (X.bel.mono b3.size))).1;have y2:∀X:q0b w3,X.on.cell? ⟨wr.heap.size,4,none⟩=some (.string (txt o.site)):=λX=>(HQ.out X.on (b3.trans (X.bel.mono b3.size))).2;have hnel:=q0b.some_ w3;go_wp2;refine q0j w3 bl0 (by kernel_rfl) (by kernel_rfl) ?_
 repeat (go_big_quiet_step (first
  |(go_at_call 108;refine(CI.out _).mono ?_;rintro e w2 ⟨rfl,hw2⟩;subst hw2;exact⟨rfl,q0b.step _ bl0⟩)))
 refine wpQuiet_nil ?_;intro X hXe;have hX3:Below w3.heap.size w3 X:=by obtain⟨n,hn⟩:=hXe;rw[hn];exact n.bel
 have hX:=b3.trans (hX3.mono b3.size);clear hXe y1 y2 hnel CI CI0 hX3 b3;have HTX:Hid (q0k X (wr.heap.size+1) (.int .i64 0) (.int .i64 0) (.slice none 0 0)):=HT.out.later hX;obtain⟨xq,-⟩:=HQ.out X hX;go_wp2_with fail
 refine(CR.out 6 _).mono ?_;rintro e w2 ⟨rfl,b2⟩;have T2:=HTX.out.later b2;obtain⟨q0,q1,q2⟩:=T2.cells;obtain⟨z0,z1,z2⟩:=T2.frees;have HX:Hid _:=HE.out w2 _ 6 0 (.int .i64 6) (.int .i64 0) (.slice none 0 0) (q0y (q0y HL.out hX) b2);rw[show q0m 6 0 (.slice none 0 0)= .agg #[.int .i64 6,.int .i64 0,.slice none 0 0]from rfl];clear T2 HE HL HT CR b2 HTX hX HQ HRS HSN xq k4;go_wp2;exact bodyPost_ret (v:=q0m 6 0 (.slice none 0 0)) (by simp[results,Tryz.results83,go_sem,q0m, *]) rfl HX.out
theorem v4n(W wr:World)(B gx:Nat)(s:HSh)(H:q0a)(o:OpD)(hL:LS0 W wr B gx s H)(hs:q0h H)(hsl:o.site.length<=1048576)(hl:1<=o.site.length/\o.site.length<=8)(k:Nat)(hkl:k<H.objs.length)(hk8:k<8)(ekf:v0x H=(k:Int))(h6:H.sites.length<=6)(hgen:0<=H.objs[k].gen/\H.objs[k].gen<999)(hsz:0<=y0b H o.site):
 Calls Tryz.prog 83 #[opV o,.pointer (some ⟨gx,0,none⟩)] wr λe w' =>q0N W B gx (x0o H o.site) e w' :=by
 obtain⟨V,hV,BV,sV,F5,F3⟩:=y0M wr o;have LV:LS0 W V B gx s H:=q0y hL BV;have hgx:=hL.x.lt;have hle:=hL.le;have nh:¬q0u s (wr.heap.size+1):=q0D hL.m (.inr (by omega));have hne:wr.heap.size+1≠gx:=by omega
 have HE:Hid (j5P W wr B gx s):=j5R (by omega) nh hne;have HT:=hdx F3;have HL:=hdx LV;have CR:Hid (∀c X,_):=λc X=>z0f c X;unfold opV;obtain⟨k0,k1,k2,k3,k4⟩:=F5.cells;have CW:Hid (∀X,_):=λX=>z0Z ((txt o.site).size:Int) 1 8 X (by rw[q0L];omega) (by rw[q0L];omega);have CFR:Hid (∀_:Unit,_):=λ(_:Unit)=>u0Z s.v H V (q0K LV.m) hs;rw[hsv]at CFR;obtain⟨x0,x1,x2,x3⟩:=LV.x.cells;have HSN:Hid (s.sn=H.sites.length):=LV.m.ls;have HRS:Hid (∀X,Below V.heap.size V X->RdS X s.sa H.sites):=λX hX=>(q1t (q0c LV.m hX)).2.2.2;have HQ:Hid (∀X,Below V.heap.size V X->X.cell? ⟨gx,3,none⟩=some (.slice s.sa s.sn s.sc)/\X.cell? ⟨wr.heap.size,4,none⟩=some (.string (txt o.site))):=λX hX=>⟨(LV.x.later hX).cell 3,(F5.later hX).cell 4⟩;have CI0:Hid (∀X,Below V.heap.size V X->_):=λX hX=>v1N X s.sa s.sc H.sites o.site (HRS.out X hX) (by have:=hs.sites;omega);rw[<-HSN.out]at CI0;have hsn6:s.sn<=6:=by rw[HSN.out];exact h6
 obtain⟨go,hgo,hgB,hgl⟩:=v0E LV.m k hkl;have hgn:go<wr.heap.size:=(z0X hL.m (.inl ⟨_,hgo,rfl⟩)).2;have hg3:¬go=wr.heap.size+1:=by omega
 have hg4:¬wr.heap.size+1=go:=by omega
 have hget:H.objs[(v0x H).toNat]? =some H.objs[k]:=by rw[ekf,Int.toNat_natCast,List.getElem?_eq_getElem hkl]
 obtain⟨gen,hge⟩:∃gen,H.objs[k].gen=gen:=⟨_,rfl⟩;have CE:Hid (∀X,_):=λX=>j0z (gen+1) X;have CID:Hid (∀X,_):=λX=>q1u (k:Int) (gen+1) X;obtain⟨m,hm⟩:∃m,y0b H o.site=m:=⟨_,rfl⟩
 have HR:Hid (x0o H o.site=(q0r H k (y0X (gen+1) m),⟨0,idZ (k:Int) (gen+1),[]⟩)):=by show _=_;unfold x0o;rw[if_neg (by omega),if_neg (by omega),if_neg (by omega),hget];simp only[ekf,Int.toNat_natCast,hge,q1U,j2N];rw[if_neg (by omega),if_neg (by omega),hm]
 have HGO:=hdx hgo;have HOL:Hid (H.objs.length<=1048576/\k<H.objs.length):=⟨hs.objs,hkl⟩;have HK2:Hid (k<H.objs.length):=hkl;have HNH:Hid (¬q0u s (wr.heap.size+1)):=nh
 have HGN:Hid (∀X,HM X B s H->X.cell? ⟨go,k*8+1,none⟩=some (.int .i64 gen)):=λX hX=>by
  have e:=(z0o hX k hkl go hgo).2.1.c1;rw[hge]at e;exact e
 rw[HR.out];rw[ekf]at CFR;rw[hge]at hgen;unfold y0b at hsz hm;rw[hm]at CI0 hsz;clear hs hL LV F5 F3 BV HR nh hl hsl ekf k0 k1 k2 k3 hget hge hgo hkl hm CR h6;go_enter Tryz.func83,Tryz.ntmps83;go_wp2_with fail
 rw[<-hV];clear hV;refine(CW.out _).mono ?_;rintro e w5 ⟨rfl,rfl⟩;go_wp2_with fail
 refine(CFR.out ()).mono ?_;rintro e w3 ⟨rfl,b3⟩;clear x0 x1 x2 x3 CFR CW;have CI:Hid (∀X:q0b w3,_):=λX=>CI0.out X.on (b3.trans (X.bel.mono b3.size));have y1:∀X:q0b w3,X.on.cell? ⟨gx,3,none⟩=some (.slice s.sa s.sn s.sc):=λX=>(HQ.out X.on (b3.trans (X.bel.mono b3.size))).1;have y2:∀X:q0b w3,X.on.cell? ⟨wr.heap.size,4,none⟩=some (.string (txt o.site)):=λX=>(HQ.out X.on (b3.trans (X.bel.mono b3.size))).2;have hnel:=q0b.some_ w3;go_wp2;refine q0j w3 bl0 (by kernel_rfl) (by kernel_rfl) ?_
 repeat (go_big_quiet_step (first
  |(go_at_call 108;refine(CI.out _).mono ?_;rintro e w2 ⟨rfl,hw2⟩;subst hw2;exact⟨rfl,q0b.step _ bl0⟩)))
 refine wpQuiet_nil ?_;intro X hXe;have hX3:Below w3.heap.size w3 X:=by obtain⟨n,hn⟩:=hXe;rw[hn];exact n.bel
 have hX:=b3.trans (hX3.mono b3.size);clear hXe y1 y2 hnel CI CI0 hX3 b3;have HTY:Hid (q0k X (wr.heap.size+1) (.int .i64 0) (.int .i64 0) (.slice none 0 0)):=HT.out.later hX;have HLY:Hid (LS0 W X B gx s H):=q0y HL.out hX;clear HQ HRS HSN hX HL HT k4;obtain⟨x0,x1,x2,x3⟩:=HLY.out.x.cells;rw[HGO.out]at x0;have hn1:s.os.length<=1048576:=by rw[HLY.out.m.lo];exact HOL.out.1
 have hlen:k<s.os.length:=by rw[HLY.out.m.lo];exact HOL.out.2
 have CV:Hid (∀X:World,_):=λX=>y0i X (some ⟨go,0,none⟩) s.os.length s.oc (.slice s.wa s.wn s.wc) (.slice s.ba s.bn s.bc) (.slice s.sa s.sn s.sc) hn1 go 0 (λ_=>rfl) ⟨_,_,_,_,_,_,_,_,_,rfl,rfl,rfl⟩;obtain⟨xx,hx,hxs⟩:=v1l go 0 s.os.length k hk8;rw[hx]at CV;have hA:z0N go 0 s.os.length k=some ⟨go,k*8,none⟩:=by unfold z0N;rw[if_pos hlen,Nat.zero_add]
 rw[hA]at hxs;clear hx hA;have hi0:(k:Int)<8:=by omega
 go_wp2_with fail
 refine(CV.out _).mono ?_;rintro e w6 ⟨rfl,b6⟩;clear x0 x1 x2 x3 CV;have g1:w6.cell? ⟨go,k*8+1,none⟩=some (.int .i64 gen):=HGN.out w6 (q0y HLY.out b6).m;go_wp2_with fail
 refine(CE.out _).mono ?_;rintro e w7 ⟨f7,rfl,o7,b7⟩;obtain⟨a7,c7,hv7,-⟩:=z0e o7;rw[show([-1,-1,-1]:List Int).length=3 from rfl]at hv7;subst hv7;have HLE:Hid _:=u3o (q0y HLY.out b6) b7 k HK2.out go HGO.out (gen+1) m a7 c7 o7;obtain⟨_,ob7,fz7⟩:=z0o (q0c (q0y HLY.out b6).m b7) k HK2.out go HGO.out;obtain⟨v0,e0⟩:=q0H ob7 0 (by omega);obtain⟨v1,e1⟩:=q0H ob7 1 (by omega);obtain⟨v2,e2⟩:=q0H ob7 2 (by omega);obtain⟨v3,e3⟩:=q0H ob7 3 (by omega);obtain⟨v4,e4⟩:=q0H ob7 4 (by omega);obtain⟨v5,e5⟩:=q0H ob7 5 (by omega);obtain⟨v6,e6⟩:=q0H ob7 6 (by omega);obtain⟨v7,e7⟩:=q0H ob7 7 (by omega);have n0:=fz7 0 (by omega);have n1:=fz7 1 (by omega);have n2:=fz7 2 (by omega);have n3:=fz7 3 (by omega);have n4:=fz7 4 (by omega);have n5:=fz7 5 (by omega);have n6:=fz7 6 (by omega);have n7:=fz7 7 (by omega);rw[Nat.add_zero]at e0 n0;have T7:=HTY.out.later (b6.trans (b7.mono b6.size));obtain⟨Yw,hYw⟩:∃Yw,Yw=((((z0r w7 go (k*8) (q0J (gen+1)) (.slice a7 3 c7)).setCell ⟨go,k*8,none⟩ (.bool true)).setCell ⟨go,k*8+2,none⟩ (.int .i64 m)).setCell ⟨go,k*8+3,none⟩ (.int .i64 1)).setCell ⟨go,k*8+5,none⟩ (.int .i64 1):=⟨_,rfl⟩
 have TY:q0k Yw (wr.heap.size+1) (.int .i64 0) (.int .i64 0) (.slice none 0 0):=by rw[hYw];unfold z0r;refine T7.same ?_;iterate 12 rw[heap_setCell_other _ _ _ _ (by exact hg4)]
 rw[<-hYw]at HLE;have hs6:=b6.size
 have HNB:Hid (¬q0u ({s with os:=s.os.set k ⟨a7,3,c7⟩}:HSh) (wr.heap.size+1)):=λhh=>by
  rcases j1Y hh with h1|⟨x,hx,e⟩
  ·exact HNH.out h1
  ·have h2:=(q0n o7 _ (x0b hx)).1;have h3:=HTY.out.lt;rw[e]at h2;omega
 have HX:Hid (q0N W B gx (q0r H k (y0X (gen+1) m),⟨0,idZ (k:Int) (gen+1),[]⟩) (.returned (q0m 0 (idZ (k:Int) (gen+1)) (.slice none 0 0))) (q0g Yw (wr.heap.size+1) (.int .i64 0) (.int .i64 (idZ (k:Int) (gen+1))) (.slice none 0 0))):=v0g (w:=wr) (wr.heap.size+1) 0 _ HLE.out (by omega) HNB.out hne (by simp[Value.ownBlock]) _ _ _;obtain⟨q0,q1,q2⟩:=TY.cells;obtain⟨z0,z1,z2⟩:=TY.frees;clear b7 b6 ob7 fz7 T7 g1 o7 hxs CE TY HLE HNB;unfold z0r at hYw;simp only[q0J]at hYw;unfold y0J;simp only[q0J];go_wp2_with fail
 rw[<-hYw];clear hYw e0 e1 e2 e3 e4 e5 e6 e7 n0 n1 n2 n3 n4 n5 n6 n7;refine(CID.out _).mono ?_;rintro e w8 ⟨rfl,rfl⟩;unfold q0g at HX;go_wp2;exact bodyPost_ret (v:=q0m 0 (idZ (k:Int) (gen+1)) (.slice none 0 0)) (by simp[results,Tryz.results83,go_sem,q0m, *]) rfl HX.out
structure NJ(W wr:World)(B:Nat)(s:HSh)(H:q0a)(dn:Nat->Prop)(X:World):Prop where
 bel:Below B W X
 ge:wr.heap.size<=X.heap.size
 oth:∀i,i<wr.heap.size->(Value.slice s.sa s.sn s.sc).ownBlock≠some i->X.heap[i]? =wr.heap[i]?
 own:¬dn 9->z0E X B (.slice s.sa s.sn s.sc) H.sites
theorem NJ.later{W wr X Y:World}{B:Nat}{dn:Nat->Prop}{i:Nat}(hB:B<=wr.heap.size)(h:NJ W wr B s H dn X)(hb:Below X.heap.size X Y):NJ W wr B s H (λj=>dn j\/j=i) Y:=
 ⟨h.bel.trans (hb.mono (Nat.le_trans hB h.ge)),Nat.le_trans h.ge hb.size,λj hj hn=>(hb.block j (Nat.lt_of_lt_of_le hj h.ge)).trans (h.oth j hj hn),λhn=>x0V (h.own (λh2=>hn (.inl h2))) hb⟩
def RSn(wr:World)(B gx n:Nat)(s:HSh)(H:q0a)(x:List UInt8):Nat->World->Value->Prop
 |0,_,v=>v= .pointer (some ⟨gx,0,none⟩)
 |1,_,v=>v= .pointer (some ⟨gx,0,none⟩)
 |2,_,v=>v= .pointer (some ⟨gx,0,none⟩)
 |3,_,v=>v= .pointer (some ⟨gx,3,none⟩)
 |4,_,v=>v= .slice s.sa s.sn s.sc
 |5,_,v=>v= .pointer (some ⟨n,4,none⟩)
 |6,_,v=>v= .string (txt x)
 |7,_,v=>v= .string (txt x)
 |8,X,v=>∃g,v= .slice (some ⟨g,0,none⟩) 1 1/\wr.heap.size<=g/\X.heap[g]? =some (.cells #[.string (txt x)] 9 (0,0))
 |9,X,v=>z0E X B v (H.sites++[x])/\(v.ownBlock=(Value.slice s.sa s.sn s.sc).ownBlock\/∃g,v.ownBlock=some g/\wr.heap.size<=g)
 |10,_,v=>v= .pointer (some ⟨gx,0,none⟩)
 |11,_,v=>v= .pointer (some ⟨gx,3,none⟩)
 |_,_,_=>True
theorem v3M{wr:World}{B gx n:Nat}{x:List UInt8}(i:Nat)(X Y:World)(v:Value)(h:RSn wr B gx n s H x i X v)(hb:Below X.heap.size X Y):RSn wr B gx n s H x i Y v:=by
 match i,h with
 |0,h=>exact h
 |1,h=>exact h
 |2,h=>exact h
 |3,h=>exact h
 |4,h=>exact h
 |5,h=>exact h
 |6,h=>exact h
 |7,h=>exact h
 |8,⟨g,h1,h2,h3⟩=>exact⟨g,h1,h2,(hb.block g (Array.getElem?_eq_some_iff.1 h3).1).trans h3⟩
 |9,⟨h1,h2⟩=>exact⟨x0V h1 hb,h2⟩
 |10,h=>exact h
 |11,h=>exact h
 |n+12,_=>exact trivial
theorem z5l{wr:World}{B gx n:Nat}{x:List UInt8}(i:Nat)(X Y:World)(v:Value)(h9:i≠9)(h:RSn wr B gx n s H x i X v)(hs:∀g,g<X.heap.size->wr.heap.size<=g->Y.heap[g]? =X.heap[g]?):RSn wr B gx n s H x i Y v:=by
 match i,h with
 |0,h=>exact h
 |1,h=>exact h
 |2,h=>exact h
 |3,h=>exact h
 |4,h=>exact h
 |5,h=>exact h
 |6,h=>exact h
 |7,h=>exact h
 |8,⟨g,h1,h2,h3⟩=>exact⟨g,h1,h2,(hs g (Array.getElem?_eq_some_iff.1 h3).1 h2).trans h3⟩
 |9,_=>exact absurd rfl h9
 |10,h=>exact h
 |11,h=>exact h
 |n+12,_=>exact trivial
theorem v4m(W wr:World)(B gx:Nat)(s:HSh)(H:q0a)(o:OpD)(hL:LS0 W wr B gx s H)(hs:q0h H)(hsl:o.site.length<=1048576)(hl:1<=o.site.length/\o.site.length<=8)(k:Nat)(hkl:k<H.objs.length)(hk8:k<8)(ekf:v0x H=(k:Int))(h6:H.sites.length<=6)(hgen:0<=H.objs[k].gen/\H.objs[k].gen<999)(hsz:y0b H o.site<0)(hfull:H.sites.length<6):
 Calls Tryz.prog 83 #[opV o,.pointer (some ⟨gx,0,none⟩)] wr λe w' =>q0N W B gx (x0o H o.site) e w' :=by
 obtain⟨V,hV,BV,sV,F5,F3⟩:=y0M wr o;have LV:LS0 W V B gx s H:=q0y hL BV;have hgx:=hL.x.lt;have hle:=hL.le;have nh:¬q0u s (wr.heap.size+1):=q0D hL.m (.inr (by omega));have hne:wr.heap.size+1≠gx:=by omega
 have HE:Hid (j5P W wr B gx s):=j5R (by omega) nh hne;have HT:=hdx F3;have HL:=hdx LV;have CR:Hid (∀c X,_):=λc X=>z0f c X;unfold opV;obtain⟨k0,k1,k2,k3,k4⟩:=F5.cells;have CW:Hid (∀X,_):=λX=>z0Z ((txt o.site).size:Int) 1 8 X (by rw[q0L];omega) (by rw[q0L];omega);have CFR:Hid (∀_:Unit,_):=λ(_:Unit)=>u0Z s.v H V (q0K LV.m) hs;rw[hsv]at CFR;obtain⟨x0,x1,x2,x3⟩:=LV.x.cells;have HSN:Hid (s.sn=H.sites.length):=LV.m.ls;have HRS:Hid (∀X,Below V.heap.size V X->RdS X s.sa H.sites):=λX hX=>(q1t (q0c LV.m hX)).2.2.2;have HQ:Hid (∀X,Below V.heap.size V X->X.cell? ⟨gx,3,none⟩=some (.slice s.sa s.sn s.sc)/\X.cell? ⟨wr.heap.size,4,none⟩=some (.string (txt o.site))):=λX hX=>⟨(LV.x.later hX).cell 3,(F5.later hX).cell 4⟩;have CI0:Hid (∀X,Below V.heap.size V X->_):=λX hX=>v1N X s.sa s.sc H.sites o.site (HRS.out X hX) (by have:=hs.sites;omega);rw[<-HSN.out]at CI0;have hsn6:s.sn<=6:=by rw[HSN.out];exact h6
 obtain⟨go,hgo,hgB,hgl⟩:=v0E LV.m k hkl;have hgn:go<wr.heap.size:=(z0X hL.m (.inl ⟨_,hgo,rfl⟩)).2;have hg3:¬go=wr.heap.size+1:=by omega
 have hg4:¬wr.heap.size+1=go:=by omega
 have hget:H.objs[(v0x H).toNat]? =some H.objs[k]:=by rw[ekf,Int.toNat_natCast,List.getElem?_eq_getElem hkl]
 obtain⟨gen,hge⟩:∃gen,H.objs[k].gen=gen:=⟨_,rfl⟩;have CE:Hid (∀X,_):=λX=>j0z (gen+1) X;have CID:Hid (∀X,_):=λX=>q1u (k:Int) (gen+1) X
 have HR:Hid (x0o H o.site=(q0r {H with sites:=H.sites++[o.site]} k (y0X (gen+1) (s.sn:Int)),⟨0,idZ (k:Int) (gen+1),[]⟩)):=by show _=_;unfold x0o;rw[if_neg (by omega),if_neg (by omega),if_neg (by omega),hget];simp only[ekf,Int.toNat_natCast,hge,q1U,j2N];rw[if_pos hsz,if_pos hsz,HSN.out]
 have HGO0:=hdx hgo;have HOL:Hid (H.objs.length<=1048576/\k<H.objs.length):=⟨hs.objs,hkl⟩;have HK2:Hid (k<H.objs.length):=hkl;have HNH0:Hid (¬q0u s (wr.heap.size+1)):=nh;have HNX:Hid (¬q0u s gx):=hL.sx;have HN0:Hid (¬q0u s wr.heap.size):=q0D hL.m (.inr nl0);have HGEN:Hid (H.objs[k].gen=gen):=hge;have hq6:s.sn<6:=by rw[HSN.out];exact hfull
 have hq7:((s.sn:Int)==6)=false:=by rw[beq_eq_false_iff_ne];omega
 have CCL:Hid (∀X:World,_):=λX=>q2P (txt o.site) X (by rw[q0L];omega);have HLEB:Hid (B<=wr.heap.size+2):=Nat.le_trans hle (by omega);rw[HR.out];rw[ekf]at CFR;rw[hge]at hgen;unfold y0b at hsz;generalize y0e o.site H.sites 0=z at*;clear hs hL LV F5 F3 BV HR nh hl hsl ekf k0 k1 k2 k3 hget hge hgo hkl CR h6 hsn6;go_enter Tryz.func83,Tryz.ntmps83;go_wp2_with fail
 rw[<-hV];clear hV;refine(CW.out _).mono ?_;rintro e w5 ⟨rfl,rfl⟩;go_wp2_with fail
 refine(CFR.out ()).mono ?_;rintro e w3 ⟨rfl,b3⟩;clear x0 x1 x2 x3 CFR CW;have CI:Hid (∀X:q0b w3,_):=λX=>CI0.out X.on (b3.trans (X.bel.mono b3.size));have y1:∀X:q0b w3,X.on.cell? ⟨gx,3,none⟩=some (.slice s.sa s.sn s.sc):=λX=>(HQ.out X.on (b3.trans (X.bel.mono b3.size))).1;have y2:∀X:q0b w3,X.on.cell? ⟨wr.heap.size,4,none⟩=some (.string (txt o.site)):=λX=>(HQ.out X.on (b3.trans (X.bel.mono b3.size))).2;have hnel:=q0b.some_ w3;go_wp2;refine q0j w3 bl0 (by kernel_rfl) (by kernel_rfl) ?_
 repeat (go_big_quiet_step (first
  |(go_at_call 108;refine(CI.out _).mono ?_;rintro e w2 ⟨rfl,hw2⟩;subst hw2;exact⟨rfl,q0b.step _ bl0⟩)))
 refine wpQuiet_nil ?_;intro X hXe;have hX3:Below w3.heap.size w3 X:=by obtain⟨n,hn⟩:=hXe;rw[hn];exact n.bel
 have hX:=b3.trans (hX3.mono b3.size);clear hXe y1 y2 hnel CI CI0 hX3 b3;have HTX:Hid (q0k X (wr.heap.size+1) (.int .i64 0) (.int .i64 0) (.slice none 0 0)):=HT.out.later hX;have HL6:Hid (LS0 W X B gx s H):=q0y HL.out hX;obtain⟨xq,xo⟩:=HQ.out X hX;have HK5:Hid (X.cell? ⟨wr.heap.size,4,none⟩=some (.string (txt o.site))):=xo;have hXs:=hX.size;have HBX:Hid (B<=X.heap.size):=by have:=HLEB.out;show _<=_;omega
 clear HQ HRS hX HL HT k4 HLEB;have HLEB:Hid (B<=X.heap.size):=HBX.out;clear HBX;go_wp2;clear xq xo;have hsb:∀i,(Value.slice s.sa s.sn s.sc).ownBlock=some i->q0u s i:=λi hi=>by obtain⟨y,hy,e⟩:=z0L hi;exact .inr (.inr (.inr (.inl ⟨y,hy,e⟩)))
 have HGXQ:Hid (∀dn Y,NJ W X B s H dn Y->q0d Y gx (.slice s.oa s.os.length s.oc) (.slice s.wa s.wn s.wc) (.slice s.ba s.bn s.bc) (.slice s.sa s.sn s.sc)):=λdn Y hJ=>HL6.out.x.same (hJ.oth gx HL6.out.x.lt (λe=>HNX.out (hsb _ e)));have HOPQ:Hid (∀dn Y,NJ W X B s H dn Y->Y.cell? ⟨wr.heap.size,4,none⟩=some (.string (txt o.site))):=λdn Y hJ=>(World.cell?_of_block (a:=⟨wr.heap.size,4,none⟩) (hJ.oth wr.heap.size (by omega) (λe=>HN0.out (hsb _ e)))).trans HK5.out;refine x0u 12 (by kernel_rfl) (by kernel_rfl) (NJ W X B s H) (RSn X B gx wr.heap.size s H o.site) (λ_ _ _ _=>True) ⟨HL6.out.bel.drew,Nat.le_refl _,λ_ _ _=>rfl,λ_=>HL6.out.m.st⟩ ?_ ?_
 ·intro i o_ hi ho a Y dn hJ hA hbn hnot hdep
  match i,hi,ho with
  |0,_,ho=>
   cases ho
   exact z0p (q0f hA (t:=1) (by kernel_rfl)) ⟨_,rfl,hJ.later HLEB.out bl0,rfl,λq hq _ t ht=>⟨hbn.yields q hq t ht,trivial,trivial⟩⟩
  |1,_,ho=>
   cases ho
   exact z0p (q0f hA (t:=1) (by kernel_rfl)) ⟨_,rfl,hJ.later HLEB.out bl0,rfl,λq hq _ t ht=>⟨hbn.yields q hq t ht,trivial,trivial⟩⟩
  |2,_,ho=>
   cases ho
   have g1_:a.eval (.tmp 43)= .pointer (some ⟨gx,0,none⟩):=hbn.yields 1 (hdep ⟨1,.data⟩ (by simp) rfl) 43 rfl;exact x1v g1_ ⟨_,rfl,hJ.later HLEB.out bl0,rfl,λq hq _ t ht=>⟨hbn.yields q hq t ht,trivial,trivial⟩⟩
  |3,_,ho=>
   cases ho
   have g2_:a.eval (.tmp 44)= .pointer (some ⟨gx,0,none⟩):=hbn.yields 2 (hdep ⟨2,.data⟩ (by simp) rfl) 44 rfl;exact v0f 3 (by omega) g2_ ⟨_,rfl,hJ.later HLEB.out bl0,rfl,λq hq _ t ht=>⟨hbn.yields q hq t ht,trivial,trivial⟩⟩
  |4,_,ho=>
   cases ho
   have g3_:a.eval (.tmp 45)= .pointer (some ⟨gx,3,none⟩):=hbn.yields 3 (hdep ⟨3,.data⟩ (by simp) rfl) 45 rfl;exact u2E g3_ ((HGXQ.out _ _ hJ).cell 3) ⟨_,rfl,hJ.later HLEB.out bl0,rfl,λq hq _ t ht=>⟨hbn.yields q hq t ht,trivial,trivial⟩⟩
  |5,_,ho=>
   cases ho
   exact y0w 4 (by omega) (q0f hA (t:=2) (by kernel_rfl)) ⟨_,rfl,hJ.later HLEB.out bl0,rfl,λq hq _ t ht=>⟨hbn.yields q hq t ht,trivial,trivial⟩⟩
  |6,_,ho=>
   cases ho
   have g5_:a.eval (.tmp 47)= .pointer (some ⟨wr.heap.size,4,none⟩):=hbn.yields 5 (hdep ⟨5,.data⟩ (by simp) rfl) 47 rfl;exact v4v g5_ (HOPQ.out _ _ hJ) ⟨_,rfl,hJ.later HLEB.out bl0,rfl,λq hq _ t ht=>⟨hbn.yields q hq t ht,trivial,trivial⟩⟩
  |7,_,ho=>
   cases ho
   have g6_:a.eval (.tmp 48)= .string (txt o.site):=hbn.yields 6 (hdep ⟨6,.data⟩ (by simp) rfl) 48 rfl;exact j4Q g6_ (CCL.out Y) (λe w' ⟨h1,h2⟩=>⟨_,h1,_,rfl,hJ.later HLEB.out h2,rfl,λq hq _ t ht=>⟨v3M q _ _ _ (hbn.yields q hq t ht) h2,trivial,trivial⟩⟩)
  |8,_,ho=>
   cases ho
   have g7_:a.eval (.tmp 49)= .string (txt o.site):=hbn.yields 7 (hdep ⟨7,.data⟩ (by simp) rfl) 49 rfl;have bX:Below Y.heap.size Y (Y.alloc (.cells #[.string (txt o.site)] 9)):=bl1 _;exact x5u g7_ ⟨_,rfl,hJ.later HLEB.out bX,⟨Y.heap.size,rfl,hJ.ge,heap_alloc_new Y _⟩,λq hq _ t ht=>⟨v3M q _ _ _ (hbn.yields q hq t ht) bX,trivial,trivial⟩⟩
  |9,_,ho=>
   cases ho
   have g4_:a.eval (.tmp 46)= .slice s.sa s.sn s.sc:=hbn.yields 4 (hdep ⟨4,.data⟩ (by simp) rfl) 46 rfl;obtain⟨q8,e2,hq8,hg8⟩:=hbn.yields 8 (hdep ⟨8,.data⟩ (by simp) rfl) 50 rfl;have hown:=hJ.own hnot;have hge:=hJ.ge;have hlt9:∀g,(Value.slice s.sa s.sn s.sc).ownBlock=some g->g<X.heap.size:=λg hg=>(z0X HL6.out.m (hsb g hg)).2;refine u2b _ _ rfl B _ _ g4_ hown ⟨q8,0,none⟩ o.site e2 (by simp[World.cell?,hg8]) (by have:=HSN.out;omega) (by have:=HLEB.out;omega) ?_;intro v' X' hO hsz2 hoth hat hbel;refine⟨_,rfl,⟨hbel B W hJ.bel nl0,Nat.le_trans hge hsz2,λj hj hn=>(hoth j (by omega) hn).trans (hJ.oth j hj hn),λh=>absurd (.inr rfl) h⟩,⟨hO,?_⟩,λq hq hne t ht=>⟨z5l q _ _ _ hne (hbn.yields q hq t ht) (λg hg1 hg2=>hoth g hg1 (λe=>by have:=hlt9 g e;omega)),trivial,trivial⟩⟩;rcases hat with e|e
   ·exact .inl e
   ·exact .inr ⟨_,e,hge⟩
  |10,_,ho=>
   cases ho
   have g0_:a.eval (.tmp 42)= .pointer (some ⟨gx,0,none⟩):=hbn.yields 0 (hdep ⟨0,.data⟩ (by simp) rfl) 42 rfl;exact x1v g0_ ⟨_,rfl,hJ.later HLEB.out bl0,rfl,λq hq _ t ht=>⟨hbn.yields q hq t ht,trivial,trivial⟩⟩
  |11,_,ho=>
   cases ho
   have g10_:a.eval (.tmp 52)= .pointer (some ⟨gx,0,none⟩):=hbn.yields 10 (hdep ⟨10,.data⟩ (by simp) rfl) 52 rfl;exact v0f 3 (by omega) g10_ ⟨_,rfl,hJ.later HLEB.out bl0,rfl,λq hq _ t ht=>⟨hbn.yields q hq t ht,trivial,trivial⟩⟩
 ·intro o_ ho a Y dn hJ hA hbn hdn
  cases ho
  obtain⟨hO,hat⟩:=hbn.yields 9 (hdn 9 (by omega)) 51 rfl;have g11_:a.eval (.tmp 53)= .pointer (some ⟨gx,3,none⟩):=hbn.yields 11 (hdn 11 (by omega)) 53 rfl;obtain⟨sa2,sc2,e2,-⟩:=j0t hO;rw[e2]at hO hat;have FX:=HGXQ.out _ _ hJ;refine v4w g11_ e2 (FX.cell 3) (FX.frozen 3) ?_
  have HLN:Hid _:=v3e HL6.out hJ.bel hJ.ge hJ.oth sa2 (H.sites++[o.site]).length sc2 (H.sites++[o.site]) rfl hO (λg hg=>by
   rcases hat with e|⟨g2,e,h2⟩
   ·exact .inl (by rw[<-e];exact hg)
   ·rw[e]at hg;injection hg with hg;subst hg;exact .inr h2)
  have HNH:Hid (¬q0u ({s with sa:=sa2,sn:=(H.sites++[o.site]).length,sc:=sc2}:HSh) (wr.heap.size+1)):=λhh=>by
   rcases j1r hh with h1|⟨x,hx,e⟩
   ·exact HNH0.out h1.has
   ·rcases hat with e3|⟨g2,e3,h2⟩
    ·exact HNH0.out (by rw[<-e];exact hsb _ (by rw[<-e3];exact x0b hx))
    ·rw[x0b hx]at e3;injection e3 with e3;omega
  have HTY:Hid (q0k (Y.setCell ⟨gx,3,none⟩ (.slice sa2 (H.sites++[o.site]).length sc2)) (wr.heap.size+1) (.int .i64 0) (.int .i64 0) (.slice none 0 0)):=(HTX.out.same (hJ.oth _ HTX.out.lt (λe=>HNH0.out (hsb _ e)))).same (heap_setCell_other _ _ _ _ (by exact hne));obtain⟨us,hus,rfl⟩:=q0F hA [42,43,44,45,46,47,48,49,50,51,52,53] (by kernel_rfl);clear hbn hdn hA hus g11_ e2 hO hat hJ FX HGXQ HOPQ hsb CCL HLEB HTX HL6 HK5 HN0 HNX HNH0;simp only[List.mapIdx_cons,List.mapIdx_nil,Nat.reduceAdd,List.contains_cons,List.contains_nil,Nat.reduceBEq,Bool.or_false,Bool.or_true,if_true,if_false,Bool.false_eq_true];generalize Y.setCell ⟨gx,3,none⟩ (.slice sa2 (H.sites++[o.site]).length sc2)=Y at*;generalize (H.sites++[o.site]).length=sn2 at*;have HGO:Hid (({s with sa:=sa2,sn:=sn2,sc:=sc2}:HSh).oa=some ⟨go,0,none⟩):=HGO0.out;obtain⟨s1,hs1⟩:∃s1:HSh,s1={s with sa:=sa2,sn:=sn2,sc:=sc2}:=⟨_,rfl⟩;rw[<-hs1]at HLN HNH HGO;have HLY:Hid (LS W Y B gx s1 {H with sites:=H.sites++[o.site]} (.slice none 0 0) (.slice none 0 0) [] []):=HLN.out
  have HGN:Hid (∀X,HM X B s1 {H with sites:=H.sites++[o.site]}->X.cell? ⟨go,k*8+1,none⟩=some (.int .i64 gen)):=λX hX=>by
   have e:X.cell? ⟨go,k*8+1,none⟩=some (.int .i64 (H.objs[k]'(HK2.out)).gen):=(z0o hX k HK2.out go HGO.out).2.1.c1;exact e.trans (congrArg (λz=>some (Value.int .i64 z)) HGEN.out)
  have hsm:0<=(s.sn:Int):=by omega
  obtain⟨m,hm⟩:∃m,(s.sn:Int)=m:=⟨_,rfl⟩;have HM_:Hid ((s.sn:Int)=m):=hm;clear hs1 HLN hm HSN HGO0;obtain⟨x0,x1,x2,x3⟩:=HLY.out.x.cells;rw[HGO.out]at x0;have hn1:s1.os.length<=1048576:=by rw[HLY.out.m.lo];exact HOL.out.1
  have hlen:k<s1.os.length:=by rw[HLY.out.m.lo];exact HOL.out.2
  have CV:Hid (∀X:World,_):=λX=>y0i X (some ⟨go,0,none⟩) s1.os.length s1.oc (.slice s1.wa s1.wn s1.wc) (.slice s1.ba s1.bn s1.bc) (.slice s1.sa s1.sn s1.sc) hn1 go 0 (λ_=>rfl) ⟨_,_,_,_,_,_,_,_,_,rfl,rfl,rfl⟩;obtain⟨xx,hx,hxs⟩:=v1l go 0 s1.os.length k hk8;rw[hx]at CV;have hA:z0N go 0 s1.os.length k=some ⟨go,k*8,none⟩:=by unfold z0N;rw[if_pos hlen,Nat.zero_add]
  rw[hA]at hxs;clear hx hA;have hi0:(k:Int)<8:=by omega
  go_wp2_with fail
  refine(CV.out _).mono ?_;rintro e w6 ⟨rfl,b6⟩;clear x0 x1 x2 x3 CV;have g1:w6.cell? ⟨go,k*8+1,none⟩=some (.int .i64 gen):=HGN.out w6 (q0y HLY.out b6).m;go_wp2_with fail
  refine(CE.out _).mono ?_;rintro e w7 ⟨f7,rfl,o7,b7⟩;obtain⟨a7,c7,hv7,-⟩:=z0e o7;rw[show([-1,-1,-1]:List Int).length=3 from rfl]at hv7;subst hv7;have HLE:Hid _:=u3o (q0y HLY.out b6) b7 k HK2.out go HGO.out (gen+1) (s.sn:Int) a7 c7 o7;obtain⟨_,ob7,fz7⟩:=z0o (q0c (q0y HLY.out b6).m b7) k HK2.out go HGO.out;obtain⟨v0,e0⟩:=q0H ob7 0 (by omega);obtain⟨v1,e1⟩:=q0H ob7 1 (by omega);obtain⟨v2,e2⟩:=q0H ob7 2 (by omega);obtain⟨v3,e3⟩:=q0H ob7 3 (by omega);obtain⟨v4,e4⟩:=q0H ob7 4 (by omega);obtain⟨v5,e5⟩:=q0H ob7 5 (by omega);obtain⟨v6,e6⟩:=q0H ob7 6 (by omega);obtain⟨v7,e7⟩:=q0H ob7 7 (by omega);have n0:=fz7 0 (by omega);have n1:=fz7 1 (by omega);have n2:=fz7 2 (by omega);have n3:=fz7 3 (by omega);have n4:=fz7 4 (by omega);have n5:=fz7 5 (by omega);have n6:=fz7 6 (by omega);have n7:=fz7 7 (by omega);rw[Nat.add_zero]at e0 n0;have T7:=HTY.out.later (b6.trans (b7.mono b6.size));obtain⟨Yw,hYw⟩:∃Yw,Yw=((((z0r w7 go (k*8) (q0J (gen+1)) (.slice a7 3 c7)).setCell ⟨go,k*8,none⟩ (.bool true)).setCell ⟨go,k*8+2,none⟩ (.int .i64 (s.sn:Int))).setCell ⟨go,k*8+3,none⟩ (.int .i64 1)).setCell ⟨go,k*8+5,none⟩ (.int .i64 1):=⟨_,rfl⟩
  have TY:q0k Yw (wr.heap.size+1) (.int .i64 0) (.int .i64 0) (.slice none 0 0):=by rw[hYw];unfold z0r;refine T7.same ?_;iterate 12 rw[heap_setCell_other _ _ _ _ (by exact hg4)]
  rw[<-hYw]at HLE;have hs6:=b6.size
  have HNB:Hid (¬q0u ({s1 with os:=s1.os.set k ⟨a7,3,c7⟩}:HSh) (wr.heap.size+1)):=λhh=>by
   rcases j1Y hh with h1|⟨x,hx,e⟩
   ·exact HNH.out h1
   ·have h2:=(q0n o7 _ (x0b hx)).1;have h3:=HTY.out.lt;rw[e]at h2;omega
  have HX:Hid (q0N W B gx (q0r {H with sites:=H.sites++[o.site]} k (y0X (gen+1) (s.sn:Int)),⟨0,idZ (k:Int) (gen+1),[]⟩) (.returned (q0m 0 (idZ (k:Int) (gen+1)) (.slice none 0 0))) (q0g Yw (wr.heap.size+1) (.int .i64 0) (.int .i64 (idZ (k:Int) (gen+1))) (.slice none 0 0))):=v0g (w:=wr) (wr.heap.size+1) 0 _ HLE.out (by omega) HNB.out hne (by simp[Value.ownBlock]) _ _ _;obtain⟨q0,q1,q2⟩:=TY.cells;obtain⟨z0,z1,z2⟩:=TY.frees;clear b7 b6 ob7 fz7 T7 g1 o7 hxs CE TY HLE HNB;unfold z0r at hYw;simp only[q0J]at hYw;unfold y0J;simp only[q0J];go_wp2_with fail
  rw[<-hYw];clear hYw e0 e1 e2 e3 e4 e5 e6 e7 n0 n1 n2 n3 n4 n5 n6 n7;refine(CID.out _).mono ?_;rintro e w8 ⟨rfl,rfl⟩;unfold q0g at HX;go_wp2;exact bodyPost_ret (v:=q0m 0 (idZ (k:Int) (gen+1)) (.slice none 0 0)) (by simp[results,Tryz.results83,go_sem,q0m, *]) rfl HX.out
end
section
open Go.RowKit
theorem q4x(v:Value)(H:q0a)(o:OpD)(w:World)(h:RdH w v H)(hs:q0h H)(hko:q0w o.kind)(hwk:v0o o.kind= .nilFunc):
 Calls Tryz.prog 10 #[v,opV o] w λe w' =>q0z w w.heap.size (y0n H 2) e w' :=by
 have CC:Hid (∀X,Below w.heap.size w X->_):=λX hX=>v0O v H X (q0s h hX) hs;have CW:Hid (∀X,_):=λX=>j0n o.kind X hko;rw[hwk]at CW;have CR:Hid (∀c X,_):=λc X=>z0f c X;have hnil:∀X:World,(binOp BinOp.eql 73 .nilFunc .nilFunc).run Tryz.prog X= .ok (.bool true) X:=λ_=>by kernel_rfl
 obtain⟨ao,co,aw,cw,ab,cb,sa,sc,rfl,-⟩:=h;generalize H.objs.length=no at*;generalize H.weaks.length=nw at*;generalize H.buffer.length=nb at*;generalize H.sites.length=ns at*;obtain⟨W,hW,BW,sW,F4,F5,FR,FA⟩:=z0S w (.slice ao no co) (.slice aw nw cw) (.slice ab nb cb) (.slice sa ns sc) o;have HBW:Hid (Below w.heap.size w W):=BW;have H5:=hdx F5;have HFR:=hdx FR;have HFA:=hdx FA;unfold opV;clear hs hwk F4 F5 FR FA;go_enter Tryz.func10,Tryz.ntmps10;go_wp2_with fail
 rw[<-hW];clear hW;refine(CC.out _ BW).mono ?_;rintro e w1 ⟨s0,rfl,M1,b1⟩;have hs1:=b1.size;obtain⟨V,hV⟩:∃V,V=w1.alloc (.cells #[.slice s0.oa s0.os.length s0.oc,.slice s0.wa s0.wn s0.wc,.slice s0.ba s0.bn s0.bc,.slice s0.sa s0.sn s0.sc] 35):=⟨_,rfl⟩;have BV:Below w1.heap.size w1 V:=by rw[hV];exact bl1 _
 have HX4:Hid (q0d V w1.heap.size (.slice s0.oa s0.os.length s0.oc) (.slice s0.wa s0.wn s0.wc) (.slice s0.ba s0.bn s0.bc) (.slice s0.sa s0.sn s0.sc)):=by rw[hV];exact q0d.new w1 _ _ _ _
 have bb:Below W.heap.size W V:=b1.trans (BV.mono b1.size);have HMV:Hid (HM V W.heap.size s0 H):=q0c M1 BV;have HBV:Hid (Below W.heap.size W V):=bb;have HSX:Hid (¬q0u s0 w1.heap.size):=q0D M1 (.inr nl0);have k0:w1.cell? ⟨w.heap.size+1,0,none⟩=some (.int .i64 o.kind):=(H5.out.later b1).cell 0;have m1:w.heap.size+1<w1.heap.size:=by omega
 have m2:¬w.heap.size+1=w1.heap.size:=by omega
 rw[hsv];clear M1 b1 BV bb BW CC;go_wp2_with fail
 rw[<-hV];clear hV k0 m1 m2;refine(CW.out _).mono ?_;rintro e w2 ⟨rfl,b2⟩;have hs2:=b2.size;have X4:=HX4.out.later b2;have HM2:Hid (HM w2 W.heap.size s0 H):=q0c HMV.out b2;have HBV2:Hid (Below W.heap.size W w2):=HBV.out.trans (b2.mono HBV.out.size);have HGX:Hid (q0d w2 w1.heap.size (.slice s0.oa s0.os.length s0.oc) (.slice s0.wa s0.wn s0.wc) (.slice s0.ba s0.bn s0.bc) (.slice s0.sa s0.sn s0.sc)):=X4;have HN0:Hid (q0d w2 (w.heap.size+1+1) (.slice none 0 0) (.slice none 0 0) (.slice none 0 0) (.slice none 0 0)):=HFR.out.later HBV2.out;have HN1:Hid (q0k w2 (w.heap.size+1+1+1) (.int .i64 0) (.int .i64 0) (.slice none 0 0)):=HFA.out.later HBV2.out;have HBEL:Hid (Below w.heap.size w w2):=HBW.out.trans (HBV2.out.mono HBW.out.size);have HNE:Hid (w1.heap.size≠w.heap.size+1+1):=by show _≠_;omega
 have HCW:Hid (w.heap.size<=w2.heap.size):=HBEL.out.size;have HCN:Hid (w.heap.size<=w.heap.size+1+1):=by show _<=_;omega
 have HBN:Hid (w.heap.size+1+1+1<W.heap.size):=by show _<_;omega
 have HCB:Hid (w.heap.size<=W.heap.size):=by show _<=_;omega
 have HMR:Hid (HM w2 W.heap.size s0 H):=HM2.out;have HFR2:Hid (q0i w2 W.heap.size (.slice none 0 0) []):=z0H _ _;have HDR:Hid (∀g,(Value.slice none 0 0).ownBlock=some g->¬q0u s0 g):=λg hg=>by simp[Value.ownBlock]at hg
 clear b2 CW HMV HBV HX4 HFR HFA X4 HM2 HBV2 HBW H5 HSX;go_wp2;refine x0u 3 (by kernel_rfl) (by kernel_rfl) (RJ w w2 w.heap.size (w.heap.size+1+1) (.slice s0.oa s0.os.length s0.oc) (.slice s0.wa s0.wn s0.wc) (.slice s0.ba s0.bn s0.bc) (.slice s0.sa s0.sn s0.sc)) (RQ2 (.agg #[.slice s0.oa s0.os.length s0.oc,.slice s0.wa s0.wn s0.wc,.slice s0.ba s0.bn s0.bc,.slice s0.sa s0.sn s0.sc]) (.agg #[.int .i64 2,.int .i64 0,.slice none 0 0])) (λ_ _ _ _=>True) ⟨HBEL.out.drew,Nat.le_refl _,λ_ _ _=>rfl,λ_=>HN0.out,λh=>h.elim⟩ ?_ ?_
 ·intro i o_ hi ho a Y dn hJ hA hbn hnot hdep
  match i,hi,ho with
  |0,_,ho=>
   cases ho
   exact y0q (q0f hA (t:=6) (by kernel_rfl)) (HGX.out.same (hJ.oth _ HNE.out HGX.out.lt)) ⟨_,rfl,hJ.later HCW.out (by decide) bl0,rfl,λq hq _ t ht=>⟨hbn.yields q hq t ht,trivial,trivial⟩⟩
  |1,_,ho=>
   cases ho
   exact q3N (CR.out 2 Y) (λe w' ⟨h1,h2⟩=>⟨_,h1,_,rfl,hJ.later HCW.out (by decide) h2,rfl,λq hq _ t ht=>⟨by
    have hy:=hbn.yields q hq t ht
    match q,hy with
    |0,hy=>exact hy
    |1,hy=>exact hy
    |n+2,_=>exact trivial,trivial,trivial⟩⟩)
  |2,_,ho=>
   cases ho
   have g0_:a.eval (.tmp 21)= .agg #[.slice s0.oa s0.os.length s0.oc,.slice s0.wa s0.wn s0.wc,.slice s0.ba s0.bn s0.bc,.slice s0.sa s0.sn s0.sc]:=hbn.yields 0 (hdep ⟨0,.data⟩ (by simp) rfl) 21 rfl;refine v0t (q0f hA (t:=4) (by kernel_rfl)) g0_ (hJ.f0 hnot) ?_;refine⟨undef,rfl,⟨?_,by rw[z0U];exact hJ.ge,λj hj hl=>(q0T _ _ _ _ _ _ j hj).trans (hJ.oth j hj hl),λh=>absurd (.inr rfl) h,λ_=>q0d.setAll (hJ.f0 hnot) _ _ _ _⟩,trivial,λq hq hne t ht=>⟨?_,trivial,trivial⟩⟩
   ·unfold q0p;iterate 4 refine Below.setCell ?_ (by simp only;exact HCN.out) _
    exact hJ.bel
   ·have hy:=hbn.yields q hq t ht
    match q,hy with
    |0,hy=>exact hy
    |1,hy=>exact hy
    |n+2,_=>exact trivial
 ·intro o_ ho a Y dn hJ hA hbn hdn
  cases ho
  have g1_:a.eval (.tmp 22)= .agg #[.int .i64 2,.int .i64 0,.slice none 0 0]:=hbn.yields 1 (hdn 1 (by omega)) 22 rfl;have T1:q0k Y ((w.heap.size+1+1)+1) (.int .i64 0) (.int .i64 0) (.slice none 0 0):=HN1.out.same (hJ.oth _ (by omega) HN1.out.lt);refine y0x (q0f hA (t:=5) (by kernel_rfl)) g1_ T1 ?_;have F1:=hJ.f1 (hdn 2 (by omega));obtain⟨Z,hZ⟩:∃Z,Z=q0g Y ((w.heap.size+1+1)+1) (.int .i64 2) (.int .i64 0) (.slice none 0 0):=⟨_,rfl⟩;have FZ:q0d Z ((w.heap.size+1+1)) (.slice s0.oa s0.os.length s0.oc) (.slice s0.wa s0.wn s0.wc) (.slice s0.ba s0.bn s0.bc) (.slice s0.sa s0.sn s0.sc):=by rw[hZ];exact F1.same (q0Q _ _ _ _ _ _ (by omega))
  have TZ:q0k Z ((w.heap.size+1+1)+1) (.int .i64 2) (.int .i64 0) (.slice none 0 0):=by rw[hZ];unfold q0g;exact heap_setCell_same _ _ 2 _ _ _ (heap_setCell_same _ _ 1 _ _ _ (heap_setCell_same _ _ 0 _ _ _ T1))
  have HXZ:Hid (q0z w w.heap.size (H,⟨2,0,[]⟩) (.returned (.tuple #[.agg #[.slice s0.oa s0.os.length s0.oc,.slice s0.wa s0.wn s0.wc,.slice s0.ba s0.bn s0.bc,.slice s0.sa s0.sn s0.sc],q0m 2 0 (.slice none 0 0)])) Z):=by
   refine x1i (n:=(w.heap.size+1+1)) HBN.out HCB.out ?_ ?_ (λg hg hl=> ?_) HMR.out HFR2.out HDR.out
   ·rw[hZ];unfold q0g;iterate 3 refine Below.setCell ?_ (by simp only;have:=HCN.out;omega) _
    exact hJ.bel
   ·rw[hZ,x0k];exact hJ.ge
   ·rw[hZ,q0Q _ _ _ _ _ g (by omega)];exact hJ.oth g (by omega) hl
  rw[<-hZ];obtain⟨us,hus,rfl⟩:=q0F hA [21,22] (by kernel_rfl);clear hbn hdn hA hus g1_ hJ F1 T1 hZ;simp only[List.mapIdx_cons,List.mapIdx_nil,Nat.reduceAdd,List.contains_cons,List.contains_nil,Nat.reduceBEq,Bool.or_false,Bool.or_true,if_true,if_false,Bool.false_eq_true];obtain⟨r0,r1,r2,r3⟩:=FZ.cells;obtain⟨q0,q1,q2⟩:=TZ.cells;clear FZ TZ HGX HN0 HN1 HBEL HNE HCW HCN HBN HCB HMR HFR2 HDR;go_wp2;exact bodyPost_ret (v:= .tuple #[.agg #[.slice s0.oa s0.os.length s0.oc,.slice s0.wa s0.wn s0.wc,.slice s0.ba s0.bn s0.bc,.slice s0.sa s0.sn s0.sc],q0m 2 0 (.slice none 0 0)]) (by simp[results,Tryz.results10,go_sem,q0m, *]) rfl HXZ.out
theorem z1Q(F:Nat)(v:Value)(H:q0a)(o:OpD)(w:World)(h:RdH w v H)(hs:q0h H)(hf:WfH H)(hko:q0w o.kind)(hwk:v0o o.kind= .func (.func F) #[] #[])(hnf:∀X:World,(binOp BinOp.eql 73 (.func (.func F) #[] #[]) .nilFunc).run Tryz.prog X= .ok (.bool false) X)(hno:¬OkH H):
 Calls Tryz.prog 10 #[v,opV o] w λe w' =>q0z w w.heap.size (y0n H 2) e w' :=by
 have CC:Hid (∀X,Below w.heap.size w X->_):=λX hX=>v0O v H X (q0s h hX) hs;have CW:Hid (∀X,_):=λX=>j0n o.kind X hko;rw[hwk]at CW;have CR:Hid (∀c X,_):=λc X=>z0f c X;have hnil:∀X:World,(binOp BinOp.eql 73 (.func (.func F) #[] #[]) .nilFunc).run Tryz.prog X= .ok (.bool false) X:=λ_=>by exact hnf _
 obtain⟨ao,co,aw,cw,ab,cb,sa,sc,rfl,-⟩:=h;generalize H.objs.length=no at*;generalize H.weaks.length=nw at*;generalize H.buffer.length=nb at*;generalize H.sites.length=ns at*;obtain⟨W,hW,BW,sW,F4,F5,FR,FA⟩:=z0S w (.slice ao no co) (.slice aw nw cw) (.slice ab nb cb) (.slice sa ns sc) o;have HBW:Hid (Below w.heap.size w W):=BW;have H5:=hdx F5;have HFR:=hdx FR;have HFA:=hdx FA;unfold opV;clear hwk F4 F5 FR FA;go_enter Tryz.func10,Tryz.ntmps10;go_wp2_with fail
 rw[<-hW];clear hW;refine(CC.out _ BW).mono ?_;rintro e w1 ⟨s0,rfl,M1,b1⟩;have hs1:=b1.size;obtain⟨V,hV⟩:∃V,V=w1.alloc (.cells #[.slice s0.oa s0.os.length s0.oc,.slice s0.wa s0.wn s0.wc,.slice s0.ba s0.bn s0.bc,.slice s0.sa s0.sn s0.sc] 35):=⟨_,rfl⟩;have BV:Below w1.heap.size w1 V:=by rw[hV];exact bl1 _
 have HX4:Hid (q0d V w1.heap.size (.slice s0.oa s0.os.length s0.oc) (.slice s0.wa s0.wn s0.wc) (.slice s0.ba s0.bn s0.bc) (.slice s0.sa s0.sn s0.sc)):=by rw[hV];exact q0d.new w1 _ _ _ _
 have bb:Below W.heap.size W V:=b1.trans (BV.mono b1.size);have HMV:Hid (HM V W.heap.size s0 H):=q0c M1 BV;have HBV:Hid (Below W.heap.size W V):=bb;have HSX:Hid (¬q0u s0 w1.heap.size):=q0D M1 (.inr nl0);have k0:w1.cell? ⟨w.heap.size+1,0,none⟩=some (.int .i64 o.kind):=(H5.out.later b1).cell 0;have m1:w.heap.size+1<w1.heap.size:=by omega
 have m2:¬w.heap.size+1=w1.heap.size:=by omega
 rw[hsv];clear M1 b1 BV bb BW CC;go_wp2_with fail
 rw[<-hV];clear hV k0 m1 m2;refine(CW.out _).mono ?_;rintro e w2 ⟨rfl,b2⟩;have hs2:=b2.size;have X4:=HX4.out.later b2;have HM2:Hid (HM w2 W.heap.size s0 H):=q0c HMV.out b2;have HBV2:Hid (Below W.heap.size W w2):=HBV.out.trans (b2.mono HBV.out.size);have CH:Hid (∀X,Below w2.heap.size w2 X->_):=λX hX=>y0H s0.v H X (q0K (q0c HM2.out hX)) hs hf (v1L HM2.out) false (by simp;exact hno);rw[hsv]at CH;obtain⟨x0,x1,x2,x3⟩:=X4.cells;refine ?_;clear hs hf;go_wp2_with fail
 refine(CH.out _ bl0).mono ?_;rintro e w3 ⟨rfl,b3⟩;clear x0 x1 x2 x3 CH;have X5:=X4.later b3;have HBV3:Hid (Below W.heap.size W w3):=HBV2.out.trans (b3.mono HBV2.out.size);have HGX:Hid (q0d w3 w1.heap.size (.slice s0.oa s0.os.length s0.oc) (.slice s0.wa s0.wn s0.wc) (.slice s0.ba s0.bn s0.bc) (.slice s0.sa s0.sn s0.sc)):=X5;have HN0:Hid (q0d w3 (w.heap.size+1+1) (.slice none 0 0) (.slice none 0 0) (.slice none 0 0) (.slice none 0 0)):=HFR.out.later HBV3.out;have HN1:Hid (q0k w3 (w.heap.size+1+1+1) (.int .i64 0) (.int .i64 0) (.slice none 0 0)):=HFA.out.later HBV3.out;have HBEL:Hid (Below w.heap.size w w3):=HBW.out.trans (HBV3.out.mono HBW.out.size);have HNE:Hid (w1.heap.size≠w.heap.size+1+1):=by show _≠_;omega
 have HCW:Hid (w.heap.size<=w3.heap.size):=HBEL.out.size;have HCN:Hid (w.heap.size<=w.heap.size+1+1):=by show _<=_;omega
 have HBN:Hid (w.heap.size+1+1+1<W.heap.size):=by show _<_;omega
 have HCB:Hid (w.heap.size<=W.heap.size):=by show _<=_;omega
 have HMR:Hid (HM w3 W.heap.size s0 H):=q0c HM2.out b3;have HFR2:Hid (q0i w3 W.heap.size (.slice none 0 0) []):=z0H _ _;have HDR:Hid (∀g,(Value.slice none 0 0).ownBlock=some g->¬q0u s0 g):=λg hg=>by simp[Value.ownBlock]at hg
 clear b2 CW HMV HBV HX4 HFR HFA X4 HM2 HBV2 HBW H5 HSX X5 HBV3 b3;go_wp2;refine x0u 3 (by kernel_rfl) (by kernel_rfl) (RJ w w3 w.heap.size (w.heap.size+1+1) (.slice s0.oa s0.os.length s0.oc) (.slice s0.wa s0.wn s0.wc) (.slice s0.ba s0.bn s0.bc) (.slice s0.sa s0.sn s0.sc)) (RQ2 (.agg #[.slice s0.oa s0.os.length s0.oc,.slice s0.wa s0.wn s0.wc,.slice s0.ba s0.bn s0.bc,.slice s0.sa s0.sn s0.sc]) (.agg #[.int .i64 2,.int .i64 0,.slice none 0 0])) (λ_ _ _ _=>True) ⟨HBEL.out.drew,Nat.le_refl _,λ_ _ _=>rfl,λ_=>HN0.out,λh=>h.elim⟩ ?_ ?_
 ·intro i o_ hi ho a Y dn hJ hA hbn hnot hdep
  match i,hi,ho with
  |0,_,ho=>
   cases ho
   exact y0q (q0f hA (t:=6) (by kernel_rfl)) (HGX.out.same (hJ.oth _ HNE.out HGX.out.lt)) ⟨_,rfl,hJ.later HCW.out (by decide) bl0,rfl,λq hq _ t ht=>⟨hbn.yields q hq t ht,trivial,trivial⟩⟩
  |1,_,ho=>
   cases ho
   exact q3N (CR.out 2 Y) (λe w' ⟨h1,h2⟩=>⟨_,h1,_,rfl,hJ.later HCW.out (by decide) h2,rfl,λq hq _ t ht=>⟨by
    have hy:=hbn.yields q hq t ht
    match q,hy with
    |0,hy=>exact hy
    |1,hy=>exact hy
    |n+2,_=>exact trivial,trivial,trivial⟩⟩)
  |2,_,ho=>
   cases ho
   have g0_:a.eval (.tmp 21)= .agg #[.slice s0.oa s0.os.length s0.oc,.slice s0.wa s0.wn s0.wc,.slice s0.ba s0.bn s0.bc,.slice s0.sa s0.sn s0.sc]:=hbn.yields 0 (hdep ⟨0,.data⟩ (by simp) rfl) 21 rfl;refine v0t (q0f hA (t:=4) (by kernel_rfl)) g0_ (hJ.f0 hnot) ?_;refine⟨undef,rfl,⟨?_,by rw[z0U];exact hJ.ge,λj hj hl=>(q0T _ _ _ _ _ _ j hj).trans (hJ.oth j hj hl),λh=>absurd (.inr rfl) h,λ_=>q0d.setAll (hJ.f0 hnot) _ _ _ _⟩,trivial,λq hq hne t ht=>⟨?_,trivial,trivial⟩⟩
   ·unfold q0p;iterate 4 refine Below.setCell ?_ (by simp only;exact HCN.out) _
    exact hJ.bel
   ·have hy:=hbn.yields q hq t ht
    match q,hy with
    |0,hy=>exact hy
    |1,hy=>exact hy
    |n+2,_=>exact trivial
 ·intro o_ ho a Y dn hJ hA hbn hdn
  cases ho
  have g1_:a.eval (.tmp 22)= .agg #[.int .i64 2,.int .i64 0,.slice none 0 0]:=hbn.yields 1 (hdn 1 (by omega)) 22 rfl;have T1:q0k Y ((w.heap.size+1+1)+1) (.int .i64 0) (.int .i64 0) (.slice none 0 0):=HN1.out.same (hJ.oth _ (by omega) HN1.out.lt);refine y0x (q0f hA (t:=5) (by kernel_rfl)) g1_ T1 ?_;have F1:=hJ.f1 (hdn 2 (by omega));obtain⟨Z,hZ⟩:∃Z,Z=q0g Y ((w.heap.size+1+1)+1) (.int .i64 2) (.int .i64 0) (.slice none 0 0):=⟨_,rfl⟩;have FZ:q0d Z ((w.heap.size+1+1)) (.slice s0.oa s0.os.length s0.oc) (.slice s0.wa s0.wn s0.wc) (.slice s0.ba s0.bn s0.bc) (.slice s0.sa s0.sn s0.sc):=by rw[hZ];exact F1.same (q0Q _ _ _ _ _ _ (by omega))
  have TZ:q0k Z ((w.heap.size+1+1)+1) (.int .i64 2) (.int .i64 0) (.slice none 0 0):=by rw[hZ];unfold q0g;exact heap_setCell_same _ _ 2 _ _ _ (heap_setCell_same _ _ 1 _ _ _ (heap_setCell_same _ _ 0 _ _ _ T1))
  have HXZ:Hid (q0z w w.heap.size (H,⟨2,0,[]⟩) (.returned (.tuple #[.agg #[.slice s0.oa s0.os.length s0.oc,.slice s0.wa s0.wn s0.wc,.slice s0.ba s0.bn s0.bc,.slice s0.sa s0.sn s0.sc],q0m 2 0 (.slice none 0 0)])) Z):=by
   refine x1i (n:=(w.heap.size+1+1)) HBN.out HCB.out ?_ ?_ (λg hg hl=> ?_) HMR.out HFR2.out HDR.out
   ·rw[hZ];unfold q0g;iterate 3 refine Below.setCell ?_ (by simp only;have:=HCN.out;omega) _
    exact hJ.bel
   ·rw[hZ,x0k];exact hJ.ge
   ·rw[hZ,q0Q _ _ _ _ _ g (by omega)];exact hJ.oth g (by omega) hl
  rw[<-hZ];obtain⟨us,hus,rfl⟩:=q0F hA [21,22] (by kernel_rfl);clear hbn hdn hA hus g1_ hJ F1 T1 hZ;simp only[List.mapIdx_cons,List.mapIdx_nil,Nat.reduceAdd,List.contains_cons,List.contains_nil,Nat.reduceBEq,Bool.or_false,Bool.or_true,if_true,if_false,Bool.false_eq_true];obtain⟨r0,r1,r2,r3⟩:=FZ.cells;obtain⟨q0,q1,q2⟩:=TZ.cells;clear FZ TZ HGX HN0 HN1 HBEL HNE HCW HCN HBN HCB HMR HFR2 HDR;go_wp2;exact bodyPost_ret (v:= .tuple #[.agg #[.slice s0.oa s0.os.length s0.oc,.slice s0.wa s0.wn s0.wc,.slice s0.ba s0.bn s0.bc,.slice s0.sa s0.sn s0.sc],q0m 2 0 (.slice none 0 0)]) (by simp[results,Tryz.results10,go_sem,q0m, *]) rfl HXZ.out
theorem v5N(F:Nat)(hF:F=83\/F=84\/F=85\/F=86\/F=87\/F=88\/F=89)(v:Value)(H:q0a)(o:OpD)(R:q0a×z0D)(w:World)(h:RdH w v H)(hs:q0h H)(hf:WfH H)(hko:q0w o.kind)(hwk:v0o o.kind= .func (.func F) #[] #[])(hok:OkH H)(hC:∀W X B gx s,LS0 W X B gx s H->Calls Tryz.prog F #[opV o,.pointer (some ⟨gx,0,none⟩)] X λe w' =>q0N W B gx R e w'):
 Calls Tryz.prog 10 #[v,opV o] w λe w' =>q0z w w.heap.size (R) e w' :=by
 have CC:Hid (∀X,Below w.heap.size w X->_):=λX hX=>v0O v H X (q0s h hX) hs;have CW:Hid (∀X,_):=λX=>j0n o.kind X hko;rw[hwk]at CW;have CR:Hid (∀c X,_):=λc X=>z0f c X;have hnil:∀X:World,(binOp BinOp.eql 73 (.func (.func F) #[] #[]) .nilFunc).run Tryz.prog X= .ok (.bool false) X:=λ_=>by rcases hF with rfl|rfl|rfl|rfl|rfl|rfl|rfl<;>kernel_rfl
 obtain⟨ao,co,aw,cw,ab,cb,sa,sc,rfl,-⟩:=h;obtain⟨RH,rc,rv,rf⟩:=R;generalize H.objs.length=no at*;generalize H.weaks.length=nw at*;generalize H.buffer.length=nb at*;generalize H.sites.length=ns at*;obtain⟨W,hW,BW,sW,F4,F5,FR,FA⟩:=z0S w (.slice ao no co) (.slice aw nw cw) (.slice ab nb cb) (.slice sa ns sc) o;have HBW:Hid (Below w.heap.size w W):=BW;have H5:=hdx F5;have HFR:=hdx FR;have HFA:=hdx FA;unfold opV;clear hwk F4 F5 FR FA;go_enter Tryz.func10,Tryz.ntmps10;go_wp2_with fail
 rw[<-hW];clear hW;refine(CC.out _ BW).mono ?_;rintro e w1 ⟨s0,rfl,M1,b1⟩;have hs1:=b1.size;obtain⟨V,hV⟩:∃V,V=w1.alloc (.cells #[.slice s0.oa s0.os.length s0.oc,.slice s0.wa s0.wn s0.wc,.slice s0.ba s0.bn s0.bc,.slice s0.sa s0.sn s0.sc] 35):=⟨_,rfl⟩;have BV:Below w1.heap.size w1 V:=by rw[hV];exact bl1 _
 have HX4:Hid (q0d V w1.heap.size (.slice s0.oa s0.os.length s0.oc) (.slice s0.wa s0.wn s0.wc) (.slice s0.ba s0.bn s0.bc) (.slice s0.sa s0.sn s0.sc)):=by rw[hV];exact q0d.new w1 _ _ _ _
 have bb:Below W.heap.size W V:=b1.trans (BV.mono b1.size);have HMV:Hid (HM V W.heap.size s0 H):=q0c M1 BV;have HBV:Hid (Below W.heap.size W V):=bb;have HSX:Hid (¬q0u s0 w1.heap.size):=q0D M1 (.inr nl0);have k0:w1.cell? ⟨w.heap.size+1,0,none⟩=some (.int .i64 o.kind):=(H5.out.later b1).cell 0;have m1:w.heap.size+1<w1.heap.size:=by omega
 have m2:¬w.heap.size+1=w1.heap.size:=by omega
 rw[hsv];clear M1 b1 BV bb BW CC;go_wp2_with fail
 rw[<-hV];clear hV k0 m1 m2;refine(CW.out _).mono ?_;rintro e w2 ⟨rfl,b2⟩;have hs2:=b2.size;have X4:=HX4.out.later b2;have HM2:Hid (HM w2 W.heap.size s0 H):=q0c HMV.out b2;have HBV2:Hid (Below W.heap.size W w2):=HBV.out.trans (b2.mono HBV.out.size);have CH:Hid (∀X,Below w2.heap.size w2 X->_):=λX hX=>y0H s0.v H X (q0K (q0c HM2.out hX)) hs hf (v1L HM2.out) true (by simp;exact hok);rw[hsv]at CH;obtain⟨x0,x1,x2,x3⟩:=X4.cells;have HC:Hid (∀X,LS0 W X W.heap.size w1.heap.size s0 H->_):=λX hX=>hC W X W.heap.size w1.heap.size s0 hX;unfold opV at HC;clear hs hf hC hok;go_wp2_with fail
 refine(CH.out _ bl0).mono ?_;rintro e w3 ⟨rfl,b3⟩;clear x0 x1 x2 x3 CH;have X5:=X4.later b3;have HBV3:Hid (Below W.heap.size W w3):=HBV2.out.trans (b3.mono HBV2.out.size);have HLS:Hid (LS0 W w3 W.heap.size w1.heap.size s0 H):=⟨HBV3.out,Nat.le_refl _,q0c HM2.out b3,X5,hs1,HSX.out,.inl ⟨rfl,rfl⟩,z0H _ _,λg hg=>(by simp[Value.ownBlock]at hg),λg hg=>(by simp[Value.ownBlock]at hg),λg hg=>(by simp[Value.ownBlock]at hg)⟩;obtain⟨k0,k1,k2,k3,k4⟩:=(H5.out.later HBV3.out).cells;clear b2 CW HMV HBV HX4 X4 HM2 HBV2 H5 HSX X5 HBV3 b3 CR;rcases hF with rfl|rfl|rfl|rfl|rfl|rfl|rfl
 all_goals
  go_wp2_with fail
  refine(HC.out _ HLS.out).mono ?_;rintro e w4 ⟨s4,vf,rfl,L4⟩;obtain⟨fa,fc,rfl,-⟩:=q0Y L4.f;simp only at L4;simp only[q0m];have hs4:=L4.bel.size;have hgx4:=L4.x.lt;obtain⟨V5,hV5⟩:∃V5,V5=w4.alloc (.cells #[.int .i64 rc,.int .i64 rv,.slice fa rf.length fc] 37):=⟨_,rfl⟩;have b5:Below w4.heap.size w4 V5:=by rw[hV5];exact bl1 _
  have hs5:=b5.size;have HG8:Hid (q0k V5 w4.heap.size (.int .i64 rc) (.int .i64 rv) (.slice fa rf.length fc)):=by rw[hV5];exact q0k.new _ _ _ _
  have HNE8:Hid (w4.heap.size≠w.heap.size+1+1):=by show _≠_;omega
  have HB5:Hid (Below W.heap.size W V5):=L4.bel.trans (b5.mono L4.bel.size);have HGX:Hid (q0d V5 w1.heap.size (.slice s4.oa s4.os.length s4.oc) (.slice s4.wa s4.wn s4.wc) (.slice s4.ba s4.bn s4.bc) (.slice s4.sa s4.sn s4.sc)):=L4.x.later b5;have HN0:Hid (q0d V5 (w.heap.size+1+1) (.slice none 0 0) (.slice none 0 0) (.slice none 0 0) (.slice none 0 0)):=HFR.out.later HB5.out;have HN1:Hid (q0k V5 (w.heap.size+1+1+1) (.int .i64 0) (.int .i64 0) (.slice none 0 0)):=HFA.out.later HB5.out;have HBEL:Hid (Below w.heap.size w V5):=HBW.out.trans (HB5.out.mono HBW.out.size);have HNE:Hid (w1.heap.size≠w.heap.size+1+1):=by show _≠_;omega
  have HCW:Hid (w.heap.size<=V5.heap.size):=HBEL.out.size;have HCN:Hid (w.heap.size<=w.heap.size+1+1):=by show _<=_;omega
  have HBN:Hid (w.heap.size+1+1+1<W.heap.size):=by show _<_;omega
  have HCB:Hid (w.heap.size<=W.heap.size):=by show _<=_;omega
  have HMR:Hid (HM V5 W.heap.size s4 RH):=q0c L4.m b5;have HFR2:Hid (q0i V5 W.heap.size (.slice fa rf.length fc) rf):=q0o L4.f b5;have HDR:Hid (∀g,(Value.slice fa rf.length fc).ownBlock=some g->¬q0u s4 g):=L4.sf;clear HFR HFA HBW HLS HC L4 k0 k1 k2 k3 k4 b5 HB5 hnil;generalize rf.length=rn at*;go_wp2;rw[<-hV5];clear hV5;refine x0u 3 (by kernel_rfl) (by kernel_rfl) (RJ w V5 w.heap.size (w.heap.size+1+1) (.slice s4.oa s4.os.length s4.oc) (.slice s4.wa s4.wn s4.wc) (.slice s4.ba s4.bn s4.bc) (.slice s4.sa s4.sn s4.sc)) (RQ2 (.agg #[.slice s4.oa s4.os.length s4.oc,.slice s4.wa s4.wn s4.wc,.slice s4.ba s4.bn s4.bc,.slice s4.sa s4.sn s4.sc]) (.agg #[.int .i64 rc,.int .i64 rv,.slice fa rn fc])) (λ_ _ _ _=>True) ⟨HBEL.out.drew,Nat.le_refl _,λ_ _ _=>rfl,λ_=>HN0.out,λh=>h.elim⟩ ?_ ?_
  ·intro i o_ hi ho a Y dn hJ hA hbn hnot hdep
   match i,hi,ho with
   |0,_,ho=>
    cases ho
    exact y0q (q0f hA (t:=6) (by kernel_rfl)) (HGX.out.same (hJ.oth _ HNE.out HGX.out.lt)) ⟨_,rfl,hJ.later HCW.out (by decide) bl0,rfl,λq hq _ t ht=>⟨hbn.yields q hq t ht,trivial,trivial⟩⟩
   |1,_,ho=>
    cases ho
    exact v1b (q0f hA (t:=8) (by kernel_rfl)) (HG8.out.same (hJ.oth _ HNE8.out HG8.out.lt)) ⟨_,rfl,hJ.later HCW.out (by decide) bl0,rfl,λq hq _ t ht=>⟨hbn.yields q hq t ht,trivial,trivial⟩⟩
   |2,_,ho=>
    cases ho
    have g0_:a.eval (.tmp 26)= .agg #[.slice s4.oa s4.os.length s4.oc,.slice s4.wa s4.wn s4.wc,.slice s4.ba s4.bn s4.bc,.slice s4.sa s4.sn s4.sc]:=hbn.yields 0 (hdep ⟨0,.data⟩ (by simp) rfl) 26 rfl;refine v0t (q0f hA (t:=4) (by kernel_rfl)) g0_ (hJ.f0 hnot) ?_;refine⟨undef,rfl,⟨?_,by rw[z0U];exact hJ.ge,λj hj hl=>(q0T _ _ _ _ _ _ j hj).trans (hJ.oth j hj hl),λh=>absurd (.inr rfl) h,λ_=>q0d.setAll (hJ.f0 hnot) _ _ _ _⟩,trivial,λq hq hne t ht=>⟨?_,trivial,trivial⟩⟩
    ·unfold q0p;iterate 4 refine Below.setCell ?_ (by simp only;exact HCN.out) _
     exact hJ.bel
    ·have hy:=hbn.yields q hq t ht
     match q,hy with
     |0,hy=>exact hy
     |1,hy=>exact hy
     |n+2,_=>exact trivial
  ·intro o_ ho a Y dn hJ hA hbn hdn
   cases ho
   have g1_:a.eval (.tmp 27)= .agg #[.int .i64 rc,.int .i64 rv,.slice fa rn fc]:=hbn.yields 1 (hdn 1 (by omega)) 27 rfl;have T1:q0k Y ((w.heap.size+1+1)+1) (.int .i64 0) (.int .i64 0) (.slice none 0 0):=HN1.out.same (hJ.oth _ (by omega) HN1.out.lt);refine y0x (q0f hA (t:=5) (by kernel_rfl)) g1_ T1 ?_;have F1:=hJ.f1 (hdn 2 (by omega));obtain⟨Z,hZ⟩:∃Z,Z=q0g Y ((w.heap.size+1+1)+1) (.int .i64 rc) (.int .i64 rv) (.slice fa rn fc):=⟨_,rfl⟩;have FZ:q0d Z ((w.heap.size+1+1)) (.slice s4.oa s4.os.length s4.oc) (.slice s4.wa s4.wn s4.wc) (.slice s4.ba s4.bn s4.bc) (.slice s4.sa s4.sn s4.sc):=by rw[hZ];exact F1.same (q0Q _ _ _ _ _ _ (by omega))
   have TZ:q0k Z ((w.heap.size+1+1)+1) (.int .i64 rc) (.int .i64 rv) (.slice fa rn fc):=by rw[hZ];unfold q0g;exact heap_setCell_same _ _ 2 _ _ _ (heap_setCell_same _ _ 1 _ _ _ (heap_setCell_same _ _ 0 _ _ _ T1))
   have HXZ:Hid (q0z w w.heap.size (RH,⟨rc,rv,rf⟩) (.returned (.tuple #[.agg #[.slice s4.oa s4.os.length s4.oc,.slice s4.wa s4.wn s4.wc,.slice s4.ba s4.bn s4.bc,.slice s4.sa s4.sn s4.sc],q0m rc rv (.slice fa rn fc)])) Z):=by
    refine x1i (n:=(w.heap.size+1+1)) HBN.out HCB.out ?_ ?_ (λg hg hl=> ?_) HMR.out HFR2.out HDR.out
    ·rw[hZ];unfold q0g;iterate 3 refine Below.setCell ?_ (by simp only;have:=HCN.out;omega) _
     exact hJ.bel
    ·rw[hZ,x0k];exact hJ.ge
    ·rw[hZ,q0Q _ _ _ _ _ g (by omega)];exact hJ.oth g (by omega) hl
   rw[<-hZ];obtain⟨us,hus,rfl⟩:=q0F hA [26,27] (by kernel_rfl);clear hbn hdn hA hus g1_ hJ F1 T1 hZ;simp only[List.mapIdx_cons,List.mapIdx_nil,Nat.reduceAdd,List.contains_cons,List.contains_nil,Nat.reduceBEq,Bool.or_false,Bool.or_true,if_true,if_false,Bool.false_eq_true];obtain⟨r0,r1,r2,r3⟩:=FZ.cells;obtain⟨q0,q1,q2⟩:=TZ.cells;clear FZ TZ HGX HN0 HN1 HBEL HNE HCW HCN HBN HCB HMR HFR2 HDR;go_wp2;exact bodyPost_ret (v:= .tuple #[.agg #[.slice s4.oa s4.os.length s4.oc,.slice s4.wa s4.wn s4.wc,.slice s4.ba s4.bn s4.bc,.slice s4.sa s4.sn s4.sc],q0m rc rv (.slice fa rn fc)]) (by simp[results,Tryz.results10,go_sem,q0m, *]) rfl HXZ.out
end
section
open Go.RowKit
variable{H:q0a}
theorem j2w(hok:OkH H)(k:Nat)(hk:k<H.objs.length):(0<=H.objs[k].gen/\H.objs[k].gen<=999)/\H.objs[k].field.length=3:=(hok.objs k hk).1
theorem u3t(hok:OkH H)(k:Nat)(hk:k<H.objs.length)(hl:H.objs[k].live=true):(0<=H.objs[k].holds/\H.objs[k].holds<=20)/\(0<=H.objs[k].roots/\H.objs[k].roots<=20):=by have h:=(hok.objs k hk).2.2 hl;exact⟨h.1.2.2.1,h.1.2.2.2⟩
theorem x1g(hf:WfH H):∀z∈H.objs,∀x∈z.field,q0w x:=λz hz=>(hf.objs z hz).2.2.2.2.2
structure q1J(H:q0a)(o:OpD):Prop where
 s:q0h H
 f:WfH H
 sane:q2t o
 ok:OkH H
 sl:o.site.length<=1048576
theorem j3c{o:OpD}(h:q1J H o)(hk:o.kind=1):∀W X B gx s,LS0 W X B gx s H->Calls Tryz.prog 83 #[opV o,.pointer (some ⟨gx,0,none⟩)] X λe w' =>q0N W B gx (x0z H o) e w' :=by
 intro W X B gx s hL;have e:x0z H o=x0o H o.site:=by unfold x0z;rw[if_pos hk]
 rw[e];by_cases hl:o.site.length<1\/8<o.site.length
 ·exact v4j W X B gx s H o hL h.s h.sl hl
 ·by_cases hz:v0x H<0
  ·exact v4k W X B gx s H o hL h.s h.sl (by omega) hz
  ·obtain⟨k,hkl,ek,hk8,_,hg⟩:=q3r H hz;have hge:=(j2w h.ok k hkl).1;have h6:=h.ok.size.2.2;by_cases hs:y0b H o.site<0
   ·by_cases h7:H.sites.length=6
    ·exact v4l W X B gx s H o hL h.s h.sl (by omega) k hkl hk8 ek h6 ⟨hge.1,hg⟩ hs h7
    ·exact v4m W X B gx s H o hL h.s h.sl (by omega) k hkl hk8 ek h6 ⟨hge.1,hg⟩ hs (by omega)
   ·exact v4n W X B gx s H o hL h.s h.sl (by omega) k hkl hk8 ek h6 ⟨hge.1,hg⟩ (by omega)
theorem q4z{o:OpD}(h:q1J H o)(hk:o.kind=2\/o.kind=3\/o.kind=5\/o.kind=6):∀W X B gx s,LS0 W X B gx s H->Calls Tryz.prog 84 #[opV o,.pointer (some ⟨gx,0,none⟩)] X λe w' =>q0N W B gx (x0z H o) e w' :=by
 intro W X B gx s hL;have e:x0z H o=z0Y H o.kind o.a:=by unfold x0z;rw[if_neg (by omega),if_pos hk]
 rw[e];have hw:=x1g h.f;by_cases hz:q0l H o.a<0
 ·exact v4u W X B gx s H o hL h.s h.sane.a hz
 ·obtain⟨k,hkl,ek,hk8,hlv,_⟩:=j0w H o.a (by omega);obtain⟨h1,h2⟩:=u3t h.ok k hkl hlv;rcases hk with e2|e2|e2|e2
  ·rw[e2];exact y5O 2 3 (.inl ⟨rfl,rfl⟩) _ _ W X B gx s H o hL h.s e2 h.sane.a hw k hkl ek hk8 hlv (times_holds H k hkl) (y5d hkl ek).1 (y5d hkl ek).2.1 h1
  ·rw[e2];exact y5z 3 3 (.inl ⟨rfl,rfl⟩) _ _ W X B gx s H o hL h.s e2 h.sane.a hw k hkl ek hk8 hlv (times_holds H k hkl) (y5d hkl ek).2.2.2.2.1 (y5d hkl ek).2.2.2.2.2.1 h1
  ·rw[e2];exact y5O 5 4 (.inr ⟨rfl,rfl⟩) _ _ W X B gx s H o hL h.s e2 h.sane.a hw k hkl ek hk8 hlv (y5A H k hkl) (y5d hkl ek).2.2.1 (y5d hkl ek).2.2.2.1 h2
  ·rw[e2];exact y5z 6 4 (.inr ⟨rfl,rfl⟩) _ _ W X B gx s H o hL h.s e2 h.sane.a hw k hkl ek hk8 hlv (y5A H k hkl) (y5d hkl ek).2.2.2.2.2.2.1 (y5d hkl ek).2.2.2.2.2.2.2 h2
theorem j3d{o:OpD}(h:q1J H o)(hk:o.kind=4):∀W X B gx s,LS0 W X B gx s H->Calls Tryz.prog 85 #[opV o,.pointer (some ⟨gx,0,none⟩)] X λe w' =>q0N W B gx (x0z H o) e w' :=by
 intro W X B gx s hL;have e:x0z H o=x0c H o.a o.b o.c:=by unfold x0z;rw[if_neg (by omega),if_neg (by omega),if_pos hk]
 rw[e];have hw:=x1g h.f;by_cases hz:q0l H o.a<0
 ·exact v4y W X B gx s H o hL h.s h.sane.a h.sane.b h.sane.c hz
 ·obtain⟨k,hkl,ek,hk8,hlv,_⟩:=j0w H o.a (by omega);have hfl:=(j2w h.ok k hkl).2;by_cases hc:o.c= -1
  ·by_cases hb:o.b<0\/2<o.b
   ·exact z4c W X B gx s H o hL h.s h.sane.a h.sane.b h.sane.c (by omega) hc hb
   ·exact j5U W X B gx s H o hL h.s h.sane.a h.sane.b h.sane.c hw k hkl hk8 hlv hfl ek (.inl hc) o.b.toNat (by omega) (by omega)
  ·by_cases hzc:q0l H o.c<0
   ·exact v4z W X B gx s H o hL h.s h.sane.a h.sane.b h.sane.c (by omega) hc hzc
   ·by_cases hb:o.b<0\/2<o.b
    ·exact z4d W X B gx s H o hL h.s h.sane.a h.sane.b h.sane.c (by omega) hc (by omega) hb
    ·exact j5U W X B gx s H o hL h.s h.sane.a h.sane.b h.sane.c hw k hkl hk8 hlv hfl ek (.inr ⟨hc,by omega⟩) o.b.toNat (by omega) (by omega)
theorem u4V{k:Int}(h:k<1\/10<k):v0o k= .nilFunc:=by unfold v0o;iterate 7 rw[if_neg (by omega)]
theorem y3D{o:OpD}(h:o.kind<1\/10<o.kind):x0z H o=y0n H 2:=by unfold x0z;iterate 7 rw[if_neg (by omega)]
def y2f(q:Bool)(H:q0a)(o:OpD):q0a×z0D:=if q=true then x0z H o else y0n H 2
theorem x3F(v:Value)(H:q0a)(o:OpD)(w:World)(h:RdH w v H)(hs:q0h H)(hf:WfH H)(ho:q2t o)(hsl:o.site.length<=1048576)(q:Bool)(hq:q=true↔OkH H):
 Calls Tryz.prog 10 #[v,opV o] w λe w' =>q0z w w.heap.size (y2f q H o) e w' :=by
 by_cases hk:o.kind<1\/10<o.kind
 ·have e:y2f q H o=y0n H 2:=by
   unfold y2f;split
   ·exact y3D hk
   ·rfl
  rw[e];exact q4x v H o w h hs ho.kind (u4V hk)
 ·cases q with
  |false=>
   have hno:¬OkH H:=λhh=>by have:=hq.2 hh;cases this
   show Calls _ _ _ _ λe w' =>q0z w w.heap.size (y0n H 2) e w';have hc:o.kind=1\/(o.kind=2\/o.kind=3\/o.kind=5\/o.kind=6)\/o.kind=4\/o.kind=7\/o.kind=8\/o.kind=9\/o.kind=10:=by omega
   rcases hc with e|e|e|e|e|e|e
   ·exact z1Q _ v H o w h hs hf ho.kind (by unfold v0o;rw[if_pos e]) (λ_=>by kernel_rfl) hno
   ·exact z1Q _ v H o w h hs hf ho.kind (by unfold v0o;rw[if_neg (by omega),if_pos e]) (λ_=>by kernel_rfl) hno
   ·exact z1Q _ v H o w h hs hf ho.kind (by unfold v0o;rw[if_neg (by omega),if_neg (by omega),if_pos e]) (λ_=>by kernel_rfl) hno
   ·exact z1Q _ v H o w h hs hf ho.kind (by unfold v0o;rw[if_neg (by omega),if_neg (by omega),if_neg (by omega),if_pos e]) (λ_=>by kernel_rfl) hno
   ·exact z1Q _ v H o w h hs hf ho.kind (by unfold v0o;rw[if_neg (by omega),if_neg (by omega),if_neg (by omega),if_neg (by omega),if_pos e]) (λ_=>by kernel_rfl) hno
   ·exact z1Q _ v H o w h hs hf ho.kind (by unfold v0o;rw[if_neg (by omega),if_neg (by omega),if_neg (by omega),if_neg (by omega),if_neg (by omega),if_pos e]) (λ_=>by kernel_rfl) hno
   ·exact z1Q _ v H o w h hs hf ho.kind (by unfold v0o;rw[if_neg (by omega),if_neg (by omega),if_neg (by omega),if_neg (by omega),if_neg (by omega),if_neg (by omega),if_pos e]) (λ_=>by kernel_rfl) hno
  |true=>
   have hok:OkH H:=hq.1 rfl;have hW:q1J H o:=⟨hs,hf,ho,hok,hsl⟩;show Calls _ _ _ _ λe w' =>q0z w w.heap.size (x0z H o) e w';have hc:o.kind=1\/(o.kind=2\/o.kind=3\/o.kind=5\/o.kind=6)\/o.kind=4\/o.kind=7\/o.kind=8\/o.kind=9\/o.kind=10:=by omega
   rcases hc with e|e|e|e|e|e|e
   ·exact v5N _ (.inl rfl) v H o _ w h hs hf ho.kind (by unfold v0o;rw[if_pos e]) hok (j3c hW e)
   ·exact v5N _ (.inr (.inl rfl)) v H o _ w h hs hf ho.kind (by unfold v0o;rw[if_neg (by omega),if_pos e]) hok (q4z hW e)
   ·exact v5N _ (.inr (.inr (.inl rfl))) v H o _ w h hs hf ho.kind (by unfold v0o;rw[if_neg (by omega),if_neg (by omega),if_pos e]) hok (j3d hW e)
   ·have e2:x0z H o=j0Y H o.a:=by unfold x0z;rw[if_neg (by omega),if_neg (by omega),if_neg (by omega),if_pos e]
    rw[e2];exact v5N _ (.inr (.inr (.inr (.inl rfl)))) v H o _ w h hs hf ho.kind (by unfold v0o;rw[if_neg (by omega),if_neg (by omega),if_neg (by omega),if_pos e]) hok (λW X B gx s hL=>v3w W X B gx s H o hL hs ho.a)
   ·have e2:x0z H o=q1H H o.a:=by unfold x0z;rw[if_neg (by omega),if_neg (by omega),if_neg (by omega),if_neg (by omega),if_pos e]
    rw[e2];exact v5N _ (.inr (.inr (.inr (.inr (.inl rfl))))) v H o _ w h hs hf ho.kind (by unfold v0o;rw[if_neg (by omega),if_neg (by omega),if_neg (by omega),if_neg (by omega),if_pos e]) hok (λW X B gx s hL=>v3s W X B gx s H o hL hs hf.weaks)
   ·have e2:x0z H o=q1G H o.a:=by unfold x0z;rw[if_neg (by omega),if_neg (by omega),if_neg (by omega),if_neg (by omega),if_neg (by omega),if_pos e]
    rw[e2];exact v5N _ (.inr (.inr (.inr (.inr (.inr (.inl rfl)))))) v H o _ w h hs hf ho.kind (by unfold v0o;rw[if_neg (by omega),if_neg (by omega),if_neg (by omega),if_neg (by omega),if_neg (by omega),if_pos e]) hok (λW X B gx s hL=>v3q W X B gx s H o hL hs hf.weaks)
   ·have e2:x0z H o=(j0c H,⟨0,0,y0v H⟩):=by unfold x0z;rw[if_neg (by omega),if_neg (by omega),if_neg (by omega),if_neg (by omega),if_neg (by omega),if_neg (by omega),if_pos e]
    rw[e2];exact v5N _ (.inr (.inr (.inr (.inr (.inr (.inr (rfl))))))) v H o _ w h hs hf ho.kind (by unfold v0o;rw[if_neg (by omega),if_neg (by omega),if_neg (by omega),if_neg (by omega),if_neg (by omega),if_neg (by omega),if_pos e]) hok (λW X B gx s hL=>j2x W X B gx s H o hL hs hok.size.1 (x1g hf) hf.buffer)
end
section
open Go.RowKit
theorem z2B(v u:Value)(H:q0a)(T:q0e)(slot:Int)(w:World)(h:RdH w v H)(ht:RdT w u T)(hs:q0h H)(hst:v0p T)(hno:¬OkT H T slot\/T.colors.getD slot.toNat 0=1):
 Calls Tryz.prog 73 #[v,u,.int .i64 slot] w λe w' =>∃s:TSh,e= .returned s.v/\TM w' w.heap.size s T/\Below w.heap.size w w' :=by
 have HRH:Hid (∀X,Below w.heap.size w X->RdH X v H):=λX hX=>q0s h hX;have HRT:Hid (∀X,Below w.heap.size w X->RdT X u T):=λX hX=>v0S ht hX;obtain⟨ao,co,aw,cw,ab,cb,sa,sc,rfl,-⟩:=h;obtain⟨xa,xc,ya,yc,rfl,-,ri⟩:=ht;obtain⟨W,hW⟩:∃W,W=((w.alloc (.cells #[.slice ao H.objs.length co,.slice aw H.weaks.length cw,.slice ab H.buffer.length cb,.slice sa H.sites.length sc] 35)).alloc (.cells #[.slice xa T.counts.length xc,.slice ya T.colors.length yc] 101)).alloc (.cells #[.slice none 0 0,.slice none 0 0] 101):=⟨_,rfl⟩;have BW:Below w.heap.size w W:=by rw[hW];exact((bl1 _).alloc (by simp) _).alloc (by simp;omega) _
 have hWs:W.heap.size=w.heap.size+3:=by rw[hW];simp
 have q0:q0d W w.heap.size (.slice ao H.objs.length co) (.slice aw H.weaks.length cw) (.slice ab H.buffer.length cb) (.slice sa H.sites.length sc):=by have f1:=q0d.new w (.slice ao H.objs.length co) (.slice aw H.weaks.length cw) (.slice ab H.buffer.length cb) (.slice sa H.sites.length sc);exact Eq.trans (by rw[hW,Below.heap_alloc _ _ _ (by simp;omega),Below.heap_alloc _ _ _ (by simp)]) f1
 have q1:Two W (w.heap.size+1) (.slice xa T.counts.length xc) (.slice ya T.colors.length yc):=by have f1:=Two.new (w.alloc (.cells #[.slice ao H.objs.length co,.slice aw H.weaks.length cw,.slice ab H.buffer.length cb,.slice sa H.sites.length sc] 35)) (.slice xa T.counts.length xc) (.slice ya T.colors.length yc);rw[show(w.alloc (.cells #[.slice ao H.objs.length co,.slice aw H.weaks.length cw,.slice ab H.buffer.length cb,.slice sa H.sites.length sc] 35)).heap.size=w.heap.size+1 from by simp]at f1;exact Eq.trans (by rw[hW,Below.heap_alloc _ _ _ (by simp)]) f1
 have q2:Two W (w.heap.size+2) (.slice none 0 0) (.slice none 0 0):=by have f1:=Two.new ((w.alloc (.cells #[.slice ao H.objs.length co,.slice aw H.weaks.length cw,.slice ab H.buffer.length cb,.slice sa H.sites.length sc] 35)).alloc (.cells #[.slice xa T.counts.length xc,.slice ya T.colors.length yc] 101)) (.slice none 0 0) (.slice none 0 0);rw[show((w.alloc (.cells #[.slice ao H.objs.length co,.slice aw H.weaks.length cw,.slice ab H.buffer.length cb,.slice sa H.sites.length sc] 35)).alloc (.cells #[.slice xa T.counts.length xc,.slice ya T.colors.length yc] 101)).heap.size=w.heap.size+2 from by simp]at f1;rw[hW];exact f1
 have HQ:Hid (∀X,Below W.heap.size W X->q0d X w.heap.size (.slice ao H.objs.length co) (.slice aw H.weaks.length cw) (.slice ab H.buffer.length cb) (.slice sa H.sites.length sc)/\Two X (w.heap.size+1) (.slice xa T.counts.length xc) (.slice ya T.colors.length yc)/\Two X (w.heap.size+2) (.slice none 0 0) (.slice none 0 0)):=
  λX hX=>⟨q0.same (hX.block _ (by omega)),q1.same (hX.block _ (by omega)),q2.same (hX.block _ (by omega))⟩
 have HBW:Hid (Below w.heap.size w W):=BW;have HWs:Hid (W.heap.size=w.heap.size+3):=hWs;have CC:Hid (∀_:Unit,_):=λ(_:Unit)=>v1T _ T W (HRT.out W BW) hst
 obtain⟨b,hb⟩:∃b:Bool,b=true↔OkT H T slot:=by
  by_cases h:OkT H T slot
  ·exact⟨true,by simp[h]⟩
  ·exact⟨false,by simp[h]⟩
 have CO:Hid (∀X,Below w.heap.size w X->_):=λX hX=>j1A _ _ H T slot X (HRH.out X hX) (HRT.out X hX) hs hst b hb;have HRI:Hid (∀X,Below w.heap.size w X->RdI X ya T.colors):=λX hX=>q0t ri hX;have HBO:Hid (b=true↔OkT H T slot):=hb;have HNO:Hid (¬OkT H T slot\/T.colors.getD slot.toNat 0=1):=hno;have hlc:=hst.colors;clear q0 q1 q2 BW hWs HRH HRT hs hst hno ri hb;go_enter Tryz.func73,Tryz.ntmps73;go_wp2_with fail
 rw[<-hW];clear hW;refine(CC.out ()).mono ?_;rintro e w1 ⟨s,rfl,M1,b1⟩;obtain⟨V,hV⟩:∃V,V=w1.alloc (.cells #[.slice s.a s.n s.c,.slice s.b s.m s.d] 101):=⟨_,rfl⟩;have BV:Below w1.heap.size w1 V:=by rw[hV];exact bl1 _
 have HTV:Hid (TM V W.heap.size s T):=M1.later BV;have HXV:Hid (Two V w1.heap.size (.slice s.a s.n s.c) (.slice s.b s.m s.d)):=by rw[hV];exact Two.new w1 _ _
 have HBV:Hid (Below W.heap.size W V):=b1.trans (BV.mono b1.size);have HW1:Hid (W.heap.size<=w1.heap.size):=b1.size;have HVV:Hid (Below w.heap.size w V):=HBW.out.trans (HBV.out.mono HBW.out.size);obtain⟨F1,X1,X2⟩:=HQ.out w1 b1;have f0:w1.cell? ⟨w.heap.size,0,none⟩=some (.slice ao H.objs.length co):=F1.cell 0;have f1:w1.cell? ⟨w.heap.size,1,none⟩=some (.slice aw H.weaks.length cw):=F1.cell 1;have f2:w1.cell? ⟨w.heap.size,2,none⟩=some (.slice ab H.buffer.length cb):=F1.cell 2;have f3:w1.cell? ⟨w.heap.size,3,none⟩=some (.slice sa H.sites.length sc):=F1.cell 3;have t0:w1.cell? ⟨w.heap.size+1,0,none⟩=some (.slice xa T.counts.length xc):=X1.cell 0;have t1:w1.cell? ⟨w.heap.size+1,1,none⟩=some (.slice ya T.colors.length yc):=X1.cell 1;have g0:w.heap.size<w1.heap.size:=F1.lt;have g1:w.heap.size+1<w1.heap.size:=X1.lt;have n0:¬w.heap.size=w1.heap.size:=by omega
 have n1:¬w.heap.size+1=w1.heap.size:=by omega
 have HC2:Hid (Calls _ _ _ V _):=CO.out V HVV.out;rw[show s.v= .agg #[.slice s.a s.n s.c,.slice s.b s.m s.d]from rfl];clear CC CO M1 b1 BV F1 X1 X2;go_wp2_with fail
 rw[<-hV];clear hV;refine HC2.out.mono ?_;rintro e w2 ⟨rfl,b2⟩;have HB2:Hid (Below W.heap.size W w2):=HBV.out.trans (b2.mono HBV.out.size);have HT2:Hid (TM w2 W.heap.size s T):=HTV.out.later b2;have X2:Two w2 w1.heap.size (.slice s.a s.n s.c) (.slice s.b s.m s.d):=HXV.out.later b2 HXV.out.lt;obtain⟨-,T1,R1⟩:=HQ.out w2 HB2.out;have x0:w2.cell? ⟨w1.heap.size,0,none⟩=some (.slice s.a s.n s.c):=X2.cell 0;have x1:w2.cell? ⟨w1.heap.size,1,none⟩=some (.slice s.b s.m s.d):=X2.cell 1;have u1:w2.cell? ⟨w.heap.size+1,1,none⟩=some (.slice ya T.colors.length yc):=T1.cell 1;have r0:w2.cell? ⟨w.heap.size+2,0,none⟩=some (.slice none 0 0):=R1.cell 0;have r1:w2.cell? ⟨w.heap.size+2,1,none⟩=some (.slice none 0 0):=R1.cell 1;have z0:=R1.frozen 0;have z1:=R1.frozen 1
 have HFIN:Hid (TM (q0B w2 (w.heap.size+2) (.slice s.a s.n s.c) (.slice s.b s.m s.d)) w.heap.size s T/\Below w.heap.size w (q0B w2 (w.heap.size+2) (.slice s.a s.n s.c) (.slice s.b s.m s.d))):=by have e3:=HWs.out;refine⟨(HT2.out.same (λg h1 h2=>z0c _ _ _ _ g (by omega))).mono (by omega),?_⟩;unfold q0B;exact((HBW.out.trans (HB2.out.mono (by omega))).setCell (by simp) _).setCell (by simp) _
 clear f0 f1 f2 f3 t0 t1 g0 g1 n0 n1 T1 R1 X2 b2
 cases b with
 |false=>go_wp2;exact bodyPost_ret (v:= .agg #[.slice s.a s.n s.c,.slice s.b s.m s.d]) (by simp[results,Tryz.results73,go_sem, *]) rfl ⟨s,rfl,HFIN.out⟩
 |true=>
  have ok:=HBO.out.1 rfl;have hlo:=ok.lo;have hhi:=ok.hi;have h8:=ok.colors;obtain⟨k,rfl⟩:∃k:Nat,slot=(k:Int):=⟨slot.toNat,by omega⟩;have hk:k<T.colors.length:=by omega
  have hg:T.colors[k]=1:=by
   rcases HNO.out with h|h
   ·exact absurd ok h
   ·rw[show((k:Int)).toNat=k from by omega,List.getD_eq_getElem?_getD,List.getElem?_eq_getElem hk,Option.getD_some]at h;exact h
  obtain⟨g,off,rfl,-,hc⟩:=HRI.out w2 (HBW.out.trans (HB2.out.mono HBW.out.size)) k hk;rw[hg]at hc;clear hg ok h8 hlo hhi;go_wp2;exact bodyPost_ret (v:= .agg #[.slice s.a s.n s.c,.slice s.b s.m s.d]) (by simp[results,Tryz.results73,go_sem, *]) rfl ⟨s,rfl,HFIN.out⟩
end
section
open Go.RowKit
theorem q3Z(v u:Value)(H:q0a)(T:q0e)(k:Nat)(w:World)(h:RdH w v H)(ht:RdT w u T)(hs:q0h H)(hst:v0p T)(hf:∀o∈H.objs,∀z∈o.field,q0w z)(hok:OkT H T (k:Int))(hno:T.colors.getD k 0≠1):
 Calls Tryz.prog 73 #[v,u,.int .i64 (k:Int)] w λe w' =>∃s:TSh,e= .returned s.v/\TM w' w.heap.size s (z2d H T (k:Int))/\Below w.heap.size w w' :=by
 have HRH:Hid (∀X,Below w.heap.size w X->RdH X v H):=λX hX=>q0s h hX;have HRT:Hid (∀X,Below w.heap.size w X->RdT X u T):=λX hX=>v0S ht hX;obtain⟨ao,co,aw,cw,ab,cb,sa,sc,rfl,-⟩:=h;obtain⟨xa,xc,ya,yc,rfl,-,ri⟩:=ht;obtain⟨W,hW⟩:∃W,W=((w.alloc (.cells #[.slice ao H.objs.length co,.slice aw H.weaks.length cw,.slice ab H.buffer.length cb,.slice sa H.sites.length sc] 35)).alloc (.cells #[.slice xa T.counts.length xc,.slice ya T.colors.length yc] 101)).alloc (.cells #[.slice none 0 0,.slice none 0 0] 101):=⟨_,rfl⟩;have BW:Below w.heap.size w W:=by rw[hW];exact((bl1 _).alloc (by simp) _).alloc (by simp;omega) _
 have hWs:W.heap.size=w.heap.size+3:=by rw[hW];simp
 have q0:q0d W w.heap.size (.slice ao H.objs.length co) (.slice aw H.weaks.length cw) (.slice ab H.buffer.length cb) (.slice sa H.sites.length sc):=by have f1:=q0d.new w (.slice ao H.objs.length co) (.slice aw H.weaks.length cw) (.slice ab H.buffer.length cb) (.slice sa H.sites.length sc);exact Eq.trans (by rw[hW,Below.heap_alloc _ _ _ (by simp;omega),Below.heap_alloc _ _ _ (by simp)]) f1
 have q1:Two W (w.heap.size+1) (.slice xa T.counts.length xc) (.slice ya T.colors.length yc):=by have f1:=Two.new (w.alloc (.cells #[.slice ao H.objs.length co,.slice aw H.weaks.length cw,.slice ab H.buffer.length cb,.slice sa H.sites.length sc] 35)) (.slice xa T.counts.length xc) (.slice ya T.colors.length yc);rw[show(w.alloc (.cells #[.slice ao H.objs.length co,.slice aw H.weaks.length cw,.slice ab H.buffer.length cb,.slice sa H.sites.length sc] 35)).heap.size=w.heap.size+1 from by simp]at f1;exact Eq.trans (by rw[hW,Below.heap_alloc _ _ _ (by simp)]) f1
 have q2:Two W (w.heap.size+2) (.slice none 0 0) (.slice none 0 0):=by have f1:=Two.new ((w.alloc (.cells #[.slice ao H.objs.length co,.slice aw H.weaks.length cw,.slice ab H.buffer.length cb,.slice sa H.sites.length sc] 35)).alloc (.cells #[.slice xa T.counts.length xc,.slice ya T.colors.length yc] 101)) (.slice none 0 0) (.slice none 0 0);rw[show((w.alloc (.cells #[.slice ao H.objs.length co,.slice aw H.weaks.length cw,.slice ab H.buffer.length cb,.slice sa H.sites.length sc] 35)).alloc (.cells #[.slice xa T.counts.length xc,.slice ya T.colors.length yc] 101)).heap.size=w.heap.size+2 from by simp]at f1;rw[hW];exact f1
 have HQ:Hid (∀X,Below W.heap.size W X->q0d X w.heap.size (.slice ao H.objs.length co) (.slice aw H.weaks.length cw) (.slice ab H.buffer.length cb) (.slice sa H.sites.length sc)/\Two X (w.heap.size+1) (.slice xa T.counts.length xc) (.slice ya T.colors.length yc)/\Two X (w.heap.size+2) (.slice none 0 0) (.slice none 0 0)):=
  λX hX=>⟨q0.same (hX.block _ (by omega)),q1.same (hX.block _ (by omega)),q2.same (hX.block _ (by omega))⟩
 have HBW:Hid (Below w.heap.size w W):=BW;have HWs:Hid (W.heap.size=w.heap.size+3):=hWs;have CC:Hid (∀_:Unit,_):=λ(_:Unit)=>v1T _ T W (HRT.out W BW) hst
 obtain⟨b,hb⟩:∃b:Bool,b=true↔OkT H T (k:Int):=by
  by_cases h:OkT H T (k:Int)
  ·exact⟨true,by simp[h]⟩
  ·exact⟨false,by simp[h]⟩
 have CO:Hid (∀X,Below w.heap.size w X->_):=λX hX=>j1A _ _ H T (k:Int) X (HRH.out X hX) (HRT.out X hX) hs hst b hb;have HRI:Hid (∀X,Below w.heap.size w X->RdI X ya T.colors):=λX hX=>q0t ri hX;have HBO:Hid (b=true↔OkT H T (k:Int)):=hb;have HS:Hid (q0h H):=hs;have HF:Hid (∀o∈H.objs,∀z∈o.field,q0w z):=hf;obtain rfl:b=true:=hb.2 hok;have HOK:Hid (OkT H T (k:Int)):=hok;have HNO:Hid (T.colors.getD k 0≠1):=hno;have HR:Hid (∀X,Below w.heap.size w X->RdH X _ H):=HRH.out;have hlc:=hst.colors;clear q0 q1 q2 BW hWs HRH HRT hs hst hno ri hb hok hf;go_enter Tryz.func73,Tryz.ntmps73;go_wp2_with fail
 rw[<-hW];clear hW;refine(CC.out ()).mono ?_;rintro e w1 ⟨s,rfl,M1,b1⟩;obtain⟨V,hV⟩:∃V,V=w1.alloc (.cells #[.slice s.a s.n s.c,.slice s.b s.m s.d] 101):=⟨_,rfl⟩;have BV:Below w1.heap.size w1 V:=by rw[hV];exact bl1 _
 have HTV:Hid (TM V W.heap.size s T):=M1.later BV;have HXV:Hid (Two V w1.heap.size (.slice s.a s.n s.c) (.slice s.b s.m s.d)):=by rw[hV];exact Two.new w1 _ _
 have HBV:Hid (Below W.heap.size W V):=b1.trans (BV.mono b1.size);have HW1:Hid (W.heap.size<=w1.heap.size):=b1.size;have HVV:Hid (Below w.heap.size w V):=HBW.out.trans (HBV.out.mono HBW.out.size);obtain⟨F1,X1,X2⟩:=HQ.out w1 b1;have f0:w1.cell? ⟨w.heap.size,0,none⟩=some (.slice ao H.objs.length co):=F1.cell 0;have f1:w1.cell? ⟨w.heap.size,1,none⟩=some (.slice aw H.weaks.length cw):=F1.cell 1;have f2:w1.cell? ⟨w.heap.size,2,none⟩=some (.slice ab H.buffer.length cb):=F1.cell 2;have f3:w1.cell? ⟨w.heap.size,3,none⟩=some (.slice sa H.sites.length sc):=F1.cell 3;have t0:w1.cell? ⟨w.heap.size+1,0,none⟩=some (.slice xa T.counts.length xc):=X1.cell 0;have t1:w1.cell? ⟨w.heap.size+1,1,none⟩=some (.slice ya T.colors.length yc):=X1.cell 1;have g0:w.heap.size<w1.heap.size:=F1.lt;have g1:w.heap.size+1<w1.heap.size:=X1.lt;have n0:¬w.heap.size=w1.heap.size:=by omega
 have n1:¬w.heap.size+1=w1.heap.size:=by omega
 have HC2:Hid (Calls _ _ _ V _):=CO.out V HVV.out;rw[show s.v= .agg #[.slice s.a s.n s.c,.slice s.b s.m s.d]from rfl];clear CC CO M1 b1 BV F1 X1 X2;go_wp2_with fail
 rw[<-hV];clear hV;refine HC2.out.mono ?_;rintro e w2 ⟨rfl,b2⟩;have HB2:Hid (Below W.heap.size W w2):=HBV.out.trans (b2.mono HBV.out.size);have HT2:Hid (TM w2 W.heap.size s T):=HTV.out.later b2;have X2:Two w2 w1.heap.size (.slice s.a s.n s.c) (.slice s.b s.m s.d):=HXV.out.later b2 HXV.out.lt;obtain⟨-,T1,R1⟩:=HQ.out w2 HB2.out;have x0:w2.cell? ⟨w1.heap.size,0,none⟩=some (.slice s.a s.n s.c):=X2.cell 0;have x1:w2.cell? ⟨w1.heap.size,1,none⟩=some (.slice s.b s.m s.d):=X2.cell 1;have u1:w2.cell? ⟨w.heap.size+1,1,none⟩=some (.slice ya T.colors.length yc):=T1.cell 1;have r0:w2.cell? ⟨w.heap.size+2,0,none⟩=some (.slice none 0 0):=R1.cell 0;have r1:w2.cell? ⟨w.heap.size+2,1,none⟩=some (.slice none 0 0):=R1.cell 1;have z0:=R1.frozen 0;have z1:=R1.frozen 1;have HBs:Hid (W.heap.size=w.heap.size+3):=HWs.out;have H8:Hid (H.objs.length=8):=HOK.out.objs;have hk:k<8:=by have:=HOK.out.hi;omega
 obtain⟨sn,sm⟩:=HT2.out.lens;rw[HOK.out.counts]at sn;rw[HOK.out.colors]at sm
 have form:∀{a:Option Addr}{c:Nat}{zs:List Int},q0i w2 W.heap.size (.slice a 8 c) zs->∃g,a=some ⟨g,0,none⟩:=λho=>by
  rcases x0N ho with⟨h1,-⟩|⟨g,cap,h1,-⟩
  ·simp at h1
  ·simp only[Value.slice.injEq]at h1;exact⟨g,h1.1⟩
 obtain⟨sa',sn',c,sb',sm',d⟩:=s;simp only at sn sm;subst sn sm;obtain⟨ga,rfl⟩:=form HT2.out.x;obtain⟨gb,rfl⟩:=form HT2.out.y;have hne:ga≠gb:=λe=>HT2.out.dif ga rfl (by show some gb=some ga;rw[e]);have la:ga<w2.heap.size:=(q0n HT2.out.x ga rfl).2;have lb:gb<w2.heap.size:=(q0n HT2.out.y gb rfl).2;have lga:W.heap.size<=ga:=(q0n HT2.out.x ga rfl).1;have lgb:W.heap.size<=gb:=(q0n HT2.out.y gb rfl).1;have b1:BI w2 w2 W.heap.size ga gb c d T (.slice none 0 0) []:=⟨bl0,λ_ _ _ _=>rfl,HT2.out.x,HT2.out.y,hne,la,lb,HB2.out.size,z0H _ _⟩;obtain⟨-,-,cb0,fb0⟩:=j0b b1 k hk;obtain⟨-,T1',-⟩:=HQ.out w2 HB2.out
 have hgx:w1.heap.size≠ga/\w1.heap.size≠gb:=by have xk:w2.heap[w1.heap.size]? =some (.cells #[.slice (some ⟨ga,0,none⟩) 8 c,.slice (some ⟨gb,0,none⟩) 8 d] 101 (0,0)):=X2;obtain⟨cu1,k1⟩:=y0t HT2.out.x ga rfl;obtain⟨cu2,k2⟩:=y0t HT2.out.y gb rfl;exact⟨λe=>y0O xk k1 (by decide) e,λe=>y0O xk k2 (by decide) e⟩
 have HQ2:Hid (∀X,(∀g,g<w2.heap.size->g≠ga->g≠gb->X.heap[g]? =w2.heap[g]?)->q0d X w.heap.size (.slice ao H.objs.length co) (.slice aw H.weaks.length cw) (.slice ab H.buffer.length cb) (.slice sa H.sites.length sc)/\Two X w1.heap.size (.slice (some ⟨ga,0,none⟩) 8 c) (.slice (some ⟨gb,0,none⟩) 8 d)/\Two X (w.heap.size+2) (.slice none 0 0) (.slice none 0 0)):=by have e3:=HBs.out;have e4:=HB2.out.size;obtain⟨p0,-,p2⟩:=HQ.out w2 HB2.out;exactλX hX=>⟨p0.same (hX _ (by omega) (by omega) (by omega)),X2.same (hX _ X2.lt hgx.1 hgx.2),p2.same (hX _ (by omega) (by omega) (by omega))⟩
 have HB0:Hid (BI w2 ((w2.setCell ⟨gb,k,none⟩ (.int .i64 1)).alloc (.cells #[.int .i64 (k:Int)] 3)) W.heap.size ga gb c d ⟨T.counts,T.colors.set k 1⟩ (.slice (some ⟨w2.heap.size,0,none⟩) 1 1) [(k:Int)]):=by
  have b2:=j1T b1 k 1;have hz:(w2.setCell ⟨gb,k,none⟩ (.int .i64 1)).heap.size=w2.heap.size:=by simp[World.setCell]
  have b3:=v0T b2 (bl1 (.cells #[.int .i64 (k:Int)] 3));have b4:=y2z (w2.setCell ⟨gb,k,none⟩ (.int .i64 1)) w2.heap.size (k:Int) (by omega);rw[hz]at b4;exact⟨b3.bel,b3.oth,b3.x,b3.y,b3.ne,b3.la,b3.lb,b3.hB,b4⟩
 have HSL:Hid (x0j [(k:Int)]):=λz hz=>by rw[List.mem_singleton.1 hz];omega
 have HRR:Hid (z2d H T (k:Int)=x0p (-1) 1 H ⟨T.counts,T.colors.set k 1⟩ [(k:Int)]):=by show _=_;unfold z2d;rw[show((k:Int)).toNat=k from by omega]
 have HM0:Hid (mu 1 ((⟨T.counts,T.colors.set k 1⟩:q0e),[(k:Int)])<=17):=by have h1:=q3P 1 (T.colors.set k 1);rw[List.length_set,HOK.out.colors]at h1;show 2*x0A 1 (T.colors.set k 1)+1<=17;omega
 have HBW2:Hid (Below w.heap.size w w2):=HBW.out.trans (HB2.out.mono HBW.out.size);obtain⟨gc,off,hya,-,hcc⟩:=HRI.out w2 HBW2.out k (by rw[HOK.out.colors];exact hk);obtain⟨y0,hy0⟩:∃y0,T.colors.getD k 0=y0:=⟨_,rfl⟩
 have hcc2:w2.cell? ⟨gc,off+k,none⟩=some (.int .i64 y0):=by rw[<-hy0,List.getD_eq_getElem?_getD,List.getElem?_eq_getElem (by rw[HOK.out.colors];exact hk)];exact hcc
 have hq0:(y0==1)=false:=by rw[<-hy0];simpa using HNO.out
 have h8c:=HOK.out.colors;have h8o:=HOK.out.objs;subst hya;rw[h8c]at u1;rw[h8o]at HQ2 HR;rw[h8c,h8o];clear hcc hy0;clear HQ HBW;have HQ:=HQ2;have HBW:=HBW2;obtain⟨R,hRG⟩:∃R,z2d H T (k:Int)=R:=⟨_,rfl⟩;have HRG:Hid (z2d H T (k:Int)=R):=hRG;rw[hRG]at HRR;clear hRG;obtain⟨gx,hgx0⟩:∃gx,w1.heap.size=gx:=⟨_,rfl⟩;rw[hgx0]at HQ x0 x1 ⊢;obtain⟨B,hBB⟩:∃B,W.heap.size=B:=⟨_,rfl⟩;rw[hBB]at HB0 HBs;clear f0 f1 f2 f3 t0 t1 g0 g1 n0 n1 T1 R1 X2 b2 HQ2 HBW2 T1' hgx b1 form HT2 HTV HXV HC2 hgx0 h8c h8o HRI la lb lga lgb hne HBV HW1 HVV HWs hBB HB2;go_wp2;go_loopw[8] (λvq wr=>∃(T' :q0e)(todo:List Int)(qa:Option Addr)(qc:Nat),vq= .slice qa todo.length qc/\Hid (BI w2 wr B ga gb c d T' vq todo)/\Hid (x0j todo)/\Hid (mu 1 (T',todo)<=17)/\Hid (R=x0p (-1) 1 H T' todo)) (λvq wr=>x0J vq+2*u0e wr gb 1)
 case atStart=>exact⟨_,[(k:Int)],_,1,rfl,HB0,HSL,HM0,HRR⟩
 case round=>
  obtain⟨T',todo,qa,qc,rfl,HI,HT,HMU,HRS⟩:=hrel;obtain⟨F0,X1,X2⟩:=HQ.out wr HI.out.oth;rcases List.eq_nil_or_concat todo with rfl|⟨rest,kz,rfl⟩
  ·have HE:Hid (R=T'):=by show _=_;rw[HRS.out,x2f]
   have x0:wr.cell? ⟨gx,0,none⟩=some (.slice (some ⟨ga,0,none⟩) 8 c):=X1.cell 0;have x1:wr.cell? ⟨gx,1,none⟩=some (.slice (some ⟨gb,0,none⟩) 8 d):=X1.cell 1;have r0:wr.cell? ⟨w.heap.size+2,0,none⟩=some (.slice none 0 0):=X2.cell 0;have r1:wr.cell? ⟨w.heap.size+2,1,none⟩=some (.slice none 0 0):=X2.cell 1;have z0:=X2.frozen 0;have z1:=X2.frozen 1
   have HFIN:Hid (TM (q0B wr (w.heap.size+2) (.slice (some ⟨ga,0,none⟩) 8 c) (.slice (some ⟨gb,0,none⟩) 8 d)) w.heap.size ⟨some ⟨ga,0,none⟩,8,c,some ⟨gb,0,none⟩,8,d⟩ R/\Below w.heap.size w (q0B wr (w.heap.size+2) (.slice (some ⟨ga,0,none⟩) 8 c) (.slice (some ⟨gb,0,none⟩) 8 d))):=by
    have e3:=HBs.out;rw[HE.out];refine⟨⟨q0A (q0v HI.out.x (λg hg=>z0c _ _ _ _ g (by have:=(q0n HI.out.x g hg).1;omega))) (by omega),q0A (q0v HI.out.y (λg hg=>z0c _ _ _ _ g (by have:=(q0n HI.out.y g hg).1;omega))) (by omega),λg h1 h2=> ?_⟩,?_⟩
    ·have e1:ga=g:=by simpa[TSh.x,Value.ownBlock]using h1
     have e2:gb=g:=by simpa[TSh.y,Value.ownBlock]using h2
     exact HI.out.ne (by omega)
    ·unfold q0B;exact((HBW.out.trans (HI.out.bel.mono (by omega))).setCell (by simp) _).setCell (by simp) _
   clear F0 X1 X2 HI HRS;go_wp2;exact bodyPost_ret (v:= .agg #[.slice (some ⟨ga,0,none⟩) 8 c,.slice (some ⟨gb,0,none⟩) 8 d]) (by simp[results,Tryz.results73,go_sem, *]) rfl ⟨⟨some ⟨ga,0,none⟩,8,c,some ⟨gb,0,none⟩,8,d⟩,rfl,by rw[HRG.out];exact HFIN.out⟩
  ·rw[List.concat_eq_append]at*;obtain⟨m,hm⟩:∃m,rest.length=m:=⟨_,rfl⟩;have hl:(rest++[kz]).length=m+1:=by simp[hm]
   rw[hl]at HI ⊢;obtain⟨s,rfl⟩:∃s:Nat,kz=(s:Int):=⟨kz.toNat,by have:=HT.out kz (by simp);omega⟩;have hs8:s<8:=by have:=HT.out (s:Int) (by simp);omega
   rcases x0N HI.out.q with⟨h1,-⟩|⟨gq,cap,h1,hgq,hgl,hcap,hmax,HC⟩
   ·simp at h1
   have e1:qa=some ⟨gq,0,none⟩/\qc=cap:=by simp only[Value.slice.injEq]at h1;exact⟨h1.1,h1.2.2⟩
   obtain⟨rfl,rfl⟩:=e1
   have hcell:wr.cell? ⟨gq,m,none⟩=some (.int .i64 (s:Int)):=by have h2:=(HC.out m (by omega)).1;rw[List.getElem_append_right (by omega)]at h2;simpa using h2
   rw[hl]at hcap;have hm17:m<=17:=by have:=HMU.out;simp only[mu]at this;omega
   have HPOP:Hid (BI w2 wr B ga gb c d T' (.slice (some ⟨gq,0,none⟩) m qc) rest):=x3d HI.out;have hsl:s<H.objs.length:=by have:=H8.out;omega
   have CK:Hid (∀_:Unit,_):=λ(_:Unit)=>q2j _ H s wr (HR.out wr (HBW.out.trans (HI.out.bel.mono (by have:=HBs.out;omega)))) HS.out hsl (HF.out _ (List.getElem_mem hsl));have HKS:Hid (q0P H (s:Int)=v0C H H.objs[s].field):=y1W H s hsl;have HSN:Hid (R=x0p (-1) 1 H (y0S (-1) 1 (q0P H) T' rest (s:Int)).1 (y0S (-1) 1 (q0P H) T' rest (s:Int)).2):=by show _=_;rw[HRS.out,q2O (-1) 1 H T' rest (s:Int) HI.out.eight HT.out]
   have HRO:Hid _:=v1e (-1) 1 (q0P H) (x0I H) T' rest (s:Int) HI.out.eight HT.out;have HKSL:Hid (x0j (v0C H H.objs[s].field)):=j1u H _;have HMS:Hid (u0e wr gb 1=x0A 1 T'.colors):=y1O HI.out 1;have HRSL:Hid (x0j rest):=λz hz=>HT.out z (by simp[hz]);have HE8:Hid (q0I T'):=HI.out.eight;unfold y0S at HSN HRO;rw[HKS.out]at HSN HRO;have hkl:=Nat.le_trans (v2c H H.objs[s].field) (HS.out.fields _ (List.getElem_mem hsl));generalize v0C H H.objs[s].field=ks at*;have f0:wr.cell? ⟨w.heap.size,0,none⟩=some (.slice ao 8 co):=F0.cell 0;have f1:wr.cell? ⟨w.heap.size,1,none⟩=some (.slice aw H.weaks.length cw):=F0.cell 1;have f2:wr.cell? ⟨w.heap.size,2,none⟩=some (.slice ab H.buffer.length cb):=F0.cell 2;have f3:wr.cell? ⟨w.heap.size,3,none⟩=some (.slice sa H.sites.length sc):=F0.cell 3;have HGQ:Hid (gq<wr.heap.size):=hgl;have HWB:Hid (w2.heap.size<=wr.heap.size):=HI.out.bel.size;have hmc:(m:Int)<=(qc:Int):=by omega
   have hb1:decide ((0:Int)<(m:Int)+1)=true:=decide_eq_true (by omega);clear F0 X1 X2 HI HRS HC hgl hgq hmax h1 hl hm HT HKS hsl;go_wp2_with fail
   refine(CK.out ()).mono ?_;rintro e w1 ⟨vk,rfl,O1,b1⟩;obtain⟨ka,kc,rfl,-⟩:=q0Y O1;have HI1:Hid (BI w2 w1 B ga gb c d T' (.slice (some ⟨gq,0,none⟩) m qc) rest):=v0T HPOP.out b1;have HK1:Hid (q0i w1 w2.heap.size (.slice ka ks.length kc) ks):=q0A O1 HWB.out
   have HD1:Hid (u0a (.slice (some ⟨gq,0,none⟩) m qc) (.slice ka ks.length kc)):=λg h1 h2=>by
    have e1:gq=g:=by simpa[Value.ownBlock]using h1
    have e2:=(q0n O1 g h2).1;have e3:=HGQ.out;omega
   have HM1:Hid (mu 1 (T',rest)<=17):=by have h1:=HMU.out;simp only[mu,List.length_append,List.length_singleton]at h1;show 2*x0A 1 T'.colors+rest.length<=17;omega
   have HLR:Hid (rest.length=m):=z1C HI1.out.q▸rfl;clear O1 b1 CK HPOP f0 f1 f2 f3 hcell;obtain⟨n,hn⟩:∃n,ks.length=n:=⟨_,rfl⟩;have Hn:Hid (ks.length=n):=hn;rw[hn]at HK1 HD1 hkl ⊢;clear hn;go_wp2;go_loopw[8,11] (λvq i X=>∃(j:Nat)(T2:q0e)(td:List Int)(qa2:Option Addr)(qc2:Nat),i= .int .i64 (j:Int)/\vq= .slice qa2 td.length qc2/\j<=n/\Hid (BI w2 X B ga gb c d T2 vq td)/\Hid ((ks.take j).foldl (x0m (-1) 1) (T',rest)=(T2,td))/\Hid (q0i X w2.heap.size (.slice ka n kc) ks)/\Hid (u0a vq (.slice ka n kc))) (λ_ i _=>n - (intOf i).toNat)
   case atStart=>exact⟨0,T',rest,_,qc,rfl,by rw[HLR.out],by omega,HI1,rfl,HK1,HD1⟩
   case round=>
    obtain⟨j,T2,td,qa2,qc2,rfl,rfl,hjn,HI2,HFO,HK2,HD2⟩:=hrel;by_cases hlt:j<n
    ·have hj2:j<ks.length:=by have:=Hn.out;omega
     obtain⟨t,ht⟩:∃t:Nat,ks[j]=(t:Int):=⟨ks[j].toNat,by have:=HKSL.out _ (List.getElem_mem hj2);omega⟩;have ht8:t<8:=by have:=HKSL.out _ (List.getElem_mem hj2);omega
     have HML:Hid (td.length<=17):=by have h1:=(u2u (-1) 1 (ks.take j) (T',rest) HE8.out HRSL.out (λz hz=>HKSL.out z (List.mem_of_mem_take hz))).2.2;rw[HFO.out]at h1;have h2:=HM1.out;simp only[mu]at h1 h2;show _<=_;omega
     have HSTEP:Hid ((ks.take (j+1)).foldl (x0m (-1) 1) (T',rest)=x0m (-1) 1 (T2,td) (t:Int)):=by show _=_;rw[List.take_succ_eq_append_getElem hj2,List.foldl_append,HFO.out,ht];rfl
     rcases x0N HK2.out with⟨h1,-⟩|⟨gk,cap,h1,hgkB,hgk,hcp,hmx,HC⟩
     ·simp only[Value.slice.injEq]at h1;omega
     obtain⟨rfl,rfl⟩:ka=some ⟨gk,0,none⟩/\kc=cap:=by simp only[Value.slice.injEq]at h1;exact⟨h1.1,h1.2.2⟩
     have hck:wr.cell? ⟨gk,j,none⟩=some (.int .i64 (t:Int)):=by have h2:=(HC.out j hj2).1;rw[ht]at h2;exact h2
     obtain⟨ca,-,-,-⟩:=j0b HI2.out t ht8;obtain⟨-,X1,-⟩:=HQ.out wr HI2.out.oth;have hgal:ga<wr.heap.size:=Nat.lt_of_lt_of_le HI2.out.la HI2.out.bel.size;obtain⟨z,hz⟩:∃z,T2.counts.getD t 0=z:=⟨_,rfl⟩;obtain⟨y,hy⟩:∃y,T2.colors.getD t 0=y:=⟨_,rfl⟩;rw[hz]at ca
     have HKST:Hid (x0m (-1) 1 (T2,td) (t:Int)=if y=1 then((⟨T2.counts.set t (wrap64 (z - 1)),T2.colors⟩:q0e),td)else((⟨T2.counts.set t (wrap64 (z - 1)),T2.colors.set t 1⟩:q0e),td++[(t:Int)])):=by show _=_;unfold x0m;simp only[show((t:Int)).toNat=t from by omega,hz,hy,Int.sub_eq_add_neg]
     have HY:Hid (T2.colors.getD t 0=y):=hy;have HGK:Hid (w2.heap.size<=gk):=hgkB;have HTJ:Hid (ks[j]=(t:Int)):=ht;clear HC h1 hcp hmx hz hy ht hgkB;go_wp2;refine q0R 16 (by kernel_rfl) (by kernel_rfl) (λi _ v=>RB (gx) ga c gk n kc j t z (wrap64 (z - 1)) i v) (λ_ _ _ _ h _=>h) ?_ ?_
     ·intro i o hi ho a X hXX hA hdep
      match i,hi,ho with
      |0,_,ho=>
       cases ho
       exact v0s 0 (by omega) (q0f hA (t:=7) (by kernel_rfl)) ⟨_,rfl,bl0,rfl⟩
      |1,_,ho=>
       cases ho
       have e0:a.eval (.tmp 57)= .pointer (some ⟨gx,0,none⟩):=hdep ⟨0,.data⟩ (by simp) rfl 57 rfl;exact x0E e0 ((X1.later hXX X1.lt).cell 0) ⟨_,rfl,bl0,rfl⟩
      |2,_,ho=>
       cases ho
       exact z0p (q0f hA (t:=10) (by kernel_rfl)) ⟨_,rfl,bl0,rfl⟩
      |3,_,ho=>
       cases ho
       exact z0p (q0f hA (t:=11) (by kernel_rfl)) ⟨_,rfl,bl0,rfl⟩
      |4,_,ho=>
       cases ho
       have e2:a.eval (.tmp 59)= .slice (some ⟨gk,0,none⟩) n kc:=hdep ⟨2,.data⟩ (by simp) rfl 59 rfl;have e3:a.eval (.tmp 60)= .int .i64 (j:Int):=hdep ⟨3,.data⟩ (by simp) rfl 60 rfl;exact y0p e2 e3 hlt ⟨_,rfl,bl0,rfl⟩
      |5,_,ho=>
       cases ho
       have e4:a.eval (.tmp 61)= .pointer (some ⟨gk,j,none⟩):=hdep ⟨4,.data⟩ (by simp) rfl 61 rfl;exact z0V e4 ((hXX.cell (p:=⟨gk,j,none⟩) hgk).trans hck) ⟨_,rfl,bl0,rfl⟩
      |6,_,ho=>
       cases ho
       exact v0s 0 (by omega) (q0f hA (t:=7) (by kernel_rfl)) ⟨_,rfl,bl0,rfl⟩
      |7,_,ho=>
       cases ho
       have e6:a.eval (.tmp 63)= .pointer (some ⟨gx,0,none⟩):=hdep ⟨6,.data⟩ (by simp) rfl 63 rfl;exact x0E e6 ((X1.later hXX X1.lt).cell 0) ⟨_,rfl,bl0,rfl⟩
      |8,_,ho=>
       cases ho
       exact z0p (q0f hA (t:=10) (by kernel_rfl)) ⟨_,rfl,bl0,rfl⟩
      |9,_,ho=>
       cases ho
       exact z0p (q0f hA (t:=11) (by kernel_rfl)) ⟨_,rfl,bl0,rfl⟩
      |10,_,ho=>
       cases ho
       have e8:a.eval (.tmp 65)= .slice (some ⟨gk,0,none⟩) n kc:=hdep ⟨8,.data⟩ (by simp) rfl 65 rfl;have e9:a.eval (.tmp 66)= .int .i64 (j:Int):=hdep ⟨9,.data⟩ (by simp) rfl 66 rfl;exact y0p e8 e9 hlt ⟨_,rfl,bl0,rfl⟩
      |11,_,ho=>
       cases ho
       have e10:a.eval (.tmp 67)= .pointer (some ⟨gk,j,none⟩):=hdep ⟨10,.data⟩ (by simp) rfl 67 rfl;exact z0V e10 ((hXX.cell (p:=⟨gk,j,none⟩) hgk).trans hck) ⟨_,rfl,bl0,rfl⟩
      |12,_,ho=>
       cases ho
       have e7:a.eval (.tmp 64)= .slice (some ⟨ga,0,none⟩) 8 c:=hdep ⟨7,.data⟩ (by simp) rfl 64 rfl;have e11:a.eval (.tmp 68)= .int .i64 (t:Int):=hdep ⟨11,.data⟩ (by simp) rfl 68 rfl;exact y0p e7 e11 ht8 ⟨_,rfl,bl0,rfl⟩
      |13,_,ho=>
       cases ho
       have e12:a.eval (.tmp 69)= .pointer (some ⟨ga,t,none⟩):=hdep ⟨12,.data⟩ (by simp) rfl 69 rfl;exact z0V e12 ((hXX.cell (p:=⟨ga,t,none⟩) hgal).trans ca) ⟨_,rfl,bl0,rfl⟩
      |14,_,ho=>
       cases ho
       have e13:a.eval (.tmp 70)= .int .i64 z:=hdep ⟨13,.data⟩ (by simp) rfl 70 rfl;exact v4A e13 ⟨_,rfl,bl0,rfl⟩
      |15,_,ho=>
       cases ho
       have e1:a.eval (.tmp 58)= .slice (some ⟨ga,0,none⟩) 8 c:=hdep ⟨1,.data⟩ (by simp) rfl 58 rfl;have e5:a.eval (.tmp 62)= .int .i64 (t:Int):=hdep ⟨5,.data⟩ (by simp) rfl 62 rfl;exact y0p e1 e5 ht8 ⟨_,rfl,bl0,rfl⟩
      |q+16,hi,_=>exact absurd hi (by omega)
     ·intro o ho a X hXX hA hdep
      cases ho
      have e15:a.eval (.tmp 72)= .pointer (some ⟨ga,t,none⟩):=hdep ⟨15,.data⟩ (by simp) rfl 72 rfl;have e14:a.eval (.tmp 71)= .int .i64 (wrap64 (z - 1)):=hdep ⟨14,.data⟩ (by simp) rfl 71 rfl;have BX:=v0T HI2.out hXX;obtain⟨ca2,fa2,-,-⟩:=j0b BX t ht8;refine q1e e15 e14 ca2 fa2 ?_;have HI3:Hid _:=x3c BX t (wrap64 (z - 1));have HK3:Hid (q0i (X.setCell ⟨ga,t,none⟩ (.int .i64 (wrap64 (z - 1)))) w2.heap.size (.slice (some ⟨gk,0,none⟩) n kc) ks):=q0v (q0o HK2.out hXX) (λg hg=>heap_setCell_other _ _ _ _ (by have:=(q0n HK2.out g hg).1;have:=HI2.out.la;show g≠ga;omega));obtain⟨us,hus,rfl⟩:=q0F hA [57,58,59,60,61,62,63,64,65,66,67,68,69,70,71,72] (by kernel_rfl);clear hdep hA hus e15 e14 BX ca2 fa2 X1 hck hgk ca hgal;generalize X.setCell ⟨ga,t,none⟩ (.int .i64 (wrap64 (z - 1)))=Y at*;simp only[List.mapIdx_cons,List.mapIdx_nil,Nat.reduceAdd,List.contains_cons,List.contains_nil,Nat.reduceBEq,Bool.or_false,Bool.or_true,if_true,if_false,Bool.false_eq_true]
      have HCY:Hid (∀V,Below Y.heap.size Y V->V.cell? ⟨gx,1,none⟩=some (.slice (some ⟨gb,0,none⟩) 8 d)/\V.cell? ⟨gk,j,none⟩=some (.int .i64 (t:Int))/\V.cell? ⟨gb,t,none⟩=some (.int .i64 y)):=λV hV=>by
       have b1:=v0T HI3.out hV;have k1:=q0o HK3.out hV;refine⟨(HQ.out V b1.oth).2.1.cell 1,?_,?_⟩
       ·rcases x0N k1 with⟨h1,-⟩|⟨gk2,cap2,h1,-,-,-,-,HC⟩
        ·cases h1
        ·have e1:gk=gk2:=by simp only[Value.slice.injEq,Option.some.injEq,Addr.mk.injEq]at h1;exact h1.1.1
         subst e1;have h2:=(HC.out j hj2).1;rw[HTJ.out]at h2;exact h2
       ·have:=(j0b b1 t ht8).2.2.1;rw[HY.out]at this;exact this
      have hne2:=q0b.some_ Y;have y4:∀V:q0b Y,V.on.cell? ⟨gx,1,none⟩=some (.slice (some ⟨gb,0,none⟩) 8 d):=λV=>(HCY.out V.on V.bel).1;have yk:∀V:q0b Y,V.on.cell? ⟨gk,j,none⟩=some (.int .i64 (t:Int)):=λV=>(HCY.out V.on V.bel).2.1;have yc:∀V:q0b Y,V.on.cell? ⟨gb,t,none⟩=some (.int .i64 y):=λV=>(HCY.out V.on V.bel).2.2;have i1:(j:Int)<(n:Int):=by omega
      have i2:(t:Int)<8:=by omega
      by_cases hy0:y=1
      ·have hq:(y !=1)=false:=by simp[hy0]
       have HNX:Hid ((ks.take (j+1)).foldl (x0m (-1) 1) (T',rest)=((⟨T2.counts.set t (wrap64 (z - 1)),T2.colors⟩:q0e),td)):=by show _=_;rw[HSTEP.out,HKST.out,if_pos hy0]
       clear hy0 HKST HSTEP;go_wp2;refine q0j Y bl0 (by kernel_rfl) (by kernel_rfl) ?_;repeat (go_big_quiet_step (fail))
       refine wpQuiet_nil ?_;intro V hVe;have hV:Below Y.heap.size Y V:=by obtain⟨q,hq2⟩:=hVe;rw[hq2];exact q.bel
       have HI4:Hid _:=v0T HI3.out hV;have HK4:Hid _:=q0o HK3.out hV;clear hVe y4 yk yc hne2 hV;go_wp2;go_roundw
       case rel=>exact⟨j+1,_,td,qa2,qc2,by go_num,rfl,by omega,HI4,HNX,HK4,HD2⟩
       case measure=>simp[intOf];omega
      ·have hq:(y !=1)=true:=by simp[hy0]
       have HNX:Hid ((ks.take (j+1)).foldl (x0m (-1) 1) (T',rest)=((⟨T2.counts.set t (wrap64 (z - 1)),T2.colors.set t 1⟩:q0e),td++[(t:Int)])):=by show _=_;rw[HSTEP.out,HKST.out,if_neg hy0]
       clear hy0 HKST HSTEP;go_wp2;refine q0j Y bl0 (by kernel_rfl) (by kernel_rfl) ?_;repeat (go_big_quiet_step (fail))
       refine wpQuiet_nil ?_;intro V hVe;have hV:Below Y.heap.size Y V:=by obtain⟨q,hq2⟩:=hVe;rw[hq2];exact q.bel
       have HI4:Hid _:=v0T HI3.out hV;have HK4:Hid _:=q0o HK3.out hV;obtain⟨-,hckV,-⟩:=HCY.out V hV;have hgkV:gk<V.heap.size:=(q0n HK4.out gk rfl).2;have Y1:=(HQ.out V HI4.out.oth).2.1;clear hVe y4 yk yc hne2 hV;go_wp2;refine q0R 7 (by kernel_rfl) (by kernel_rfl) (λi _ v=>RCo (gx) gb d gk n kc j t i v) (λ_ _ _ _ h _=>h) ?_ ?_
       ·intro i o hi ho a X hXX hA hdep
        match i,hi,ho with
        |0,_,ho=>
         cases ho
         exact v0s 1 (by omega) (q0f hA (t:=7) (by kernel_rfl)) ⟨_,rfl,bl0,rfl⟩
        |1,_,ho=>
         cases ho
         have e0:a.eval (.tmp 82)= .pointer (some ⟨gx,1,none⟩):=hdep ⟨0,.data⟩ (by simp) rfl 82 rfl;exact x0E e0 ((Y1.later hXX Y1.lt).cell 1) ⟨_,rfl,bl0,rfl⟩
        |2,_,ho=>
         cases ho
         exact z0p (q0f hA (t:=10) (by kernel_rfl)) ⟨_,rfl,bl0,rfl⟩
        |3,_,ho=>
         cases ho
         exact z0p (q0f hA (t:=11) (by kernel_rfl)) ⟨_,rfl,bl0,rfl⟩
        |4,_,ho=>
         cases ho
         have e2:a.eval (.tmp 84)= .slice (some ⟨gk,0,none⟩) n kc:=hdep ⟨2,.data⟩ (by simp) rfl 84 rfl;have e3:a.eval (.tmp 85)= .int .i64 (j:Int):=hdep ⟨3,.data⟩ (by simp) rfl 85 rfl;exact y0p e2 e3 hlt ⟨_,rfl,bl0,rfl⟩
        |5,_,ho=>
         cases ho
         have e4:a.eval (.tmp 86)= .pointer (some ⟨gk,j,none⟩):=hdep ⟨4,.data⟩ (by simp) rfl 86 rfl;exact z0V e4 ((hXX.cell (p:=⟨gk,j,none⟩) hgkV).trans hckV) ⟨_,rfl,bl0,rfl⟩
        |6,_,ho=>
         cases ho
         have e1:a.eval (.tmp 83)= .slice (some ⟨gb,0,none⟩) 8 d:=hdep ⟨1,.data⟩ (by simp) rfl 83 rfl;have e5:a.eval (.tmp 87)= .int .i64 (t:Int):=hdep ⟨5,.data⟩ (by simp) rfl 87 rfl;exact y0p e1 e5 ht8 ⟨_,rfl,bl0,rfl⟩
       ·intro o ho a X hXX hA hdep
        cases ho
        have e6:a.eval (.tmp 88)= .pointer (some ⟨gb,t,none⟩):=hdep ⟨6,.data⟩ (by simp) rfl 88 rfl;have BX:=v0T HI4.out hXX;obtain⟨-,-,cb2,fb2⟩:=j0b BX t ht8;refine v3u e6 cb2 fb2 ?_;have HI5:Hid _:=j1T BX t 1;have HK5:Hid (q0i (X.setCell ⟨gb,t,none⟩ (.int .i64 1)) w2.heap.size (.slice (some ⟨gk,0,none⟩) n kc) ks):=q0v (q0o HK4.out hXX) (λg hg=>heap_setCell_other _ _ _ _ (by have:=(q0n HK4.out g hg).1;have:=HI2.out.lb;show g≠gb;omega));obtain⟨us,hus,rfl⟩:=q0F hA [82,83,84,85,86,87,88] (by kernel_rfl);clear hdep hA hus e6 BX cb2 fb2 Y1 hckV hgkV;generalize X.setCell ⟨gb,t,none⟩ (.int .i64 1)=Y2 at*;simp only[List.mapIdx_cons,List.mapIdx_nil,Nat.reduceAdd,List.contains_cons,List.contains_nil,Nat.reduceBEq,Bool.or_false,Bool.or_true,if_true,if_false,Bool.false_eq_true]
        have hck5:Y2.cell? ⟨gk,j,none⟩=some (.int .i64 (t:Int)):=by
         rcases x0N HK5.out with⟨h1,-⟩|⟨gk2,cap2,h1,-,-,-,-,HC⟩
         ·cases h1
         ·have e1:gk=gk2:=by simp only[Value.slice.injEq,Option.some.injEq,Addr.mk.injEq]at h1;exact h1.1.1
          subst e1;have h2:=(HC.out j hj2).1;rw[HTJ.out]at h2;exact h2
        obtain⟨U,hU⟩:∃U,U=Y2.alloc (.cells #[.int .i64 (t:Int)] 3):=⟨_,rfl⟩;have bU:Below Y2.heap.size Y2 U:=by rw[hU];exact bl1 _
        have HIU:Hid _:=v0T HI5.out bU;have HKU:Hid _:=q0o HK5.out bU;have hUc:U.cell? ⟨Y2.heap.size,0,none⟩=some (.int .i64 (t:Int)):=by rw[hU,World.cell?_alloc_mark];rfl
        have HUB:Hid (w2.heap.size<=U.heap.size):=HIU.out.bel.size;clear bU;go_wp2_with (at_builtin;rw[<-hU];clear hU;refine x0T rfl _ _ rfl w2.heap.size _ _ rfl HIU.out.q ⟨Y2.heap.size,0,none⟩ (t:Int) rfl hUc ?hlen HUB.out ?_)
        case hlen=>have:=HML.out;omega
        intro v6 X6 O6 s6 H6 A6 B6;obtain⟨qa6,qc6,rfl,-⟩:=q0Y O6;have HI6:Hid _:=u2d HIU.out H6.out B6.out O6;have HK6:Hid (q0i X6 w2.heap.size (.slice (some ⟨gk,0,none⟩) n kc) ks):=q0v HKU.out (λg hg=>H6.out g (q0n HKU.out g hg).2 (λe=>HD2.out g e hg))
        have HD6:Hid (u0a (.slice qa6 (td++[(t:Int)]).length qc6) (.slice (some ⟨gk,0,none⟩) n kc)):=λg h1 h2=>by
         rcases A6.out with e|e
         ·exact HD2.out g (by rw[<-e];exact h1) h2
         ·rw[e]at h1;injection h1 with h1;have:=(q0n HKU.out g h2).2;omega
        clear O6 H6 A6 B6 hck5 hUc;go_wp2;go_roundw
        case rel=>exact⟨j+1,_,td++[(t:Int)],qa6,qc6,by go_num,by simp,by omega,HI6,HNX,HK6,HD6⟩
        case measure=>simp[intOf];omega
    ·have HALL:Hid (ks.foldl (x0m (-1) 1) (T',rest)=(T2,td)):=by
      have h1:=HFO.out;rw[List.take_of_length_le (by have:=Hn.out;omega)]at h1;exact h1
     have HT2:Hid (x0j td/\mu 1 (T2,td)<mu 1 (T',rest++[(s:Int)])/\R=x0p (-1) 1 H T2 td):=by have h1:=HRO.out;have h2:=HSN.out;rw[HALL.out]at h1 h2;exact⟨h1.2.1,h1.2.2,h2⟩
     have HMS2:Hid (u0e wr gb 1=x0A 1 T2.colors):=y1O HI2.out 1;have hge:n<=j:=by omega
     clear hlt;go_wp2;go_roundw
     case rel=>exact⟨T2,td,qa2,qc2,rfl,HI2,HT2.out.1,by have:=HT2.out.2.1;have:=HMU.out;show _<=_;omega,HT2.out.2.2⟩
     case measure=>have h1:=HT2.out.2.1;have h2:=HMS2.out;have h3:=HMS.out;have h4:=HLR.out;simp only[mu,List.length_append,List.length_singleton]at h1;show x0J (.slice qa2 td.length qc2)+2*u0e _ gb 1<x0J (.slice (some ⟨gq,0,none⟩) (m+1) qc)+2*u0e _ gb 1;simp only[x0J];omega
end
end Go.Proofs.YtebgngofnmcklaaGreat
