/- Texts of this claim, joined and laid tight: part 5 of 6. No condition. -/
import Derived.Test.YtebgngofnmcklaaGreatJApply4
import Derived.Laws.AppendOwnNone
import Derived.Deep.RegionHeld
import Derived.Deep.QuietTactic
import Derived.BigQuiet
import Derived.Deep.RegionWith
namespace Go.Proofs.YtebgngofnmcklaaGreat
set_option linter.unusedVariables false
set_option maxRecDepth 100000
set_option maxHeartbeats 8000000
section
open Go.RowKit
variable{a:Act}{ops:Array Oper}{Q:Exit → Act → World → Prop}{T:q0e}
theorem q3d{w:World}{rest:List Oper}{o:Oper}(hgd:o.guard=none)(s x:Operand)(ho:o.op= .call {callee:= .builtin .append,args:= #[s,x],argTypes:= #[24,24]})(B:Nat)(v:Value)(P:List Int)(hs:a.eval s=v)(hown:q0i w B v P)(ka:Option Addr)(kc n:Nat)(Y:List Int)(hn:n=Y.length)(hx:a.eval x= .slice ka n kc)(C:Nat)(hk:q0i w C (.slice ka n kc) Y)(hlen:P.length+Y.length<=16777216)(hB:B<=w.heap.size)(h:∀v' w',q0i w' B v' (P++Y)->w.heap.size<=w'.heap.size->Hid (∀i,i<w.heap.size->v.ownBlock≠some i->w'.heap[i]? =w.heap[i]?)->Hid (∀C w0,Below C w0 w->C<=B->Below C w0 w')->wpList Tryz.prog ops Q rest (a.put o.dst v') w'):wpList Tryz.prog ops Q (o::rest) a w:=by
 obtain⟨i0,hi,hz0,hz1,hz2⟩:=info_parts u1E;have hlt:=World.ownsRow.lt hown;subst hn;rcases x0N hk with⟨h1,rfl⟩|⟨g,cap,h1,-,-,-,-,HC⟩
 ·simp only[Value.slice.injEq]at h1;obtain⟨rfl,-,rfl⟩:=h1;refine wpList_append_own_none hgd s x 24 ho B 3 i0 1 Tryz.underlying24 hi v P.length (P.map z0C) hs hown hx ?_;exact h v w (by rw[List.append_nil];exact hown) nl0 (λ_ _ _=>rfl) (λ_ _ hb _=>hb)
 ·simp only[Value.slice.injEq]at h1;obtain⟨rfl,-,rfl⟩:=h1;refine wpList_append_own_at w hgd s x 24 ho B 3 i0 (.int .i64 0) 1 8 Tryz.underlying24 hi hz0 hz1 hz2 rfl (by decide) v P.length (P.map z0C) hs hown ⟨g,0,none⟩ Y.length kc (Y.map z0C) hx (by simp) ?_ ?_ ?_ ?_ hB ?_
  ·intro j u hj
   have hj2:j<Y.length:=by have:=(List.getElem?_eq_some_iff.1 hj).1;simpa using this
   rw[List.getElem?_map,List.getElem?_eq_getElem hj2]at hj;injection hj with hj;subst hj;have:=(HC.out j hj2).1;rw[show Addr.add ⟨g,0,none⟩ j=⟨g,j,none⟩from by cases j<;>simp[Addr.add]];exact this
  ·intro u hu;obtain⟨z,-,rfl⟩:=List.mem_map.1 hu;rfl
  ·unfold maxLen;omega
  ·omega
  ·intro v' w' hown' hgrow _ hat;refine h v' w' ?_ hgrow.size (λi hi hne=>hgrow.block i hi (λe=>hne e.symm)) (λC w0 hb hC=> ?_)
   ·unfold q0i;rw[List.length_append,List.map_append];exact hown'
   ·exact⟨hgrow.os.trans hb.os,hgrow.tape.trans hb.tape,hgrow.output.trans hb.output,Nat.le_trans hb.size hgrow.size,λk hk=>(hgrow.block k (by have:=hb.size;omega) (λe=>by have:=(hlt k e.symm).1;omega)).trans (hb.block k hk)⟩
def u0T(X:World)(gb:Nat):Nat:=((List.range 8).filter λi=>match X.cell? ⟨gb,i,none⟩with|some (.int _ q)=>decide (q=1)|_=>false).length
theorem y2Y{W wr:World}{B ga gb cc d:Nat}{vq:Value}{todo:List Int}(h:BI W wr B ga gb cc d T vq todo):u0T wr gb=x0q 1 T.colors:=by
 obtain⟨l1,l2⟩:=h.eight;unfold u0T x0q
 have h1:((List.range 8).filter λi=>match wr.cell? ⟨gb,i,none⟩with|some (.int _ q)=>decide (q=1)|_=>false)=(List.range 8).filter λi=>decide (T.colors.getD i 0=1):=by refine List.filter_congr (λi hi=> ?_);rw[(j0b h i (List.mem_range.1 hi)).2.2.1]
 rw[h1];obtain⟨ys,hys⟩:∃ys,T.colors=ys:=⟨_,rfl⟩;rw[hys]at l2 ⊢
 match ys,l2 with
 |[a0,a1,a2,a3,a4,a5,a6,a7],_=>simp only[List.range,List.range.loop,List.countP_eq_length_filter];by_cases e0:a0=1<;>by_cases e1:a1=1<;>by_cases e2:a2=1<;>by_cases e3:a3=1<;>by_cases e4:a4=1<;>by_cases e5:a5=1<;>by_cases e6:a6=1<;>by_cases e7:a7=1<;>simp[List.filter,List.getD,e0,e1,e2,e3,e4,e5,e6,e7]
theorem q5k{W wr:World}{B ga gb c d gx:Nat}{vq:Value}{todo:List Int}{x0 x1:Value}(h:BI W wr B ga gb c d T vq todo)(ht:Two wr gx x0 x1)(hB:B<=gx)(hga:gx≠ga)(hgb:gx≠gb)(hl:gx<W.heap.size):BI W (q0B wr gx x0 x1) B ga gb c d T vq todo:=by
 have e:∀g,(q0B wr gx x0 x1).heap[g]? =wr.heap[g]?:=λg=>by
  by_cases hg:g=gx
  ·subst hg;have h1:=heap_setCell_same wr g 0 _ _ x0 ht;have h2:=heap_setCell_same _ g 1 _ _ x1 h1;have h3:(q0B wr g x0 x1).heap[g]? =some (.cells #[x0,x1] 101 (0,0)):=h2;have ht' :wr.heap[g]? =some (.cells #[x0,x1] 101 (0,0)):=ht;rw[h3,ht']
  ·exact z0c _ _ _ _ g hg
 have hb:Below B W (q0B wr gx x0 x1):=by unfold q0B;exact(h.bel.setCell (p:=⟨gx,0,none⟩) hB _).setCell (p:=⟨gx,1,none⟩) hB _
 exact⟨hb,λg h1 h2 h3=>(e g).trans (h.oth g h1 h2 h3),q0v h.x (λg _=>e g),q0v h.y (λg _=>e g),h.ne,h.la,h.lb,h.hB,q0v h.q (λg _=>e g)⟩
theorem v3R(v u:Value)(H:q0a)(T:q0e)(slot:Int)(w:World)(h:RdH w v H)(ht:RdT w u T)(hs:q0h H)(hst:v0p T)(hno:¬OkT H T slot):
 Calls Tryz.prog 74 #[v,u,.int .i64 slot] w λe w' =>∃s:TSh,e= .returned s.v/\TM w' w.heap.size s T/\Below w.heap.size w w' :=by
 have HRH:Hid (∀X,Below w.heap.size w X->RdH X v H):=λX hX=>q0s h hX;have HRT:Hid (∀X,Below w.heap.size w X->RdT X u T):=λX hX=>v0S ht hX;obtain⟨ao,co,aw,cw,ab,cb,sa,sc,rfl,-⟩:=h;obtain⟨xa,xc,ya,yc,rfl,-,ri⟩:=ht;obtain⟨W,hW⟩:∃W,W=((w.alloc (.cells #[.slice ao H.objs.length co,.slice aw H.weaks.length cw,.slice ab H.buffer.length cb,.slice sa H.sites.length sc] 35)).alloc (.cells #[.slice xa T.counts.length xc,.slice ya T.colors.length yc] 101)).alloc (.cells #[.slice none 0 0,.slice none 0 0] 101):=⟨_,rfl⟩;have BW:Below w.heap.size w W:=by rw[hW];exact((bl1 _).alloc (by simp) _).alloc (by simp;omega) _
 have hWs:W.heap.size=w.heap.size+3:=by rw[hW];simp
 have q0:q0d W w.heap.size (.slice ao H.objs.length co) (.slice aw H.weaks.length cw) (.slice ab H.buffer.length cb) (.slice sa H.sites.length sc):=by have f1:=q0d.new w (.slice ao H.objs.length co) (.slice aw H.weaks.length cw) (.slice ab H.buffer.length cb) (.slice sa H.sites.length sc);exact Eq.trans (by rw[hW,Below.heap_alloc _ _ _ (by simp;omega),Below.heap_alloc _ _ _ (by simp)]) f1
 have q1:Two W (w.heap.size+1) (.slice xa T.counts.length xc) (.slice ya T.colors.length yc):=by have f1:=Two.new (w.alloc (.cells #[.slice ao H.objs.length co,.slice aw H.weaks.length cw,.slice ab H.buffer.length cb,.slice sa H.sites.length sc] 35)) (.slice xa T.counts.length xc) (.slice ya T.colors.length yc);rw[show(w.alloc (.cells #[.slice ao H.objs.length co,.slice aw H.weaks.length cw,.slice ab H.buffer.length cb,.slice sa H.sites.length sc] 35)).heap.size=w.heap.size+1 from by simp]at f1;exact Eq.trans (by rw[hW,Below.heap_alloc _ _ _ (by simp)]) f1
 have q2:Two W (w.heap.size+2) (.slice none 0 0) (.slice none 0 0):=by have f1:=Two.new ((w.alloc (.cells #[.slice ao H.objs.length co,.slice aw H.weaks.length cw,.slice ab H.buffer.length cb,.slice sa H.sites.length sc] 35)).alloc (.cells #[.slice xa T.counts.length xc,.slice ya T.colors.length yc] 101)) (.slice none 0 0) (.slice none 0 0);rw[show((w.alloc (.cells #[.slice ao H.objs.length co,.slice aw H.weaks.length cw,.slice ab H.buffer.length cb,.slice sa H.sites.length sc] 35)).alloc (.cells #[.slice xa T.counts.length xc,.slice ya T.colors.length yc] 101)).heap.size=w.heap.size+2 from by simp]at f1;rw[hW];exact f1
 have HQ:Hid (∀X,Below W.heap.size W X->q0d X w.heap.size (.slice ao H.objs.length co) (.slice aw H.weaks.length cw) (.slice ab H.buffer.length cb) (.slice sa H.sites.length sc)/\Two X (w.heap.size+1) (.slice xa T.counts.length xc) (.slice ya T.colors.length yc)/\Two X (w.heap.size+2) (.slice none 0 0) (.slice none 0 0)):=
  λX hX=>⟨q0.same (hX.block _ (by omega)),q1.same (hX.block _ (by omega)),q2.same (hX.block _ (by omega))⟩
 have HBW:Hid (Below w.heap.size w W):=BW;have HWs:Hid (W.heap.size=w.heap.size+3):=hWs;have CC:Hid (∀_:Unit,_):=λ(_:Unit)=>v1T _ T W (HRT.out W BW) hst
 obtain⟨b,hb⟩:∃b:Bool,b=true↔OkT H T slot:=by
  by_cases h:OkT H T slot
  ·exact⟨true,by simp[h]⟩
  ·exact⟨false,by simp[h]⟩
 have CO:Hid (∀X,Below w.heap.size w X->_):=λX hX=>j1A _ _ H T slot X (HRH.out X hX) (HRT.out X hX) hs hst b hb;have HRI:Hid (∀X,Below w.heap.size w X->RdI X ya T.colors):=λX hX=>q0t ri hX;have HBO:Hid (b=true↔OkT H T slot):=hb;obtain rfl:b=false:=by cases b with|false=>rfl|true=>exact absurd (hb.1 rfl) hno
 have hlc:=hst.colors;clear q0 q1 q2 BW hWs HRH HRT hs hst hno ri hb;go_enter Tryz.func74,Tryz.ntmps74;go_wp2_with fail
 rw[<-hW];clear hW;refine(CC.out ()).mono ?_;rintro e w1 ⟨s,rfl,M1,b1⟩;obtain⟨V,hV⟩:∃V,V=w1.alloc (.cells #[.slice s.a s.n s.c,.slice s.b s.m s.d] 101):=⟨_,rfl⟩;have BV:Below w1.heap.size w1 V:=by rw[hV];exact bl1 _
 have HTV:Hid (TM V W.heap.size s T):=M1.later BV;have HXV:Hid (Two V w1.heap.size (.slice s.a s.n s.c) (.slice s.b s.m s.d)):=by rw[hV];exact Two.new w1 _ _
 have HBV:Hid (Below W.heap.size W V):=b1.trans (BV.mono b1.size);have HW1:Hid (W.heap.size<=w1.heap.size):=b1.size;have HVV:Hid (Below w.heap.size w V):=HBW.out.trans (HBV.out.mono HBW.out.size);obtain⟨F1,X1,X2⟩:=HQ.out w1 b1;have f0:w1.cell? ⟨w.heap.size,0,none⟩=some (.slice ao H.objs.length co):=F1.cell 0;have f1:w1.cell? ⟨w.heap.size,1,none⟩=some (.slice aw H.weaks.length cw):=F1.cell 1;have f2:w1.cell? ⟨w.heap.size,2,none⟩=some (.slice ab H.buffer.length cb):=F1.cell 2;have f3:w1.cell? ⟨w.heap.size,3,none⟩=some (.slice sa H.sites.length sc):=F1.cell 3;have t0:w1.cell? ⟨w.heap.size+1,0,none⟩=some (.slice xa T.counts.length xc):=X1.cell 0;have t1:w1.cell? ⟨w.heap.size+1,1,none⟩=some (.slice ya T.colors.length yc):=X1.cell 1;have g0:w.heap.size<w1.heap.size:=F1.lt;have g1:w.heap.size+1<w1.heap.size:=X1.lt;have n0:¬w.heap.size=w1.heap.size:=by omega
 have n1:¬w.heap.size+1=w1.heap.size:=by omega
 have HC2:Hid (Calls _ _ _ V _):=CO.out V HVV.out;rw[show s.v= .agg #[.slice s.a s.n s.c,.slice s.b s.m s.d]from rfl];clear CC CO M1 b1 BV F1 X1 X2;go_wp2_with fail
 rw[<-hV];clear hV;refine HC2.out.mono ?_;rintro e w2 ⟨rfl,b2⟩;have HB2:Hid (Below W.heap.size W w2):=HBV.out.trans (b2.mono HBV.out.size);have HT2:Hid (TM w2 W.heap.size s T):=HTV.out.later b2;have X2:Two w2 w1.heap.size (.slice s.a s.n s.c) (.slice s.b s.m s.d):=HXV.out.later b2 HXV.out.lt;obtain⟨-,T1,R1⟩:=HQ.out w2 HB2.out;have x0:w2.cell? ⟨w1.heap.size,0,none⟩=some (.slice s.a s.n s.c):=X2.cell 0;have x1:w2.cell? ⟨w1.heap.size,1,none⟩=some (.slice s.b s.m s.d):=X2.cell 1;have u1:w2.cell? ⟨w.heap.size+1,1,none⟩=some (.slice ya T.colors.length yc):=T1.cell 1;have r0:w2.cell? ⟨w.heap.size+2,0,none⟩=some (.slice none 0 0):=R1.cell 0;have r1:w2.cell? ⟨w.heap.size+2,1,none⟩=some (.slice none 0 0):=R1.cell 1;have z0:=R1.frozen 0;have z1:=R1.frozen 1
 have HFIN:Hid (TM (q0B w2 (w.heap.size+2) (.slice s.a s.n s.c) (.slice s.b s.m s.d)) w.heap.size s T/\Below w.heap.size w (q0B w2 (w.heap.size+2) (.slice s.a s.n s.c) (.slice s.b s.m s.d))):=by have e3:=HWs.out;refine⟨(HT2.out.same (λg h1 h2=>z0c _ _ _ _ g (by omega))).mono (by omega),?_⟩;unfold q0B;exact((HBW.out.trans (HB2.out.mono (by omega))).setCell (by simp) _).setCell (by simp) _
 clear f0 f1 f2 f3 t0 t1 g0 g1 n0 n1 T1 R1 X2 b2;go_wp2;exact bodyPost_ret (v:= .agg #[.slice s.a s.n s.c,.slice s.b s.m s.d]) (by simp[results,Tryz.results74,go_sem, *]) rfl ⟨s,rfl,HFIN.out⟩
theorem z3a(v u:Value)(H:q0a)(T:q0e)(k:Nat)(w:World)(h:RdH w v H)(ht:RdT w u T)(hs:q0h H)(hst:v0p T)(hf:∀o∈H.objs,∀z∈o.field,q0w z)(hok:OkT H T (k:Int)):
 Calls Tryz.prog 74 #[v,u,.int .i64 (k:Int)] w λe w' =>∃s:TSh,e= .returned s.v/\TM w' w.heap.size s (v1W H T (k:Int))/\Below w.heap.size w w' :=by
 have HRH:Hid (∀X,Below w.heap.size w X->RdH X v H):=λX hX=>q0s h hX;have HRT:Hid (∀X,Below w.heap.size w X->RdT X u T):=λX hX=>v0S ht hX;obtain⟨ao,co,aw,cw,ab,cb,sa,sc,rfl,-⟩:=h;obtain⟨xa,xc,ya,yc,rfl,-,ri⟩:=ht;obtain⟨W,hW⟩:∃W,W=((w.alloc (.cells #[.slice ao H.objs.length co,.slice aw H.weaks.length cw,.slice ab H.buffer.length cb,.slice sa H.sites.length sc] 35)).alloc (.cells #[.slice xa T.counts.length xc,.slice ya T.colors.length yc] 101)).alloc (.cells #[.slice none 0 0,.slice none 0 0] 101):=⟨_,rfl⟩;have BW:Below w.heap.size w W:=by rw[hW];exact((bl1 _).alloc (by simp) _).alloc (by simp;omega) _
 have hWs:W.heap.size=w.heap.size+3:=by rw[hW];simp
 have q0:q0d W w.heap.size (.slice ao H.objs.length co) (.slice aw H.weaks.length cw) (.slice ab H.buffer.length cb) (.slice sa H.sites.length sc):=by have f1:=q0d.new w (.slice ao H.objs.length co) (.slice aw H.weaks.length cw) (.slice ab H.buffer.length cb) (.slice sa H.sites.length sc);exact Eq.trans (by rw[hW,Below.heap_alloc _ _ _ (by simp;omega),Below.heap_alloc _ _ _ (by simp)]) f1
 have q1:Two W (w.heap.size+1) (.slice xa T.counts.length xc) (.slice ya T.colors.length yc):=by have f1:=Two.new (w.alloc (.cells #[.slice ao H.objs.length co,.slice aw H.weaks.length cw,.slice ab H.buffer.length cb,.slice sa H.sites.length sc] 35)) (.slice xa T.counts.length xc) (.slice ya T.colors.length yc);rw[show(w.alloc (.cells #[.slice ao H.objs.length co,.slice aw H.weaks.length cw,.slice ab H.buffer.length cb,.slice sa H.sites.length sc] 35)).heap.size=w.heap.size+1 from by simp]at f1;exact Eq.trans (by rw[hW,Below.heap_alloc _ _ _ (by simp)]) f1
 have q2:Two W (w.heap.size+2) (.slice none 0 0) (.slice none 0 0):=by have f1:=Two.new ((w.alloc (.cells #[.slice ao H.objs.length co,.slice aw H.weaks.length cw,.slice ab H.buffer.length cb,.slice sa H.sites.length sc] 35)).alloc (.cells #[.slice xa T.counts.length xc,.slice ya T.colors.length yc] 101)) (.slice none 0 0) (.slice none 0 0);rw[show((w.alloc (.cells #[.slice ao H.objs.length co,.slice aw H.weaks.length cw,.slice ab H.buffer.length cb,.slice sa H.sites.length sc] 35)).alloc (.cells #[.slice xa T.counts.length xc,.slice ya T.colors.length yc] 101)).heap.size=w.heap.size+2 from by simp]at f1;rw[hW];exact f1
 have HQ:Hid (∀X,Below W.heap.size W X->q0d X w.heap.size (.slice ao H.objs.length co) (.slice aw H.weaks.length cw) (.slice ab H.buffer.length cb) (.slice sa H.sites.length sc)/\Two X (w.heap.size+1) (.slice xa T.counts.length xc) (.slice ya T.colors.length yc)/\Two X (w.heap.size+2) (.slice none 0 0) (.slice none 0 0)):=
  λX hX=>⟨q0.same (hX.block _ (by omega)),q1.same (hX.block _ (by omega)),q2.same (hX.block _ (by omega))⟩
 have HBW:Hid (Below w.heap.size w W):=BW;have HWs:Hid (W.heap.size=w.heap.size+3):=hWs;have CC:Hid (∀_:Unit,_):=λ(_:Unit)=>v1T _ T W (HRT.out W BW) hst
 obtain⟨b,hb⟩:∃b:Bool,b=true↔OkT H T (k:Int):=by
  by_cases h:OkT H T (k:Int)
  ·exact⟨true,by simp[h]⟩
  ·exact⟨false,by simp[h]⟩
 have CO:Hid (∀X,Below w.heap.size w X->_):=λX hX=>j1A _ _ H T (k:Int) X (HRH.out X hX) (HRT.out X hX) hs hst b hb;have HRI:Hid (∀X,Below w.heap.size w X->RdI X ya T.colors):=λX hX=>q0t ri hX;have HBO:Hid (b=true↔OkT H T (k:Int)):=hb;have HS:Hid (q0h H):=hs;have HF:Hid (∀o∈H.objs,∀z∈o.field,q0w z):=hf;obtain rfl:b=true:=hb.2 hok;have HOK:Hid (OkT H T (k:Int)):=hok;have HR:Hid (∀X,Below w.heap.size w X->RdH X _ H):=HRH.out;have hlc:=hst.colors;clear q0 q1 q2 BW hWs HRH HRT hs hst ri hb hok hf;go_enter Tryz.func74,Tryz.ntmps74;go_wp2_with fail
 rw[<-hW];clear hW;refine(CC.out ()).mono ?_;rintro e w1 ⟨s,rfl,M1,b1⟩;obtain⟨V,hV⟩:∃V,V=w1.alloc (.cells #[.slice s.a s.n s.c,.slice s.b s.m s.d] 101):=⟨_,rfl⟩;have BV:Below w1.heap.size w1 V:=by rw[hV];exact bl1 _
 have HTV:Hid (TM V W.heap.size s T):=M1.later BV;have HXV:Hid (Two V w1.heap.size (.slice s.a s.n s.c) (.slice s.b s.m s.d)):=by rw[hV];exact Two.new w1 _ _
 have HBV:Hid (Below W.heap.size W V):=b1.trans (BV.mono b1.size);have HW1:Hid (W.heap.size<=w1.heap.size):=b1.size;have HVV:Hid (Below w.heap.size w V):=HBW.out.trans (HBV.out.mono HBW.out.size);obtain⟨F1,X1,X2⟩:=HQ.out w1 b1;have f0:w1.cell? ⟨w.heap.size,0,none⟩=some (.slice ao H.objs.length co):=F1.cell 0;have f1:w1.cell? ⟨w.heap.size,1,none⟩=some (.slice aw H.weaks.length cw):=F1.cell 1;have f2:w1.cell? ⟨w.heap.size,2,none⟩=some (.slice ab H.buffer.length cb):=F1.cell 2;have f3:w1.cell? ⟨w.heap.size,3,none⟩=some (.slice sa H.sites.length sc):=F1.cell 3;have t0:w1.cell? ⟨w.heap.size+1,0,none⟩=some (.slice xa T.counts.length xc):=X1.cell 0;have t1:w1.cell? ⟨w.heap.size+1,1,none⟩=some (.slice ya T.colors.length yc):=X1.cell 1;have g0:w.heap.size<w1.heap.size:=F1.lt;have g1:w.heap.size+1<w1.heap.size:=X1.lt;have n0:¬w.heap.size=w1.heap.size:=by omega
 have n1:¬w.heap.size+1=w1.heap.size:=by omega
 have HC2:Hid (Calls _ _ _ V _):=CO.out V HVV.out;rw[show s.v= .agg #[.slice s.a s.n s.c,.slice s.b s.m s.d]from rfl];clear CC CO M1 b1 BV F1 X1 X2;go_wp2_with fail
 rw[<-hV];clear hV;refine HC2.out.mono ?_;rintro e w2 ⟨rfl,b2⟩;have HB2:Hid (Below W.heap.size W w2):=HBV.out.trans (b2.mono HBV.out.size);have HT2:Hid (TM w2 W.heap.size s T):=HTV.out.later b2;have X2:Two w2 w1.heap.size (.slice s.a s.n s.c) (.slice s.b s.m s.d):=HXV.out.later b2 HXV.out.lt;obtain⟨-,T1,R1⟩:=HQ.out w2 HB2.out;have x0:w2.cell? ⟨w1.heap.size,0,none⟩=some (.slice s.a s.n s.c):=X2.cell 0;have x1:w2.cell? ⟨w1.heap.size,1,none⟩=some (.slice s.b s.m s.d):=X2.cell 1;have u1:w2.cell? ⟨w.heap.size+1,1,none⟩=some (.slice ya T.colors.length yc):=T1.cell 1;have r0:w2.cell? ⟨w.heap.size+2,0,none⟩=some (.slice none 0 0):=R1.cell 0;have r1:w2.cell? ⟨w.heap.size+2,1,none⟩=some (.slice none 0 0):=R1.cell 1;have z0:=R1.frozen 0;have z1:=R1.frozen 1;have HBs:Hid (W.heap.size=w.heap.size+3):=HWs.out;have H8:Hid (H.objs.length=8):=HOK.out.objs;have hk:k<8:=by have:=HOK.out.hi;omega
 obtain⟨sn,sm⟩:=HT2.out.lens;rw[HOK.out.counts]at sn;rw[HOK.out.colors]at sm
 have form:∀{a:Option Addr}{c:Nat}{zs:List Int},q0i w2 W.heap.size (.slice a 8 c) zs->∃g,a=some ⟨g,0,none⟩:=λho=>by
  rcases x0N ho with⟨h1,-⟩|⟨g,cap,h1,-⟩
  ·simp at h1
  ·simp only[Value.slice.injEq]at h1;exact⟨g,h1.1⟩
 obtain⟨sa',sn',c,sb',sm',d⟩:=s;simp only at sn sm;subst sn sm;obtain⟨ga,rfl⟩:=form HT2.out.x;obtain⟨gb,rfl⟩:=form HT2.out.y;have hne:ga≠gb:=λe=>HT2.out.dif ga rfl (by show some gb=some ga;rw[e]);have la:ga<w2.heap.size:=(q0n HT2.out.x ga rfl).2;have lb:gb<w2.heap.size:=(q0n HT2.out.y gb rfl).2;have lga:W.heap.size<=ga:=(q0n HT2.out.x ga rfl).1;have lgb:W.heap.size<=gb:=(q0n HT2.out.y gb rfl).1;have b1:BI w2 w2 W.heap.size ga gb c d T (.slice none 0 0) []:=⟨bl0,λ_ _ _ _=>rfl,HT2.out.x,HT2.out.y,hne,la,lb,HB2.out.size,z0H _ _⟩;obtain⟨-,T1',-⟩:=HQ.out w2 HB2.out
 have hgx:w1.heap.size≠ga/\w1.heap.size≠gb:=by have xk:w2.heap[w1.heap.size]? =some (.cells #[.slice (some ⟨ga,0,none⟩) 8 c,.slice (some ⟨gb,0,none⟩) 8 d] 101 (0,0)):=X2;obtain⟨cu1,k1⟩:=y0t HT2.out.x ga rfl;obtain⟨cu2,k2⟩:=y0t HT2.out.y gb rfl;exact⟨λe=>y0O xk k1 (by decide) e,λe=>y0O xk k2 (by decide) e⟩
 have HQ2:Hid (∀X,(∀g,g<w2.heap.size->g≠ga->g≠gb->X.heap[g]? =w2.heap[g]?)->q0d X w.heap.size (.slice ao H.objs.length co) (.slice aw H.weaks.length cw) (.slice ab H.buffer.length cb) (.slice sa H.sites.length sc)/\Two X w1.heap.size (.slice (some ⟨ga,0,none⟩) 8 c) (.slice (some ⟨gb,0,none⟩) 8 d)/\Two X (w.heap.size+2) (.slice none 0 0) (.slice none 0 0)):=by have e3:=HBs.out;have e4:=HB2.out.size;obtain⟨p0,-,p2⟩:=HQ.out w2 HB2.out;exactλX hX=>⟨p0.same (hX _ (by omega) (by omega) (by omega)),X2.same (hX _ X2.lt hgx.1 hgx.2),p2.same (hX _ (by omega) (by omega) (by omega))⟩
 have HB0:Hid (BI w2 (w2.alloc (.cells #[.int .i64 (k:Int)] 3)) W.heap.size ga gb c d T (.slice (some ⟨w2.heap.size,0,none⟩) 1 1) [(k:Int)]):=by have b3:=v0T b1 (bl1 (.cells #[.int .i64 (k:Int)] 3));have b4:=y2z w2 w2.heap.size (k:Int) nl0;exact⟨b3.bel,b3.oth,b3.x,b3.y,b3.ne,b3.la,b3.lb,b3.hB,b4⟩
 have HSL:Hid (x0j [(k:Int)]):=λz hz=>by rw[List.mem_singleton.1 hz];omega
 have HRR:Hid (v1W H T (k:Int)=v1u H T [(k:Int)]):=rfl
 have HM0:Hid (nu (T,[(k:Int)])<=8388617):=by have h1:=q4g 1 T.colors;rw[HOK.out.colors]at h1;show x0q 1 T.colors*1048577+1<=8388617;omega
 have HBW2:Hid (Below w.heap.size w w2):=HBW.out.trans (HB2.out.mono HBW.out.size);have h8c:=HOK.out.colors;have h8o:=HOK.out.objs;rw[h8o]at HQ2 HR;rw[h8c,h8o];clear HQ HBW;have HQ:=HQ2;have HBW:=HBW2;obtain⟨R,hRG⟩:∃R,v1W H T (k:Int)=R:=⟨_,rfl⟩;have HRG:Hid (v1W H T (k:Int)=R):=hRG;rw[hRG]at HRR;clear hRG;have HGX:Hid (W.heap.size<=w1.heap.size/\w1.heap.size≠ga/\w1.heap.size≠gb/\w1.heap.size<w2.heap.size):=⟨HW1.out,hgx.1,hgx.2,X2.lt⟩;obtain⟨gx,hgx0⟩:∃gx,w1.heap.size=gx:=⟨_,rfl⟩;rw[hgx0]at HQ x0 x1 HGX ⊢;obtain⟨B,hBB⟩:∃B,W.heap.size=B:=⟨_,rfl⟩;rw[hBB]at HB0 HBs HGX;clear f0 f1 f2 f3 t0 t1 g0 g1 n0 n1 T1 R1 X2 b2 HQ2 HBW2 T1' hgx b1 form HT2 HTV HXV HC2 hgx0 h8c h8o HRI la lb lga lgb hne HBV HW1 HVV HWs hBB HB2;go_wp2;go_loopw[8] (λvq wr=>∃(T' :q0e)(todo:List Int)(qa:Option Addr)(qc:Nat),vq= .slice qa todo.length qc/\Hid (BI w2 wr B ga gb c d T' vq todo)/\Hid (x0j todo)/\Hid (nu (T',todo)<=8388617)/\Hid (R=v1u H T' todo)) (λvq wr=>x0J vq+1048577*u0T wr gb)
 case atStart=>exact⟨_,[(k:Int)],_,1,rfl,HB0,HSL,HM0,HRR⟩
 case round=>
  obtain⟨T',todo,qa,qc,rfl,HI,HT,HMU,HRS⟩:=hrel;obtain⟨F0,X1,X2⟩:=HQ.out wr HI.out.oth;rcases List.eq_nil_or_concat todo with rfl|⟨rest,kz,rfl⟩
  ·have HE:Hid (R=T'):=by show _=_;rw[HRS.out,j3F]
   have x0:wr.cell? ⟨gx,0,none⟩=some (.slice (some ⟨ga,0,none⟩) 8 c):=X1.cell 0;have x1:wr.cell? ⟨gx,1,none⟩=some (.slice (some ⟨gb,0,none⟩) 8 d):=X1.cell 1;have r0:wr.cell? ⟨w.heap.size+2,0,none⟩=some (.slice none 0 0):=X2.cell 0;have r1:wr.cell? ⟨w.heap.size+2,1,none⟩=some (.slice none 0 0):=X2.cell 1;have z0:=X2.frozen 0;have z1:=X2.frozen 1
   have HFIN:Hid (TM (q0B wr (w.heap.size+2) (.slice (some ⟨ga,0,none⟩) 8 c) (.slice (some ⟨gb,0,none⟩) 8 d)) w.heap.size ⟨some ⟨ga,0,none⟩,8,c,some ⟨gb,0,none⟩,8,d⟩ R/\Below w.heap.size w (q0B wr (w.heap.size+2) (.slice (some ⟨ga,0,none⟩) 8 c) (.slice (some ⟨gb,0,none⟩) 8 d))):=by
    have e3:=HBs.out;rw[HE.out];refine⟨⟨q0A (q0v HI.out.x (λg hg=>z0c _ _ _ _ g (by have:=(q0n HI.out.x g hg).1;omega))) (by omega),q0A (q0v HI.out.y (λg hg=>z0c _ _ _ _ g (by have:=(q0n HI.out.y g hg).1;omega))) (by omega),λg h1 h2=> ?_⟩,?_⟩
    ·have e1:ga=g:=by simpa[TSh.x,Value.ownBlock]using h1
     have e2:gb=g:=by simpa[TSh.y,Value.ownBlock]using h2
     exact HI.out.ne (by omega)
    ·unfold q0B;exact((HBW.out.trans (HI.out.bel.mono (by omega))).setCell (by simp) _).setCell (by simp) _
   clear F0 X1 X2 HI HRS;go_wp2;exact bodyPost_ret (v:= .agg #[.slice (some ⟨ga,0,none⟩) 8 c,.slice (some ⟨gb,0,none⟩) 8 d]) (by simp[results,Tryz.results74,go_sem, *]) rfl ⟨⟨some ⟨ga,0,none⟩,8,c,some ⟨gb,0,none⟩,8,d⟩,rfl,by rw[HRG.out];exact HFIN.out⟩
  ·rw[List.concat_eq_append]at*;obtain⟨m,hm⟩:∃m,rest.length=m:=⟨_,rfl⟩;have hl:(rest++[kz]).length=m+1:=by simp[hm]
   rw[hl]at HI ⊢;obtain⟨s,rfl⟩:∃s:Nat,kz=(s:Int):=⟨kz.toNat,by have:=HT.out kz (by simp);omega⟩;have hs8:s<8:=by have:=HT.out (s:Int) (by simp);omega
   rcases x0N HI.out.q with⟨h1,-⟩|⟨gq,cap,h1,hgq,hgl,hcap,hmax,HC⟩
   ·simp at h1
   have e1:qa=some ⟨gq,0,none⟩/\qc=cap:=by simp only[Value.slice.injEq]at h1;exact⟨h1.1,h1.2.2⟩
   obtain⟨rfl,rfl⟩:=e1
   have hcell:wr.cell? ⟨gq,m,none⟩=some (.int .i64 (s:Int)):=by have h2:=(HC.out m (by omega)).1;rw[List.getElem_append_right (by omega)]at h2;simpa using h2
   rw[hl]at hcap;have HMU2:=HMU.out;have hmb:m<=8388616:=by simp only[nu,List.length_append,List.length_singleton]at HMU2;omega
   have HPOP:Hid (BI w2 wr B ga gb c d T' (.slice (some ⟨gq,0,none⟩) m qc) rest):=x3d HI.out;have hsl:s<H.objs.length:=by have:=H8.out;omega
   have HSN:Hid (R=v1u H (u0p H T' rest (s:Int)).1 (u0p H T' rest (s:Int)).2):=by show _=_;rw[HRS.out,v3W H HS.out T' rest (s:Int) HI.out.eight HT.out]
   have HRO:Hid _:=z2F H HS.out T' rest (s:Int) HI.out.eight HT.out;have HMS:Hid (u0T wr gb=x0q 1 T'.colors):=y2Y HI.out;have HRSL:Hid (x0j rest):=λz hz=>HT.out z (by simp[hz]);have HE8:Hid (q0I T'):=HI.out.eight
   have hmeas:∀(X:World)(vq2:Value)(T2:q0e)(td:List Int),BI w2 X B ga gb c d T2 vq2 td->x0J vq2=td.length->nu (T2,td)<nu (T',rest++[(s:Int)])->x0J vq2+1048577*u0T X gb<m+1+1048577*u0T wr gb:=λX vq2 T2 td hb hl2 hlt=>by
    rw[y2Y hb,HMS.out,hl2];simp only[nu,List.length_append,List.length_singleton,hm]at hlt;omega
   have HMEAS:Hid _:=hmeas;obtain⟨ca0,fa0,cb0,fb0⟩:=j0b HI.out s hs8;have x0:wr.cell? ⟨gx,0,none⟩=some (.slice (some ⟨ga,0,none⟩) 8 c):=X1.cell 0;have x1:wr.cell? ⟨gx,1,none⟩=some (.slice (some ⟨gb,0,none⟩) 8 d):=X1.cell 1;have f0:wr.cell? ⟨w.heap.size,0,none⟩=some (.slice ao 8 co):=F0.cell 0;have f1:wr.cell? ⟨w.heap.size,1,none⟩=some (.slice aw H.weaks.length cw):=F0.cell 1;have f2:wr.cell? ⟨w.heap.size,2,none⟩=some (.slice ab H.buffer.length cb):=F0.cell 2;have f3:wr.cell? ⟨w.heap.size,3,none⟩=some (.slice sa H.sites.length sc):=F0.cell 3;have HWB:Hid (w2.heap.size<=wr.heap.size):=HI.out.bel.size;have hmc:(m:Int)<=(qc:Int):=by omega
   have hb1:decide ((0:Int)<(m:Int)+1)=true:=decide_eq_true (by omega);have hs8i:(s:Int)<8:=by omega
   have HLR:Hid (rest.length=m):=hm;have es:((s:Int)).toNat=s:=by omega
   have HX1:Hid (Two wr gx (.slice (some ⟨ga,0,none⟩) 8 c) (.slice (some ⟨gb,0,none⟩) 8 d)):=X1;have HDD:Hid (q0i wr B (.slice (some ⟨ga,0,none⟩) 8 c) T'.counts/\q0i wr B (.slice (some ⟨gb,0,none⟩) 8 d) T'.colors/\ga≠gb/\B<=wr.heap.size):=⟨HI.out.x,HI.out.y,HI.out.ne,Nat.le_trans HI.out.hB HI.out.bel.size⟩;unfold u0p at HSN HRO;rw[es]at HSN HRO;obtain⟨qcol,hqcol⟩:∃q,T'.colors.getD s 0=q:=⟨_,rfl⟩;obtain⟨qcnt,hqcnt⟩:∃q,T'.counts.getD s 0=q:=⟨_,rfl⟩;rw[hqcol]at HSN HRO cb0;rw[hqcnt]at HSN HRO ca0;clear F0 X1 X2 HI HRS HC hgl hgq hmax h1 hl HT hqcol hqcnt hm hmeas HMU2;by_cases hgr:qcol=1
   ·rw[if_neg (by simpa using hgr)]at HSN HRO;subst hgr;by_cases hpo:0<qcnt
    ·rw[if_pos hpo]at HSN HRO;have CB:Hid (∀_:Unit,_):=λ(_:Unit)=>v3O _ H T' ga gb c d s B wr (λX hX=>HR.out X (HBW.out.trans ((HPOP.out.bel.trans hX).mono (by have:=HBs.out;omega)))) HS.out H8.out HF.out HDD.out.1 HDD.out.2.1 HDD.out.2.2.1 HDD.out.2.2.2 hs8;clear HDD;go_wp2_with fail
     refine(CB.out ()).mono ?_;rintro e w3 ⟨rfl,O3,O4,b3,oth3⟩;have hgxs:=HGX.out;have h2s:=HWB.out;have T3:Two w3 gx (.slice (some ⟨ga,0,none⟩) 8 c) (.slice (some ⟨gb,0,none⟩) 8 d):=HX1.out.same (oth3 gx (by omega) hgxs.2.1 hgxs.2.2.1)
     have HI3:Hid (BI w2 w3 B ga gb c d (q1K H T' (s:Int)) (.slice (some ⟨gq,0,none⟩) m qc) rest):=by have hp:=HPOP.out;refine⟨hp.bel.trans b3,λg h1 h2 h3=>(oth3 g (by omega) h2 h3).trans (hp.oth g h1 h2 h3),O3,O4,hp.ne,hp.la,hp.lb,hp.hB,q0v hp.q (λg hg=> ?_)⟩;have hl2:=(q0n hp.q g hg);have:=hp.la;have:=hp.lb;exact oth3 g hl2.2 (by omega) (by omega)
     have HI4:Hid (BI w2 (q0B w3 gx (.slice (some ⟨ga,0,none⟩) 8 c) (.slice (some ⟨gb,0,none⟩) 8 d)) B ga gb c d (q1K H T' (s:Int)) (.slice (some ⟨gq,0,none⟩) m qc) rest):=q5k HI3.out T3 hgxs.1 hgxs.2.1 hgxs.2.2.1 hgxs.2.2.2;have y0:w3.cell? ⟨gx,0,none⟩=_:=T3.cell 0;have y1:w3.cell? ⟨gx,1,none⟩=_:=T3.cell 1;have z0:=T3.frozen 0;have z1:=T3.frozen 1;simp only[List.getElem?_toArray,List.getElem?_cons_zero,List.getElem?_cons_succ]at y0 y1;have HMM:Hid (x0J (.slice (some ⟨gq,0,none⟩) m qc)+1048577*u0T (q0B w3 gx (.slice (some ⟨ga,0,none⟩) 8 c) (.slice (some ⟨gb,0,none⟩) 8 d)) gb<m+1+1048577*u0T wr gb):=HMEAS.out _ _ _ _ HI4.out (by show m=rest.length;rw[HLR.out]) HRO.out.2.2;have HNU:Hid (nu (q1K H T' (s:Int),rest)<=8388617):=by have h1:=HRO.out.2.2;have h2:=HMU.out;show _<=_;exact Nat.le_of_lt (Nat.lt_of_lt_of_le h1 h2)
     unfold q0B at HI4 HMM;clear T3 O3 O4 b3 oth3 HI3 CB ca0 cb0 fa0 fb0 x0 x1 f0 f1 f2 f3 hcell;go_wp2;go_roundw
     case rel=>exact⟨_,rest,_,qc,by rw[HLR.out],HI4,HRSL,HNU,HSN⟩
     case measure=>exact HMM.out
    ·rw[if_neg hpo]at HSN HRO;have HKS:Hid (q0P H (s:Int)=v0C H H.objs[s].field):=y1W H s hsl;have hkl:=Nat.le_trans (v2c H H.objs[s].field) (HS.out.fields _ (List.getElem_mem hsl));obtain⟨V,hV⟩:∃V,V=wr.setCell ⟨gb,s,none⟩ (.int .i64 2):=⟨_,rfl⟩;have HIV:Hid (BI w2 V B ga gb c d ⟨T'.counts,T'.colors.set s 2⟩ (.slice (some ⟨gq,0,none⟩) m qc) rest):=by rw[hV];exact j1T HPOP.out s 2
     have CK:Hid (∀_:Unit,_):=λ(_:Unit)=>q2j _ H s V (HR.out V (HBW.out.trans (HIV.out.bel.mono (by have:=HBs.out;omega)))) HS.out hsl (HF.out _ (List.getElem_mem hsl));obtain⟨F5,-,-⟩:=HQ.out V HIV.out.oth;have k0:V.cell? ⟨w.heap.size,0,none⟩=some (.slice ao 8 co):=F5.cell 0;have k1:V.cell? ⟨w.heap.size,1,none⟩=some (.slice aw H.weaks.length cw):=F5.cell 1;have k2:V.cell? ⟨w.heap.size,2,none⟩=some (.slice ab H.buffer.length cb):=F5.cell 2;have k3:V.cell? ⟨w.heap.size,3,none⟩=some (.slice sa H.sites.length sc):=F5.cell 3;rw[hV]at k0 k1 k2 k3;rw[HKS.out]at HSN HRO;have HKSL:Hid (x0j (v0C H H.objs[s].field)):=j1u H _;generalize v0C H H.objs[s].field=ks at*;have HVs:Hid (w2.heap.size<=V.heap.size):=HIV.out.bel.size;clear F5 HDD HKS hsl f0 f1 f2 f3;go_wp2_with fail
     rw[<-hV];clear hV k0 k1 k2 k3 ca0 cb0 fa0 fb0 x0 x1 hcell;refine(CK.out ()).mono ?_;rintro e w3 ⟨vk,rfl,O3,b3⟩;obtain⟨ka,kc,rfl,-⟩:=q0Y O3;have HI3:Hid (BI w2 w3 B ga gb c d ⟨T'.counts,T'.colors.set s 2⟩ (.slice (some ⟨gq,0,none⟩) m qc) rest):=v0T HIV.out b3;have HK3:Hid (q0i w3 V.heap.size (.slice ka ks.length kc) ks):=O3;have hw3:w2.heap.size<=w3.heap.size:=HI3.out.bel.size;clear O3 b3 HIV CK;go_wp2_with (at_builtin;refine q3d rfl _ _ rfl w2.heap.size _ rest rfl HI3.out.q ka kc ks.length ks rfl rfl V.heap.size HK3.out ?hlen hw3 ?_)
     case hlen=>rw[HLR.out];omega
     intro v4 X4 O4 s4 H4 B4;obtain⟨qa4,qc4,rfl,-⟩:=q0Y O4;have HI5:Hid (BI w2 X4 B ga gb c d ⟨T'.counts,T'.colors.set s 2⟩ (.slice qa4 (rest++ks).length qc4) (rest++ks)):=u2d HI3.out H4.out B4.out O4;have HMM:Hid (x0J (.slice qa4 (rest++ks).length qc4)+1048577*u0T X4 gb<m+1+1048577*u0T wr gb):=HMEAS.out _ _ _ _ HI5.out rfl HRO.out.2.2;have HNU:Hid (nu ((⟨T'.counts,T'.colors.set s 2⟩:q0e),rest++ks)<=8388617):=by have h1:=HRO.out.2.2;have h2:=HMU.out;show _<=_;exact Nat.le_of_lt (Nat.lt_of_lt_of_le h1 h2)
     have HSL2:Hid (x0j (rest++ks)):=HRO.out.2.1;clear O4 s4 H4 B4 HI3 HK3;go_wp2;go_roundw
     case rel=>exact⟨_,rest++ks,_,qc4,rfl,HI5,HSL2,HNU,HSN⟩
     case measure=>exact HMM.out
   ·rw[if_pos (by simpa using hgr)]at HSN HRO;have hgn:(qcol !=1)=true:=by simpa using hgr
    have HMM:Hid (x0J (.slice (some ⟨gq,0,none⟩) m qc)+1048577*u0T wr gb<m+1+1048577*u0T wr gb):=HMEAS.out _ _ _ _ HPOP.out (by show m=rest.length;rw[HLR.out]) HRO.out.2.2;have HNU:Hid (nu (T',rest)<=8388617):=by have h1:=HRO.out.2.2;have h2:=HMU.out;show _<=_;exact Nat.le_of_lt (Nat.lt_of_lt_of_le h1 h2)
    clear HDD;go_wp2;go_roundw
    case rel=>exact⟨T',rest,_,qc,by rw[HLR.out],HPOP,HRSL,HNU,HSN⟩
    case measure=>exact HMM.out
end
section
open Go.RowKit
variable{a:Act}{K:Act → World → Prop}{af:Array Edge}{ats:Array TypeId}{post:Ending → World → Prop}{Q:Exit → Act → World → Prop}{H:q0a}{pos:String}{T:q0e}{ty:TypeId}
theorem q3K{t i j:Tmp}{X:World}{g off n c k:Nat}(h1:a.eval (.tmp i)= .slice (some ⟨g,off,none⟩) n c)(h2:a.eval (.tmp j)= .int .i64 (k:Int))(hk:k<n)(hK:K (a.put (some t) (.pointer (some ⟨g,off+k,none⟩))) X):
 Oper.wp Tryz.prog ⟨some t,.indexAddr 24 (.tmp i) (.tmp j),ty,pos,af,none⟩ a X K Q:=by
 have e1:=q0x h1;have e2:=q0x h2;go_simp;exact hK
theorem v3p{t i j:Tmp}{X:World}{u v:Value}(h1:a.eval (.tmp i)=u)(h2:a.eval (.tmp j)=v)(hC:Calls Tryz.prog 64 #[u,v] X post)(hK:∀e w',post e w' ->∃x,e= .returned x/\K (a.put (some t) x) w'):
 Oper.wp Tryz.prog ⟨some t,.call {callee:= .value (.func 64),args:= #[.tmp i,.tmp j],argTypes:=ats},ty,pos,af,none⟩ a X K Q:=by
 have e1:=q0x h1;have e2:=q0x h2;go_simp;refine hC.mono (λe w' hp=> ?_);obtain⟨x,rfl,hx⟩:=hK e w' hp;exact hx
def RZ(B:Nat)(vh vt p3 v4 v5 p6 v7 v8:Value)(G:q0e):Nat->World->Value->Prop
 |0,_,v=>v=vh
 |1,_,v=>v=vt
 |2,_,v=>v=vh
 |3,_,v=>v=p3
 |4,_,v=>v=v4
 |5,_,v=>v=v5
 |6,_,v=>v=p6
 |7,_,v=>v=v7
 |8,_,v=>v=v8
 |9,X,v=>∃s:TSh,v=s.v/\TM X B s G
 |_,_,_=>True
theorem v3L{B:Nat}{vh vt p3 v4 v5 p6 v7 v8:Value}{G:q0e}(i:Nat)(X Y:World)(v:Value)(h:RZ B vh vt p3 v4 v5 p6 v7 v8 G i X v)(hb:Below X.heap.size X Y):RZ B vh vt p3 v4 v5 p6 v7 v8 G i Y v:=by
 match i,h with
 |0,h=>exact h
 |1,h=>exact h
 |2,h=>exact h
 |3,h=>exact h
 |4,h=>exact h
 |5,h=>exact h
 |6,h=>exact h
 |7,h=>exact h
 |8,h=>exact h
 |9,⟨s,h1,h2⟩=>exact⟨s,h1,h2.later hb⟩
 |n+10,_=>exact trivial
structure SG(V wr:World)(gt:Nat)(q:TSh)(T:q0e):Prop where
 bel:Below V.heap.size V wr
 t:Two wr gt (.slice q.a q.n q.c) (.slice q.b q.m q.d)
 lo:V.heap.size<=gt
 tm:TM wr V.heap.size q T
theorem y4a{V wr X:World}{gt:Nat}{q q2:TSh}{T2:q0e}(h:SG V wr gt q T)(hX:Below wr.heap.size wr X)(hT:TM X V.heap.size q2 T2):SG V (q0B X gt (.slice q2.a q2.n q2.c) (.slice q2.b q2.m q2.d)) gt q2 T2:=by have ht:=h.t.later hX h.t.lt;have oth:∀g,g≠gt->(q0B X gt (.slice q2.a q2.n q2.c) (.slice q2.b q2.m q2.d)).heap[g]? =X.heap[g]?:=λg hg=>z0c _ _ _ _ g hg;refine⟨?_,j1R ht _ _,h.lo,⟨q0v hT.x (λi hi=>oth i (λe=>q1g hT.x ht (e▸hi))),q0v hT.y (λi hi=>oth i (λe=>q1g hT.y ht (e▸hi))),hT.dif⟩⟩;unfold q0B;exact((h.bel.trans (hX.mono h.bel.size)).setCell (p:=⟨gt,0,none⟩) h.lo _).setCell (p:=⟨gt,1,none⟩) h.lo _
theorem x5F(H:q0a)(T:q0e)(id:Int)(X:World)(a b:Value)(r:RdH X a H)(rt:RdT X b T)(hs:q0h H)(hT:q0I T)(h8:H.objs.length=8)(hf:∀o∈H.objs,∀z∈o.field,q0w z):
 Calls Tryz.prog 73 #[a,b,.int .i64 (q0l H id)] X λe w' =>∃s:TSh,e= .returned s.v/\TM w' X.heap.size s (v1K H T id)/\Below X.heap.size X w' :=by
 have hst:v0p T:=⟨by rw[hT.1];omega,by rw[hT.2];omega⟩;unfold v1K;have hiff:=y1N H T id hT h8;have hr:=x1R H id;by_cases h0:0<=q0l H id
 ·have hok:=hiff.2 h0;rw[if_pos h0];obtain⟨k,hk⟩:∃k:Nat,q0l H id=(k:Int):=⟨(q0l H id).toNat,by omega⟩;rw[hk]at hok ⊢;have ek:((k:Int)).toNat=k:=by omega
  rw[ek];unfold q1W;by_cases hg:col T k=1
  ·rw[if_pos hg];exact z2B a b H T _ X r rt hs hst (.inr (by rw[ek];exact hg))
  ·rw[if_neg hg];have hh:=q3Z a b H T k X r rt hs hst hf hok hg;unfold z2d at hh;rw[ek]at hh;exact hh
 ·rw[if_neg h0];exact z2B a b H T _ X r rt hs hst (.inl (λh=>h0 (hiff.1 h)))
theorem x5G(H:q0a)(T:q0e)(id:Int)(X:World)(a b:Value)(r:RdH X a H)(rt:RdT X b T)(hs:q0h H)(hT:q0I T)(h8:H.objs.length=8)(hf:∀o∈H.objs,∀z∈o.field,q0w z):
 Calls Tryz.prog 74 #[a,b,.int .i64 (q0l H id)] X λe w' =>∃s:TSh,e= .returned s.v/\TM w' X.heap.size s (v1V H T id)/\Below X.heap.size X w' :=by
 have hst:v0p T:=⟨by rw[hT.1];omega,by rw[hT.2];omega⟩;unfold v1V;have hiff:=y1N H T id hT h8;by_cases h0:0<=q0l H id
 ·have hok:=hiff.2 h0;rw[if_pos h0];obtain⟨k,hk⟩:∃k:Nat,q0l H id=(k:Int):=⟨(q0l H id).toNat,by omega⟩;rw[hk]at hok ⊢;exact z3a a b H T k X r rt hs hst hf hok
 ·rw[if_neg h0];exact v3R a b H T _ X r rt hs hst (λh=>h0 (hiff.1 h))
def cup(H:q0a)(j:Nat):q0a:={H with objs:=q1Y (x1U (z0K H)) j H.objs}
theorem q2x(H:q0a)(j:Nat):(cup H j).objs.length=H.objs.length:=y1S _ _ _
theorem y4K(H:q0a):cup H 0=H:=by unfold cup;rw[x2U]
theorem z5Y(H:q0a)(j:Nat)(h:j<H.objs.length):(cup H j).objs[j]'(by rw[q2x];exact h)=H.objs[j]:=by have:=v1k (x1U (z0K H)) j j H.objs h;rw[if_neg (Nat.lt_irrefl _)]at this;exact this
theorem z5Z(H:q0a)(j:Nat)(h:j<H.objs.length)(hb:isW (z0K H) j=false):({cup H j with objs:=(cup H j).objs.set j {H.objs[j]with purple:=false}}:q0a)=cup H (j+1):=by
 unfold cup;rw[j1e _ _ _ h];have e:x1U (z0K H) j H.objs[j]={H.objs[j]with purple:=false}:=by unfold x1U;rw[if_neg (by simp[hb])]
 rw[e]
theorem q5s(H:q0a)(j:Nat)(h:j<H.objs.length)(hb:isW (z0K H) j=true)(o:q0E):q0r ({cup H j with objs:=(cup H j).objs.set j o}:q0a) j (q0J H.objs[j].gen)=cup H (j+1):=by
 unfold cup q0r;rw[j1e _ _ _ h];have e:x1U (z0K H) j H.objs[j]=q0J H.objs[j].gen:=by unfold x1U;rw[if_pos hb]
 rw[e];simp
def kup(H:q0a)(j:Nat):q0a:={z0t H with objs:=q1Y (q1d (z0t H)) j (z0t H).objs}
theorem u0Y(H:q0a):(z0t H).objs.length=H.objs.length:=by simp[z0t]
theorem j1K(H:q0a)(j:Nat):(kup H j).objs.length=H.objs.length:=by unfold kup;rw[y1S,u0Y]
theorem q5r(H:q0a)(j:Nat)(h:H.objs.length<=j):cup H j=kup H 0:=by unfold cup kup;rw[y2J _ _ _ h,x2U];rfl
theorem u2v(H:q0a)(j:Nat)(h:H.objs.length<=j):({kup H j with buffer:=[]}:q0a)=j0c H:=by unfold kup j0c;rw[y2J _ _ _ (by rw[u0Y];exact h)];rfl
theorem x5f(H:q0a)(j:Nat)(h:j<H.objs.length):(kup H j).objs[j]'(by rw[j1K];exact h)=(z0t H).objs[j]'(by rw[u0Y];exact h):=by have:=v1k (q1d (z0t H)) j j (z0t H).objs (by rw[u0Y];exact h);rw[if_neg (Nat.lt_irrefl _)]at this;exact this
theorem j3i(K:q0a)(i:Nat)(o:q0E):q1I (q1d K i o) o:=by unfold q1d;split<;>exact⟨rfl,rfl,rfl⟩
theorem q3B(H:q0a)(j:Nat):∀i(h1:i<(kup H j).objs.length)(h2:i<(z0t H).objs.length),q1I (kup H j).objs[i] (z0t H).objs[i]:=by
 intro i h1 h2;have e:(kup H j).objs[i]=if i<j then q1d (z0t H) i (z0t H).objs[i]else(z0t H).objs[i]:=v1k (q1d (z0t H)) j i (z0t H).objs h2
 rw[e];split
 ·exact j3i _ _ _
 ·exact⟨rfl,rfl,rfl⟩
theorem x5g(H:q0a)(j:Nat)(h:j<(z0t H).objs.length)(hb:(z0t H).objs[j].live=false):kup H (j+1)=kup H j:=by
 unfold kup;rw[j1e _ _ _ h];have e:q1d (z0t H) j (z0t H).objs[j]=(z0t H).objs[j]:=by unfold q1d;rw[if_neg (by simp[hb])]
 rw[e];have e2:=v1k (q1d (z0t H)) j j (z0t H).objs h;rw[if_neg (Nat.lt_irrefl _)]at e2
 have e3:(q1Y (q1d (z0t H)) j (z0t H).objs).set j (z0t H).objs[j]=q1Y (q1d (z0t H)) j (z0t H).objs:=by
  conv=>lhs;rw[<-e2]
  exact List.set_getElem_self _
 rw[e3]
theorem q5I(H:q0a)(j:Nat)(h:j<(z0t H).objs.length)(hb:(z0t H).objs[j].live=true):({kup H j with objs:=(kup H j).objs.set j {(z0t H).objs[j]with count:=u0o (z0t H) (j:Int) (z0t H).objs[j]}}:q0a)=kup H (j+1):=by
 unfold kup;rw[j1e _ _ _ h];have e:q1d (z0t H) j (z0t H).objs[j]={(z0t H).objs[j]with count:=u0o (z0t H) (j:Int) (z0t H).objs[j]}:=by unfold q1d;rw[if_pos hb]
 rw[e]
theorem v2z(hs:q0h H):q0h (z0t H):=by
 refine⟨by rw[u0Y];exact hs.objs,λz hz=> ?_,hs.weaks,hs.buffer,hs.sites,hs.names⟩;obtain⟨i,hi,rfl⟩:=List.getElem_of_mem hz;have hi2:i<H.objs.length:=by rw[u0Y]at hi;exact hi
 have e:(z0t H).objs[i]=x1U (z0K H) i H.objs[i]:=by simp[z0t]
 rw[e];unfold x1U;split
 ·show([-1,-1,-1]:List Int).length<=_;simp
 ·exact hs.fields H.objs[i] (List.getElem_mem hi2)
theorem z1R(hs:q0h H)(j:Nat):q0h (kup H j):=
 v2V (v2z hs) (by rw[j1K,u0Y]) (q3B H j) rfl (v2z hs).buffer rfl
theorem x4G(H:q0a)(j:Nat)(z:Int):x0a (kup H j) z=x0a (z0t H) z:=z2Y (by rw[j1K,u0Y]) (q3B H j) z
theorem q4f(H:q0a)(hT:q0I (z0K H)):∃(isB:Nat->Bool)(tl:Nat->List Int),x0l (z0K H)=tl 0/\(∀j:Nat,j<8->tl j=if isB j=true then(j:Int)::tl (j+1)else tl (j+1))/\tl 8=[]/\(∀j:Nat,j<8->decide ((j:Int)∈x0l (z0K H))=isB j)/\∀j,isB j=isW (z0K H) j:=by
 refine⟨isW (z0K H),λj=>x0f ((z0K H).colors.drop j) (j:Int),?_,λj hj=> ?_,x2W _ _ (by rw[hT.2];omega) _,λj hj=> ?_,λ_=>rfl⟩
 ·show x0l (z0K H)=x0f ((z0K H).colors.drop 0) ((0:Nat):Int)
  rw[List.drop_zero];rfl
 ·have hj2:j<(z0K H).colors.length:=by rw[hT.2];exact hj
  have e:(isW (z0K H) j=true)=((z0K H).colors[j]=2):=by unfold isW;rw[decide_eq_true_eq,List.getD_eq_getElem?_getD,List.getElem?_eq_getElem hj2];rfl
  show x0f ((z0K H).colors.drop j) (j:Int)=_;rw[z2T _ j hj2];simp only[e]
 ·have h:=z2U (z0K H) hT j hj
  cases hb:isW (z0K H) j with
  |true=>exact decide_eq_true (h.2 hb)
  |false=>exact decide_eq_false (λhm=>by rw[h.1 hm]at hb;cases hb)
theorem j4a(H:q0a)(j:Nat)(h:j<H.objs.length):j0I H (j:Int)=H.objs[j].gen:=by unfold j0I;rw[show((j:Int)).toNat=j from by omega,List.getElem?_eq_getElem h]
theorem v4t{t i j:Tmp}{X:World}{g off n c k:Nat}(h1:a.eval (.tmp i)= .slice (some ⟨g,off,none⟩) n c)(h2:a.eval (.tmp j)= .int .i64 (k:Int))(hk:k<n)(hK:K (a.put (some t) (.pointer (some ⟨g,off+k*8,none⟩))) X):
 Oper.wp Tryz.prog ⟨some t,.indexAddr 32 (.tmp i) (.tmp j),ty,pos,af,none⟩ a X K Q:=by
 have e1:=q0x h1;have e2:=q0x h2;go_simp;exact hK
def RE(B gx go oc hb hg ho hc j:Nat)(og:Int):Nat->World->Value->Prop
 |0,_,v=>v= .pointer (some ⟨gx,0,none⟩)
 |1,_,v=>v= .slice (some ⟨go,0,none⟩) 8 oc
 |2,_,v=>v= .int .i64 (j:Int)
 |3,_,v=>v= .pointer (some ⟨hb,0,none⟩)
 |4,_,v=>v= .slice (some ⟨hg,ho,none⟩) 8 hc
 |5,_,v=>v= .int .i64 (j:Int)
 |6,_,v=>v= .pointer (some ⟨hg,ho+j*8,none⟩)
 |7,_,v=>v= .pointer (some ⟨hg,ho+j*8+1,none⟩)
 |8,_,v=>v= .int .i64 og
 |9,X,v=>∃a c,v= .slice a 3 c/\q0i X B (.slice a 3 c) [-1,-1,-1]
 |10,X,v=>∃a c,v=y0J (q0J og) (.slice a 3 c)/\q0i X B (.slice a 3 c) [-1,-1,-1]
 |11,_,v=>v= .pointer (some ⟨go,j*8,none⟩)
 |_,_,_=>True
theorem q5Z{B gx go oc hb hg ho hc j:Nat}{og:Int}(i:Nat)(X Y:World)(v:Value)(h:RE B gx go oc hb hg ho hc j og i X v)(hY:Below X.heap.size X Y):RE B gx go oc hb hg ho hc j og i Y v:=by
 match i,h with
 |0,h=>exact h
 |1,h=>exact h
 |2,h=>exact h
 |3,h=>exact h
 |4,h=>exact h
 |5,h=>exact h
 |6,h=>exact h
 |7,h=>exact h
 |8,h=>exact h
 |9,⟨a,c,h1,h2⟩=>exact⟨a,c,h1,q0o h2 hY⟩
 |10,⟨a,c,h1,h2⟩=>exact⟨a,c,h1,q0o h2 hY⟩
 |11,h=>exact h
 |n+12,_=>exact trivial
def RM(gx go oc j:Nat)(hv:Value)(hl rt ie:Int):Nat->World->Value->Prop
 |0,_,v=>v= .pointer (some ⟨gx,0,none⟩)
 |1,_,v=>v= .slice (some ⟨go,0,none⟩) 8 oc
 |2,_,v=>v= .int .i64 (j:Int)
 |3,_,v=>v= .pointer (some ⟨gx,0,none⟩)
 |4,_,v=>v= .slice (some ⟨go,0,none⟩) 8 oc
 |5,_,v=>v= .int .i64 (j:Int)
 |6,_,v=>v= .pointer (some ⟨go,j*8,none⟩)
 |7,_,v=>v= .pointer (some ⟨go,j*8+3,none⟩)
 |8,_,v=>v= .int .i64 hl
 |9,_,v=>v= .pointer (some ⟨gx,0,none⟩)
 |10,_,v=>v= .slice (some ⟨go,0,none⟩) 8 oc
 |11,_,v=>v= .int .i64 (j:Int)
 |12,_,v=>v= .pointer (some ⟨go,j*8,none⟩)
 |13,_,v=>v= .pointer (some ⟨go,j*8+4,none⟩)
 |14,_,v=>v= .int .i64 rt
 |15,_,v=>v= .int .i64 (IntKind.i64.wrap (hl+rt))
 |16,_,v=>v=hv
 |17,_,v=>v= .int .i64 (j:Int)
 |18,_,v=>v= .int .i64 ie
 |19,_,v=>v= .int .i64 (IntKind.i64.wrap (IntKind.i64.wrap (hl+rt)+ie))
 |20,_,v=>v= .pointer (some ⟨go,j*8,none⟩)
 |21,_,v=>v= .pointer (some ⟨go,j*8+5,none⟩)
 |_,_,_=>True
theorem z5i{gx go oc j:Nat}{hv:Value}{hl rt ie:Int}(i:Nat)(X Y:World)(v:Value)(h:RM gx go oc j hv hl rt ie i X v)(hY:Below X.heap.size X Y):RM gx go oc j hv hl rt ie i Y v:=by
 match i,h with
 |0,h=>exact h
 |1,h=>exact h
 |2,h=>exact h
 |3,h=>exact h
 |4,h=>exact h
 |5,h=>exact h
 |6,h=>exact h
 |7,h=>exact h
 |8,h=>exact h
 |9,h=>exact h
 |10,h=>exact h
 |11,h=>exact h
 |12,h=>exact h
 |13,h=>exact h
 |14,h=>exact h
 |15,h=>exact h
 |16,h=>exact h
 |17,h=>exact h
 |18,h=>exact h
 |19,h=>exact h
 |20,h=>exact h
 |21,h=>exact h
 |n+22,_=>exact trivial
theorem x2M(v:Value)(H:q0a)(w:World)(h:RdH w v H)(hs:q0h H)(h8:H.objs.length=8)(hf:∀o∈H.objs,∀z∈o.field,q0w z)(hbf:∀z∈H.buffer,q0w z):
 Calls Tryz.prog 36 #[v] w λe w' =>∃(s:HSh)(vf:Value),e= .returned (.tuple #[s.v,vf])/\HM w' w.heap.size s (j0c H)/\q0i w' w.heap.size vf (y0v H)/\(∀g,vf.ownBlock=some g->¬q0u s g)/\Below w.heap.size w w' :=by
 have HRH:Hid (∀X,Below w.heap.size w X->RdH X v H):=λX hX=>q0s h hX;have CC:Hid (∀X,Below w.heap.size w X->_):=λX hX=>x0P v H X (HRH.out X hX) hs;have CN:Hid (∀X,Below w.heap.size w X->_):=λX hX=>u1N v H X (HRH.out X hX) hs;have HSM:Hid (q0h H):=hs;have HL8:Hid (H.objs.length=8):=h8;have HF:Hid (∀o∈H.objs,∀z∈o.field,q0w z):=hf;have HBF:Hid (∀z∈H.buffer,q0w z):=hbf;have hbl:=hs.buffer;obtain⟨ao,co,aw,cw,ab,cb,sa,sc,rfl,ro,-,ri,-⟩:=h;have HRB:Hid (∀X,Below w.heap.size w X->RdI X ab H.buffer):=λX hX=>q0t ri hX;have HRO:Hid (RdO w ao H.objs):=ro;obtain⟨nb,hnb⟩:∃nb,H.buffer.length=nb:=⟨_,rfl⟩;have HLB:Hid (H.buffer.length=nb):=hnb;have HG0:Hid (v0A H 0=y0h H):=j2Q H;have HS0:Hid (v0n H 0=v0A H nb):=by show _=_;rw[<-hnb];exact j2S H
 have HSE:Hid (z0K H=v0n H nb):=by show _=_;rw[<-hnb];rfl
 rw[h8,hnb]at HRH CC CN ⊢;rw[hnb]at hbl;generalize H.weaks.length=nw at*;generalize H.sites.length=ns at*;obtain⟨W,hW⟩:∃W,W=(w.alloc (.cells #[.slice ao 8 co,.slice aw nw cw,.slice ab nb cb,.slice sa ns sc] 35)).alloc (.cells #[.slice none 0 0,.slice none 0 0,.slice none 0 0,.slice none 0 0] 35):=⟨_,rfl⟩;have BW:Below w.heap.size w W:=by rw[hW];exact(bl1 _).alloc (by simp) _
 have sW:W.heap.size=w.heap.size+2:=by rw[hW];simp
 have FH:q0d W w.heap.size (.slice ao 8 co) (.slice aw nw cw) (.slice ab nb cb) (.slice sa ns sc):=by have f:=q0d.new w (.slice ao 8 co) (.slice aw nw cw) (.slice ab nb cb) (.slice sa ns sc);have f2:=f.later (bl1 (.cells #[.slice none 0 0,.slice none 0 0,.slice none 0 0,.slice none 0 0] 35));rw[hW];exact f2
 have FR:q0d W (w.heap.size+1) (.slice none 0 0) (.slice none 0 0) (.slice none 0 0) (.slice none 0 0):=by have f:=q0d.new (w.alloc (.cells #[.slice ao 8 co,.slice aw nw cw,.slice ab nb cb,.slice sa ns sc] 35)) (.slice none 0 0) (.slice none 0 0) (.slice none 0 0) (.slice none 0 0);rw[<-hW]at f;simpa using f
 have HFW:Hid (∀X,Below W.heap.size W X->q0d X w.heap.size (.slice ao 8 co) (.slice aw nw cw) (.slice ab nb cb) (.slice sa ns sc)):=λX hX=>FH.later hX;have HFR:Hid (q0d W (w.heap.size+1) (.slice none 0 0) (.slice none 0 0) (.slice none 0 0) (.slice none 0 0)):=FR;have HBW:Hid (Below w.heap.size w W):=BW;have HsW:Hid (W.heap.size=w.heap.size+2):=sW;clear hs h8 hf hbf hnb ro ri FR;go_enter Tryz.func36,Tryz.ntmps36;go_wp2_with fail
 rw[<-hW];clear hW;refine(CC.out _ BW).mono ?_;rintro e w1 ⟨s0,rfl,M1,b1⟩;have hs1:=b1.size;obtain⟨V,hV⟩:∃V,V=w1.alloc (.cells #[.slice s0.oa s0.os.length s0.oc,.slice s0.wa s0.wn s0.wc,.slice s0.ba s0.bn s0.bc,.slice s0.sa s0.sn s0.sc] 35):=⟨_,rfl⟩;obtain⟨V2,hV2⟩:∃V2,V2=V.alloc (.cells #[] 3):=⟨_,rfl⟩;have BV:Below w1.heap.size w1 V:=by rw[hV];exact bl1 _
 have sV:V.heap.size=w1.heap.size+1:=by rw[hV];simp
 have BV2:Below V.heap.size V V2:=by rw[hV2];exact bl1 _
 have sV2:V2.heap.size=w1.heap.size+2:=by rw[hV2];simp[sV]
 have bb:Below W.heap.size W V:=b1.trans (BV.mono b1.size)
 have HLS0:Hid (LS W V2 W.heap.size w1.heap.size s0 H (.slice none 0 0) (.slice (some ⟨V.heap.size,0,none⟩) 0 0) [] []):=by
  have l:LS0 W V W.heap.size w1.heap.size s0 H:=
   ⟨bb,Nat.le_refl _,q0c M1 BV,by rw[hV];exact q0d.new w1 _ _ _ _,hs1,λhh=>by have:=(z0X M1 hh).2;omega,.inl ⟨rfl,rfl⟩,z0H _ _,λg hg=>(by simp[Value.ownBlock]at hg),λg hg=>(by simp[Value.ownBlock]at hg),λg hg=>(by simp[Value.ownBlock]at hg)⟩
  refine v2d l (l.bel.trans (BV2.mono l.le)) BV2.size (λi hi _=>BV2.block i hi) _ [] ?_ (.inr ⟨V.heap.size,rfl,Nat.le_refl _⟩);rw[hV2];exact j0C _ _ l.le
 rw[sV]at HLS0;have F1:=FH.later b1;have c0:w1.cell? ⟨w.heap.size,0,none⟩=some (.slice ao 8 co):=F1.cell 0;have c1:w1.cell? ⟨w.heap.size,1,none⟩=some (.slice aw nw cw):=F1.cell 1;have c2:w1.cell? ⟨w.heap.size,2,none⟩=some (.slice ab nb cb):=F1.cell 2;have c3:w1.cell? ⟨w.heap.size,3,none⟩=some (.slice sa ns sc):=F1.cell 3;have hq0:w.heap.size<w1.heap.size:=by omega
 have hn0:¬w.heap.size=w1.heap.size:=by omega
 have hq9:w.heap.size<w1.heap.size+1:=by omega
 have hn9:¬w.heap.size=w1.heap.size+1:=by omega
 have HFH:Hid (∀X,Below V2.heap.size V2 X->q0d X w.heap.size (.slice ao 8 co) (.slice aw nw cw) (.slice ab nb cb) (.slice sa ns sc)):=λX hX=>((F1.later BV).later BV2).later hX;have HBV:Hid (Below w.heap.size w V2):=HBW.out.trans ((bb.trans (BV2.mono bb.size)).mono HBW.out.size);rw[show s0.v= .agg #[.slice s0.oa s0.os.length s0.oc,.slice s0.wa s0.wn s0.wc,.slice s0.ba s0.bn s0.bc,.slice s0.sa s0.sn s0.sc]from rfl];have HsV:Hid (V.heap.size=w1.heap.size+1):=sV;clear M1 b1 BV BV2 bb F1 FH BW CC sW sV;go_wp2_with fail
 rw[<-hV,<-hV2];clear hV hV2 c0 c1 c2 c3 hq0 hn0 hq9 hn9;refine(CN.out _ HBV.out).mono ?_;rintro e w3 ⟨q0,rfl,M3,b3⟩;have hs3:=b3.size;obtain⟨V3,hV3⟩:∃V3,V3=w3.alloc (.cells #[.slice q0.a q0.n q0.c,.slice q0.b q0.m q0.d] 101):=⟨_,rfl⟩;have BV3:Below w3.heap.size w3 V3:=by rw[hV3];exact bl1 _
 have HSG0:Hid (SG V2 V3 w3.heap.size q0 (v0A H 0)):=by refine⟨b3.trans (BV3.mono b3.size),by rw[hV3];exact Two.new w3 _ _,hs3,?_⟩;rw[HG0.out];exact M3.later BV3
 rw[y0Y];clear M3 b3 BV3 CN;go_wp2;rw[<-hV3];obtain⟨gt,hgt⟩:∃gt,w3.heap.size=gt:=⟨_,rfl⟩;rw[hgt]at HSG0 ⊢;obtain⟨gx,hgx⟩:∃gx,w1.heap.size=gx:=⟨_,rfl⟩;rw[hgx]at HLS0 ⊢;clear hV3 hgt hs3 hgx hs1 sV2;go_loopw[7] (λi wr=>∃(j:Nat)(q:TSh),i= .int .i64 (j:Int)/\j<=nb/\Hid (SG V2 wr gt q (v0A H j))) (λi _=>nb - (intOf i).toNat)
 case atStart=>exact⟨0,_,rfl,by omega,HSG0⟩
 case round=>
  obtain⟨j,q,rfl,hjn,HI⟩:=hrel;have FHX:=HFH.out wr HI.out.bel;have c2:wr.cell? ⟨w.heap.size,2,none⟩=some (.slice ab nb cb):=FHX.cell 2;by_cases hlt:j<nb
  ·have hj2:j<H.buffer.length:=by have:=HLB.out;omega
   obtain⟨bg,bo,rfl,hbg,hbc⟩:=HRB.out wr (HBV.out.trans (HI.out.bel.mono HBV.out.size)) j hj2;have hz64:=HBF.out _ (List.getElem_mem hj2);have HST:Hid (v0A H (j+1)=v1K H (v0A H j) H.buffer[j]):=j2P H j hj2;have HE8:Hid (q0I (v0A H j)):=q2o H HL8.out j;generalize H.buffer[j]=id at*;have HXW:Hid (∀X,Below wr.heap.size wr X->Below w.heap.size w X):=λX hX=>HBV.out.trans ((HI.out.bel.trans (hX.mono HI.out.bel.size)).mono HBV.out.size);have CS:Hid (∀X,Below wr.heap.size wr X->_):=λX hX=>z0k _ H id X (HRH.out X (HXW.out X hX)) (by rw[HL8.out];omega) hz64.1 hz64.2
   have CM:Hid (∀X,Below wr.heap.size wr X->Calls Tryz.prog 73 #[.agg #[.slice ao 8 co,.slice aw nw cw,.slice (some ⟨bg,bo,none⟩) nb cb,.slice sa ns sc],q.v,.int .i64 (q0l H id)] X λe w' =>∃s:TSh,e= .returned s.v/\TM w' X.heap.size s (v0A H (j+1))/\Below X.heap.size X w'):=λX hX=>by
    rw[HST.out];exact x5F H (v0A H j) id X _ _ (HRH.out X (HXW.out X hX)) ((HI.out.tm.later hX).rd) HSM.out HE8.out HL8.out HF.out
   generalize q0l H id=sl at*;have hjl:(j:Int)<(nb:Int):=by omega
   clear hz64 HST;go_wp2;refine q0R 10 (by kernel_rfl) (by kernel_rfl) (RZ V2.heap.size (.agg #[.slice ao 8 co,.slice aw nw cw,.slice (some ⟨bg,bo,none⟩) nb cb,.slice sa ns sc]) q.v (.pointer (some ⟨w.heap.size,2,none⟩)) (.slice (some ⟨bg,bo,none⟩) nb cb) (.int .i64 (j:Int)) (.pointer (some ⟨bg,bo+j,none⟩)) (.int .i64 id) (.int .i64 sl) (v0A H (j+1))) v3L ?_ ?_
   ·intro i o hi ho a X hX hA hdep;have FX:=FHX.later hX;have TX:=HI.out.t.later hX HI.out.t.lt
    match i,hi,ho with
    |0,_,ho=>
     cases ho
     exact q1z (q0f hA (t:=1) (by kernel_rfl)) FX ⟨_,rfl,bl0,rfl⟩
    |1,_,ho=>
     cases ho
     exact z2o (q0f hA (t:=6) (by kernel_rfl)) TX ⟨_,rfl,bl0,rfl⟩
    |2,_,ho=>
     cases ho
     exact q1z (q0f hA (t:=1) (by kernel_rfl)) FX ⟨_,rfl,bl0,rfl⟩
    |3,_,ho=>
     cases ho
     exact v0f 2 (by omega) (q0f hA (t:=1) (by kernel_rfl)) ⟨_,rfl,bl0,rfl⟩
    |4,_,ho=>
     cases ho
     have e1:a.eval (.tmp 33)= .pointer (some ⟨w.heap.size,2,none⟩):=hdep ⟨3,.data⟩ (by simp) rfl 33 rfl;exact x0E e1 (FX.cell 2) ⟨_,rfl,bl0,rfl⟩
    |5,_,ho=>
     cases ho
     exact z0p (q0f hA (t:=7) (by kernel_rfl)) ⟨_,rfl,bl0,rfl⟩
    |6,_,ho=>
     cases ho
     have e1:a.eval (.tmp 34)= .slice (some ⟨bg,bo,none⟩) nb cb:=hdep ⟨4,.data⟩ (by simp) rfl 34 rfl;have e2:a.eval (.tmp 35)= .int .i64 (j:Int):=hdep ⟨5,.data⟩ (by simp) rfl 35 rfl;exact q3K e1 e2 hlt ⟨_,rfl,bl0,rfl⟩
    |7,_,ho=>
     cases ho
     have e1:a.eval (.tmp 36)= .pointer (some ⟨bg,bo+j,none⟩):=hdep ⟨6,.data⟩ (by simp) rfl 36 rfl;exact z0V e1 ((hX.cell (p:=⟨bg,bo+j,none⟩) hbg).trans hbc) ⟨_,rfl,bl0,rfl⟩
    |8,_,ho=>
     cases ho
     have e1:a.eval (.tmp 32)= .agg #[.slice ao 8 co,.slice aw nw cw,.slice (some ⟨bg,bo,none⟩) nb cb,.slice sa ns sc]:=hdep ⟨2,.data⟩ (by simp) rfl 32 rfl;have e2:a.eval (.tmp 37)= .int .i64 id:=hdep ⟨7,.data⟩ (by simp) rfl 37 rfl;refine v3p e1 e2 (CS.out X hX) ?_;rintro e w' ⟨rfl,hb⟩;exact⟨_,rfl,_,rfl,hb,rfl⟩
    |9,_,ho=>
     cases ho
     have e1:a.eval (.tmp 30)= .agg #[.slice ao 8 co,.slice aw nw cw,.slice (some ⟨bg,bo,none⟩) nb cb,.slice sa ns sc]:=hdep ⟨0,.data⟩ (by simp) rfl 30 rfl;have e2:a.eval (.tmp 31)=q.v:=hdep ⟨1,.data⟩ (by simp) rfl 31 rfl;have e3:a.eval (.tmp 38)= .int .i64 sl:=hdep ⟨8,.data⟩ (by simp) rfl 38 rfl;refine q2I e1 e2 e3 (CM.out X hX) ?_;rintro e w' ⟨x,rfl,hx,hb⟩;exact⟨_,rfl,_,rfl,hb,x,rfl,hx.mono (Nat.le_trans HI.out.bel.size hX.size)⟩
   ·intro o ho a X hX hA hdep
    cases ho
    obtain⟨q2,e5,hT5⟩:=hdep ⟨9,.data⟩ (by simp) rfl 39 rfl;have e3:a.eval (.tmp 6)= .pointer (some ⟨gt,0,none⟩):=q0f hA (t:=6) (by kernel_rfl);have hTw:=HI.out.t.later hX HI.out.t.lt;rw[y0Y]at e5;refine j0l e3 e5 hTw ?_;have HI2:Hid (SG V2 (q0B X gt (.slice q2.a q2.n q2.c) (.slice q2.b q2.m q2.d)) gt q2 (v0A H (j+1))):=y4a HI.out hX hT5;obtain⟨us,hus,rfl⟩:=q0F hA [30,31,32,33,34,35,36,37,38,39] (by kernel_rfl);clear hdep hA hus e3 e5 hTw hT5 CS CM FHX c2;generalize q0B X gt (.slice q2.a q2.n q2.c) (.slice q2.b q2.m q2.d)=Y at*;simp only[List.mapIdx_cons,List.mapIdx_nil,Nat.reduceAdd,List.contains_cons,List.contains_nil,Nat.reduceBEq,Bool.or_false,Bool.or_true,if_true,if_false,Bool.false_eq_true];go_wp2;go_roundw
    case rel=>exact⟨j+1,q2,by go_num,by omega,HI2⟩
    case measure=>simp[intOf];omega
  ·have hjn2:nb<=j:=by omega
   have HJN:Hid (j=nb):=by show _=_;omega
   have HSG1:Hid (SG V2 wr gt q (v0n H 0)):=by
    have h2:v0A H j=v0n H 0:=by rw[HS0.out,HJN.out]
    rw[<-h2];exact HI.out
   clear FHX;go_wp2;clear c2 HI HJN hlt hjn hjn2;go_loopw[8] (λi wr=>∃(j:Nat)(q:TSh),i= .int .i64 (j:Int)/\j<=nb/\Hid (SG V2 wr gt q (v0n H j))) (λi _=>nb - (intOf i).toNat)
   case atStart=>exact⟨0,_,rfl,by omega,HSG1⟩
   case round=>
    obtain⟨j,q,rfl,hjn,HI⟩:=hrel;have FHX:=HFH.out wr HI.out.bel;have c2:wr.cell? ⟨w.heap.size,2,none⟩=some (.slice ab nb cb):=FHX.cell 2;by_cases hlt:j<nb
    ·have hj2:j<H.buffer.length:=by have:=HLB.out;omega
     obtain⟨bg,bo,rfl,hbg,hbc⟩:=HRB.out wr (HBV.out.trans (HI.out.bel.mono HBV.out.size)) j hj2;have hz64:=HBF.out _ (List.getElem_mem hj2);have HST:Hid (v0n H (j+1)=v1V H (v0n H j) H.buffer[j]):=j2R H j hj2;have HE8:Hid (q0I (v0n H j)):=z1F H HSM.out HL8.out j;generalize H.buffer[j]=id at*;have HXW:Hid (∀X,Below wr.heap.size wr X->Below w.heap.size w X):=λX hX=>HBV.out.trans ((HI.out.bel.trans (hX.mono HI.out.bel.size)).mono HBV.out.size);have CS:Hid (∀X,Below wr.heap.size wr X->_):=λX hX=>z0k _ H id X (HRH.out X (HXW.out X hX)) (by rw[HL8.out];omega) hz64.1 hz64.2
     have CM:Hid (∀X,Below wr.heap.size wr X->Calls Tryz.prog 74 #[.agg #[.slice ao 8 co,.slice aw nw cw,.slice (some ⟨bg,bo,none⟩) nb cb,.slice sa ns sc],q.v,.int .i64 (q0l H id)] X λe w' =>∃s:TSh,e= .returned s.v/\TM w' X.heap.size s (v0n H (j+1))/\Below X.heap.size X w'):=λX hX=>by
      rw[HST.out];exact x5G H (v0n H j) id X _ _ (HRH.out X (HXW.out X hX)) ((HI.out.tm.later hX).rd) HSM.out HE8.out HL8.out HF.out
     generalize q0l H id=sl at*;have hjl:(j:Int)<(nb:Int):=by omega
     clear hz64 HST;go_wp2;refine q0R 10 (by kernel_rfl) (by kernel_rfl) (RZ V2.heap.size (.agg #[.slice ao 8 co,.slice aw nw cw,.slice (some ⟨bg,bo,none⟩) nb cb,.slice sa ns sc]) q.v (.pointer (some ⟨w.heap.size,2,none⟩)) (.slice (some ⟨bg,bo,none⟩) nb cb) (.int .i64 (j:Int)) (.pointer (some ⟨bg,bo+j,none⟩)) (.int .i64 id) (.int .i64 sl) (v0n H (j+1))) v3L ?_ ?_
     ·intro i o hi ho a X hX hA hdep;have FX:=FHX.later hX;have TX:=HI.out.t.later hX HI.out.t.lt
      match i,hi,ho with
      |0,_,ho=>
       cases ho
       exact q1z (q0f hA (t:=1) (by kernel_rfl)) FX ⟨_,rfl,bl0,rfl⟩
      |1,_,ho=>
       cases ho
       exact z2o (q0f hA (t:=6) (by kernel_rfl)) TX ⟨_,rfl,bl0,rfl⟩
      |2,_,ho=>
       cases ho
       exact q1z (q0f hA (t:=1) (by kernel_rfl)) FX ⟨_,rfl,bl0,rfl⟩
      |3,_,ho=>
       cases ho
       exact v0f 2 (by omega) (q0f hA (t:=1) (by kernel_rfl)) ⟨_,rfl,bl0,rfl⟩
      |4,_,ho=>
       cases ho
       have e1:a.eval (.tmp 50)= .pointer (some ⟨w.heap.size,2,none⟩):=hdep ⟨3,.data⟩ (by simp) rfl 50 rfl;exact x0E e1 (FX.cell 2) ⟨_,rfl,bl0,rfl⟩
      |5,_,ho=>
       cases ho
       exact z0p (q0f hA (t:=8) (by kernel_rfl)) ⟨_,rfl,bl0,rfl⟩
      |6,_,ho=>
       cases ho
       have e1:a.eval (.tmp 51)= .slice (some ⟨bg,bo,none⟩) nb cb:=hdep ⟨4,.data⟩ (by simp) rfl 51 rfl;have e2:a.eval (.tmp 52)= .int .i64 (j:Int):=hdep ⟨5,.data⟩ (by simp) rfl 52 rfl;exact q3K e1 e2 hlt ⟨_,rfl,bl0,rfl⟩
      |7,_,ho=>
       cases ho
       have e1:a.eval (.tmp 53)= .pointer (some ⟨bg,bo+j,none⟩):=hdep ⟨6,.data⟩ (by simp) rfl 53 rfl;exact z0V e1 ((hX.cell (p:=⟨bg,bo+j,none⟩) hbg).trans hbc) ⟨_,rfl,bl0,rfl⟩
      |8,_,ho=>
       cases ho
       have e1:a.eval (.tmp 49)= .agg #[.slice ao 8 co,.slice aw nw cw,.slice (some ⟨bg,bo,none⟩) nb cb,.slice sa ns sc]:=hdep ⟨2,.data⟩ (by simp) rfl 49 rfl;have e2:a.eval (.tmp 54)= .int .i64 id:=hdep ⟨7,.data⟩ (by simp) rfl 54 rfl;refine v3p e1 e2 (CS.out X hX) ?_;rintro e w' ⟨rfl,hb⟩;exact⟨_,rfl,_,rfl,hb,rfl⟩
      |9,_,ho=>
       cases ho
       have e1:a.eval (.tmp 47)= .agg #[.slice ao 8 co,.slice aw nw cw,.slice (some ⟨bg,bo,none⟩) nb cb,.slice sa ns sc]:=hdep ⟨0,.data⟩ (by simp) rfl 47 rfl;have e2:a.eval (.tmp 48)=q.v:=hdep ⟨1,.data⟩ (by simp) rfl 48 rfl;have e3:a.eval (.tmp 55)= .int .i64 sl:=hdep ⟨8,.data⟩ (by simp) rfl 55 rfl;refine q2J e1 e2 e3 (CM.out X hX) ?_;rintro e w' ⟨x,rfl,hx,hb⟩;exact⟨_,rfl,_,rfl,hb,x,rfl,hx.mono (Nat.le_trans HI.out.bel.size hX.size)⟩
     ·intro o ho a X hX hA hdep
      cases ho
      obtain⟨q2,e5,hT5⟩:=hdep ⟨9,.data⟩ (by simp) rfl 56 rfl;have e3:a.eval (.tmp 6)= .pointer (some ⟨gt,0,none⟩):=q0f hA (t:=6) (by kernel_rfl);have hTw:=HI.out.t.later hX HI.out.t.lt;rw[y0Y]at e5;refine j0l e3 e5 hTw ?_;have HI2:Hid (SG V2 (q0B X gt (.slice q2.a q2.n q2.c) (.slice q2.b q2.m q2.d)) gt q2 (v0n H (j+1))):=y4a HI.out hX hT5;obtain⟨us,hus,rfl⟩:=q0F hA [47,48,49,50,51,52,53,54,55,56] (by kernel_rfl);clear hdep hA hus e3 e5 hTw hT5 CS CM FHX c2;generalize q0B X gt (.slice q2.a q2.n q2.c) (.slice q2.b q2.m q2.d)=Y at*;simp only[List.mapIdx_cons,List.mapIdx_nil,Nat.reduceAdd,List.contains_cons,List.contains_nil,Nat.reduceBEq,Bool.or_false,Bool.or_true,if_true,if_false,Bool.false_eq_true];go_wp2;go_roundw
      case rel=>exact⟨j+1,q2,by go_num,by omega,HI2⟩
      case measure=>simp[intOf];omega
    ·have hjn2:nb<=j:=by omega
     have HJN:Hid (j=nb):=by show _=_;omega
     have HSG2:Hid (SG V2 wr gt q (z0K H)):=by
      have h2:v0n H j=z0K H:=by rw[HSE.out,HJN.out]
      rw[<-h2];exact HI.out
     have hT8:q0I (z0K H):=by rw[HSE.out];exact z1F H HSM.out HL8.out nb
     have tt:=HSG2.out.t;have t0:wr.cell? ⟨gt,0,none⟩=some (.slice q.a q.n q.c):=tt.cell 0;have t1:wr.cell? ⟨gt,1,none⟩=some (.slice q.b q.m q.d):=tt.cell 1;have CW:Hid (∀_:Unit,_):=λ(_:Unit)=>x2b q.v (z0K H) wr HSG2.out.tm.rd ⟨by rw[hT8.1];omega,by rw[hT8.2];omega⟩;rw[y0Y]at CW;obtain⟨isB,tl,p0,p1,p2,p3,p4⟩:=q4f H hT8;have HP1:Hid (∀j:Nat,j<8->tl j=if isB j=true then(j:Int)::tl (j+1)else tl (j+1)):=p1;have HP2:Hid (tl 8=[]):=p2;have HP4:Hid (∀j,isB j=isW (z0K H) j):=p4;have HCF:Hid (y0v H=(x0l (z0K H)).map (λi=>idZ i (j0I H i))):=rfl
     have hwl:(x0l (z0K H)).length<=8:=by
      have:∀(zs:List Int)(i:Int),(x0f zs i).length<=zs.length:=by
       intro zs
       induction zs with
       |nil=>intro i;simp[x0f]
       |cons o r ih=>intro i;unfold x0f;have:=ih (i+1);split<;>simp<;>omega
      have h1:=this (z0K H).colors 0;have h2:(z0K H).colors.length=8:=hT8.2;unfold x0l;omega
     have HLS2:Hid (LS W wr W.heap.size gx s0 H (.slice none 0 0) (.slice (some ⟨gx+1,0,none⟩) 0 0) [] []):=q0y HLS0.out HSG2.out.bel;generalize x0l (z0K H)=ws at*;have HP0:Hid (ws=[]++tl 0):=by show _=_;rw[p0];rfl
     have HP3:Hid (∀j:Nat,j<8->decide ((j:Int)∈ws)=isB j):=p3;obtain⟨L,hL⟩:∃L,ws.length=L:=⟨_,rfl⟩;have HL:Hid (ws.length=L):=hL;rw[hL]at hwl;clear FHX HI HJN hjn hT8 tt p0 p1 p2 p3 p4 hL HLS0 HSG1 HSG0 HG0 HS0 HSE;go_wp2_with fail
     refine(CW.out ()).mono ?_;rintro e w5 ⟨vk,rfl,O5,b5⟩;obtain⟨ka,kc,hvk,-⟩:=z0e O5;rw[HL.out]at hvk;subst hvk
     have HLS3:Hid (LS W w5 W.heap.size gx s0 (cup H 0) (.slice ka L kc) (.slice (some ⟨gx+1,0,none⟩) 0 0) ws []):=by have l:=q0y HLS2.out b5;rw[y4K];exact⟨l.bel,l.hB,l.m,l.x,l.gB,l.sx,z2t (q0A O5 HLS2.out.le),l.f,λg hg hh=>(by have h1:=(z0X HLS2.out.m hh).2;have h2:=(q0n O5 g hg).1;omega),l.sf,λg hg h2=>(by have h3:=(q0n O5 g hg).1;have h4:=(q0n HLS2.out.f g h2).2;omega)⟩
     obtain⟨go,hgo,-,-⟩:=v0E HLS3.out.m 0 (by rw[q2x,HL8.out];omega);have HGO0:Hid (s0.oa=some ⟨go,0,none⟩):=hgo;have HZ0:Hid (([]:List Int).length=0):=rfl;clear hgo HLS2 O5 b5 CW t0 t1 HSG2 c2 hlt hjn2;go_wp2;go_loopw[5,10] (λvf i wr=>∃(j:Nat)(P:List Int)(n:Nat)(s:HSh)(fa:Option Addr)(fc:Nat),i= .int .i64 (j:Int)/\j<=8/\n<=j/\vf= .slice fa n fc/\Hid (P.length=n)/\Hid (s.oa=some ⟨go,0,none⟩)/\Hid (ws=P++tl j)/\Hid (LS W wr W.heap.size gx s (cup H j) (.slice ka L kc) vf ws (P.map (λi=>idZ i (j0I H i))))) (λ_ i _=>8 - (intOf i).toNat)
     case atStart=>exact⟨0,[],0,s0,_,_,rfl,by omega,by omega,rfl,HZ0,HGO0,HP0,HLS3⟩
     case round=>
      clear HLS3 HGO0 HP0 HZ0;obtain⟨j,P,n,s,fa,fc,rfl,hj8,hnj,rfl,HPL,HGO,HTJ,HI⟩:=hrel;have hsl:s.os.length=8:=by rw[HI.out.m.lo,q2x,HL8.out]
      have x0:wr.cell? ⟨gx,0,none⟩=some (.slice (some ⟨go,0,none⟩) 8 s.oc):=by have e:wr.cell? ⟨gx,0,none⟩=some (.slice s.oa s.os.length s.oc):=HI.out.x.cell 0;rw[HGO.out,hsl]at e;exact e
      by_cases hlt:j<8
      ·have hjH:j<H.objs.length:=by have:=HL8.out;omega
       have hjC:j<(cup H j).objs.length:=by rw[q2x];exact hjH
       have hca:=z5Y H j hjH;obtain⟨hj2,ho,hfz⟩:=z0o HI.out.m j hjC go HGO.out;have c7:=ho.c7;have z7:=hfz 7 (by omega);have HL2:Hid (LS W (wr.setCell ⟨go,j*8+7,none⟩ (.bool false)) W.heap.size gx s {cup H j with objs:=(cup H j).objs.set j {(cup H j).objs[j]with purple:=false}} (.slice ka L kc) (.slice fa n fc) ws (P.map (λi=>idZ i (j0I H i)))):=j0i HI.out go _ _ HGO.out (y1U HI.out.m j hjC go HGO.out false);rw[hca]at HL2 c7;obtain⟨Hc,hHc⟩:∃Hc:q0a,Hc={cup H j with objs:=(cup H j).objs.set j {H.objs[j]with purple:=false}}:=⟨_,rfl⟩;rw[<-hHc]at HL2;have hcl:Hc.objs.length=8:=by rw[hHc,<-HL8.out,<-q2x H j];simp
       have HNO:Hid (isB j=false->Hc=cup H (j+1)):=λhb=>by rw[hHc];exact z5Z H j hjH (by rw[<-HP4.out];exact hb)
       have HYES:Hid (isB j=true->q0r Hc j (q0J H.objs[j].gen)=cup H (j+1)):=λhb=>by rw[hHc];exact q5s H j hjH (by rw[<-HP4.out];exact hb) _
       obtain⟨hg,hoff,f9,fc9,rfl,hgl,hoo,-⟩:=HRO.out j hjH;have HGX:Hid (∀X,Below W.heap.size W X->X.cell? ⟨hg,hoff+j*8+1,none⟩=some (.int .i64 H.objs[j].gen)):=λX hX=>((HBW.out.trans (hX.mono HBW.out.size)).cell (p:=⟨hg,hoff+j*8+1,none⟩) hgl).trans hoo.c1;have HGA:Hid (j0I H (j:Int)=H.objs[j].gen):=j4a H j hjH;obtain⟨V5,hV5⟩:∃V,V=wr.setCell ⟨go,j*8+7,none⟩ (.bool false):=⟨_,rfl⟩;rw[<-hV5]at HL2;obtain⟨qa,qc,hqa,hrq⟩:=z1W HL2.out.q;rw[HL.out]at hqa;simp only[Value.slice.injEq]at hqa;have hrk:RdI V5 ka ws:=by rw[hqa.1];exact hrq
       have CH:Hid (∀_:Unit,_):=λ(_:Unit)=>z2C V5 ka kc ws (j:Int) hrk (by rw[HL.out];omega);rw[HL.out,HP3.out j hlt]at CH;have CID:Hid (∀X,_):=λX=>q1C (j:Int) H.objs[j].gen X;generalize H.objs[j].gen=og at*;have hji:(j:Int)<8:=by omega
       clear HI hca ho hfz hHc hqa hrq hrk hoo hgl hsl;go_wp2_with fail
       rw[<-hV5];clear hV5 x0 c7 z7;refine(CH.out ()).mono ?_;rintro e w6 ⟨rfl,rfl⟩;clear CH
       cases hb:isB j with
       |false=>
        have HN:Hid (LS W w6 W.heap.size gx s (cup H (j+1)) (.slice ka L kc) (.slice fa n fc) ws (P.map (λi=>idZ i (j0I H i)))):=by rw[<-HNO.out hb];exact HL2.out
        have HT:Hid (ws=P++tl (j+1)):=by show _=_;rw[HTJ.out,HP1.out j hlt,if_neg (by simp[hb])]
        clear HNO HYES HGX HGA CID HL2 hcl hb;go_wp2;go_roundw
        case rel=>exact⟨j+1,P,n,s,fa,fc,by go_num,by omega,by omega,rfl,HPL,HGO,HT,HN⟩
        case measure=>simp[intOf];omega
       |true=>
        have HT:Hid (ws=(P++[(j:Int)])++tl (j+1)):=by show _=_;rw[HTJ.out,HP1.out j hlt,if_pos hb];simp
        have HYE:Hid (q0r Hc j (q0J og)=cup H (j+1)):=HYES.out hb;have HPM:Hid (∀x,x=idZ (j:Int) og->(P++[(j:Int)]).map (λi=>idZ i (j0I H i))=(P.map (λi=>idZ i (j0I H i)))++[x]):=λx hx=>by rw[List.map_append,hx,<-HGA.out];rfl
        have d0:w6.cell? ⟨w.heap.size,0,none⟩=some (.slice (some ⟨hg,hoff,none⟩) 8 co):=(HFW.out w6 HL2.out.bel).cell 0;have d1:=HGX.out w6 HL2.out.bel;obtain⟨id,hid⟩:∃id,id=idZ (j:Int) og:=⟨_,rfl⟩;have HPI:Hid ((P++[(j:Int)]).map (λi=>idZ i (j0I H i))=(P.map (λi=>idZ i (j0I H i)))++[id]):=HPM.out id hid;rw[<-hid]at CID;have HFL:Hid ((P.map (λi=>idZ i (j0I H i))).length=n):=by show _=_;rw[List.length_map];exact HPL.out
        obtain⟨V4,hV4⟩:∃V4,V4=w6.alloc (.cells #[.int .i64 id] 3):=⟨_,rfl⟩;have b4:Below w6.heap.size w6 V4:=by rw[hV4];exact bl1 _
        have HI4:Hid (LS W V4 W.heap.size gx s Hc (.slice ka L kc) (.slice fa n fc) ws (P.map (λi=>idZ i (j0I H i)))):=q0y HL2.out b4;have hVc:V4.cell? ⟨w6.heap.size,0,none⟩=some (.int .i64 id):=by rw[hV4,World.cell?_alloc_mark];rfl
        have HW4:Hid (W.heap.size<=V4.heap.size):=HI4.out.le;clear HNO HYES HGA HPM hid b4 HL2 hb;go_wp2_with fail
        refine(CID.out _).mono ?_;rintro e w3 ⟨rfl,hw3⟩;subst hw3;clear CID d0 d1;go_wp2_with (at_builtin;rw[<-hV4];clear hV4;refine x0T rfl _ _ rfl W.heap.size _ _ rfl HI4.out.f ⟨w3.heap.size,0,none⟩ id rfl hVc ?hlen HW4.out ?_)
        case hlen=>rw[HFL.out];omega
        intro v4 X4 O4 s4 H4 A4 B4;obtain⟨fa4,fc4,rfl,-⟩:=z0e O4;have hfl:((P.map (λi=>idZ i (j0I H i)))++[id]).length=n+1:=by rw[List.length_append,HFL.out];rfl
        rw[hfl]at O4 A4 ⊢
        have HL4:Hid (LS W X4 W.heap.size gx s Hc (.slice ka L kc) (.slice fa4 (n+1) fc4) ws ((P.map (λi=>idZ i (j0I H i)))++[id])):=by
         refine v2d HI4.out (B4.out _ _ HI4.out.bel nl0) s4 H4.out _ _ O4 ?_;rcases A4.out with e|e
         ·exact .inl e
         ·exact .inr ⟨_,e,Nat.le_refl _⟩
        rw[<-HPI.out]at HL4;have hjc:j<Hc.objs.length:=by omega
        have XX:=HL4.out.x;have hsl:s.os.length=8:=by rw[HL4.out.m.lo,hcl]
        rw[HGO.out,hsl]at XX;have FX0:=HFW.out X4 HL4.out.bel;have hg4:∀X,Below X4.heap.size X4 X->X.cell? ⟨hg,hoff+j*8+1,none⟩=some (.int .i64 og):=λX hX=>HGX.out X (HL4.out.bel.trans (hX.mono HL4.out.le));have HG4:Hid (∀X,Below X4.heap.size X4 X->X.cell? ⟨hg,hoff+j*8+1,none⟩=some (.int .i64 og)):=hg4;have HXX:Hid (∀X,Below X4.heap.size X4 X->q0d X gx (.slice (some ⟨go,0,none⟩) 8 s.oc) (.slice s.wa s.wn s.wc) (.slice s.ba s.bn s.bc) (.slice s.sa s.sn s.sc)):=λX hX=>XX.later hX;have HFX:Hid (∀X,Below X4.heap.size X4 X->q0d X w.heap.size (.slice (some ⟨hg,hoff,none⟩) 8 co) (.slice aw nw cw) (.slice ab nb cb) (.slice sa ns sc)):=λX hX=>FX0.later hX;have HPL2:Hid ((P++[(j:Int)]).length=n+1):=by show _=_;rw[List.length_append,HPL.out];rfl
        clear O4 s4 H4 A4 B4 HI4 hVc HW4 HPI HFL hfl HGX hg4 XX FX0;go_wp2;refine q0R 12 (by kernel_rfl) (by kernel_rfl) (RE X4.heap.size gx go s.oc w.heap.size hg hoff co j og) q5Z ?_ ?_
        ·intro i o hi ho a X hX hA hdep;have XF:=HXX.out X hX;have FX:=HFX.out X hX
         match i,hi,ho with
         |0,_,ho=>
          cases ho
          exact v0f 0 (by omega) (q0f hA (t:=4) (by kernel_rfl)) ⟨_,rfl,bl0,rfl⟩
         |1,_,ho=>
          cases ho
          have e1:a.eval (.tmp 85)= .pointer (some ⟨gx,0,none⟩):=hdep ⟨0,.data⟩ (by simp) rfl 85 rfl;exact u0A e1 (XF.cell 0) ⟨_,rfl,bl0,rfl⟩
         |2,_,ho=>
          cases ho
          exact z0p (q0f hA (t:=10) (by kernel_rfl)) ⟨_,rfl,bl0,rfl⟩
         |3,_,ho=>
          cases ho
          exact v0f 0 (by omega) (q0f hA (t:=1) (by kernel_rfl)) ⟨_,rfl,bl0,rfl⟩
         |4,_,ho=>
          cases ho
          have e1:a.eval (.tmp 88)= .pointer (some ⟨w.heap.size,0,none⟩):=hdep ⟨3,.data⟩ (by simp) rfl 88 rfl;exact u0A e1 (FX.cell 0) ⟨_,rfl,bl0,rfl⟩
         |5,_,ho=>
          cases ho
          exact z0p (q0f hA (t:=10) (by kernel_rfl)) ⟨_,rfl,bl0,rfl⟩
         |6,_,ho=>
          cases ho
          have e1:a.eval (.tmp 89)= .slice (some ⟨hg,hoff,none⟩) 8 co:=hdep ⟨4,.data⟩ (by simp) rfl 89 rfl;have e2:a.eval (.tmp 90)= .int .i64 (j:Int):=hdep ⟨5,.data⟩ (by simp) rfl 90 rfl;exact v4t e1 e2 hlt ⟨_,rfl,bl0,rfl⟩
         |7,_,ho=>
          cases ho
          have e1:a.eval (.tmp 91)= .pointer (some ⟨hg,hoff+j*8,none⟩):=hdep ⟨6,.data⟩ (by simp) rfl 91 rfl;exact u1J 1 (by omega) e1 ⟨_,rfl,bl0,rfl⟩
         |8,_,ho=>
          cases ho
          have e1:a.eval (.tmp 92)= .pointer (some ⟨hg,hoff+j*8+1,none⟩):=hdep ⟨7,.data⟩ (by simp) rfl 92 rfl;exact z0V e1 (HG4.out X hX) ⟨_,rfl,bl0,rfl⟩
         |9,_,ho=>
          cases ho
          refine u2G (x2N X) ?_;rintro e w' ⟨a7,c7,rfl,o7,b7⟩;exact⟨_,rfl,_,rfl,b7,a7,c7,rfl,q0A o7 hX.size⟩
         |10,_,ho=>
          cases ho
          have e1:a.eval (.tmp 93)= .int .i64 og:=hdep ⟨8,.data⟩ (by simp) rfl 93 rfl;obtain⟨a7,c7,e2,o7⟩:=hdep ⟨9,.data⟩ (by simp) rfl 94 rfl;exact j4O e1 e2 ⟨_,rfl,bl0,a7,c7,rfl,o7⟩
         |11,_,ho=>
          cases ho
          have e1:a.eval (.tmp 86)= .slice (some ⟨go,0,none⟩) 8 s.oc:=hdep ⟨1,.data⟩ (by simp) rfl 86 rfl;have e2:a.eval (.tmp 87)= .int .i64 (j:Int):=hdep ⟨2,.data⟩ (by simp) rfl 87 rfl;exact q1y e1 e2 hlt ⟨_,rfl,bl0,rfl⟩
        ·intro o ho a X hX hA hdep
         cases ho
         obtain⟨a7,c7,e2,o7⟩:=hdep ⟨10,.data⟩ (by simp) rfl 95 rfl;have e1:a.eval (.tmp 96)= .pointer (some ⟨go,j*8,none⟩):=hdep ⟨11,.data⟩ (by simp) rfl 96 rfl;obtain⟨_,ob7,fz7⟩:=z0o (q0c HL4.out.m hX) j hjc go HGO.out;refine x2H e1 e2 ob7 fz7 ?_
         have HLE:Hid (LS W (z0r X go (j*8) (q0J og) (.slice a7 3 c7)) W.heap.size gx {s with os:=s.os.set j ⟨a7,3,c7⟩} (cup H (j+1)) (.slice ka L kc) (.slice fa4 (n+1) fc4) ws ((P++[(j:Int)]).map (λi=>idZ i (j0I H i)))):=by rw[<-HYE.out];exact y1X HL4.out hX j hjc go HGO.out (q0J og) a7 c7 o7
         have HGO2:Hid (({s with os:=s.os.set j ⟨a7,3,c7⟩}:HSh).oa=some ⟨go,0,none⟩):=HGO.out;obtain⟨us,hus,rfl⟩:=q0F hA [85,86,87,88,89,90,91,92,93,94,95,96] (by kernel_rfl);clear hdep hA hus e1 e2 ob7 fz7 o7 HL4 HYE HXX HFX HG4;generalize z0r X go (j*8) (q0J og) (.slice a7 3 c7)=Y at*;simp only[List.mapIdx_cons,List.mapIdx_nil,Nat.reduceAdd,List.contains_cons,List.contains_nil,Nat.reduceBEq,Bool.or_false,Bool.or_true,if_true,if_false,Bool.false_eq_true];go_wp2;go_roundw
         case rel=>exact⟨j+1,P++[(j:Int)],n+1,_,fa4,fc4,by go_num,by omega,by omega,rfl,HPL2,HGO2,HT,HLE⟩
         case measure=>simp[intOf];omega
      ·have HJ:Hid (j=8):=by show _=_;omega
       have HLK:Hid (LS W wr W.heap.size gx s (kup H 0) (.slice ka L kc) (.slice fa n fc) ws (y0v H)):=by
        have e1:cup H j=kup H 0:=q5r H j (by rw[HL8.out,HJ.out];omega);have e2:ws=P:=by rw[HTJ.out,HJ.out,HP2.out,List.append_nil]
        have e3:y0v H=(P.map (λi=>idZ i (j0I H i))):=by rw[HCF.out,e2]
        rw[e3,<-e1];exact HI.out
       have hj9:¬(j:Int)<8:=by omega
       clear HI HPL HTJ;go_wp2;clear x0 hj9 hlt hj8 hnj;go_loopw[11] (λi wr=>∃j:Nat,i= .int .i64 (j:Int)/\j<=8/\Hid (LS W wr W.heap.size gx s (kup H j) (.slice ka L kc) (.slice fa n fc) ws (y0v H))) (λi _=>8 - (intOf i).toNat)
       case atStart=>exact⟨0,rfl,by omega,HLK⟩
       case round=>
        clear HLK;obtain⟨k,rfl,hk8,HI⟩:=hrel
        have x0:wr.cell? ⟨gx,0,none⟩=some (.slice (some ⟨go,0,none⟩) 8 s.oc):=by have e:wr.cell? ⟨gx,0,none⟩=some (.slice s.oa s.os.length s.oc):=HI.out.x.cell 0;rw[HGO.out,hsl]at e;exact e
        by_cases hlt:k<8
        ·have hkH:k<H.objs.length:=by have:=HL8.out;omega
         have hkC:k<(kup H k).objs.length:=by rw[j1K];exact hkH
         have hk1:k<(z0t H).objs.length:=by rw[u0Y];exact hkH
         have hca:=x5f H k hkH;obtain⟨hk2,ho,hfz⟩:=z0o HI.out.m k hkC go HGO.out;rw[hca]at ho;have c0:=ho.c0;have hki:(k:Int)<8:=by omega
         cases hlv:(z0t H).objs[k].live with
         |false=>
          rw[hlv]at c0
          have HN:Hid (LS W wr W.heap.size gx s (kup H (k+1)) (.slice ka L kc) (.slice fa n fc) ws (y0v H)):=by rw[x5g H k hk1 hlv];exact HI.out
          clear HI ho hfz hca;go_wp2;go_roundw
          case rel=>exact⟨k+1,by go_num,by omega,HN⟩
          case measure=>simp[intOf];omega
         |true=>
          rw[hlv]at c0;have HKY:Hid (∀M,M=u0o (z0t H) (k:Int) (z0t H).objs[k]->({kup H k with objs:=(kup H k).objs.set k {(kup H k).objs[k]with count:=M}}:q0a)=kup H (k+1)):=λM hM=>by rw[hM,hca];exact q5I H k hk1 hlv
          have HMZ:Hid (u0o (z0t H) (k:Int) (z0t H).objs[k]=IntKind.i64.wrap (IntKind.i64.wrap ((z0t H).objs[k].holds+(z0t H).objs[k].roots)+x0a (z0t H) (k:Int))):=rfl
          have HC3:Hid (∀X,Below wr.heap.size wr X->X.cell? ⟨go,k*8+3,none⟩=some (.int .i64 (z0t H).objs[k].holds)/\X.cell? ⟨go,k*8+4,none⟩=some (.int .i64 (z0t H).objs[k].roots)):=λX hX=>by
           obtain⟨_,ho2,_⟩:=z0o (q0c HI.out.m hX) k hkC go HGO.out;rw[hca]at ho2;exact⟨ho2.c3,ho2.c4⟩
          have CE:Hid (∀X,Below wr.heap.size wr X->_):=λX hX=>q2N s.v (kup H k) (k:Int) X (q0K (q0c HI.out.m hX)) (z1R HSM.out k) (by omega) (by omega);rw[x4G]at CE
          have hsv:s.v= .agg #[.slice (some ⟨go,0,none⟩) 8 s.oc,.slice s.wa s.wn s.wc,.slice s.ba s.bn s.bc,.slice s.sa s.sn s.sc]:=by show Value.agg #[.slice s.oa s.os.length s.oc,.slice s.wa s.wn s.wc,.slice s.ba s.bn s.bc,.slice s.sa s.sn s.sc]=_;rw[HGO.out,hsl]
          rw[hsv]at CE;have XX:=HI.out.x;rw[HGO.out,hsl]at XX;have HXX:Hid (∀X,Below wr.heap.size wr X->q0d X gx (.slice (some ⟨go,0,none⟩) 8 s.oc) (.slice s.wa s.wn s.wc) (.slice s.ba s.bn s.bc) (.slice s.sa s.sn s.sc)):=λX hX=>XX.later hX;generalize (z0t H).objs[k].holds=hl at*;generalize (z0t H).objs[k].roots=rt at*;generalize x0a (z0t H) (k:Int)=ie at*;obtain⟨M,hM⟩:∃M,M=u0o (z0t H) (k:Int) (z0t H).objs[k]:=⟨_,rfl⟩;have HKM:=HKY.out M hM;have HMM:Hid (IntKind.i64.wrap (IntKind.i64.wrap (hl+rt)+ie)=M):=by show _=_;rw[hM];exact HMZ.out.symm
          have HKH:Hid (({kup H k with objs:=(kup H k).objs.set k {(kup H k).objs[k]with count:=M}}:q0a)=kup H (k+1)):=HKM;clear HKM HKY HMZ hM XX hsv ho hfz hca;go_wp2;clear c0 x0;refine q0R 22 (by kernel_rfl) (by kernel_rfl) (RM gx go s.oc k (.agg #[.slice (some ⟨go,0,none⟩) 8 s.oc,.slice s.wa s.wn s.wc,.slice s.ba s.bn s.bc,.slice s.sa s.sn s.sc]) hl rt ie) z5i ?_ ?_
          ·intro i o hi ho a X hX hA hdep;have XF:=HXX.out X hX
           match i,hi,ho with
           |0,_,ho=>
            cases ho
            exact v0f 0 (by omega) (q0f hA (t:=4) (by kernel_rfl)) ⟨_,rfl,bl0,rfl⟩
           |1,_,ho=>
            cases ho
            have e1:a.eval (.tmp 110)= .pointer (some ⟨gx,0,none⟩):=hdep ⟨0,.data⟩ (by simp) rfl 110 rfl;exact u0A e1 (XF.cell 0) ⟨_,rfl,bl0,rfl⟩
           |2,_,ho=>
            cases ho
            exact z0p (q0f hA (t:=11) (by kernel_rfl)) ⟨_,rfl,bl0,rfl⟩
           |3,_,ho=>
            cases ho
            exact v0f 0 (by omega) (q0f hA (t:=4) (by kernel_rfl)) ⟨_,rfl,bl0,rfl⟩
           |4,_,ho=>
            cases ho
            have e1:a.eval (.tmp 113)= .pointer (some ⟨gx,0,none⟩):=hdep ⟨3,.data⟩ (by simp) rfl 113 rfl;exact u0A e1 (XF.cell 0) ⟨_,rfl,bl0,rfl⟩
           |5,_,ho=>
            cases ho
            exact z0p (q0f hA (t:=11) (by kernel_rfl)) ⟨_,rfl,bl0,rfl⟩
           |6,_,ho=>
            cases ho
            have e1:a.eval (.tmp 114)= .slice (some ⟨go,0,none⟩) 8 s.oc:=hdep ⟨4,.data⟩ (by simp) rfl 114 rfl;have e2:a.eval (.tmp 115)= .int .i64 (k:Int):=hdep ⟨5,.data⟩ (by simp) rfl 115 rfl;exact q1y e1 e2 hlt ⟨_,rfl,bl0,rfl⟩
           |7,_,ho=>
            cases ho
            have e1:a.eval (.tmp 116)= .pointer (some ⟨go,k*8,none⟩):=hdep ⟨6,.data⟩ (by simp) rfl 116 rfl;exact u1J 3 (by omega) e1 ⟨_,rfl,bl0,rfl⟩
           |8,_,ho=>
            cases ho
            have e1:a.eval (.tmp 117)= .pointer (some ⟨go,k*8+3,none⟩):=hdep ⟨7,.data⟩ (by simp) rfl 117 rfl;exact z0V e1 (HC3.out X hX).1 ⟨_,rfl,bl0,rfl⟩
           |9,_,ho=>
            cases ho
            exact v0f 0 (by omega) (q0f hA (t:=4) (by kernel_rfl)) ⟨_,rfl,bl0,rfl⟩
           |10,_,ho=>
            cases ho
            have e1:a.eval (.tmp 119)= .pointer (some ⟨gx,0,none⟩):=hdep ⟨9,.data⟩ (by simp) rfl 119 rfl;exact u0A e1 (XF.cell 0) ⟨_,rfl,bl0,rfl⟩
           |11,_,ho=>
            cases ho
            exact z0p (q0f hA (t:=11) (by kernel_rfl)) ⟨_,rfl,bl0,rfl⟩
           |12,_,ho=>
            cases ho
            have e1:a.eval (.tmp 120)= .slice (some ⟨go,0,none⟩) 8 s.oc:=hdep ⟨10,.data⟩ (by simp) rfl 120 rfl;have e2:a.eval (.tmp 121)= .int .i64 (k:Int):=hdep ⟨11,.data⟩ (by simp) rfl 121 rfl;exact q1y e1 e2 hlt ⟨_,rfl,bl0,rfl⟩
           |13,_,ho=>
            cases ho
            have e1:a.eval (.tmp 122)= .pointer (some ⟨go,k*8,none⟩):=hdep ⟨12,.data⟩ (by simp) rfl 122 rfl;exact u1J 4 (by omega) e1 ⟨_,rfl,bl0,rfl⟩
           |14,_,ho=>
            cases ho
            have e1:a.eval (.tmp 123)= .pointer (some ⟨go,k*8+4,none⟩):=hdep ⟨13,.data⟩ (by simp) rfl 123 rfl;exact z0V e1 (HC3.out X hX).2 ⟨_,rfl,bl0,rfl⟩
           |15,_,ho=>
            cases ho
            have e1:a.eval (.tmp 118)= .int .i64 hl:=hdep ⟨8,.data⟩ (by simp) rfl 118 rfl;have e2:a.eval (.tmp 124)= .int .i64 rt:=hdep ⟨14,.data⟩ (by simp) rfl 124 rfl;exact v4h e1 e2 ⟨_,rfl,bl0,rfl⟩
           |16,_,ho=>
            cases ho
            exact q1z (q0f hA (t:=4) (by kernel_rfl)) XF ⟨_,rfl,bl0,rfl⟩
           |17,_,ho=>
            cases ho
            exact z0p (q0f hA (t:=11) (by kernel_rfl)) ⟨_,rfl,bl0,rfl⟩
           |18,_,ho=>
            cases ho
            have e1:a.eval (.tmp 126)= .agg #[.slice (some ⟨go,0,none⟩) 8 s.oc,.slice s.wa s.wn s.wc,.slice s.ba s.bn s.bc,.slice s.sa s.sn s.sc]:=hdep ⟨16,.data⟩ (by simp) rfl 126 rfl;have e2:a.eval (.tmp 127)= .int .i64 (k:Int):=hdep ⟨17,.data⟩ (by simp) rfl 127 rfl;refine j4P e1 e2 (CE.out X hX) ?_;rintro e w' ⟨rfl,hb⟩;exact⟨_,rfl,_,rfl,hb,rfl⟩
           |19,_,ho=>
            cases ho
            have e1:a.eval (.tmp 125)= .int .i64 (IntKind.i64.wrap (hl+rt)):=hdep ⟨15,.data⟩ (by simp) rfl 125 rfl;have e2:a.eval (.tmp 128)= .int .i64 ie:=hdep ⟨18,.data⟩ (by simp) rfl 128 rfl;exact v4h e1 e2 ⟨_,rfl,bl0,rfl⟩
           |20,_,ho=>
            cases ho
            have e1:a.eval (.tmp 111)= .slice (some ⟨go,0,none⟩) 8 s.oc:=hdep ⟨1,.data⟩ (by simp) rfl 111 rfl;have e2:a.eval (.tmp 112)= .int .i64 (k:Int):=hdep ⟨2,.data⟩ (by simp) rfl 112 rfl;exact q1y e1 e2 hlt ⟨_,rfl,bl0,rfl⟩
           |21,_,ho=>
            cases ho
            have e1:a.eval (.tmp 130)= .pointer (some ⟨go,k*8,none⟩):=hdep ⟨20,.data⟩ (by simp) rfl 130 rfl;exact u1J 5 (by omega) e1 ⟨_,rfl,bl0,rfl⟩
           |n+22,hi,_=>exact absurd hi (by omega)
          ·intro o ho a X hX hA hdep
           cases ho
           have e1:a.eval (.tmp 131)= .pointer (some ⟨go,k*8+5,none⟩):=hdep ⟨21,.data⟩ (by simp) rfl 131 rfl;have e2:a.eval (.tmp 129)= .int .i64 (IntKind.i64.wrap (IntKind.i64.wrap (hl+rt)+ie)):=hdep ⟨19,.data⟩ (by simp) rfl 129 rfl;rw[HMM.out]at e2;have HL3:=q0y HI.out hX;obtain⟨_,ob7,fz7⟩:=z0o HL3.m k hkC go HGO.out;refine q1e e1 e2 ob7.c5 (fz7 5 (by omega)) ?_
           have HLE:Hid (LS W (X.setCell ⟨go,k*8+5,none⟩ (.int .i64 M)) W.heap.size gx s (kup H (k+1)) (.slice ka L kc) (.slice fa n fc) ws (y0v H)):=by rw[<-HKH.out];exact j0i HL3 go _ _ HGO.out (z1h HL3.m k hkC go HGO.out M)
           obtain⟨us,hus,rfl⟩:=q0F hA [110,111,112,113,114,115,116,117,118,119,120,121,122,123,124,125,126,127,128,129,130,131] (by kernel_rfl);clear hdep hA hus e1 e2 ob7 fz7 HL3 HXX HC3 CE HI HKH HMM;generalize X.setCell ⟨go,k*8+5,none⟩ (.int .i64 M)=Y at*;simp only[List.mapIdx_cons,List.mapIdx_nil,Nat.reduceAdd,List.contains_cons,List.contains_nil,Nat.reduceBEq,Bool.or_false,Bool.or_true,if_true,if_false,Bool.false_eq_true];go_wp2;go_roundw
           case rel=>exact⟨k+1,by go_num,by omega,HLE⟩
           case measure=>simp[intOf];omega
        ·have HK8:Hid (k=8):=by show _=_;omega
         have hk9:¬(k:Int)<8:=by omega
         obtain⟨V9,hV9⟩:∃V,V=wr.alloc (.cells #[] 3):=⟨_,rfl⟩;have B9:Below wr.heap.size wr V9:=by rw[hV9];exact bl1 _
         have XV:=HI.out.x.later B9;obtain⟨Y,hY⟩:∃Y,Y=V9.setCell ⟨gx,2,none⟩ (.slice (some ⟨wr.heap.size,0,none⟩) 0 0):=⟨_,rfl⟩
         have HL9:Hid (LS W Y W.heap.size gx {s with ba:=some ⟨wr.heap.size,0,none⟩,bn:=0,bc:=0} (j0c H) (.slice ka L kc) (.slice fa n fc) ws (y0v H)):=by
          rw[<-u2v H k (by rw[HL8.out,HK8.out];omega),hY];refine x1O HI.out (HI.out.bel.trans (B9.mono HI.out.le)) B9.size (λi hi _=>B9.block i hi) (some ⟨wr.heap.size,0,none⟩) 0 0 [] rfl ?_ (λg hg=> .inr ?_)
          ·rw[hV9];exact j0C _ _ HI.out.le
          ·injection hg with hg;simp only at hg;omega
         obtain⟨s9,hs9⟩:∃s9:HSh,s9={s with ba:=some ⟨wr.heap.size,0,none⟩,bn:=0,bc:=0}:=⟨_,rfl⟩;have e3:=HsW.out;have XF:=HL9.out.x;have RF:q0d Y (w.heap.size+1) (.slice none 0 0) (.slice none 0 0) (.slice none 0 0) (.slice none 0 0):=(HL9.out.bel.block (w.heap.size+1) (by omega)).trans HFR.out;have q0:Y.cell? ⟨gx,0,none⟩=some (.slice s.oa s.os.length s.oc):=XF.cell 0;have q1:Y.cell? ⟨gx,1,none⟩=some (.slice s.wa s.wn s.wc):=XF.cell 1;have q2:Y.cell? ⟨gx,2,none⟩=some (.slice (some ⟨wr.heap.size,0,none⟩) 0 0):=XF.cell 2;have q3:Y.cell? ⟨gx,3,none⟩=some (.slice s.sa s.sn s.sc):=XF.cell 3;have r0:=RF.cell 0;have r1:=RF.cell 1;have r2:=RF.cell 2;have r3:=RF.cell 3;have z0:=RF.frozen 0;have z1:=RF.frozen 1;have z2:=RF.frozen 2;have z3:=RF.frozen 3;simp only[List.getElem?_toArray,List.getElem?_cons_zero,List.getElem?_cons_succ]at r0 r1 r2 r3;have v2:V9.cell? ⟨gx,2,none⟩=some (.slice s.ba s.bn s.bc):=XV.cell 2;have u2:=XV.frozen 2;have HBl:Hid (Below w.heap.size w Y):=HBW.out.trans (HL9.out.bel.mono HBW.out.size);rw[hY,hV9]at q0 q1 q2 q3 r0 r1 r2 r3 z0 z1 z2 z3;rw[hV9]at v2 u2;rw[hV9]at hY;clear XF RF XV B9 hV9 e3 HI;go_wp2;rw[<-hY];have e3:=HsW.out;refine bodyPost_ret (v:= .tuple #[.agg #[.slice s.oa s.os.length s.oc,.slice s.wa s.wn s.wc,.slice (some ⟨wr.heap.size,0,none⟩) 0 0,.slice s.sa s.sn s.sc],.slice fa n fc]) (by simp[results,Tryz.results36,go_sem, *]) rfl ⟨{s with ba:=some ⟨wr.heap.size,0,none⟩,bn:=0,bc:=0},.slice fa n fc,rfl,?_,?_,HL9.out.sf,?_⟩
         ·refine z0G (v0V HL9.out.m ?_) (by omega);refine(((q0G _ _ ⟨w.heap.size+1,0,none⟩ _ (by simp only;omega)).trans (q0G _ _ ⟨w.heap.size+1,1,none⟩ _ (by simp only;omega))).trans (q0G _ _ ⟨w.heap.size+1,2,none⟩ _ (by simp only;omega))).trans (q0G _ _ ⟨w.heap.size+1,3,none⟩ _ (by simp only;omega))
         ·exact q0A (q0v (w' :=q0p Y (w.heap.size+1) _ _ _ _) HL9.out.f (λg hg=>q0T _ _ _ _ _ _ g (by have:=(q0n HL9.out.f g hg).1;omega))) (by omega)
         ·iterate 4 refine Below.setCell ?_ (by simp only;omega) _
          exact HBl.out
end
section
open Go.RowKit
theorem y1P(v:Value)(H:q0a)(id:Int)(w:World)(h:RdH w v H)(hs:q0h H)(hid:q0w id):
 Calls Tryz.prog 70 #[v,.int .i64 id] w λe w' =>∃s:HSh,e= .returned s.v/\HM w' w.heap.size s (z0n H id)/\Below w.heap.size w w' :=by
 have HR:Hid (∀X,Below w.heap.size w X->RdH X v H):=λX hX=>q0s h hX;obtain⟨ao,co,aw,cw,ab,cb,sa,sc,rfl,ro,-⟩:=h;have HRO:Hid (RdO w ao H.objs):=ro;obtain⟨W,hW⟩:∃W,W=(w.alloc (.cells #[.slice ao H.objs.length co,.slice aw H.weaks.length cw,.slice ab H.buffer.length cb,.slice sa H.sites.length sc] 35)).alloc (.cells #[.slice none 0 0,.slice none 0 0,.slice none 0 0,.slice none 0 0] 35):=⟨_,rfl⟩;have BW:Below w.heap.size w W:=by rw[hW];exact(bl1 _).alloc (by simp) _
 have hWs:W.heap.size=w.heap.size+2:=by rw[hW];simp
 have FP:q0d W w.heap.size (.slice ao H.objs.length co) (.slice aw H.weaks.length cw) (.slice ab H.buffer.length cb) (.slice sa H.sites.length sc):=by
  have f1:=q0d.new w (.slice ao H.objs.length co) (.slice aw H.weaks.length cw) (.slice ab H.buffer.length cb) (.slice sa H.sites.length sc);have hb2:Below (w.heap.size+1) (w.alloc (.cells #[.slice ao H.objs.length co,.slice aw H.weaks.length cw,.slice ab H.buffer.length cb,.slice sa H.sites.length sc] 35)) W:=by rw[hW];exact bl0.alloc (by simp) _
  exact(hb2.block w.heap.size (by omega)).trans f1
 have FR:q0d W (w.heap.size+1) (.slice none 0 0) (.slice none 0 0) (.slice none 0 0) (.slice none 0 0):=by rw[hW];have f1:=q0d.new (w.alloc (.cells #[.slice ao H.objs.length co,.slice aw H.weaks.length cw,.slice ab H.buffer.length cb,.slice sa H.sites.length sc] 35)) (.slice none 0 0) (.slice none 0 0) (.slice none 0 0) (.slice none 0 0);simpa using f1
 have HFR:Hid (q0d W (w.heap.size+1) (.slice none 0 0) (.slice none 0 0) (.slice none 0 0) (.slice none 0 0)):=FR;have HFP:Hid (q0d W w.heap.size (.slice ao H.objs.length co) (.slice aw H.weaks.length cw) (.slice ab H.buffer.length cb) (.slice sa H.sites.length sc)):=FP;have CC:Hid (∀_:Unit,_):=λ(_:Unit)=>x0P _ H W (HR.out W BW) hs;have HBW:Hid (Below w.heap.size w W):=BW;have l0:=hs.objs;clear FR FP BW hs ro;go_enter Tryz.func70,Tryz.ntmps70;go_wp2_with fail
 rw[<-hW];clear hW;refine(CC.out ()).mono ?_;rintro e w1 ⟨⟨oa,oc2,os,wa,wn,wc,ba,bn,bc,sa2,sn,sc2⟩,rfl,M1,b1⟩;have HM1:Hid (HM w1 W.heap.size ⟨oa,oc2,os,wa,wn,wc,ba,bn,bc,sa2,sn,sc2⟩ H):=M1;have HB1:Hid (Below W.heap.size W w1):=b1;have HSO:Hid (os.length=H.objs.length):=M1.lo;have hs1:=b1.size;clear CC M1 b1;obtain⟨V,hV⟩:∃V,V=w1.alloc (.cells #[.slice oa os.length oc2,.slice wa wn wc,.slice ba bn bc,.slice sa2 sn sc2] 35):=⟨_,rfl⟩;have BV:Below w1.heap.size w1 V:=by rw[hV];exact bl1 _
 have hVs:V.heap.size=w1.heap.size+1:=by rw[hV];simp
 have HXV:Hid (q0d V w1.heap.size (.slice oa os.length oc2) (.slice wa wn wc) (.slice ba bn bc) (.slice sa2 sn sc2)):=by rw[hV];exact q0d.new w1 _ _ _ _
 have HMV:Hid (HM V W.heap.size ⟨oa,oc2,os,wa,wn,wc,ba,bn,bc,sa2,sn,sc2⟩ H):=q0c HM1.out BV;have HBV:Hid (Below W.heap.size W V):=HB1.out.trans (BV.mono HB1.out.size);have HFV:Hid (q0d V (w.heap.size+1) (.slice none 0 0) (.slice none 0 0) (.slice none 0 0) (.slice none 0 0)):=(HBV.out.block (w.heap.size+1) (by omega)).trans HFR.out;have HPV:Hid (q0d V w.heap.size (.slice ao H.objs.length co) (.slice aw H.weaks.length cw) (.slice ab H.buffer.length cb) (.slice sa H.sites.length sc)):=(HBV.out.block w.heap.size (by omega)).trans HFP.out;have HEND:Hid (∀X,Below V.heap.size V X->Below w.heap.size w X):=λX hX=>HBW.out.trans ((HBV.out.trans (hX.mono HBV.out.size)).mono HBW.out.size);have CS:Hid (∀_:Unit,_):=λ(_:Unit)=>z0k _ H id V (HR.out V (HEND.out V bl0)) (by omega) hid.1 hid.2;have hv:HSh.v ⟨oa,oc2,os,wa,wn,wc,ba,bn,bc,sa2,sn,sc2⟩= .agg #[.slice oa os.length oc2,.slice wa wn wc,.slice ba bn bc,.slice sa2 sn sc2]:=rfl;have p0:=((HBV.out.block w.heap.size (by omega)).symm.trans HPV.out:q0d W w.heap.size _ _ _ _);have P1:q0d w1 w.heap.size (.slice ao H.objs.length co) (.slice aw H.weaks.length cw) (.slice ab H.buffer.length cb) (.slice sa H.sites.length sc):=(HB1.out.block w.heap.size (by omega)).trans HFP.out;have c0:=P1.cell 0;have c1:=P1.cell 1;have c2:=P1.cell 2;have c3:=P1.cell 3;simp only[List.getElem?_toArray,List.getElem?_cons_zero,List.getElem?_cons_succ]at c0 c1 c2 c3;have hlp:w.heap.size<w1.heap.size:=by omega
 have hnp:¬w.heap.size=w1.heap.size:=by omega
 rw[hv];clear hv p0 P1 BV HFR HBV HBW HFP HB1 HR;go_wp2_with fail
 rw[<-hV];clear hV c0 c1 c2 c3;refine(CS.out ()).mono ?_;rintro e X ⟨rfl,hX⟩;have XX:=HXV.out.later hX;have RX:=HFV.out.later hX;have PX:=HPV.out.later hX;have q0:=XX.cell 0;have q1:=XX.cell 1;have q2:=XX.cell 2;have q3:=XX.cell 3;have r0:=RX.cell 0;have r1:=RX.cell 1;have r2:=RX.cell 2;have r3:=RX.cell 3;have z0:=RX.frozen 0;have z1:=RX.frozen 1;have z2:=RX.frozen 2;have z3:=RX.frozen 3;have p0:=PX.cell 0;simp only[List.getElem?_toArray,List.getElem?_cons_zero,List.getElem?_cons_succ]at q0 q1 q2 q3 r0 r1 r2 r3 p0;have HEX:Hid (Below w.heap.size w X):=HEND.out X hX;have HMX:Hid (HM X W.heap.size ⟨oa,oc2,os,wa,wn,wc,ba,bn,bc,sa2,sn,sc2⟩ H):=q0c HMV.out hX;have hVX:=hX.size;clear XX RX PX HEND HMV CS hX;by_cases hk:0<=q0l H id
 ·obtain⟨k,hkl,ek,hk8,hlv,-⟩:=j0w H id hk;have HG:Hid (z0n H id=u1b H k 1):=by show _=_;unfold z0n;rw[if_pos hk,ek];rfl
  obtain⟨go,hgo,hgB,hgl⟩:=v0E HMX.out k hkl;simp only at hgo;subst hgo;obtain⟨hk2,hob,hfz⟩:=z0o HMX.out k hkl go rfl;have hgq:go≠w1.heap.size:=λe=>by have:=(HM1.out.og _ rfl).2;simp only at this;omega
  obtain⟨gs,off,f,fc,rfl,hgs,hcs,-⟩:=q0V HRO.out HEX.out k hkl;have hgs2:gs<w.heap.size:=by obtain⟨g3,off3,_,_,e3,h3,_⟩:=HRO.out k hkl;simp only[Option.some.injEq,Addr.mk.injEq]at e3;rw[e3.1];exact h3
  rw[ek];have s5:=hcs.c5;have k5:=hob.c5;have z5:=hfz 5 (by omega)
  have HN:Hid (HM (X.setCell ⟨go,k*8+5,none⟩ (.int .i64 (wrap64 (H.objs[k].count+1)))) W.heap.size ⟨some ⟨go,0,none⟩,oc2,os,wa,wn,wc,ba,bn,bc,sa2,sn,sc2⟩ (z0n H id)):=by rw[HG.out,u2s hkl];exact z1h HMX.out k hkl go rfl _
  generalize H.objs[k].count=c at s5 k5 HN;obtain⟨M,hM⟩:∃M,wrap64 (c+1)=M:=⟨_,rfl⟩;rw[hM]at HN;have hM2:IntKind.i64.wrap (c+1)=M:=by rw[<-hM,IntKind.wrap_i64];simp only[wrap64]
  clear hob hfz hlv HG hk ek HMX hcs HRO HM1;have hg1:¬go=w.heap.size+1:=by omega
  have hg2:¬w.heap.size+1=go:=by omega
  have hg3:¬go=w1.heap.size:=hgq;have hg4:¬w1.heap.size=go:=λe=>hgq e.symm;have hg5:go≠w.heap.size:=by omega
  have hg6:go≠gs:=by omega
  have hi0:(0:Int)<=(k:Int):=by omega
  have hk3:k<os.length:=hk2;have hi1:(k:Int)<(os.length:Int):=by omega
  have hi2:(k:Int)<(H.objs.length:Int):=by omega
  go_wp2
  go_region_held (λY=>Y.cell? ⟨w1.heap.size,0,none⟩=some (.slice (some ⟨go,0,none⟩) os.length oc2)/\Y.cell? ⟨w.heap.size,0,none⟩=some (.slice (some ⟨gs,off,none⟩) H.objs.length co)/\Y.cell? ⟨gs,off+k*8+5,none⟩=some (.int .i64 c))
   (first|exact⟨q0,p0,s5⟩|exact⟨(y0g _ _ (by exact hgq) 0).trans q0,(y0g _ _ (by exact hg5) 0).trans p0,(y0g _ _ (by exact hg6) _).trans s5⟩)
   (fail)
  go_wp2;refine bodyPost_ret (v:= .agg #[.slice (some ⟨go,0,none⟩) os.length oc2,.slice wa wn wc,.slice ba bn bc,.slice sa2 sn sc2]) (by simp[results,Tryz.results70,go_sem, *]) rfl ⟨⟨some ⟨go,0,none⟩,oc2,os,wa,wn,wc,ba,bn,bc,sa2,sn,sc2⟩,rfl,?_,?_⟩
  ·refine z0G (q0c (v0V HN.out (w' :=q0p (X.setCell ⟨go,k*8+5,none⟩ (.int .i64 M)) (w.heap.size+1) _ _ _ _) ?_) bl0.drew) (by omega);refine(((q0G _ _ ⟨w.heap.size+1,0,none⟩ _ (by simp only;omega)).trans (q0G _ _ ⟨w.heap.size+1,1,none⟩ _ (by simp only;omega))).trans (q0G _ _ ⟨w.heap.size+1,2,none⟩ _ (by simp only;omega))).trans (q0G _ _ ⟨w.heap.size+1,3,none⟩ _ (by simp only;omega))
  ·refine Below.drew ?_;iterate 4 refine Below.setCell ?_ (by simp only;omega) _
   exact HEX.out.setCell (by simp only;omega) _
 ·have HG:Hid (z0n H id=H):=by show _=_;unfold z0n;rw[if_neg hk]
  generalize q0l H id=z at hk;have hz:¬z>=0:=by omega
  go_wp2;refine bodyPost_ret (v:= .agg #[.slice oa os.length oc2,.slice wa wn wc,.slice ba bn bc,.slice sa2 sn sc2]) (by simp[results,Tryz.results70,go_sem, *]) rfl ⟨⟨oa,oc2,os,wa,wn,wc,ba,bn,bc,sa2,sn,sc2⟩,rfl,?_,?_⟩
  ·rw[HG.out];refine z0G (v0V HMX.out ?_) (by omega);refine(((q0G _ _ ⟨w.heap.size+1,0,none⟩ _ (by simp only;omega)).trans (q0G _ _ ⟨w.heap.size+1,1,none⟩ _ (by simp only;omega))).trans (q0G _ _ ⟨w.heap.size+1,2,none⟩ _ (by simp only;omega))).trans (q0G _ _ ⟨w.heap.size+1,3,none⟩ _ (by simp only;omega))
  ·iterate 4 refine Below.setCell ?_ (by simp only;omega) _
   exact HEX.out
end
section
open Go.RowKit
def RK(gx go n c k:Nat)(z:Int):Nat->World->Value->Prop
 |0,X,v=>v= .pointer (some ⟨gx,0,none⟩)
 |1,X,v=>v= .slice (some ⟨go,0,none⟩) n c
 |2,X,v=>v= .int .i64 (k:Int)
 |3,X,v=>v= .pointer (some ⟨gx,0,none⟩)
 |4,X,v=>v= .slice (some ⟨go,0,none⟩) n c
 |5,X,v=>v= .int .i64 (k:Int)
 |6,X,v=>v= .pointer (some ⟨go,k*8,none⟩)
 |7,X,v=>v= .pointer (some ⟨go,k*8+5,none⟩)
 |8,X,v=>v= .int .i64 z
 |9,X,v=>v= .int .i64 (wrap64 (z - 1))
 |10,X,v=>v= .pointer (some ⟨go,k*8,none⟩)
 |11,X,v=>v= .pointer (some ⟨go,k*8+5,none⟩)
 |_,_,_=>True
theorem z5h{gx go n c k:Nat}{z:Int}(i:Nat)(X Y:World)(v:Value)(h:RK gx go n c k z i X v)(hb:Below X.heap.size X Y):RK gx go n c k z i Y v:=by
 match i,h with
 |0,h=>exact h
 |1,h=>exact h
 |2,h=>exact h
 |3,h=>exact h
 |4,h=>exact h
 |5,h=>exact h
 |6,h=>exact h
 |7,h=>exact h
 |8,h=>exact h
 |9,h=>exact h
 |10,h=>exact h
 |11,h=>exact h
 |n+12,_=>exact trivial
def SL(W:World)(B gx:Nat)(R:q0a×List Int)(vf vq:Value)(X:World):Prop:=∃s H todo fr,LS W X B gx s H vq vf todo fr/\ToR R H todo fr
theorem x1P(v:Value)(H:q0a)(ia:Option Addr)(ic:Nat)(ids:List Int)(w:World)(h:RdH w v H)(hs:q0h H)(hw:∀z∈H.objs,∀x∈z.field,q0w x)(hri:RdI w ia ids)(hil:ids.length<=1048576)(hiw:∀x∈ids,q0w x):
 Calls Tryz.prog 71 #[v,.slice ia ids.length ic] w λe w' =>∃(s:HSh)(vf:Value),e= .returned (.tuple #[s.v,vf])/\HM w' w.heap.size s (z0F H ids).1/\q0i w' w.heap.size vf (z0F H ids).2/\(∀g,vf.ownBlock=some g->¬q0u s g)/\Below w.heap.size w w' :=by
 have HR:Hid (∀X,Below w.heap.size w X->RdH X v H):=λX hX=>q0s h hX;have HRI:Hid (∀X,Below w.heap.size w X->v0q X ia ids.length 1 (ids.map z0C)):=λX hX=>(u1s hri).later hX;have HTR:Hid (ToR (z0F H ids) H ids []):=u1U hs hw hil hiw;obtain⟨ao,co,aw,cw,ab,cb,sa,sc,rfl,-⟩:=h;obtain⟨W,hW⟩:∃W,W=(w.alloc (.cells #[.slice ao H.objs.length co,.slice aw H.weaks.length cw,.slice ab H.buffer.length cb,.slice sa H.sites.length sc] 35)).alloc (.cells #[.slice none 0 0,.slice none 0 0,.slice none 0 0,.slice none 0 0] 35):=⟨_,rfl⟩;have BW:Below w.heap.size w W:=by rw[hW];exact(bl1 _).alloc (by simp) _
 have hWs:W.heap.size=w.heap.size+2:=by rw[hW];simp
 have FR:q0d W (w.heap.size+1) (.slice none 0 0) (.slice none 0 0) (.slice none 0 0) (.slice none 0 0):=by rw[hW];have f1:=q0d.new (w.alloc (.cells #[.slice ao H.objs.length co,.slice aw H.weaks.length cw,.slice ab H.buffer.length cb,.slice sa H.sites.length sc] 35)) (.slice none 0 0) (.slice none 0 0) (.slice none 0 0) (.slice none 0 0);simpa using f1
 have HFR:Hid (q0d W (w.heap.size+1) (.slice none 0 0) (.slice none 0 0) (.slice none 0 0) (.slice none 0 0)):=FR;have HBW:Hid (Below w.heap.size w W):=BW;have HWs:Hid (W.heap.size=w.heap.size+2):=hWs;have CC:Hid (∀_:Unit,_):=λ(_:Unit)=>x0P _ H W (HR.out W BW) hs;generalize z0F H ids=R at HTR ⊢;clear FR BW HR hs hw hri hiw;go_enter Tryz.func71,Tryz.ntmps71;go_wp2_with fail
 rw[<-hW];clear hW;refine(CC.out ()).mono ?_;rintro e w1 ⟨s,rfl,M1,b1⟩;have HM1:Hid (HM w1 W.heap.size s H):=M1;have HB1:Hid (Below W.heap.size W w1):=b1;have hs1:=b1.size;clear CC M1 b1 hWs;obtain⟨V,hV⟩:∃V,V=w1.alloc (.cells #[.slice s.oa s.os.length s.oc,.slice s.wa s.wn s.wc,.slice s.ba s.bn s.bc,.slice s.sa s.sn s.sc] 35):=⟨_,rfl⟩;have BV:Below w1.heap.size w1 V:=by rw[hV];exact bl1 _
 have hVs:V.heap.size=w1.heap.size+1:=by rw[hV];simp
 have HXV:Hid (q0d V w1.heap.size (.slice s.oa s.os.length s.oc) (.slice s.wa s.wn s.wc) (.slice s.ba s.bn s.bc) (.slice s.sa s.sn s.sc)):=by rw[hV];exact q0d.new w1 _ _ _ _
 have HMV:Hid (HM V W.heap.size s H):=q0c HM1.out BV;have HBV:Hid (Below W.heap.size W V):=HB1.out.trans (BV.mono HB1.out.size);obtain⟨V2,hV2⟩:∃V2,V2=V.alloc (.cells #[] 3):=⟨_,rfl⟩;have BV2:Below V.heap.size V V2:=by rw[hV2];exact bl1 _
 have hV2s:V2.heap.size=V.heap.size+1:=by rw[hV2];simp
 have HF2:Hid (q0i V2 W.heap.size (.slice (some ⟨w1.heap.size+1,0,none⟩) 0 0) []):=by show q0i _ _ _ _;rw[hV2,<-hVs];exact j0C V _ HBV.out.size
 obtain⟨V3,hV3⟩:∃V3,V3=V2.alloc (.cells #[] 3):=⟨_,rfl⟩;have BV3:Below V2.heap.size V2 V3:=by rw[hV3];exact bl1 _
 have HN3:Hid (V3.heap[w1.heap.size+1+1]? =some (.cells #[] 3 (0,0))):=by show _=_;rw[hV3,<-hVs,<-hV2s];exact u0G V2 _
 have HB3:Hid (Below V.heap.size V V3):=BV2.trans (BV3.mono BV2.size);have HBV3:Hid (Below V2.heap.size V2 V3):=BV3;have hV3s:V3.heap.size=V2.heap.size+1:=by rw[hV3];simp
 have HS3:Hid (V3.heap.size=w1.heap.size+3):=by show _=_;omega
 have HS2:Hid (V2.heap.size=w1.heap.size+2):=by show _=_;omega
 have HS1:Hid (V.heap.size=w1.heap.size+1):=hVs;have HSR:Hid (v0q V3 ia ids.length 1 (ids.map z0C)):=HRI.out V3 (HBW.out.trans ((HBV.out.trans (HB3.out.mono HBV.out.size)).mono HBW.out.size));rw[show s.v= .agg #[.slice s.oa s.os.length s.oc,.slice s.wa s.wn s.wc,.slice s.ba s.bn s.bc,.slice s.sa s.sn s.sc]from rfl];clear BV BV2 BV3 hVs hV2s hV3s HRI;go_wp2_with (at_builtin;rw[<-hV,<-hV2,<-hV3];clear hV hV2 hV3;refine y0C elI rfl _ _ rfl (w1.heap.size+1+1) V2.heap.size HN3.out (by rw[HS2.out];exact Nat.le_refl _) ia ids.length ic (ids.map z0C) rfl rfl HSR.out (by omega) (by omega) ?_)
 intro vq0 w2 r2 b2 _
 have HLS:Hid (SL W W.heap.size w1.heap.size R (.slice (some ⟨w1.heap.size+1,0,none⟩) 0 0) vq0 w2):=by
  have hbl:∀g,q0u s g->g<w1.heap.size:=λg hg=>(z0X HM1.out hg).2;have b3:Below V.heap.size V w2:=HB3.out.trans (b2.mono HB3.out.size);have b4:Below V2.heap.size V2 w2:=HBV3.out.trans (b2.mono HBV3.out.size);refine⟨s,H,ids,[],⟨HBV.out.trans (b3.mono HBV.out.size),Nat.le_refl _,q0c HMV.out b3,HXV.out.later b3,hs1,λhh=>Nat.lt_irrefl _ (hbl _ hh),z2t (q0A r2 (by have:=HS2.out;omega)),q0o HF2.out b4,λg hg hh=> ?_,λg hg hh=> ?_,λg hg hg2=> ?_⟩,HTR.out⟩
  ·have h1:=(World.ownsRow.lt r2 g hg).1;have h2:=hbl g hh;have:=HS2.out;omega
  ·injection hg with hg;have h2:=hbl g hh;simp only at hg;omega
  ·injection hg2 with hg2;simp only at hg2;have h1:=(World.ownsRow.lt r2 g hg).1;have:=HS2.out;omega
 clear HXV HMV HBV r2 b2 HF2 HN3 HB3 HBV3 HSR HS1 HS2 HS3 HTR HM1 HB1;obtain⟨gx,hgx⟩:∃gx,gx=w1.heap.size:=⟨_,rfl⟩;rw[<-hgx]at HLS ⊢;obtain⟨vf0,hvf0⟩:∃v,v=Value.slice (some ⟨gx+1,0,none⟩) 0 0:=⟨_,rfl⟩;rw[<-hvf0]at HLS ⊢;clear hgx hvf0 hs1;go_wp2;go_loopw[7,8] (λvf vq wr=>SL W W.heap.size gx R vf vq wr) (λvf vq _=>x0J vq+(9 - x0J vf)*1048577)
 case atStart=>exact HLS.out
 case round=>
  clear HLS;obtain⟨s,HH,todo,fr,hls,htr⟩:=hrel;have HLS:Hid (LS W wr W.heap.size gx s HH _ _ todo fr):=hls;have HTR:Hid (ToR R HH todo fr):=htr;obtain⟨qa,qc,rfl,-⟩:=z1W hls.q;obtain⟨fa,fc,rfl,-⟩:=z0e hls.f;have hfl:=htr.ok.frl;clear hls htr
  cases todo with
  |nil=>
   have XF:=HLS.out.x;have hWs:=HWs.out;have RF:q0d wr (w.heap.size+1) (.slice none 0 0) (.slice none 0 0) (.slice none 0 0) (.slice none 0 0):=(HLS.out.bel.block (w.heap.size+1) (by omega)).trans HFR.out;have q0:=XF.cell 0;have q1:=XF.cell 1;have q2:=XF.cell 2;have q3:=XF.cell 3;have r0:=RF.cell 0;have r1:=RF.cell 1;have r2:=RF.cell 2;have r3:=RF.cell 3;have z0:=RF.frozen 0;have z1:=RF.frozen 1;have z2:=RF.frozen 2;have z3:=RF.frozen 3;simp only[List.getElem?_toArray,List.getElem?_cons_zero,List.getElem?_cons_succ]at q0 q1 q2 q3 r0 r1 r2 r3;have HE:Hid (R=(HH,fr)):=v2n HTR.out (.inl rfl);have HBl:Hid (Below w.heap.size w wr):=HBW.out.trans (HLS.out.bel.mono HBW.out.size);clear XF RF;go_wp2;refine bodyPost_ret (v:= .tuple #[.agg #[.slice s.oa s.os.length s.oc,.slice s.wa s.wn s.wc,.slice s.ba s.bn s.bc,.slice s.sa s.sn s.sc],.slice fa fr.length fc]) (by simp[results,Tryz.results71,go_sem, *]) rfl ⟨s,.slice fa fr.length fc,rfl,?_,?_,HLS.out.sf,?_⟩
   ·rw[HE.out];refine z0G (v0V HLS.out.m ?_) (by omega);refine(((q0G _ _ ⟨w.heap.size+1,0,none⟩ _ (by simp only;omega)).trans (q0G _ _ ⟨w.heap.size+1,1,none⟩ _ (by simp only;omega))).trans (q0G _ _ ⟨w.heap.size+1,2,none⟩ _ (by simp only;omega))).trans (q0G _ _ ⟨w.heap.size+1,3,none⟩ _ (by simp only;omega))
   ·rw[HE.out];exact q0A (q0v (w' :=q0p wr (w.heap.size+1) _ _ _ _) HLS.out.f (λg hg=>q0T _ _ _ _ _ _ g (by have:=(q0n HLS.out.f g hg).1;omega))) (by omega)
   ·iterate 4 refine Below.setCell ?_ (by simp only;omega) _
    exact HBl.out
  |cons id rest=>
  by_cases hf8:8<fr.length
  ·obtain⟨m,hm⟩:∃m,rest.length=m:=⟨_,rfl⟩;rw[List.length_cons,hm];have hb1:decide ((0:Int)<(m:Int)+1)=true:=decide_eq_true (by omega);have hb2:decide ((fr.length:Int)<=8)=false:=decide_eq_false (by omega);have XF:=HLS.out.x;have hWs:=HWs.out;have RF:q0d wr (w.heap.size+1) (.slice none 0 0) (.slice none 0 0) (.slice none 0 0) (.slice none 0 0):=(HLS.out.bel.block (w.heap.size+1) (by omega)).trans HFR.out;have q0:=XF.cell 0;have q1:=XF.cell 1;have q2:=XF.cell 2;have q3:=XF.cell 3;have r0:=RF.cell 0;have r1:=RF.cell 1;have r2:=RF.cell 2;have r3:=RF.cell 3;have z0:=RF.frozen 0;have z1:=RF.frozen 1;have z2:=RF.frozen 2;have z3:=RF.frozen 3;simp only[List.getElem?_toArray,List.getElem?_cons_zero,List.getElem?_cons_succ]at q0 q1 q2 q3 r0 r1 r2 r3;have HE:Hid (R=(HH,fr)):=v2n HTR.out (.inr hf8);have HBl:Hid (Below w.heap.size w wr):=HBW.out.trans (HLS.out.bel.mono HBW.out.size);clear XF RF;go_wp2;refine bodyPost_ret (v:= .tuple #[.agg #[.slice s.oa s.os.length s.oc,.slice s.wa s.wn s.wc,.slice s.ba s.bn s.bc,.slice s.sa s.sn s.sc],.slice fa fr.length fc]) (by simp[results,Tryz.results71,go_sem, *]) rfl ⟨s,.slice fa fr.length fc,rfl,?_,?_,HLS.out.sf,?_⟩
   ·rw[HE.out];refine z0G (v0V HLS.out.m ?_) (by omega);refine(((q0G _ _ ⟨w.heap.size+1,0,none⟩ _ (by simp only;omega)).trans (q0G _ _ ⟨w.heap.size+1,1,none⟩ _ (by simp only;omega))).trans (q0G _ _ ⟨w.heap.size+1,2,none⟩ _ (by simp only;omega))).trans (q0G _ _ ⟨w.heap.size+1,3,none⟩ _ (by simp only;omega))
   ·rw[HE.out];exact q0A (q0v (w' :=q0p wr (w.heap.size+1) _ _ _ _) HLS.out.f (λg hg=>q0T _ _ _ _ _ _ g (by have:=(q0n HLS.out.f g hg).1;omega))) (by omega)
   ·iterate 4 refine Below.setCell ?_ (by simp only;omega) _
    exact HBl.out
  ·have HST:Hid (ToR R (y0o HH id rest fr).1 (y0o HH id rest fr).2.1 (y0o HH id rest fr).2.2):=y3v HTR.out (by omega);have hidw:q0w id:=HTR.out.ok.ids id (by simp);have hol:=HTR.out.ok.objs;have HOKF:Hid (∀z∈HH.objs,z.field.length<=1048576):=HTR.out.ok.fields;have HBUF:Hid (HH.buffer.length+muL (id::rest) fr<=11534345):=HTR.out.ok.buf;obtain⟨g,off,c,hv,hcell,hrc,hcb,hpos,hzero⟩:=q3Q HLS.out.q;simp only[List.length_cons,Value.slice.injEq,true_and]at hv;obtain⟨rfl,rfl⟩:=hv;have HPOP:Hid (∀v',u0g wr W.heap.size v' rest->v'.ownBlock=some g->LS W wr W.heap.size gx s HH v' (.slice fa fr.length fc) rest fr):=λv' h1 h2=>x4R HLS.out v' rest h1 (by rw[h2];rfl);have HPOS:Hid (0<c->u0g wr W.heap.size (.slice (some ⟨g,off+1,none⟩) rest.length c) rest):=hpos;have HZERO:Hid (c=0->u0g wr W.heap.size (.slice (some ⟨g,off,none⟩) rest.length c) rest):=hzero;have XF:=HLS.out.x;have y0:=XF.cell 0;have y1:=XF.cell 1;have y2:=XF.cell 2;have y3:=XF.cell 3;simp only[List.getElem?_toArray,List.getElem?_cons_zero,List.getElem?_cons_succ]at y0 y1 y2 y3;have CS:Hid (∀_:Unit,_):=λ(_:Unit)=>z0k s.v HH id wr (q0K HLS.out.m) (by omega) hidw.1 hidw.2;rw[show s.v= .agg #[.slice s.oa s.os.length s.oc,.slice s.wa s.wn s.wc,.slice s.ba s.bn s.bc,.slice s.sa s.sn s.sc]from rfl]at CS;have HML:Hid (HM wr W.heap.size s HH):=HLS.out.m;have HMU:Hid (muL (id::rest) fr=rest.length+1+(9 - fr.length)*1048577):=by show _=_;unfold muL;rw[List.length_cons]
   obtain⟨m,hm⟩:∃m,rest.length=m:=⟨_,rfl⟩;have Hm:Hid (rest.length=m):=hm;rw[List.length_cons,hm];rw[hm]at HPOS HZERO hrc;clear hm hpos hzero XF HTR HLS;have hb1:decide ((0:Int)<(m:Int)+1)=true:=decide_eq_true (by omega);have hb2:decide ((fr.length:Int)<=8)=true:=decide_eq_true (by omega)
   obtain⟨vq2,hsl,HQ1,HLQ⟩:∃vq2,(∀X:World,(Instr.slice 24 (.slice (some ⟨g,off,none⟩) (m+1) (c+1)) (some (.int .i64 1)) none none).run Tryz.prog X= .ok vq2 X)/\Hid (u0g wr W.heap.size vq2 rest/\vq2.ownBlock=some g)/\Hid (x0J vq2=m):=by
    obtain⟨i0,hi,hz0,hz1,hz2⟩:=info_parts u1E;refine⟨.slice (if c=0 then some ⟨g,off,none⟩else some ⟨g,off+1,none⟩) m c,λX=> ?_,?_,rfl⟩
    ·simp[Instr.slice,run_underlying elI.ht,Instr.sliceBounds,sizeOf,typeInfo,hi,hz1,Instr.sliceBound,asIntOf,Addr.add];intro h;omega
    ·by_cases hc0:c=0
     ·rw[if_pos hc0];exact⟨HZERO.out hc0,rfl⟩
     ·rw[if_neg hc0];exact⟨HPOS.out (by omega),rfl⟩
   have hsl2:∀X:World,(Instr.sliceAt 24 (.slice (some ⟨g,off,none⟩) (m+1) (c+1)) (some (.int .i64 1)) none none).run Tryz.prog X= .ok vq2 X:=λX=>by rw[run_sliceAt_slice _ _ _ _ _ _ Tryz.underlying24];exact hsl X
   have HL2:Hid (LS W wr W.heap.size gx s HH vq2 (.slice fa fr.length fc) rest fr):=HPOP.out _ HQ1.out.1 HQ1.out.2;clear HZERO HPOS HPOP HQ1;go_wp2_with fail
   clear hsl hsl2 hcell hb1 hb2 y1 y2 y3;refine(CS.out ()).mono ?_;rintro e Y ⟨rfl,hY⟩;have HLY:Hid (LS W Y W.heap.size gx s HH vq2 (.slice fa fr.length fc) rest fr):=q0y HL2.out hY;clear CS y0 HL2 hY;by_cases hk:0<=q0l HH id
   ·obtain⟨k,hkl,ek,hk8,hlv,-⟩:=j0w HH id hk;obtain⟨go,hgo,hgB,hgl⟩:=v0E HLY.out.m k hkl;obtain⟨hk2,hob,hfz⟩:=z0o HLY.out.m k hkl go hgo;have hgg:go≠gx:=λe=>HLY.out.sx (by rw[<-e];exact .inl ⟨_,hgo,rfl⟩);have hgg1:¬go=gx:=hgg;have hgg2:¬gx=go:=λe=>hgg e.symm;have HGO:Hid (s.oa=some ⟨go,0,none⟩):=hgo;have HSA:Hid (y0o HH id rest fr=_):=v2k (rest:=rest) (fr:=fr) hkl ek;obtain⟨o,ho⟩:∃o,HH.objs[k]=o:=⟨_,rfl⟩;rw[ho]at HSA hob;have HOO:Hid (HH.objs[k]=o):=ho;have hofl:o.field.length<=1048576:=by rw[<-ho];exact HOKF.out _ (List.getElem_mem hkl)
    obtain⟨M,hM⟩:∃M,wrap64 (o.count - 1)=M:=⟨_,rfl⟩;rw[hM]at HSA;have HK5:Hid (Y.cell? ⟨go,k*8+5,none⟩=some (.int .i64 o.count)):=hob.c5;have HZ5:Hid (Y.frozen? ⟨go,k*8+5,none⟩=false):=hfz 5 (by omega)
    have HY0:Hid (Y.cell? ⟨gx,0,none⟩=some (.slice (some ⟨go,0,none⟩) s.os.length s.oc)):=by have h:=HLY.out.x.cell 0;rw[hgo]at h;exact h
    have HKS:Hid (k<s.os.length):=hk2;have HM' :Hid (wrap64 (o.count - 1)=M):=hM
    have HL1:Hid (LS W (Y.setCell ⟨go,k*8+5,none⟩ (.int .i64 M)) W.heap.size gx s (q0r HH k {o with count:=M}) vq2 (.slice fa fr.length fc) rest fr):=by have h1:=z1h HLY.out.m k hkl go HGO.out M;rw[HOO.out]at h1;exact j0i HLY.out go _ _ HGO.out h1
    have hkl1:k<(q0r HH k {o with count:=M}).objs.length:=by simpa[q0r]using hkl
    have HO1:Hid ((q0r HH k {o with count:=M}).objs[k]={o with count:=M}):=by show _=_;simp[q0r]
    rw[ek];clear hgo hob hfz hlv ho hk ek HML hM;go_wp2;refine q0R 12 (by kernel_rfl) (by kernel_rfl) (RK gx go s.os.length s.oc k o.count) z5h ?_ ?_
    ·intro i oo hi hoo a Z hZ hA hdep;have Z0:=(hZ.cell (p:=⟨gx,0,none⟩) HLY.out.x.lt).trans HY0.out;have Z5:=(hZ.cell (p:=⟨go,k*8+5,none⟩) hgl).trans HK5.out
     match i,hi,hoo with
     |0,_,hoo=>obtain rfl:=Option.some.inj hoo;exact v0f 0 (by omega) (q0f hA (t:=6) (by kernel_rfl)) ⟨_,rfl,bl0,rfl⟩
     |1,_,hoo=>obtain rfl:=Option.some.inj hoo;have e1:a.eval (.tmp 36)= .pointer (some ⟨gx,0,none⟩):=hdep ⟨0,.data⟩ (by simp) rfl 36 rfl;exact u0A e1 Z0 ⟨_,rfl,bl0,rfl⟩
     |2,_,hoo=>obtain rfl:=Option.some.inj hoo;exact z0p (q0f hA (t:=10) (by kernel_rfl)) ⟨_,rfl,bl0,rfl⟩
     |3,_,hoo=>obtain rfl:=Option.some.inj hoo;exact v0f 0 (by omega) (q0f hA (t:=6) (by kernel_rfl)) ⟨_,rfl,bl0,rfl⟩
     |4,_,hoo=>obtain rfl:=Option.some.inj hoo;have e1:a.eval (.tmp 39)= .pointer (some ⟨gx,0,none⟩):=hdep ⟨3,.data⟩ (by simp) rfl 39 rfl;exact u0A e1 Z0 ⟨_,rfl,bl0,rfl⟩
     |5,_,hoo=>obtain rfl:=Option.some.inj hoo;exact z0p (q0f hA (t:=10) (by kernel_rfl)) ⟨_,rfl,bl0,rfl⟩
     |6,_,hoo=>obtain rfl:=Option.some.inj hoo;have e1:a.eval (.tmp 40)= .slice (some ⟨go,0,none⟩) s.os.length s.oc:=hdep ⟨4,.data⟩ (by simp) rfl 40 rfl;have e2:a.eval (.tmp 41)= .int .i64 (k:Int):=hdep ⟨5,.data⟩ (by simp) rfl 41 rfl;exact q1y e1 e2 HKS.out ⟨_,rfl,bl0,rfl⟩
     |7,_,hoo=>obtain rfl:=Option.some.inj hoo;have e1:a.eval (.tmp 42)= .pointer (some ⟨go,k*8,none⟩):=hdep ⟨6,.data⟩ (by simp) rfl 42 rfl;exact x2G e1 ⟨_,rfl,bl0,rfl⟩
     |8,_,hoo=>obtain rfl:=Option.some.inj hoo;have e1:a.eval (.tmp 43)= .pointer (some ⟨go,k*8+5,none⟩):=hdep ⟨7,.data⟩ (by simp) rfl 43 rfl;exact z0V e1 Z5 ⟨_,rfl,bl0,rfl⟩
     |9,_,hoo=>obtain rfl:=Option.some.inj hoo;have e1:a.eval (.tmp 44)= .int .i64 o.count:=hdep ⟨8,.data⟩ (by simp) rfl 44 rfl;exact v4A e1 ⟨_,rfl,bl0,rfl⟩
     |10,_,hoo=>obtain rfl:=Option.some.inj hoo;have e1:a.eval (.tmp 37)= .slice (some ⟨go,0,none⟩) s.os.length s.oc:=hdep ⟨1,.data⟩ (by simp) rfl 37 rfl;have e2:a.eval (.tmp 38)= .int .i64 (k:Int):=hdep ⟨2,.data⟩ (by simp) rfl 38 rfl;exact q1y e1 e2 HKS.out ⟨_,rfl,bl0,rfl⟩
     |11,_,hoo=>obtain rfl:=Option.some.inj hoo;have e1:a.eval (.tmp 46)= .pointer (some ⟨go,k*8,none⟩):=hdep ⟨10,.data⟩ (by simp) rfl 46 rfl;exact x2G e1 ⟨_,rfl,bl0,rfl⟩
    intro oo hoo a Z hZ hA hdep;obtain rfl:=Option.some.inj hoo;have e1:a.eval (.tmp 47)= .pointer (some ⟨go,k*8+5,none⟩):=hdep ⟨11,.data⟩ (by simp) rfl 47 rfl;have e2:a.eval (.tmp 45)= .int .i64 (wrap64 (o.count - 1)):=hdep ⟨9,.data⟩ (by simp) rfl 45 rfl;rw[HM'.out]at e2;refine q1e e1 e2 ((hZ.cell (p:=⟨go,k*8+5,none⟩) hgl).trans HK5.out) ((hZ.frozen (p:=⟨go,k*8+5,none⟩) hgl).trans HZ5.out) ?_;obtain⟨us,-,rfl⟩:=q0F hA [36,37,38,39,40,41,42,43,44,45,46,47] (by kernel_rfl)
    have HL1Z:Hid (LS W (Z.setCell ⟨go,k*8+5,none⟩ (.int .i64 M)) W.heap.size gx s (q0r HH k {o with count:=M}) vq2 (.slice fa fr.length fc) rest fr):=by have hLZ:=q0y HLY.out hZ;have h1:=z1h hLZ.m k hkl go HGO.out M;rw[HOO.out]at h1;exact j0i hLZ go _ _ HGO.out h1
    obtain⟨Y1,hY1⟩:∃Y1,Y1=Z.setCell ⟨go,k*8+5,none⟩ (.int .i64 M):=⟨_,rfl⟩;rw[<-hY1]at HL1Z ⊢;clear hdep hA e1 e2 hoo hZ hY1 HLY HK5 HZ5 HY0 HL1 HM';simp only[List.mapIdx_cons,List.mapIdx_nil,Nat.reduceAdd,List.contains_cons,List.contains_nil,Nat.reduceBEq,Bool.or_false,Bool.or_true,if_true,if_false,Bool.false_eq_true];have HL1:Hid (LS W Y1 W.heap.size gx s (q0r HH k {o with count:=M}) vq2 (.slice fa fr.length fc) rest fr):=HL1Z.out;clear HL1Z;obtain⟨hkZ,ob1,fz1⟩:=z0o HL1.out.m k hkl1 go HGO.out;have k5:=ob1.c5;have k7:=ob1.c7;have z7:=fz1 7 (by omega);rw[HO1.out]at k5 k7;simp only at k5 k7;have y0:=HL1.out.x.cell 0;have y2:=HL1.out.x.cell 2;simp only[List.getElem?_toArray,List.getElem?_cons_zero,List.getElem?_cons_succ]at y0 y2;rw[HGO.out]at y0;have hks:=HKS.out;have hi0:(0:Int)<=(k:Int):=by omega
    have hi1:(k:Int)<(s.os.length:Int):=by omega
    clear ob1 fz1 hkZ;by_cases hM0:0<M
    ·by_cases hp:o.purple=true
     ·have HST2:Hid (ToR R (q0r HH k {o with count:=M}) rest fr):=by
       have h:=HST.out;rw[HSA.out,if_pos hM0,if_pos hp]at h;exact h
      rw[hp]at k7;go_wp2;go_roundw
      case rel=>exact⟨s,_,rest,fr,HL1.out,HST2.out⟩
      case measure=>show x0J vq2+(9 - fr.length)*1048577<(m+1)+(9 - fr.length)*1048577;rw[HLQ.out];omega
     ·have hpf:o.purple=false:=by simpa using hp
      have HST2:Hid (ToR R {q0r HH k {o with count:=M,purple:=true}with buffer:=HH.buffer++[id]} rest fr):=by have h:=HST.out;rw[HSA.out,if_pos hM0,if_neg hp]at h;exact h
      have HLP:Hid (LS W (Y1.setCell ⟨go,k*8+7,none⟩ (.bool true)) W.heap.size gx s (q0r HH k {o with count:=M,purple:=true}) vq2 (.slice fa fr.length fc) rest fr):=by
       have h1:=y1U HL1.out.m k hkl1 go HGO.out true;rw[HO1.out]at h1;have h2:=j0i HL1.out go _ _ HGO.out h1;have e:({q0r HH k {o with count:=M}with objs:=(q0r HH k {o with count:=M}).objs.set k {o with count:=M,purple:=true}}:q0a)=q0r HH k {o with count:=M,purple:=true}:=by simp[q0r]
       rw[e]at h2;exact h2
      have hb9:HH.buffer.length<=16777215:=by have:=HBUF.out;omega
      obtain⟨Y2,hY2⟩:∃Y2,Y2=(Y1.setCell ⟨go,k*8+7,none⟩ (.bool true)).alloc (.cells #[.int .i64 id] 3):=⟨_,rfl⟩;have hYs:(Y1.setCell ⟨go,k*8+7,none⟩ (.bool true)).heap.size=Y1.heap.size:=by simp[World.setCell]
      have BY2:Below (Y1.setCell ⟨go,k*8+7,none⟩ (.bool true)).heap.size (Y1.setCell ⟨go,k*8+7,none⟩ (.bool true)) Y2:=by rw[hY2];exact bl1 _
      have HC2:Hid (Y2.cell? ⟨Y1.heap.size,0,none⟩=some (.int .i64 id)):=by show _=_;rw[hY2,<-hYs,World.cell?_alloc_mark];rfl
      have HLA:Hid (LS W Y2 W.heap.size gx s (q0r HH k {o with count:=M,purple:=true}) vq2 (.slice fa fr.length fc) rest fr):=q0y HLP.out BY2;rw[hpf]at k7;clear BY2 hYs HLP;go_wp2_with (at_builtin;rw[<-hY2];clear hY2;refine x0T rfl _ _ rfl W.heap.size (.slice s.ba s.bn s.bc) HH.buffer rfl HLA.out.m.b ⟨Y1.heap.size,0,none⟩ id rfl HC2.out hb9 HLA.out.le ?_)
      intro v2 w2 o2 s2 a2 l2 c2;obtain⟨ba2,bc2,hv2,-⟩:=z0e o2;obtain⟨nb,hnb⟩:∃nb,(HH.buffer++[id]).length=nb:=⟨_,rfl⟩;rw[hnb]at hv2;subst hv2;have HNB:Hid ((HH.buffer++[id]).length=nb):=hnb
      have hx2:w2.heap[gx]? =Y2.heap[gx]?:=a2.out gx HLA.out.x.lt (λe=>by
       obtain⟨x,hx,e2⟩:=z0L e;exact HLA.out.sx (by rw[<-e2];exact .inr (.inr (.inl ⟨x,hx,rfl⟩))))
      have X2:=HLA.out.x.same hx2;have x2:=X2.cell 2;have f2:=X2.frozen 2;simp only[List.getElem?_toArray,List.getElem?_cons_zero,List.getElem?_cons_succ]at x2
      have HLN:Hid (LS W (w2.setCell ⟨gx,2,none⟩ (.slice ba2 nb bc2)) W.heap.size gx _ {q0r HH k {o with count:=M,purple:=true}with buffer:=HH.buffer++[id]} vq2 (.slice fa fr.length fc) rest fr):=
       x1O HLA.out (c2.out _ _ HLA.out.bel nl0) s2 a2.out ba2 nb bc2 (HH.buffer++[id]) HNB.out.symm o2 (λg hg=>by
        rcases l2.out with e|e
        ·exact .inl (by rw[<-e];exact hg)
        ·rw[e]at hg;injection hg with hg;exact .inr (by omega))
      clear o2 s2 a2 l2 c2 X2 hx2 hnb HLA HC2 y0 y2 k5 k7 z7;go_wp2;go_roundw
      case rel=>exact⟨_,_,rest,fr,HLN.out,HST2.out⟩
      case measure=>show x0J vq2+(9 - fr.length)*1048577<(m+1)+(9 - fr.length)*1048577;rw[HLQ.out];omega
    ·have HST2:Hid (ToR R {q0r HH k (q0J o.gen)with buffer:=HH.buffer.filter (λz=>decide (z≠id))} (rest++o.field.filter (λz=>decide (0<=z))) (fr++[id])):=by
      have h:=HST.out;rw[HSA.out,if_neg hM0]at h;exact h
     have hkb:s.bn=HH.buffer.length:=HL1.out.m.lb;have hb9:HH.buffer.length<=16777215:=by have:=HBUF.out;omega
     have hrl:rest.length<=11534345:=by have h1:=HBUF.out;have h2:=HMU.out;omega
     obtain⟨Y2,hY2⟩:∃Y2,Y2=Y1.alloc (.cells #[.int .i64 id] 3):=⟨_,rfl⟩;have BY2:Below Y1.heap.size Y1 Y2:=by rw[hY2];exact bl1 _
     have HC2:Hid (Y2.cell? ⟨Y1.heap.size,0,none⟩=some (.int .i64 id)):=by show _=_;rw[hY2,World.cell?_alloc_mark];rfl
     have HLA:Hid (LS W Y2 W.heap.size gx s (q0r HH k {o with count:=M}) vq2 (.slice fa fr.length fc) rest fr):=q0y HL1.out BY2;have HKB:Hid (s.bn=HH.buffer.length):=hkb;clear BY2 hkb;go_wp2_with (at_builtin;rw[<-hY2];clear hY2;refine x0T rfl _ _ rfl W.heap.size (.slice fa fr.length fc) fr rfl HLA.out.f ⟨Y1.heap.size,0,none⟩ id rfl HC2.out (by omega) HLA.out.le ?_)
     intro vf3 w3 o3 s3 a3 l3 c3;have HL3:Hid (LS W w3 W.heap.size gx s (q0r HH k {o with count:=M}) vq2 vf3 rest (fr++[id])):=v2d HLA.out (c3.out _ _ HLA.out.bel nl0) s3 a3.out vf3 (fr++[id]) o3 (by rcases l3.out with e|e;exact .inl e;exact .inr ⟨_,e,Nat.le_refl _⟩);obtain⟨fa3,fc3,hv3,-⟩:=z0e o3;obtain⟨nf,hnf⟩:∃nf,(fr++[id]).length=nf:=⟨_,rfl⟩;rw[hnf]at hv3;have HNF:Hid (nf=fr.length+1):=by show _=_;rw[<-hnf];simp
     subst hv3;clear o3 s3 a3 l3 c3 hnf HLA HC2 HL1 y0 y2 k5 k7 z7;obtain⟨fo,hfo⟩:∃fo,s.os[k].f=fo:=⟨_,rfl⟩;obtain⟨co6,hco6⟩:∃co6,s.os[k].c=co6:=⟨_,rfl⟩
     have HF6:Hid (∀Z vq todo,LS W Z W.heap.size gx s (q0r HH k {o with count:=M}) vq (.slice fa3 nf fc3) todo (fr++[id])->Z.cell? ⟨go,k*8+6,none⟩=some (.slice fo o.field.length co6)/\RdI Z fo o.field/\Z.cell? ⟨gx,0,none⟩=some (.slice (some ⟨go,0,none⟩) s.os.length s.oc)):=λZ vq todo hL=>by
      obtain⟨hk3,ob3,fz3⟩:=z0o hL.m k hkl1 go HGO.out;obtain⟨hn3,hown3⟩:=hL.m.f k hkl1 hk3;have c6:=ob3.c6;rw[HO1.out]at hn3 hown3;simp only at hn3 hown3;rw[hn3]at c6 hown3;obtain⟨x1,x2,e1,e2⟩:=z0e hown3;simp only[Value.slice.injEq]at e1;have h0:=hL.x.cell 0;rw[HGO.out]at h0;refine⟨?_,?_,h0⟩
      ·rw[c6,<-hfo,<-hco6]
      ·rw[<-hfo,e1.1];exact e2
     have HLF:Hid (∀j(h:j<o.field.length),(o.field.take (j+1)).filter (λz=>decide (0<=z))=(o.field.take j).filter (λz=>decide (0<=z))++(if decide (0<=o.field[j])=true then [o.field[j]]else [])):=λj h=>y1G _ o.field j h
     have HLL:Hid (∀j,((o.field.take j).filter (λz=>decide (0<=z))).length<=1048576):=λj=>by
      have h1:=List.length_filter_le (λz=>decide (0<=z)) (o.field.take j);rw[List.length_take]at h1;omega
     have HLE2:Hid ((o.field.take o.field.length).filter (λz=>decide (0<=z))=o.field.filter (λz=>decide (0<=z))):=by show _=_;rw[List.take_length]
     obtain⟨F,hF⟩:∃F:Nat->List Int,∀j,(o.field.take j).filter (λz=>decide (0<=z))=F j:=⟨λj=>(o.field.take j).filter (λz=>decide (0<=z)),λ_=>rfl⟩;have HF0:Hid (F 0=[]):=by show _=_;rw[<-hF];simp
     simp only[hF]at HLF HLL HLE2;rw[<-HLE2.out]at HST2
     have HL30:Hid (LS W w3 W.heap.size gx s (q0r HH k {o with count:=M}) vq2 (.slice fa3 nf fc3) (rest++F 0) (fr++[id])):=by show LS _ _ _ _ _ _ _ _ _ _;rw[HF0.out,List.append_nil];exact HL3.out
     clear hF hfo hco6 HL3;go_wp2;go_loopw[8,11] (λvq i wr=>∃j:Nat,i= .int .i64 (j:Int)/\j<=o.field.length/\Hid (LS W wr W.heap.size gx s (q0r HH k {o with count:=M}) vq (.slice fa3 nf fc3) (rest++F j) (fr++[id]))) (λ_ i _=>o.field.length - (intOf i).toNat)
     case atStart=>exact⟨0,rfl,Nat.zero_le _,HL30⟩
     case round=>
      clear HL30;obtain⟨j,rfl,hjl,HLJ⟩:=hrel;obtain⟨c6,hrd,y0⟩:=HF6.out _ _ _ HLJ.out;by_cases hlt:j<o.field.length
      ·obtain⟨gf,of6,rfl,-,hcf⟩:=hrd j hlt;have hF1:=HLF.out j hlt;have hL1:=HLL.out j;have hj0:(0:Int)<=(j:Int):=by omega
       have hj1:(j:Int)<(o.field.length:Int):=by omega
       generalize o.field[j]=z at hF1 hcf;by_cases hz:0<=z
       ·rw[if_pos (decide_eq_true hz)]at hF1;have HF1:Hid (F (j+1)=F j++[z]):=hF1;obtain⟨A,hA⟩:∃A,A=wr.alloc (.cells #[.int .i64 z] 3):=⟨_,rfl⟩;have HLA:Hid (LS W A W.heap.size gx s (q0r HH k {o with count:=M}) _ (.slice fa3 nf fc3) (rest++F j) (fr++[id])):=q0y HLJ.out (by rw[hA];exact bl1 _);have HSZ:Hid (v0q A (some ⟨wr.heap.size,0,none⟩) [z].length 1 ([z].map z0C)):=⟨rfl,λi u hi=>⟨_,rfl,by rw[hA];exact j0X wr z i u hi⟩,λu hu=>by simp at hu;subst hu;rfl⟩;clear hF1 hrd;go_wp2_with (at_builtin;rw[<-hA];clear hA;refine y1A rfl _ _ rfl W.heap.size _ (rest++F j) rfl HLA.out.q (some ⟨wr.heap.size,0,none⟩) [z] 1 1 rfl rfl HSZ.out (by rw[List.length_append,List.length_singleton];omega) HLA.out.le ?_)
        intro v5 w5 o5 s5 a5 l5 c5
        have HL5:Hid (LS W w5 W.heap.size gx s (q0r HH k {o with count:=M}) v5 (.slice fa3 nf fc3) (rest++F (j+1)) (fr++[id])):=by have h:=u2x HLA.out (c5.out _ _ HLA.out.bel nl0) s5 a5.out v5 (rest++(F j++[z])) o5 (by rcases l5.out with e|e;exact .inl e;exact .inr ⟨_,e,Nat.le_refl _⟩);rw[<-HF1.out]at h;exact h
        clear o5 s5 a5 l5 c5 HLA HSZ;go_wp2;go_roundw
        case rel=>exact⟨j+1,by go_num,by omega,HL5⟩
        case measure=>simp[intOf];omega
       ·rw[if_neg (by simpa using hz),List.append_nil]at hF1;have h5:=HLJ.out;rw[<-hF1]at h5;have HL5:Hid _:=h5;clear hF1 h5 hrd;go_wp2;go_roundw
        case rel=>exact⟨j+1,by go_num,by omega,HL5⟩
        case measure=>simp[intOf];omega
      ·obtain rfl:j=o.field.length:=by omega
       obtain⟨X5,hX5⟩:∃X5,X5=wr:=⟨_,rfl⟩;rw[<-hX5]at HLJ c6 y0 ⊢;have HL5:=HLJ;have hlq5:=(z1W HL5.out.q);obtain⟨qa5,qc5,hq5,-⟩:=hlq5;have HQ5:Hid (x0J (.slice qa5 (rest++F o.field.length).length qc5)=rest.length+(F o.field.length).length):=by show(rest++F o.field.length).length=_;rw[List.length_append]
       have hFL:=HLL.out o.field.length;obtain⟨nq,hnq⟩:∃nq,(rest++F o.field.length).length=nq:=⟨_,rfl⟩;rw[hnq]at hq5 HQ5;subst hq5;have CW:Hid (∀_:Unit,_):=λ(_:Unit)=>u2R X5 s.ba s.bc HH.buffer id (q1t HL5.out.m).2.2.1 hb9;rw[<-HKB.out]at CW;have g5:=HL5.out.x.cell 2;simp only[List.getElem?_toArray,List.getElem?_cons_zero,List.getElem?_cons_succ]at g5;generalize hBf:HH.buffer.filter (λz=>decide (z≠id))=Bf at CW HST2;clear hBf hX5 hrd hnq HLJ;go_wp2_with fail
       refine(CW.out ()).mono ?_;rintro e w6 ⟨x6,rfl,o6,b6⟩;obtain⟨ba6,bc6,rfl,-⟩:=z0e o6;have hs6:=b6.size
       have HL6:Hid (LS W (w6.setCell ⟨gx,2,none⟩ (.slice ba6 Bf.length bc6)) W.heap.size gx {s with ba:=ba6,bn:=Bf.length,bc:=bc6} {q0r HH k {o with count:=M}with buffer:=Bf} (.slice qa5 nq qc5) (.slice fa3 nf fc3) (rest++F o.field.length) (fr++[id])):=
        x1O HL5.out (HL5.out.bel.trans (b6.mono HL5.out.le)) hs6 (λi hi _=>b6.block i hi) ba6 Bf.length bc6 Bf rfl (q0A o6 HL5.out.le) (λg hg=> .inr (q0n o6 g hg).1)
       have X6:=HL5.out.x.later b6;have g6:=X6.cell 2;have f6:=X6.frozen 2;simp only[List.getElem?_toArray,List.getElem?_cons_zero,List.getElem?_cons_succ]at g6;have hkl6:k<({q0r HH k {o with count:=M}with buffer:=Bf}:q0a).objs.length:=hkl1;obtain⟨nB,hnB⟩:∃nB,Bf.length=nB:=⟨_,rfl⟩;rw[hnB]at HL6;rw[hnB];obtain⟨Y6,hY6⟩:∃Y6,Y6=w6.setCell ⟨gx,2,none⟩ (.slice ba6 nB bc6):=⟨_,rfl⟩;rw[<-hY6]at HL6;have HO6:Hid (({q0r HH k {o with count:=M}with buffer:=Bf}:q0a).objs[k]={o with count:=M}):=HO1.out
       have HS6:Hid (∀Z,Below Y6.heap.size Y6 Z->Z.cell? ⟨gx,0,none⟩=some (.slice (some ⟨go,0,none⟩) s.os.length s.oc)/\Z.cell? ⟨go,k*8+1,none⟩=some (.int .i64 o.gen)):=λZ hZ=>by
        have hL:=q0y HL6.out hZ;have h0:=hL.x.cell 0;obtain⟨hkk,obb,_⟩:=z0o hL.m k hkl6 go HGO.out;have h1:=obb.c1;rw[HO6.out]at h1;simp only[HGO.out]at h0;exact⟨h0,h1⟩
       have HS8:Hid (∀Z,Below Y6.heap.size Y6 Z->x0G Z go (k*8) {o with count:=M} (.slice s.os[k].f s.os[k].n s.os[k].c)/\∀q,q<8->Z.frozen? ⟨go,k*8+q,none⟩=false):=λZ hZ=>by
        obtain⟨hkk,obb,fzz⟩:=z0o (q0y HL6.out hZ).m k hkl6 go HGO.out;rw[HO6.out]at obb;exact⟨obb,fzz⟩
       have HSS:Hid (∀Z a7 c7,Below Y6.heap.size Y6 Z->(z0r Z go (k*8) (q0J o.gen) (.slice a7 3 c7)).cell? ⟨gx,0,none⟩=some (.slice (some ⟨go,0,none⟩) s.os.length s.oc)/\(z0r Z go (k*8) (q0J o.gen) (.slice a7 3 c7)).cell? ⟨go,k*8+1,none⟩=some (.int .i64 o.gen)):=λZ a7 c7 hZ=>by
        refine⟨?_,(u1P Z go (k*8) (q0J o.gen) (.slice a7 3 c7) (λq hq=>q0H (HS8.out Z hZ).1 q hq)).c1⟩;rw[<-(HS6.out Z hZ).1];unfold z0r;iterate 8 rw[y0g _ _ (by exact hgg)]
       have HPUT:Hid (∀Z a7 c7,Below Y6.heap.size Y6 Z->q0i Z Y6.heap.size (.slice a7 3 c7) [-1,-1,-1]->SL W W.heap.size gx R (.slice fa3 nf fc3) (.slice qa5 nq qc5) (z0r Z go (k*8) (q0J o.gen) (.slice a7 3 c7))):=λZ a7 c7 hZ h7=>by
        have hL:=y1X HL6.out hZ k hkl6 go HGO.out (q0J o.gen) a7 c7 h7;have e:q0r {q0r HH k {o with count:=M}with buffer:=Bf} k (q0J o.gen)={q0r HH k (q0J o.gen)with buffer:=Bf}:=by simp[q0r]
        rw[e]at hL;exact⟨_,_,_,_,hL,HST2.out⟩
       simp only[z0r,q0J]at HSS;clear o6 b6 CW X6 g5 HL5 hnB HL6 c6 y0;go_wp2;rw[<-hY6];clear hY6 g6 f6;have D6:Below Y6.heap.size Y6 Y6.drew:=bl0.drew;obtain⟨m0,m1⟩:=HS6.out _ bl0
       go_region_held (λZ=>Z.cell? ⟨gx,0,none⟩=some (.slice (some ⟨go,0,none⟩) s.os.length s.oc)/\Z.cell? ⟨go,k*8+1,none⟩=some (.int .i64 o.gen))
        (first|with_reducible exact HS6.out _ B7|with_reducible exact HS6.out _ D6|with_reducible exact HSS.out _ _ _ B7)
        (first|(go_at_call 69;refine(x2N _).mono ?_;rintro e w7 ⟨a7,c7,rfl,o7,b7⟩;(have B7:=D6.trans (b7.mono D6.size));(obtain⟨ob7,fz7⟩:=HS8.out _ B7);(obtain⟨v0,e0⟩:=q0H ob7 0 (by omega));(obtain⟨v1,e1⟩:=q0H ob7 1 (by omega));(obtain⟨v2,e2⟩:=q0H ob7 2 (by omega));(obtain⟨v3,e3⟩:=q0H ob7 3 (by omega));(obtain⟨v4,e4⟩:=q0H ob7 4 (by omega));(obtain⟨v5,e5⟩:=q0H ob7 5 (by omega));(obtain⟨v6,e6⟩:=q0H ob7 6 (by omega));(obtain⟨v7,e7⟩:=q0H ob7 7 (by omega));(have n0:=fz7 0 (by omega));(have n1:=fz7 1 (by omega));(have n2:=fz7 2 (by omega));(have n3:=fz7 3 (by omega));(have n4:=fz7 4 (by omega));(have n5:=fz7 5 (by omega));(have n6:=fz7 6 (by omega));(have n7:=fz7 7 (by omega));(rw[Nat.add_zero]at e0 n0);(have HFIN:Hid _:=HPUT.out w7 a7 c7 B7 o7);(clear ob7 fz7)))
       all_goals
        clear e0 e1 e2 e3 e4 e5 e6 e7 n0 n1 n2 n3 n4 n5 n6 n7 m0 m1;go_wp2;go_roundw
        case rel=>exact HFIN.out
        case measure=>show nq+(9 - nf)*1048577<(m+1)+(9 - fr.length)*1048577;have h1:nq=rest.length+(F o.field.length).length:=HQ5.out;rw[h1,HNF.out,Hm.out];omega
   ·have HST2:Hid (ToR R HH rest fr):=by
     have h:=HST.out;rw[j1d (by omega)]at h;exact h
    generalize q0l HH id=z at hk ⊢;have hz:z<0:=by omega
    clear HML;go_wp2;go_roundw
    case rel=>exact⟨s,HH,rest,fr,HLY.out,HST2.out⟩
    case measure=>show x0J vq2+(9 - fr.length)*1048577<(m+1)+(9 - fr.length)*1048577;rw[HLQ.out];omega
end
section
open Go.RowKit
theorem u0q{w X:World}{B:Nat}{R:q0a×z0D}{e:Ending}(o:Obj)(hB:B<=w.heap.size)(h:q0z w B R e X):q0z w B R e (X.alloc o):=by obtain⟨s,vf,h1,h2,h3,h4,h5⟩:=h;have b:Below X.heap.size X (X.alloc o):=bl1 _;exact⟨s,vf,h1,q0c h2 b,q0o h3 b,h4,h5.trans (b.mono (Nat.le_trans hB h5.size))⟩
theorem u4z(w:World)(B:Nat)(s:HSh)(H:q0a)(o:OpD)(hM:HM w B s H)(hB:B<=w.heap.size)(hs:q0h H)(hoa:q0w o.a)(hz:q0l H o.a<0):
 Calls Tryz.prog 33 #[s.v,opV o] w λe w' =>q0z w B (z0Y H o.kind o.a) e w' :=by
 obtain⟨W,hW,BW,sW,F4,F5,FR,FA⟩:=z0S w (.slice s.oa s.os.length s.oc) (.slice s.wa s.wn s.wc) (.slice s.ba s.bn s.bc) (.slice s.sa s.sn s.sc) o;have MW:=q0c hM BW;have HM0:=hdx MW;have HBW:Hid (Below B w W):=BW.mono hB;have HF4:=hdx F4;have HF5:=hdx F5;have HFR:=hdx FR;have HFA:=hdx FA;have n2:¬q0u s (w.heap.size+1+1):=q0D hM (.inr (by omega));have n3:¬q0u s (w.heap.size+1+1+1):=q0D hM (.inr (by omega));have nx:¬q0u s w.heap.size:=q0D hM (.inr nl0);have HE:Hid (j5Q w B s):=j5S (by omega) n2 n3;rw[hsv];unfold opV;have CS:Hid (∀_:Unit,_):=λ(_:Unit)=>z0k s.v H o.a W (q0K MW) (by have:=hs.objs;omega) hoa.1 hoa.2;rw[hsv]at CS;have HR:Hid (z0Y H o.kind o.a=(H,⟨1,0,[]⟩)):=by show _=_;unfold z0Y;rw[if_pos hz];rfl
 rw[HR.out];generalize q0l H o.a=z at*;clear hM hs hoa HR MW F4 F5 FR FA BW;go_enter Tryz.func33,Tryz.ntmps33;go_wp2_with fail
 rw[<-hW];clear hW;refine(CS.out ()).mono ?_;rintro e w1 ⟨rfl,b1⟩;obtain⟨x0,x1,x2,x3⟩:=(HF4.out.later b1).cells;obtain⟨r0,r1,r2,r3⟩:=(HFR.out.later b1).cells;obtain⟨z0,z1,z2,z3⟩:=(HFR.out.later b1).frees;obtain⟨q0,q1,q2⟩:=(HFA.out.later b1).cells;obtain⟨y0,y1,y2⟩:=(HFA.out.later b1).frees;have HX:Hid _:=HE.out w1 H 1 0 (.slice s.oa s.os.length s.oc) (.slice s.wa s.wn s.wc) (.slice s.ba s.bn s.bc) (.slice s.sa s.sn s.sc) (.int .i64 1) (.int .i64 0) (.slice none 0 0) (HBW.out.trans (b1.mono (by have:=HBW.out.size;omega))) (q0c HM0.out b1);clear HF4 HF5 HFR HFA HM0 HBW HE CS b1;unfold q0g q0p at HX;go_wp2;exact bodyPost_ret (v:= .tuple #[.agg #[.slice s.oa s.os.length s.oc,.slice s.wa s.wn s.wc,.slice s.ba s.bn s.bc,.slice s.sa s.sn s.sc],q0m 1 0 (.slice none 0 0)]) (by simp[results,Tryz.results33,go_sem,q0m, *]) rfl HX.out
theorem j5V(kd:Int)(fo:Nat)(c:Int)(st:Int->q0E)(w:World)(B:Nat)(s:HSh)(H:q0a)(o:OpD)(hM:HM w B s H)(hB:B<=w.heap.size)(hs:q0h H)(hkd:o.kind=kd)(hoa:q0w o.a)(hw:∀z∈H.objs,∀x∈z.field,q0w x)(k:Nat)(hkl:k<H.objs.length)(hkf:(kd=2/\fo=3/\c=H.objs[k].holds)\/(kd=5/\fo=4/\c=H.objs[k].roots))(hT:y5x H k fo c st)(hHi:20<=c->z0Y H kd o.a=(H,⟨4,0,[]⟩))(hLo:¬20<=c->z0Y H kd o.a=(z0n (q0r H k (st (c+1))) o.a,⟨0,0,[]⟩))(ek:q0l H o.a=(k:Int))(hk8:k<8)(hlv:H.objs[k].live=true)(hb:(0<=H.objs[k].holds/\H.objs[k].holds<=20)/\0<=H.objs[k].roots/\H.objs[k].roots<=20):
 Calls Tryz.prog 33 #[s.v,opV o] w λe w' =>q0z w B (z0Y H kd o.a) e w' :=by
 obtain⟨W,hW,BW,sW,F4,F5,FR,FA⟩:=z0S w (.slice s.oa s.os.length s.oc) (.slice s.wa s.wn s.wc) (.slice s.ba s.bn s.bc) (.slice s.sa s.sn s.sc) o;have MW:=q0c hM BW;have HM0:=hdx MW;have HBW:Hid (Below B w W):=BW.mono hB;have HF4:=hdx F4;have HF5:=hdx F5;have HFR:=hdx FR;have HFA:=hdx FA;have n2:¬q0u s (w.heap.size+1+1):=q0D hM (.inr (by omega));have n3:¬q0u s (w.heap.size+1+1+1):=q0D hM (.inr (by omega));have nx:¬q0u s w.heap.size:=q0D hM (.inr nl0);have HE:Hid (j5Q w B s):=j5S (by omega) n2 n3;rw[hsv];unfold opV;have CS:Hid (∀_:Unit,_):=λ(_:Unit)=>z0k s.v H o.a W (q0K MW) (by have:=hs.objs;omega) hoa.1 hoa.2;rw[hsv]at CS;obtain⟨go,hgo,hgB,hgl⟩:=v0E MW k hkl;have hgn:go<w.heap.size:=(z0X hM (.inl ⟨_,hgo,rfl⟩)).2;obtain⟨hk2,-⟩:=z0o MW k hkl go hgo;rw[ek]at CS;have hlen:k<s.os.length:=hk2;have hki:(k:Int)<(s.os.length:Int):=by omega
 obtain⟨ob,hob⟩:∃ob,H.objs[k]=ob:=⟨_,rfl⟩;obtain⟨fa,hfa⟩:∃fa,s.os[k].f=fa:=⟨_,rfl⟩;obtain⟨fn,hfn⟩:∃fn,s.os[k].n=fn:=⟨_,rfl⟩;obtain⟨fc,hfc⟩:∃fc,s.os[k].c=fc:=⟨_,rfl⟩
 have HCC:Hid (∀X,Below W.heap.size W X->x0G X go (k*8) ob (.slice fa fn fc)/\∀q,q<8->X.frozen? ⟨go,k*8+q,none⟩=false):=λX hX=>by
  obtain⟨_,h1,h2⟩:=z0o (q0c MW hX) k hkl go hgo;rw[hob,hfa,hfn,hfc]at h1;exact⟨h1,h2⟩
 have HGO:=hdx hgo;have HOB:=hdx hob;have hg1:¬go=w.heap.size+1:=by omega
 have hg2:¬w.heap.size+1=go:=by omega
 have hg3:¬go=w.heap.size:=by omega
 have hg4:¬w.heap.size=go:=by omega
 have hg5:¬go=w.heap.size+1+1:=by omega
 have hg6:¬w.heap.size+1+1=go:=by omega
 have hg7:¬go=w.heap.size+1+1+1:=by omega
 have hg8:¬w.heap.size+1+1+1=go:=by omega
 rw[hob]at hb hlv hkf;have KK:Hid (∀X,Below W.heap.size W X->X.cell? ⟨w.heap.size+1,0,none⟩=some (.int .i64 kd)):=λX b1=>by have e:=(HF5.out.later b1).cell 0;rw[hkd]at e;exact e
 by_cases ht:20<=c
 ·have HR:Hid (_=_):=hHi ht;rw[HR.out];rw[hkd]at hW;clear hM hs hoa HR MW F4 F5 FR FA BW hgo hk2 hob hfa hfn hfc hkl hw ek hlv HOB hT hHi hLo;rw[hkd];rcases hkf with⟨rfl,hf,rfl⟩|⟨rfl,hf,rfl⟩
  all_goals
   go_enter Tryz.func33,Tryz.ntmps33;go_wp2_with fail
   rw[<-hW];clear hW;refine(CS.out ()).mono ?_;rintro e w1 ⟨rfl,b1⟩;obtain⟨⟨e0,e1,e2,e3,e4,e5,e6,e7⟩,hfz⟩:=HCC.out w1 b1;have hs1:=b1.size;have kk:=KK.out w1 b1;obtain⟨x0,x1,x2,x3⟩:=(HF4.out.later b1).cells;obtain⟨r0,r1,r2,r3⟩:=(HFR.out.later b1).cells;obtain⟨z0,z1,z2,z3⟩:=(HFR.out.later b1).frees;obtain⟨q0,q1,q2⟩:=(HFA.out.later b1).cells;obtain⟨y0,y1,y2⟩:=(HFA.out.later b1).frees;rw[HGO.out]at x0;have d1:w.heap.size<w1.heap.size:=by omega
   have d2:¬w.heap.size=w1.heap.size:=by omega
   have d3:w.heap.size+1<w1.heap.size:=by omega
   have d4:¬w.heap.size+1=w1.heap.size:=by omega
   have d5:w.heap.size+1+1<w1.heap.size:=by omega
   have d6:¬w.heap.size+1+1=w1.heap.size:=by omega
   have d7:w.heap.size+1+1+1<w1.heap.size:=by omega
   have d8:¬w.heap.size+1+1+1=w1.heap.size:=by omega
   have HX:Hid _:=u0q (.cells #[.bool ob.live,.int .i64 ob.gen,.int .i64 ob.site,.int .i64 ob.holds,.int .i64 ob.roots,.int .i64 ob.count,.slice fa fn fc,.bool ob.purple] 90) hB (HE.out w1 H 4 0 (.slice s.oa s.os.length s.oc) (.slice s.wa s.wn s.wc) (.slice s.ba s.bn s.bc) (.slice s.sa s.sn s.sc) (.int .i64 4) (.int .i64 0) (.slice none 0 0) (HBW.out.trans (b1.mono (by have:=HBW.out.size;omega))) (q0c HM0.out b1));rw[HGO.out]at HX;clear hfz HCC HF4 HF5 HFR HFA HM0 HBW HE b1 CS HGO;unfold q0g q0p at HX;go_wp2;exact bodyPost_ret (v:= .tuple #[.agg #[.slice (some ⟨go,0,none⟩) s.os.length s.oc,.slice s.wa s.wn s.wc,.slice s.ba s.bn s.bc,.slice s.sa s.sn s.sc],q0m 4 0 (.slice none 0 0)]) (by simp[results,Tryz.results33,go_sem,q0m, *]) rfl HX.out
 ·obtain⟨M,hMc⟩:∃M,c+1=M:=⟨_,rfl⟩;have HMC:Hid (c+1=M):=hMc;have HR:Hid (_=_):=hLo ht;rw[hMc]at HR;have ht2:¬20<=c:=ht;have HSM:Hid (q0h (q0r H k (st M))):=hT.small hs M;have HWF:Hid (∀z∈(q0r H k (st M)).objs,∀x∈z.field,q0w x):=hT.wf hw M;have HSET:Hid (∀X,Below W.heap.size W X->HM (X.setCell ⟨go,k*8+fo,none⟩ (.int .i64 M)) B s (q0r H k (st M))):=λX hX=>hT.set X B s go M (q0c MW hX) hgo;rw[HR.out];obtain⟨H1,hH1⟩:∃H1,q0r H k (st M)=H1:=⟨_,rfl⟩;rw[hH1]at HSM HWF HSET ⊢;have hq1:0<=ob.holds/\ob.holds<=20:=hb.1;have hq2:0<=ob.roots/\ob.roots<=20:=hb.2;have hq3:c<20:=by omega
  have HOA:=hdx hoa;rw[hkd]at hW;clear hM hs hoa HR MW F4 F5 FR FA BW hgo hk2 hob hfa hfn hfc hkl hw ek hlv HOB hT hHi hLo hMc hH1 hb ht ht2;rw[hkd];rcases hkf with⟨rfl,hf,rfl⟩|⟨rfl,hf,rfl⟩
  all_goals
   go_enter Tryz.func33,Tryz.ntmps33;go_wp2_with fail
   rw[<-hW];clear hW;refine(CS.out ()).mono ?_;rintro e w1 ⟨rfl,b1⟩;obtain⟨⟨e0,e1,e2,e3,e4,e5,e6,e7⟩,hfz⟩:=HCC.out w1 b1;have hs1:=b1.size;have n0:=hfz fo (by omega);rw[hf]at n0;have kk:=KK.out w1 b1;have ka:w1.cell? ⟨w.heap.size+1,1,none⟩=some (.int .i64 o.a):=(HF5.out.later b1).cell 1;obtain⟨x0,x1,x2,x3⟩:=(HF4.out.later b1).cells;rw[HGO.out]at x0;have d1:w.heap.size<w1.heap.size:=by omega
   have d2:¬w.heap.size=w1.heap.size:=by omega
   have d3:w.heap.size+1<w1.heap.size:=by omega
   have d4:¬w.heap.size+1=w1.heap.size:=by omega
   have d5:go<w1.heap.size:=by omega
   have d6:¬go=w1.heap.size:=by omega
   obtain⟨w2,hw2⟩:∃w2,w2=(w1.setCell ⟨go,k*8+fo,none⟩ (.int .i64 M)).alloc (.cells #[.bool ob.live,.int .i64 ob.gen,.int .i64 ob.site,.int .i64 ob.holds,.int .i64 ob.roots,.int .i64 ob.count,.slice fa fn fc,.bool ob.purple] 90):=⟨_,rfl⟩;have bA:Below (w1.setCell ⟨go,k*8+fo,none⟩ (.int .i64 M)).heap.size (w1.setCell ⟨go,k*8+fo,none⟩ (.int .i64 M)) w2:=by rw[hw2];exact bl1 _
   have sA:(w1.setCell ⟨go,k*8+fo,none⟩ (.int .i64 M)).heap.size=w1.heap.size:=by simp[World.setCell]
   have s2:w2.heap.size=w1.heap.size+1:=by rw[hw2];simp[World.setCell]
   have HM2:Hid (HM w2 B s H1):=q0c (HSET.out w1 b1) bA;have oth:∀i,i<w1.heap.size->i≠go->w2.heap[i]? =w1.heap[i]?:=λi hi hne=>by rw[bA.block i (by omega)];exact heap_setCell_other _ _ _ _ (by exact hne)
   have HFR2:Hid (q0d w2 (w.heap.size+1+1) (.slice none 0 0) (.slice none 0 0) (.slice none 0 0) (.slice none 0 0)):=(HFR.out.later b1).same (oth _ (by omega) hg6);have HFA2:Hid (q0k w2 (w.heap.size+1+1+1) (.int .i64 0) (.int .i64 0) (.slice none 0 0)):=(HFA.out.later b1).same (oth _ (by omega) hg8);have HB2:Hid (Below B w w2):=(((HBW.out.trans (b1.mono (by have:=HBW.out.size;omega))).setCell (by exact hgB) _).trans (bA.mono (by have:=HBW.out.size;omega)));have HS2:Hid (w.heap.size+1+1+1<w2.heap.size):=by show _<_;omega
   have HBS:Hid (B<=w2.heap.size):=by have:=HBW.out.size;show _<=_;omega
   have CG:Hid (∀_:Unit,_):=λ(_:Unit)=>y1P s.v H1 o.a w2 (q0K HM2.out) HSM.out HOA.out;rw[hsv,HGO.out]at CG;clear hfz HCC HF4 HF5 HFR HFA HM0 HBW HE b1 CS HGO HSET HSM HWF HOA bA oth HM2;rw[hf]at hw2;go_wp2_with fail
   rw[HMC.out,<-hw2];clear hw2 HMC e0 e1 e2 e3 e4 e5 e6 e7 x0 x1 x2 x3 kk ka n0;refine(CG.out ()).mono ?_;rintro e w3 ⟨s1,rfl,M3,b3⟩;have hs3:=b3.size;have HX:Hid _:=z0W (w:=w) (n:=w.heap.size+1+1) (c:=0) (v:=0) (HB2.out.trans (b3.mono HBS.out)) (z0G M3 HBS.out) (by omega) (q0D M3 (.inl (by have:=HS2.out;omega))) (q0D M3 (.inl HS2.out)) (.slice s1.oa s1.os.length s1.oc) (.slice s1.wa s1.wn s1.wc) (.slice s1.ba s1.bn s1.bc) (.slice s1.sa s1.sn s1.sc) (.int .i64 0) (.int .i64 0) (.slice none 0 0);obtain⟨r0,r1,r2,r3⟩:=(HFR2.out.later b3).cells;obtain⟨z0,z1,z2,z3⟩:=(HFR2.out.later b3).frees;obtain⟨q0,q1,q2⟩:=(HFA2.out.later b3).cells;obtain⟨y0,y1,y2⟩:=(HFA2.out.later b3).frees;rw[hsv];rw[hsv]at HX;clear HFR2 HFA2 HB2 HS2 HBS CG M3 b3;unfold q0g q0p at HX;go_wp2;exact bodyPost_ret (v:= .tuple #[.agg #[.slice s1.oa s1.os.length s1.oc,.slice s1.wa s1.wn s1.wc,.slice s1.ba s1.bn s1.bc,.slice s1.sa s1.sn s1.sc],q0m 0 0 (.slice none 0 0)]) (by simp[results,Tryz.results33,go_sem,q0m, *]) rfl HX.out
theorem j5T(kd:Int)(fo:Nat)(c:Int)(st:Int->q0E)(w:World)(B:Nat)(s:HSh)(H:q0a)(o:OpD)(hM:HM w B s H)(hB:B<=w.heap.size)(hs:q0h H)(hkd:o.kind=kd)(hoa:q0w o.a)(hw:∀z∈H.objs,∀x∈z.field,q0w x)(k:Nat)(hkl:k<H.objs.length)(hkf:(kd=3/\fo=3/\c=H.objs[k].holds)\/(kd=6/\fo=4/\c=H.objs[k].roots))(hT:y5x H k fo c st)(hHi:c<1->z0Y H kd o.a=(H,⟨5,0,[]⟩))(hLo:¬c<1->z0Y H kd o.a=j0h (q0r H k (st (c - 1))) o.a)(ek:q0l H o.a=(k:Int))(hk8:k<8)(hlv:H.objs[k].live=true)(hb:(0<=H.objs[k].holds/\H.objs[k].holds<=20)/\0<=H.objs[k].roots/\H.objs[k].roots<=20):
 Calls Tryz.prog 33 #[s.v,opV o] w λe w' =>q0z w B (z0Y H kd o.a) e w' :=by
 obtain⟨W,hW,BW,sW,F4,F5,FR,FA⟩:=z0S w (.slice s.oa s.os.length s.oc) (.slice s.wa s.wn s.wc) (.slice s.ba s.bn s.bc) (.slice s.sa s.sn s.sc) o;have MW:=q0c hM BW;have HM0:=hdx MW;have HBW:Hid (Below B w W):=BW.mono hB;have HF4:=hdx F4;have HF5:=hdx F5;have HFR:=hdx FR;have HFA:=hdx FA;have n2:¬q0u s (w.heap.size+1+1):=q0D hM (.inr (by omega));have n3:¬q0u s (w.heap.size+1+1+1):=q0D hM (.inr (by omega));have nx:¬q0u s w.heap.size:=q0D hM (.inr nl0);have HE:Hid (j5Q w B s):=j5S (by omega) n2 n3;rw[hsv];unfold opV;have CS:Hid (∀_:Unit,_):=λ(_:Unit)=>z0k s.v H o.a W (q0K MW) (by have:=hs.objs;omega) hoa.1 hoa.2;rw[hsv]at CS;obtain⟨go,hgo,hgB,hgl⟩:=v0E MW k hkl;have hgn:go<w.heap.size:=(z0X hM (.inl ⟨_,hgo,rfl⟩)).2;obtain⟨hk2,-⟩:=z0o MW k hkl go hgo;rw[ek]at CS;have hlen:k<s.os.length:=hk2;have hki:(k:Int)<(s.os.length:Int):=by omega
 obtain⟨ob,hob⟩:∃ob,H.objs[k]=ob:=⟨_,rfl⟩;obtain⟨fa,hfa⟩:∃fa,s.os[k].f=fa:=⟨_,rfl⟩;obtain⟨fn,hfn⟩:∃fn,s.os[k].n=fn:=⟨_,rfl⟩;obtain⟨fc,hfc⟩:∃fc,s.os[k].c=fc:=⟨_,rfl⟩
 have HCC:Hid (∀X,Below W.heap.size W X->x0G X go (k*8) ob (.slice fa fn fc)/\∀q,q<8->X.frozen? ⟨go,k*8+q,none⟩=false):=λX hX=>by
  obtain⟨_,h1,h2⟩:=z0o (q0c MW hX) k hkl go hgo;rw[hob,hfa,hfn,hfc]at h1;exact⟨h1,h2⟩
 have HGO:=hdx hgo;have HOB:=hdx hob;have hg1:¬go=w.heap.size+1:=by omega
 have hg2:¬w.heap.size+1=go:=by omega
 have hg3:¬go=w.heap.size:=by omega
 have hg4:¬w.heap.size=go:=by omega
 have hg5:¬go=w.heap.size+1+1:=by omega
 have hg6:¬w.heap.size+1+1=go:=by omega
 have hg7:¬go=w.heap.size+1+1+1:=by omega
 have hg8:¬w.heap.size+1+1+1=go:=by omega
 rw[hob]at hb hlv hkf;have KK:Hid (∀X,Below W.heap.size W X->X.cell? ⟨w.heap.size+1,0,none⟩=some (.int .i64 kd)):=λX b1=>by have e:=(HF5.out.later b1).cell 0;rw[hkd]at e;exact e
 by_cases ht:c<1
 ·have HR:Hid (_=_):=hHi ht;rw[HR.out];rw[hkd]at hW;clear hM hs hoa HR MW F4 F5 FR FA BW hgo hk2 hob hfa hfn hfc hkl hw ek hlv HOB hT hHi hLo;rw[hkd];rcases hkf with⟨rfl,hf,rfl⟩|⟨rfl,hf,rfl⟩
  all_goals
   go_enter Tryz.func33,Tryz.ntmps33;go_wp2_with fail
   rw[<-hW];clear hW;refine(CS.out ()).mono ?_;rintro e w1 ⟨rfl,b1⟩;obtain⟨⟨e0,e1,e2,e3,e4,e5,e6,e7⟩,hfz⟩:=HCC.out w1 b1;have hs1:=b1.size;have kk:=KK.out w1 b1;obtain⟨x0,x1,x2,x3⟩:=(HF4.out.later b1).cells;obtain⟨r0,r1,r2,r3⟩:=(HFR.out.later b1).cells;obtain⟨z0,z1,z2,z3⟩:=(HFR.out.later b1).frees;obtain⟨q0,q1,q2⟩:=(HFA.out.later b1).cells;obtain⟨y0,y1,y2⟩:=(HFA.out.later b1).frees;rw[HGO.out]at x0;have d1:w.heap.size<w1.heap.size:=by omega
   have d2:¬w.heap.size=w1.heap.size:=by omega
   have d3:w.heap.size+1<w1.heap.size:=by omega
   have d4:¬w.heap.size+1=w1.heap.size:=by omega
   have d5:w.heap.size+1+1<w1.heap.size:=by omega
   have d6:¬w.heap.size+1+1=w1.heap.size:=by omega
   have d7:w.heap.size+1+1+1<w1.heap.size:=by omega
   have d8:¬w.heap.size+1+1+1=w1.heap.size:=by omega
   have HX:Hid _:=u0q (.cells #[.bool ob.live,.int .i64 ob.gen,.int .i64 ob.site,.int .i64 ob.holds,.int .i64 ob.roots,.int .i64 ob.count,.slice fa fn fc,.bool ob.purple] 90) hB (HE.out w1 H 5 0 (.slice s.oa s.os.length s.oc) (.slice s.wa s.wn s.wc) (.slice s.ba s.bn s.bc) (.slice s.sa s.sn s.sc) (.int .i64 5) (.int .i64 0) (.slice none 0 0) (HBW.out.trans (b1.mono (by have:=HBW.out.size;omega))) (q0c HM0.out b1));rw[HGO.out]at HX;clear hfz HCC HF4 HF5 HFR HFA HM0 HBW HE b1 CS HGO;unfold q0g q0p at HX;go_wp2;exact bodyPost_ret (v:= .tuple #[.agg #[.slice (some ⟨go,0,none⟩) s.os.length s.oc,.slice s.wa s.wn s.wc,.slice s.ba s.bn s.bc,.slice s.sa s.sn s.sc],q0m 5 0 (.slice none 0 0)]) (by simp[results,Tryz.results33,go_sem,q0m, *]) rfl HX.out
 ·obtain⟨M,hMc⟩:∃M,c - 1=M:=⟨_,rfl⟩;have HMC:Hid (c - 1=M):=hMc;have HR:Hid (_=_):=hLo ht;rw[hMc]at HR;have ht2:¬c<1:=ht;have HSM:Hid (q0h (q0r H k (st M))):=hT.small hs M;have HWF:Hid (∀z∈(q0r H k (st M)).objs,∀x∈z.field,q0w x):=hT.wf hw M;have HSET:Hid (∀X,Below W.heap.size W X->HM (X.setCell ⟨go,k*8+fo,none⟩ (.int .i64 M)) B s (q0r H k (st M))):=λX hX=>hT.set X B s go M (q0c MW hX) hgo;rw[HR.out];obtain⟨H1,hH1⟩:∃H1,q0r H k (st M)=H1:=⟨_,rfl⟩;rw[hH1]at HSM HWF HSET ⊢;have hq1:0<=ob.holds/\ob.holds<=20:=hb.1;have hq2:0<=ob.roots/\ob.roots<=20:=hb.2;have hq3:1<=c:=by omega
  have HOA:=hdx hoa;rw[hkd]at hW;clear hM hs hoa HR MW F4 F5 FR FA BW hgo hk2 hob hfa hfn hfc hkl hw ek hlv HOB hT hHi hLo hMc hH1 hb ht ht2;rw[hkd];rcases hkf with⟨rfl,hf,rfl⟩|⟨rfl,hf,rfl⟩
  all_goals
   go_enter Tryz.func33,Tryz.ntmps33;go_wp2_with fail
   rw[<-hW];clear hW;refine(CS.out ()).mono ?_;rintro e w1 ⟨rfl,b1⟩;obtain⟨⟨e0,e1,e2,e3,e4,e5,e6,e7⟩,hfz⟩:=HCC.out w1 b1;have hs1:=b1.size;have n0:=hfz fo (by omega);rw[hf]at n0;have kk:=KK.out w1 b1;have ka:w1.cell? ⟨w.heap.size+1,1,none⟩=some (.int .i64 o.a):=(HF5.out.later b1).cell 1;obtain⟨x0,x1,x2,x3⟩:=(HF4.out.later b1).cells;rw[HGO.out]at x0;have d1:w.heap.size<w1.heap.size:=by omega
   have d2:¬w.heap.size=w1.heap.size:=by omega
   have d3:w.heap.size+1<w1.heap.size:=by omega
   have d4:¬w.heap.size+1=w1.heap.size:=by omega
   have d5:go<w1.heap.size:=by omega
   have d6:¬go=w1.heap.size:=by omega
   obtain⟨w2,hw2⟩:∃w2,w2=(w1.setCell ⟨go,k*8+fo,none⟩ (.int .i64 M)).alloc (.cells #[.bool ob.live,.int .i64 ob.gen,.int .i64 ob.site,.int .i64 ob.holds,.int .i64 ob.roots,.int .i64 ob.count,.slice fa fn fc,.bool ob.purple] 90):=⟨_,rfl⟩;have bA:Below (w1.setCell ⟨go,k*8+fo,none⟩ (.int .i64 M)).heap.size (w1.setCell ⟨go,k*8+fo,none⟩ (.int .i64 M)) w2:=by rw[hw2];exact bl1 _
   have sA:(w1.setCell ⟨go,k*8+fo,none⟩ (.int .i64 M)).heap.size=w1.heap.size:=by simp[World.setCell]
   have s2:w2.heap.size=w1.heap.size+1:=by rw[hw2];simp[World.setCell]
   have HM2:Hid (HM w2 B s H1):=q0c (HSET.out w1 b1) bA;have oth:∀i,i<w1.heap.size->i≠go->w2.heap[i]? =w1.heap[i]?:=λi hi hne=>by rw[bA.block i (by omega)];exact heap_setCell_other _ _ _ _ (by exact hne)
   have HFR2:Hid (q0d w2 (w.heap.size+1+1) (.slice none 0 0) (.slice none 0 0) (.slice none 0 0) (.slice none 0 0)):=(HFR.out.later b1).same (oth _ (by omega) hg6);have HFA2:Hid (q0k w2 (w.heap.size+1+1+1) (.int .i64 0) (.int .i64 0) (.slice none 0 0)):=(HFA.out.later b1).same (oth _ (by omega) hg8);have HB2:Hid (Below B w w2):=(((HBW.out.trans (b1.mono (by have:=HBW.out.size;omega))).setCell (by exact hgB) _).trans (bA.mono (by have:=HBW.out.size;omega)));have HS2:Hid (w.heap.size+1+1+1<w2.heap.size):=by show _<_;omega
   have HBS:Hid (B<=w2.heap.size):=by have:=HBW.out.size;show _<=_;omega
   obtain⟨w4,hw4⟩:∃w4,w4=w2.alloc (.cells #[.int .i64 o.a] 3):=⟨_,rfl⟩;have b4:Below w2.heap.size w2 w4:=by rw[hw4];exact bl1 _
   have s4:w4.heap.size=w2.heap.size+1:=by rw[hw4];simp
   have hri:RdI w4 (some ⟨w2.heap.size,0,none⟩) [o.a]:=by
    intro j hj;obtain rfl:j=0:=by simpa using hj
    refine⟨w2.heap.size,0,rfl,by omega,?_⟩;rw[hw4,World.cell?_alloc_mark];rfl
   have CG:Hid (∀_:Unit,_):=λ(_:Unit)=>x1P s.v H1 (some ⟨w2.heap.size,0,none⟩) 1 [o.a] w4 (q0K (q0c HM2.out b4)) HSM.out HWF.out hri (by simp) (λx hx=>by simp at hx;subst hx;exact HOA.out);rw[show([o.a]:List Int).length=1 from rfl,hsv,HGO.out]at CG;rw[s2]at CG;have HB4:Hid (Below B w w4):=HB2.out.trans (b4.mono HBS.out);have HFR4:Hid (q0d w4 (w.heap.size+1+1) (.slice none 0 0) (.slice none 0 0) (.slice none 0 0) (.slice none 0 0)):=HFR2.out.later b4;have HFA4:Hid (q0k w4 (w.heap.size+1+1+1) (.int .i64 0) (.int .i64 0) (.slice none 0 0)):=HFA2.out.later b4;have HS4:Hid (w.heap.size+1+1+1<w4.heap.size):=by have:=HS2.out;show _<_;omega
   have HBS4:Hid (B<=w4.heap.size):=by have:=HBS.out;show _<=_;omega
   clear hfz HCC HF4 HF5 HFR HFA HM0 HBW HE b1 CS HGO HSET HSM HWF HOA bA oth HM2 hri b4;rw[hf]at hw2;go_wp2_with fail
   rw[HMC.out];rw[<-hw2,<-hw4];clear hw4 hw2 e0 e1 e2 e3 e4 e5 e6 e7 x0 x1 x2 x3 kk ka n0;refine(CG.out ()).mono ?_;rintro e w3 ⟨s9,vf,rfl,M3,f3,dd3,b3⟩;obtain⟨fa3,fc3,rfl,-⟩:=q0Y f3;have hs3:=b3.size;have HX:Hid _:=u0q (.cells #[.slice s9.oa s9.os.length s9.oc,.slice s9.wa s9.wn s9.wc,.slice s9.ba s9.bn s9.bc,.slice s9.sa s9.sn s9.sc] 35) hB (y0K (w:=w) (n:=w.heap.size+1+1) (c:=0) (v:=0) (HB4.out.trans (b3.mono HBS4.out)) (z0G M3 HBS4.out) (q0A f3 HBS4.out) dd3 (by omega) (q0D M3 (.inl (by have:=HS4.out;omega))) (q0D M3 (.inl HS4.out)) (λe=>by have:=(q0n f3 _ e).1;have:=HS4.out;omega) (λe=>by have:=(q0n f3 _ e).1;have:=HS4.out;omega) (.slice s9.oa s9.os.length s9.oc) (.slice s9.wa s9.wn s9.wc) (.slice s9.ba s9.bn s9.bc) (.slice s9.sa s9.sn s9.sc) (.int .i64 0) (.int .i64 0) (.slice fa3 (z0F H1 [o.a]).2.length fc3));obtain⟨r0,r1,r2,r3⟩:=(HFR4.out.later b3).cells;obtain⟨z0,z1,z2,z3⟩:=(HFR4.out.later b3).frees;obtain⟨q0,q1,q2⟩:=(HFA4.out.later b3).cells;obtain⟨y0,y1,y2⟩:=(HFA4.out.later b3).frees;have m1:w.heap.size+1+1<w3.heap.size:=by have:=HS4.out;omega
   have m2:¬w.heap.size+1+1=w3.heap.size:=by omega
   have m3:w.heap.size+1+1+1<w3.heap.size:=by have:=HS4.out;omega
   have m4:¬w.heap.size+1+1+1=w3.heap.size:=by omega
   rw[hsv];rw[hsv]at HX;clear HFR4 HFA4 HB4 HS4 HBS4 CG M3 f3 dd3 b3 HFR2 HFA2 HB2 HS2 HBS;unfold q0g q0p at HX;go_wp2;exact bodyPost_ret (v:= .tuple #[.agg #[.slice s9.oa s9.os.length s9.oc,.slice s9.wa s9.wn s9.wc,.slice s9.ba s9.bn s9.bc,.slice s9.sa s9.sn s9.sc],q0m 0 0 (.slice fa3 (z0F H1 [o.a]).2.length fc3)]) (by simp[results,Tryz.results33,go_sem,q0m, *]) rfl HX.out
end
section
open Go.RowKit
theorem v4T(w:World)(B:Nat)(s:HSh)(H:q0a)(o:OpD)(hM:HM w B s H)(hB:B<=w.heap.size)(hs:q0h H)(hkd:o.kind=7)(hoa:q0w o.a)(hz:q0l H o.a<0):
 Calls Tryz.prog 35 #[s.v,opV o] w λe w' =>q0z w B (j0Y H o.a) e w' :=by
 obtain⟨W,hW,BW,sW,F4,F5,FR,FA⟩:=z0S w (.slice s.oa s.os.length s.oc) (.slice s.wa s.wn s.wc) (.slice s.ba s.bn s.bc) (.slice s.sa s.sn s.sc) o;have MW:=q0c hM BW;have HM0:=hdx MW;have HBW:Hid (Below B w W):=BW.mono hB;have HF4:=hdx F4;have HF5:=hdx F5;have HFR:=hdx FR;have HFA:=hdx FA;have n2:¬q0u s (w.heap.size+1+1):=q0D hM (.inr (by omega));have n3:¬q0u s (w.heap.size+1+1+1):=q0D hM (.inr (by omega));have nx:¬q0u s w.heap.size:=q0D hM (.inr nl0);have HE:Hid (j5Q w B s):=j5S (by omega) n2 n3;rw[hsv];unfold opV;have CS:Hid (∀_:Unit,_):=λ(_:Unit)=>z0k s.v H o.a W (q0K MW) (by have:=hs.objs;omega) hoa.1 hoa.2;rw[hsv]at CS;have HR:Hid (j0Y H o.a=(H,⟨1,0,[]⟩)):=by show _=_;unfold j0Y;rw[if_pos hz];rfl
 rw[HR.out];generalize q0l H o.a=z at*;rw[hkd]at hW;rw[hkd];clear hM hs MW F4 F5 FR FA BW hoa HR;go_enter Tryz.func35,Tryz.ntmps35;go_wp2_with fail
 rw[<-hW];clear hW;refine(CS.out ()).mono ?_;rintro e w1 ⟨rfl,b1⟩;obtain⟨x0,x1,x2,x3⟩:=(HF4.out.later b1).cells;obtain⟨r0,r1,r2,r3⟩:=(HFR.out.later b1).cells;obtain⟨z0,z1,z2,z3⟩:=(HFR.out.later b1).frees;obtain⟨q0,q1,q2⟩:=(HFA.out.later b1).cells;obtain⟨y0,y1,y2⟩:=(HFA.out.later b1).frees;have HX:Hid _:=HE.out w1 H 1 0 (.slice s.oa s.os.length s.oc) (.slice s.wa s.wn s.wc) (.slice s.ba s.bn s.bc) (.slice s.sa s.sn s.sc) (.int .i64 1) (.int .i64 0) (.slice none 0 0) (HBW.out.trans (b1.mono (by have:=HBW.out.size;omega))) (q0c HM0.out b1);clear HF4 HF5 HFR HFA HM0 HBW HE CS b1;unfold q0g q0p at HX;go_wp2;exact bodyPost_ret (v:= .tuple #[.agg #[.slice s.oa s.os.length s.oc,.slice s.wa s.wn s.wc,.slice s.ba s.bn s.bc,.slice s.sa s.sn s.sc],q0m 1 0 (.slice none 0 0)]) (by simp[results,Tryz.results35,go_sem,q0m, *]) rfl HX.out
theorem z5t(w:World)(B:Nat)(s:HSh)(H:q0a)(o:OpD)(hM:HM w B s H)(hB:B<=w.heap.size)(hs:q0h H)(hkd:o.kind=7)(hoa:q0w o.a)(hz:0<=q0l H o.a)(h8w:H.weaks.length=8):
 Calls Tryz.prog 35 #[s.v,opV o] w λe w' =>q0z w B (j0Y H o.a) e w' :=by
 obtain⟨W,hW,BW,sW,F4,F5,FR,FA⟩:=z0S w (.slice s.oa s.os.length s.oc) (.slice s.wa s.wn s.wc) (.slice s.ba s.bn s.bc) (.slice s.sa s.sn s.sc) o;have MW:=q0c hM BW;have HM0:=hdx MW;have HBW:Hid (Below B w W):=BW.mono hB;have HF4:=hdx F4;have HF5:=hdx F5;have HFR:=hdx FR;have HFA:=hdx FA;have n2:¬q0u s (w.heap.size+1+1):=q0D hM (.inr (by omega));have n3:¬q0u s (w.heap.size+1+1+1):=q0D hM (.inr (by omega));have nx:¬q0u s w.heap.size:=q0D hM (.inr nl0);have HE:Hid (j5Q w B s):=j5S (by omega) n2 n3;rw[hsv];unfold opV;have CS:Hid (∀_:Unit,_):=λ(_:Unit)=>z0k s.v H o.a W (q0K MW) (by have:=hs.objs;omega) hoa.1 hoa.2;rw[hsv]at CS;obtain⟨gw,hgw,-,-⟩:=MW.wk 0 (by omega);have hgwl:=(MW.wg _ hgw).2;have hgwB:=(MW.wg _ hgw).1;have hgwn:gw<w.heap.size:=(hM.wg _ hgw).2;have HGW:Hid (s.wa=some ⟨gw,0,none⟩):=hgw;have HWN:Hid (s.wn=8):=by show _=_;rw[MW.lw];exact h8w
 have HWK:Hid (∀X,Below W.heap.size W X->∀j(h:j<H.weaks.length),j0y X gw (j*2) H.weaks[j]/\∀q,q<2->X.frozen? ⟨gw,j*2+q,none⟩=false):=λX hX j h=>by
  obtain⟨g2,e1,e2,e3⟩:=(q0c MW hX).wk j h;rw[hgw]at e1;injection e1 with e1;injection e1 with e1 _ _;subst e1;exact⟨e2,e3⟩
 have HSET:Hid (∀X j(h:j<H.weaks.length)d,Below W.heap.size W X->HM (z0y X gw (j*2) d) B s {H with weaks:=H.weaks.set j d}):=λX j h d hX=>j1J (q0c MW hX) j h gw hgw d;have hg2:¬gw=w.heap.size:=by omega
 have hg3:¬w.heap.size=gw:=by omega
 have hg4:¬gw=w.heap.size+1+1:=by omega
 have hg5:¬w.heap.size+1+1=gw:=by omega
 have hg6:¬gw=w.heap.size+1+1+1:=by omega
 have hg7:¬w.heap.size+1+1+1=gw:=by omega
 have H0:Hid (v0l H.weaks 0=v0l (H.weaks.drop 0) ((0:Nat):Int)):=rfl;have HS:Hid (∀(j:Nat)(h:j<H.weaks.length),v0l (H.weaks.drop j) (j:Int)=_):=λj h=>y2V H.weaks j h;have HN:Hid (v0l (H.weaks.drop H.weaks.length) (H.weaks.length:Int)= -1):=q3q H.weaks _
 have HR:Hid (j0Y H o.a=if v0l H.weaks 0<0 then(H,⟨3,0,[]⟩)else({H with weaks:=H.weaks.set (v0l H.weaks 0).toNat ⟨true,o.a⟩},⟨0,v0l H.weaks 0,[]⟩)):=by show _=_;unfold j0Y;rw[if_neg (by omega)];rfl
 obtain⟨R,hR⟩:∃R,j0Y H o.a=R:=⟨_,rfl⟩;have HRR:Hid (j0Y H o.a=R):=hR;rw[hR];have HN8:Hid (H.weaks.length=8):=h8w;generalize q0l H o.a=z at*;generalize v0l H.weaks 0=fz at*;rw[hkd]at hW;rw[hkd];clear hM hs MW F4 F5 FR FA BW hoa hR hgw h8w;go_enter Tryz.func35,Tryz.ntmps35;go_wp2_with fail
 rw[<-hW];clear hW;refine(CS.out ()).mono ?_;rintro e w1 ⟨rfl,b1⟩;have HB1:Hid (Below W.heap.size W w1):=b1;have ka:w1.cell? ⟨w.heap.size+1,1,none⟩=some (.int .i64 o.a):=(HF5.out.later b1).cell 1;obtain⟨x0,x1,x2,x3⟩:=(HF4.out.later b1).cells;obtain⟨r0,r1,r2,r3⟩:=(HFR.out.later b1).cells;obtain⟨z0,z1,z2,z3⟩:=(HFR.out.later b1).frees;obtain⟨q0,q1,q2⟩:=(HFA.out.later b1).cells;obtain⟨y0,y1,y2⟩:=(HFA.out.later b1).frees;rw[HGW.out,HWN.out]at x1;clear CS b1;go_wp2;go_loop [6] (λi=>∃j:Nat,j<=8/\i= .int .i64 (j:Int)/\Hid (fz=v0l (H.weaks.drop j) (j:Int))) (λi=>8 - (intOf i).toNat)
 case atStart=>exact⟨0,by omega,rfl,H0⟩
 case round=>
  obtain⟨j,hj8,rfl,HJ⟩:=hrel;by_cases hlt:j<8
  ·have hjw:j<H.weaks.length:=by have:=HN8.out;omega
   obtain⟨⟨d0,d1⟩,hfz⟩:=HWK.out w1 HB1.out j hjw;have HD:=HS.out j hjw;have e0:=hfz 0 (by omega);have e1:=hfz 1 (by omega);rw[Nat.add_zero]at e0;have hji:(j:Int)<8:=by omega
   obtain⟨du,hdu⟩:∃u,H.weaks[j].used=u:=⟨_,rfl⟩;obtain⟨dt,hdt⟩:∃u,H.weaks[j].target=u:=⟨_,rfl⟩;rw[hdu]at d0;rw[hdt]at d1
   cases du with
   |true=>
    have HFIN:Hid (fz=v0l (H.weaks.drop (j+1)) ((j+1:Nat):Int)):=by show _=_;rw[HJ.out,HD];simp[hdu]
    clear HD hdu hdt hfz;go_wp2;go_round
    case rel=>exact⟨j+1,by omega,by go_num,HFIN⟩
    case measure=>simp[intOf];omega
   |false=>
    have hfz2:fz=(j:Int):=by rw[HJ.out,HD];simp[hdu]
    have HR2:Hid (R=({H with weaks:=H.weaks.set j ⟨true,o.a⟩},⟨0,(j:Int),[]⟩)):=by show _=_;rw[<-HRR.out,HR.out,hfz2,if_neg (by omega)];rfl
    have b1:=HB1.out;have HX0:=HE.out (z0y w1 gw (j*2) ⟨true,o.a⟩) {H with weaks:=H.weaks.set j ⟨true,o.a⟩} 0 (j:Int) (.slice s.oa s.os.length s.oc) (.slice s.wa s.wn s.wc) (.slice s.ba s.bn s.bc) (.slice s.sa s.sn s.sc) (.int .i64 0) (.int .i64 (j:Int)) (.slice none 0 0) (by unfold z0y;exact((HBW.out.trans (b1.mono (by have:=HBW.out.size;omega))).setCell (by exact hgwB) _).setCell (by exact hgwB) _) (HSET.out w1 j hjw ⟨true,o.a⟩ b1);rw[<-HR2.out,HGW.out,HWN.out]at HX0;have HX:Hid _:=HX0;clear HF4 HF5 HFR HFA HM0 HBW HE HGW HWN HWK HSET HD hdu hdt hfz hfz2 HR2 b1 HX0 HRR HR HJ HS HN H0 HB1 HN8;unfold q0g q0p z0y at HX;go_wp2;exact bodyPost_ret (v:= .tuple #[.agg #[.slice s.oa s.os.length s.oc,.slice (some ⟨gw,0,none⟩) 8 s.wc,.slice s.ba s.bn s.bc,.slice s.sa s.sn s.sc],q0m 0 (j:Int) (.slice none 0 0)]) (by simp[results,Tryz.results35,go_sem,q0m, *]) rfl HX.out
  ·obtain rfl:j=8:=by omega
   have hfz2:fz= -1:=by rw[HJ.out,<-HN8.out,HN.out]
   have HR2:Hid (R=(H,⟨3,0,[]⟩)):=by show _=_;rw[<-HRR.out,HR.out,hfz2,if_pos (by omega)]
   have b1:=HB1.out;have HX0:=HE.out w1 H 3 0 (.slice s.oa s.os.length s.oc) (.slice s.wa s.wn s.wc) (.slice s.ba s.bn s.bc) (.slice s.sa s.sn s.sc) (.int .i64 3) (.int .i64 0) (.slice none 0 0) (HBW.out.trans (b1.mono (by have:=HBW.out.size;omega))) (q0c HM0.out b1);rw[<-HR2.out,HGW.out,HWN.out]at HX0;have HX:Hid _:=HX0;clear HF4 HF5 HFR HFA HM0 HBW HE HGW HWN HWK HSET hfz2 HR2 b1 HX0 HRR HR HJ HS HN H0 HB1 HN8;unfold q0g q0p at HX;go_wp2;exact bodyPost_ret (v:= .tuple #[.agg #[.slice s.oa s.os.length s.oc,.slice (some ⟨gw,0,none⟩) 8 s.wc,.slice s.ba s.bn s.bc,.slice s.sa s.sn s.sc],q0m 3 0 (.slice none 0 0)]) (by simp[results,Tryz.results35,go_sem,q0m, *]) rfl HX.out
theorem j5W(R:q0a×z0D)(w:World)(B:Nat)(s:HSh)(H:q0a)(o:OpD)(hM:HM w B s H)(hB:B<=w.heap.size)(hs:q0h H)(hk:(o.kind=8/\R=q1H H o.a)\/(o.kind=9/\R=q1G H o.a))(hu:z1t H o.a=none)(h8w:H.weaks.length=8):
 Calls Tryz.prog 35 #[s.v,opV o] w λe w' =>q0z w B R e w' :=by
 have HR:Hid (R=(H,⟨2,0,[]⟩)):=by
  show _=_;rcases hk with⟨-,h⟩|⟨-,h⟩
  ·rw[h];unfold q1H;rw[hu];rfl
  ·rw[h];unfold q1G;rw[hu];rfl
 rcases hk with⟨hkd,-⟩|⟨hkd,-⟩
 all_goals
  obtain⟨W,hW,BW,sW,F4,F5,FR,FA⟩:=z0S w (.slice s.oa s.os.length s.oc) (.slice s.wa s.wn s.wc) (.slice s.ba s.bn s.bc) (.slice s.sa s.sn s.sc) o;have MW:=q0c hM BW;have HM0:=hdx MW;have HBW:Hid (Below B w W):=BW.mono hB;have HF4:=hdx F4;have HF5:=hdx F5;have HFR:=hdx FR;have HFA:=hdx FA;have n2:¬q0u s (w.heap.size+1+1):=q0D hM (.inr (by omega));have n3:¬q0u s (w.heap.size+1+1+1):=q0D hM (.inr (by omega));have nx:¬q0u s w.heap.size:=q0D hM (.inr nl0);have HE:Hid (j5Q w B s):=j5S (by omega) n2 n3;rw[hsv];unfold opV;obtain⟨gw,hgw,-,-⟩:=MW.wk 0 (by omega);have hgwl:=(MW.wg _ hgw).2;have hgwB:=(MW.wg _ hgw).1;have hgwn:gw<w.heap.size:=(hM.wg _ hgw).2;have HGW:Hid (s.wa=some ⟨gw,0,none⟩):=hgw;have HWN:Hid (s.wn=8):=by show _=_;rw[MW.lw];exact h8w
  have HWK:Hid (∀X,Below W.heap.size W X->∀j(h:j<H.weaks.length),j0y X gw (j*2) H.weaks[j]/\∀q,q<2->X.frozen? ⟨gw,j*2+q,none⟩=false):=λX hX j h=>by
   obtain⟨g2,e1,e2,e3⟩:=(q0c MW hX).wk j h;rw[hgw]at e1;injection e1 with e1;injection e1 with e1 _ _;subst e1;exact⟨e2,e3⟩
  have HSET:Hid (∀X j(h:j<H.weaks.length)d,Below W.heap.size W X->HM (z0y X gw (j*2) d) B s {H with weaks:=H.weaks.set j d}):=λX j h d hX=>j1J (q0c MW hX) j h gw hgw d;have hg2:¬gw=w.heap.size:=by omega
  have hg3:¬w.heap.size=gw:=by omega
  have hg4:¬gw=w.heap.size+1+1:=by omega
  have hg5:¬w.heap.size+1+1=gw:=by omega
  have hg6:¬gw=w.heap.size+1+1+1:=by omega
  have hg7:¬w.heap.size+1+1+1=gw:=by omega
  rw[HR.out];rw[hkd,hgw,HWN.out]at hW;rw[hkd,hgw,HWN.out];have HN8:Hid (H.weaks.length=8):=h8w
  have x1:W.cell? ⟨w.heap.size,1,none⟩=some (.slice (some ⟨gw,0,none⟩) 8 s.wc):=by have e:=F4.cell 1;rw[hgw,HWN.out]at e;exact e
  have ka:W.cell? ⟨w.heap.size+1,1,none⟩=some (.int .i64 o.a):=F5.cell 1;rcases q3a hu with h0|h0|⟨k,hk,hak,hun⟩
  ·have CW:Hid (∀X,_):=λX=>x0B o.a 0 7 X (by omega);clear hM hs MW F4 F5 FR FA BW HR hgw h8w hu;go_enter Tryz.func35,Tryz.ntmps35;go_wp2_with fail
   rw[<-hW];clear hW;refine(CW.out _).mono ?_;rintro e w1 ⟨rfl,rfl⟩;obtain⟨x0,-,x2,x3⟩:=HF4.out.cells;obtain⟨r0,r1,r2,r3⟩:=(HFR.out.later (Below.refl w1.heap.size w1)).cells;obtain⟨z0,z1,z2,z3⟩:=(HFR.out.later (Below.refl w1.heap.size w1)).frees;obtain⟨q0,q1,q2⟩:=(HFA.out.later (Below.refl w1.heap.size w1)).cells;obtain⟨y0,y1,y2⟩:=(HFA.out.later (Below.refl w1.heap.size w1)).frees;have HX:Hid _:=HE.out w1 (H) 2 0 (.slice s.oa s.os.length s.oc) (.slice s.wa s.wn s.wc) (.slice s.ba s.bn s.bc) (.slice s.sa s.sn s.sc) (.int .i64 2) (.int .i64 0) (.slice none 0 0) (HBW.out.trans ((Below.refl w1.heap.size w1).mono (by have:=HBW.out.size;omega))) (q0c HM0.out (Below.refl w1.heap.size w1));rw[HGW.out,HWN.out]at HX;clear HF4 HF5 HFR HFA HM0 HBW HE HGW HWN HWK HSET CW HN8;unfold q0g q0p at HX;go_wp2;exact bodyPost_ret (v:= .tuple #[.agg #[.slice s.oa s.os.length s.oc,.slice (some ⟨gw,0,none⟩) 8 s.wc,.slice s.ba s.bn s.bc,.slice s.sa s.sn s.sc],q0m 2 0 (.slice none 0 0)]) (by simp[results,Tryz.results35,go_sem,q0m, *]) rfl HX.out
  ·have CW:Hid (∀X,_):=λX=>x0B o.a 0 7 X (by have:=HN8.out;omega);clear hM hs MW F4 F5 FR FA BW HR hgw h8w hu;go_enter Tryz.func35,Tryz.ntmps35;go_wp2_with fail
   rw[<-hW];clear hW;refine(CW.out _).mono ?_;rintro e w1 ⟨rfl,rfl⟩;obtain⟨x0,-,x2,x3⟩:=HF4.out.cells;obtain⟨r0,r1,r2,r3⟩:=(HFR.out.later (Below.refl w1.heap.size w1)).cells;obtain⟨z0,z1,z2,z3⟩:=(HFR.out.later (Below.refl w1.heap.size w1)).frees;obtain⟨q0,q1,q2⟩:=(HFA.out.later (Below.refl w1.heap.size w1)).cells;obtain⟨y0,y1,y2⟩:=(HFA.out.later (Below.refl w1.heap.size w1)).frees;have HX:Hid _:=HE.out w1 (H) 2 0 (.slice s.oa s.os.length s.oc) (.slice s.wa s.wn s.wc) (.slice s.ba s.bn s.bc) (.slice s.sa s.sn s.sc) (.int .i64 2) (.int .i64 0) (.slice none 0 0) (HBW.out.trans ((Below.refl w1.heap.size w1).mono (by have:=HBW.out.size;omega))) (q0c HM0.out (Below.refl w1.heap.size w1));rw[HGW.out,HWN.out]at HX;clear HF4 HF5 HFR HFA HM0 HBW HE HGW HWN HWK HSET CW HN8;unfold q0g q0p at HX;go_wp2;exact bodyPost_ret (v:= .tuple #[.agg #[.slice s.oa s.os.length s.oc,.slice (some ⟨gw,0,none⟩) 8 s.wc,.slice s.ba s.bn s.bc,.slice s.sa s.sn s.sc],q0m 2 0 (.slice none 0 0)]) (by simp[results,Tryz.results35,go_sem,q0m, *]) rfl HX.out
  ·have hk8:k<8:=by omega
   have CW:Hid (∀X,_):=λX=>z0s (k:Int) 0 7 X (by omega) (by omega);obtain⟨⟨d0,d1⟩,-⟩:=HWK.out W bl0 k hk;rw[hun]at d0;have hki:(k:Int)<8:=by omega
   rw[hak]at ka hW;rw[hak];clear hM hs MW F4 F5 FR FA BW HR hgw h8w hu hun d1 hk;go_enter Tryz.func35,Tryz.ntmps35;go_wp2_with fail
   rw[<-hW];clear hW;refine(CW.out _).mono ?_;rintro e w1 ⟨rfl,rfl⟩;obtain⟨x0,-,x2,x3⟩:=HF4.out.cells;obtain⟨r0,r1,r2,r3⟩:=(HFR.out.later (Below.refl w1.heap.size w1)).cells;obtain⟨z0,z1,z2,z3⟩:=(HFR.out.later (Below.refl w1.heap.size w1)).frees;obtain⟨q0,q1,q2⟩:=(HFA.out.later (Below.refl w1.heap.size w1)).cells;obtain⟨y0,y1,y2⟩:=(HFA.out.later (Below.refl w1.heap.size w1)).frees;have HX:Hid _:=HE.out w1 (H) 2 0 (.slice s.oa s.os.length s.oc) (.slice s.wa s.wn s.wc) (.slice s.ba s.bn s.bc) (.slice s.sa s.sn s.sc) (.int .i64 2) (.int .i64 0) (.slice none 0 0) (HBW.out.trans ((Below.refl w1.heap.size w1).mono (by have:=HBW.out.size;omega))) (q0c HM0.out (Below.refl w1.heap.size w1));rw[HGW.out,HWN.out]at HX;clear HF4 HF5 HFR HFA HM0 HBW HE HGW HWN HWK HSET CW HN8;unfold q0g q0p at HX;go_wp2;exact bodyPost_ret (v:= .tuple #[.agg #[.slice s.oa s.os.length s.oc,.slice (some ⟨gw,0,none⟩) 8 s.wc,.slice s.ba s.bn s.bc,.slice s.sa s.sn s.sc],q0m 2 0 (.slice none 0 0)]) (by simp[results,Tryz.results35,go_sem,q0m, *]) rfl HX.out
theorem z5u(w:World)(B:Nat)(s:HSh)(H:q0a)(o:OpD)(hM:HM w B s H)(hB:B<=w.heap.size)(hs:q0h H)(hkd:o.kind=8)(hwf:∀d∈H.weaks,q0w d.target)(d:x0g)(hu:z1t H o.a=some d)(h8w:H.weaks.length=8):
 Calls Tryz.prog 35 #[s.v,opV o] w λe w' =>q0z w B (q1H H o.a) e w' :=by
 obtain⟨W,hW,BW,sW,F4,F5,FR,FA⟩:=z0S w (.slice s.oa s.os.length s.oc) (.slice s.wa s.wn s.wc) (.slice s.ba s.bn s.bc) (.slice s.sa s.sn s.sc) o;have MW:=q0c hM BW;have HM0:=hdx MW;have HBW:Hid (Below B w W):=BW.mono hB;have HF4:=hdx F4;have HF5:=hdx F5;have HFR:=hdx FR;have HFA:=hdx FA;have n2:¬q0u s (w.heap.size+1+1):=q0D hM (.inr (by omega));have n3:¬q0u s (w.heap.size+1+1+1):=q0D hM (.inr (by omega));have nx:¬q0u s w.heap.size:=q0D hM (.inr nl0);have HE:Hid (j5Q w B s):=j5S (by omega) n2 n3;rw[hsv];unfold opV;obtain⟨gw,hgw,-,-⟩:=MW.wk 0 (by omega);have hgwl:=(MW.wg _ hgw).2;have hgwB:=(MW.wg _ hgw).1;have hgwn:gw<w.heap.size:=(hM.wg _ hgw).2;have HGW:Hid (s.wa=some ⟨gw,0,none⟩):=hgw;have HWN:Hid (s.wn=8):=by show _=_;rw[MW.lw];exact h8w
 have HWK:Hid (∀X,Below W.heap.size W X->∀j(h:j<H.weaks.length),j0y X gw (j*2) H.weaks[j]/\∀q,q<2->X.frozen? ⟨gw,j*2+q,none⟩=false):=λX hX j h=>by
  obtain⟨g2,e1,e2,e3⟩:=(q0c MW hX).wk j h;rw[hgw]at e1;injection e1 with e1;injection e1 with e1 _ _;subst e1;exact⟨e2,e3⟩
 have HSET:Hid (∀X j(h:j<H.weaks.length)d,Below W.heap.size W X->HM (z0y X gw (j*2) d) B s {H with weaks:=H.weaks.set j d}):=λX j h d hX=>j1J (q0c MW hX) j h gw hgw d;have hg2:¬gw=w.heap.size:=by omega
 have hg3:¬w.heap.size=gw:=by omega
 have hg4:¬gw=w.heap.size+1+1:=by omega
 have hg5:¬w.heap.size+1+1=gw:=by omega
 have hg6:¬gw=w.heap.size+1+1+1:=by omega
 have hg7:¬w.heap.size+1+1+1=gw:=by omega
 obtain⟨k,hk,hak,hd,hut⟩:=z2P hu;have HN8:Hid (H.weaks.length=8):=h8w;have hk8:k<8:=by omega
 have hki:(k:Int)<8:=by omega
 have x1:W.cell? ⟨w.heap.size,1,none⟩=some (.slice (some ⟨gw,0,none⟩) 8 s.wc):=by have e:=F4.cell 1;rw[hgw,HWN.out]at e;exact e
 have ka:W.cell? ⟨w.heap.size+1,1,none⟩=some (.int .i64 o.a):=F5.cell 1;have kk:W.cell? ⟨w.heap.size+1,0,none⟩=some (.int .i64 8):=by have e:=F5.cell 0;rw[hkd]at e;exact e
 have CW:Hid (∀X,_):=λX=>z0s (k:Int) 0 7 X (by omega) (by omega);obtain⟨⟨d0,d1⟩,hfz⟩:=HWK.out W bl0 k hk;rw[hd,hut]at d0;rw[hd]at d1;have e0:=hfz 0 (by omega);have e1:=hfz 1 (by omega);rw[Nat.add_zero]at e0;have hti:q0w d.target:=by rw[<-hd];exact hwf _ (List.getElem_mem hk)
 have CS:Hid (∀_:Unit,_):=λ(_:Unit)=>z0k s.v H d.target W (q0K MW) (by have:=hs.objs;omega) hti.1 hti.2;rw[hsv,hgw,HWN.out]at CS;have HR:Hid (q1H H o.a=(H,⟨0,if q0l H d.target<0 then -1 else d.target,[]⟩)):=by show _=_;unfold q1H;rw[hu]
 rw[HR.out];generalize q0l H d.target=z at*;generalize d.target=dt at*;obtain⟨v,hv⟩:∃v,(if z<0 then -1 else dt)=v:=⟨_,rfl⟩;have HV:Hid ((if z<0 then -1 else dt)=v):=hv;rw[hv];rw[hkd,hak,hgw,HWN.out]at hW;rw[hak]at ka;rw[hkd,hak,hgw,HWN.out];clear hM hs MW F4 F5 FR FA BW HR hgw h8w hu hut hd hwf hfz hk hv hti;go_enter Tryz.func35,Tryz.ntmps35;go_wp2_with fail
 rw[<-hW];clear hW;refine(CW.out _).mono ?_;rintro e w1 ⟨rfl,rfl⟩;obtain⟨x0,-,x2,x3⟩:=HF4.out.cells;go_wp2_with fail
 refine(CS.out ()).mono ?_;rintro e w2 ⟨rfl,b2⟩;clear CS CW x0 x1 x2 x3 ka kk d0 d1 e0 e1;obtain⟨x0,x1,x2,x3⟩:=(HF4.out.later b2).cells;obtain⟨r0,r1,r2,r3⟩:=(HFR.out.later b2).cells;obtain⟨z0,z1,z2,z3⟩:=(HFR.out.later b2).frees;obtain⟨q0,q1,q2⟩:=(HFA.out.later b2).cells;obtain⟨y0,y1,y2⟩:=(HFA.out.later b2).frees;rw[HGW.out,HWN.out]at x1;by_cases hz:z<0
 ·have hv:v= -1:=by rw[<-HV.out,if_pos hz]
  subst hv;have HX:Hid _:=HE.out w2 (H) 0 (-1) (.slice s.oa s.os.length s.oc) (.slice s.wa s.wn s.wc) (.slice s.ba s.bn s.bc) (.slice s.sa s.sn s.sc) (.int .i64 0) (.int .i64 (-1)) (.slice none 0 0) (HBW.out.trans (b2.mono (by have:=HBW.out.size;omega))) (q0c HM0.out b2);rw[HGW.out,HWN.out]at HX;clear HF4 HF5 HFR HFA HM0 HBW HE HGW HWN HWK HSET HN8 b2 HV;unfold q0g q0p at HX;go_wp2;exact bodyPost_ret (v:= .tuple #[.agg #[.slice s.oa s.os.length s.oc,.slice (some ⟨gw,0,none⟩) 8 s.wc,.slice s.ba s.bn s.bc,.slice s.sa s.sn s.sc],q0m 0 (-1) (.slice none 0 0)]) (by simp[results,Tryz.results35,go_sem,q0m, *]) rfl HX.out
 ·have hv:v=dt:=by rw[<-HV.out,if_neg hz]
  subst hv;have HX:Hid _:=HE.out w2 (H) 0 v (.slice s.oa s.os.length s.oc) (.slice s.wa s.wn s.wc) (.slice s.ba s.bn s.bc) (.slice s.sa s.sn s.sc) (.int .i64 0) (.int .i64 v) (.slice none 0 0) (HBW.out.trans (b2.mono (by have:=HBW.out.size;omega))) (q0c HM0.out b2);rw[HGW.out,HWN.out]at HX;clear HF4 HF5 HFR HFA HM0 HBW HE HGW HWN HWK HSET HN8 b2 HV;unfold q0g q0p at HX;go_wp2;exact bodyPost_ret (v:= .tuple #[.agg #[.slice s.oa s.os.length s.oc,.slice (some ⟨gw,0,none⟩) 8 s.wc,.slice s.ba s.bn s.bc,.slice s.sa s.sn s.sc],q0m 0 v (.slice none 0 0)]) (by simp[results,Tryz.results35,go_sem,q0m, *]) rfl HX.out
theorem z5v(w:World)(B:Nat)(s:HSh)(H:q0a)(o:OpD)(hM:HM w B s H)(hB:B<=w.heap.size)(hs:q0h H)(hkd:o.kind=9)(hwf:∀d∈H.weaks,q0w d.target)(d:x0g)(hu:z1t H o.a=some d)(h8w:H.weaks.length=8):
 Calls Tryz.prog 35 #[s.v,opV o] w λe w' =>q0z w B (q1G H o.a) e w' :=by
 obtain⟨W,hW,BW,sW,F4,F5,FR,FA⟩:=z0S w (.slice s.oa s.os.length s.oc) (.slice s.wa s.wn s.wc) (.slice s.ba s.bn s.bc) (.slice s.sa s.sn s.sc) o;have MW:=q0c hM BW;have HM0:=hdx MW;have HBW:Hid (Below B w W):=BW.mono hB;have HF4:=hdx F4;have HF5:=hdx F5;have HFR:=hdx FR;have HFA:=hdx FA;have n2:¬q0u s (w.heap.size+1+1):=q0D hM (.inr (by omega));have n3:¬q0u s (w.heap.size+1+1+1):=q0D hM (.inr (by omega));have nx:¬q0u s w.heap.size:=q0D hM (.inr nl0);have HE:Hid (j5Q w B s):=j5S (by omega) n2 n3;rw[hsv];unfold opV;obtain⟨gw,hgw,-,-⟩:=MW.wk 0 (by omega);have hgwl:=(MW.wg _ hgw).2;have hgwB:=(MW.wg _ hgw).1;have hgwn:gw<w.heap.size:=(hM.wg _ hgw).2;have HGW:Hid (s.wa=some ⟨gw,0,none⟩):=hgw;have HWN:Hid (s.wn=8):=by show _=_;rw[MW.lw];exact h8w
 have HWK:Hid (∀X,Below W.heap.size W X->∀j(h:j<H.weaks.length),j0y X gw (j*2) H.weaks[j]/\∀q,q<2->X.frozen? ⟨gw,j*2+q,none⟩=false):=λX hX j h=>by
  obtain⟨g2,e1,e2,e3⟩:=(q0c MW hX).wk j h;rw[hgw]at e1;injection e1 with e1;injection e1 with e1 _ _;subst e1;exact⟨e2,e3⟩
 have HSET:Hid (∀X j(h:j<H.weaks.length)d,Below W.heap.size W X->HM (z0y X gw (j*2) d) B s {H with weaks:=H.weaks.set j d}):=λX j h d hX=>j1J (q0c MW hX) j h gw hgw d;have hg2:¬gw=w.heap.size:=by omega
 have hg3:¬w.heap.size=gw:=by omega
 have hg4:¬gw=w.heap.size+1+1:=by omega
 have hg5:¬w.heap.size+1+1=gw:=by omega
 have hg6:¬gw=w.heap.size+1+1+1:=by omega
 have hg7:¬w.heap.size+1+1+1=gw:=by omega
 obtain⟨k,hk,hak,hd,hut⟩:=z2P hu;have HN8:Hid (H.weaks.length=8):=h8w;have hk8:k<8:=by omega
 have hki:(k:Int)<8:=by omega
 have x1:W.cell? ⟨w.heap.size,1,none⟩=some (.slice (some ⟨gw,0,none⟩) 8 s.wc):=by have e:=F4.cell 1;rw[hgw,HWN.out]at e;exact e
 have ka:W.cell? ⟨w.heap.size+1,1,none⟩=some (.int .i64 o.a):=F5.cell 1;have kk:W.cell? ⟨w.heap.size+1,0,none⟩=some (.int .i64 9):=by have e:=F5.cell 0;rw[hkd]at e;exact e
 have CW:Hid (∀X,_):=λX=>z0s (k:Int) 0 7 X (by omega) (by omega);obtain⟨⟨d0,d1⟩,hfz⟩:=HWK.out W bl0 k hk;rw[hd,hut]at d0;rw[hd]at d1;have e0:=hfz 0 (by omega);have e1:=hfz 1 (by omega);rw[Nat.add_zero]at e0;have HR:Hid (q1G H o.a=({H with weaks:=H.weaks.set k ⟨false,0⟩},⟨0,0,[]⟩)):=by show _=_;unfold q1G;rw[hu,hak];rfl
 rw[HR.out];have HKW:Hid (∀X,Below W.heap.size W X->HM (z0y X gw (k*2) ⟨false,0⟩) B s {H with weaks:=H.weaks.set k ⟨false,0⟩}):=λX hX=>HSET.out X k hk ⟨false,0⟩ hX;rw[hkd,hak,hgw,HWN.out]at hW;rw[hak]at ka;rw[hkd,hak,hgw,HWN.out];clear hM hs MW F4 F5 FR FA BW HR hgw h8w hu hut hd hwf hfz hk;go_enter Tryz.func35,Tryz.ntmps35;go_wp2_with fail
 rw[<-hW];clear hW;refine(CW.out _).mono ?_;rintro e w1 ⟨rfl,rfl⟩;obtain⟨x0,-,x2,x3⟩:=HF4.out.cells;obtain⟨r0,r1,r2,r3⟩:=(HFR.out.later (Below.refl w1.heap.size w1)).cells;obtain⟨z0,z1,z2,z3⟩:=(HFR.out.later (Below.refl w1.heap.size w1)).frees;obtain⟨q0,q1,q2⟩:=(HFA.out.later (Below.refl w1.heap.size w1)).cells;obtain⟨y0,y1,y2⟩:=(HFA.out.later (Below.refl w1.heap.size w1)).frees;have HX:Hid _:=HE.out (z0y w1 gw (k*2) ⟨false,0⟩) ({H with weaks:=H.weaks.set k ⟨false,0⟩}) 0 0 (.slice s.oa s.os.length s.oc) (.slice s.wa s.wn s.wc) (.slice s.ba s.bn s.bc) (.slice s.sa s.sn s.sc) (.int .i64 0) (.int .i64 0) (.slice none 0 0) (by unfold z0y;exact((HBW.out.trans ((Below.refl w1.heap.size w1).mono (by have:=HBW.out.size;omega))).setCell (by exact hgwB) _).setCell (by exact hgwB) _) (HKW.out w1 bl0);rw[HGW.out,HWN.out]at HX;clear HF4 HF5 HFR HFA HM0 HBW HE HGW HWN HWK HSET CW HN8 HKW;unfold q0g q0p z0y at HX;go_wp2;exact bodyPost_ret (v:= .tuple #[.agg #[.slice s.oa s.os.length s.oc,.slice (some ⟨gw,0,none⟩) 8 s.wc,.slice s.ba s.bn s.bc,.slice s.sa s.sn s.sc],q0m 0 0 (.slice none 0 0)]) (by simp[results,Tryz.results35,go_sem,q0m, *]) rfl HX.out
end
section
open Go.RowKit
structure NI(X:World)(go B:Nat)(fs:List OSh):Prop where
 at_:∀i(h:i<fs.length),x0G X go (i*8) (q0J 0) (.slice fs[i].f 3 fs[i].c)/\fs[i].n=3/\q0i X B (.slice fs[i].f 3 fs[i].c) [-1,-1,-1]
 pw:fs.Pairwise (λt u=>Ap t.f t.n u.f u.n)
theorem q2k(w:World):Calls Tryz.prog 69 #[] w λe w' =>∃a c,e= .returned (.slice a 3 c)/\q0i w' w.heap.size (.slice a 3 c) [-1,-1,-1]/\Below w.heap.size w w' :=by
 have O1:q0i (w.alloc (.cells #[] 3)) w.heap.size (.slice (some ⟨w.heap.size,0,none⟩) 0 0) []:=j0C _ _ nl0;have B1:Below w.heap.size w (w.alloc (.cells #[] 3)):=bl1 _;go_enter Tryz.func69,Tryz.ntmps69;go_wp2;go_loopw[1,2] (λv i wr=>∃(j:Nat),j<=3/\i= .int .i64 j/\q0i wr w.heap.size v (List.replicate j (-1))/\Below w.heap.size w wr) (λ_ i _=>3 - (intOf i).toNat)
 case atStart=>exact⟨0,by omega,rfl,O1,B1⟩
 case round=>
  obtain⟨j,hj,rfl,hown,hb⟩:=hrel;by_cases hlt:j<3
  ·go_wp2_with (at_builtin;refine x0F rfl _ _ rfl w.heap.size _ (List.replicate j (-1)) rfl (v0Y _ hown) ⟨wr.heap.size,0,none⟩ [-1] 1 1 rfl rfl ?hsrc ?hlen w (hb.alloc hb.size _) nl0 ?_)
   case hsrc=>exact j0X wr (-1)
   case hlen=>rw[List.length_singleton,List.length_replicate];omega
   ·intro v4 w4 O4 B4;have O5:q0i w4 w.heap.size v4 (List.replicate (j+1) (-1)):=by rw[List.replicate_succ'];exact O4
    go_wp2;go_roundw
    case rel=>exact⟨j+1,by omega,by go_num,O5,B4⟩
    case measure=>simp[intOf];omega
  ·obtain rfl:j=3:=by omega
   obtain⟨a,c,hv,-⟩:=y0Q hown;rw[show(List.replicate 3 (-1:Int)).length=3 from rfl]at hv;subst hv;go_wp2;go_ret
   exact⟨a,c,rfl,hown,hb⟩
end
section
open Go.RowKit
variable{a:Act}{K:Act → World → Prop}{af:Array Edge}{ats:Array TypeId}{post:Ending → World → Prop}{Q:Exit → Act → World → Prop}{H:q0a}{pos:String}{ty:TypeId}
theorem x4w{x:List UInt8}:∀{zs:List (List UInt8)}(i:Int),(∀j(h:j<zs.length),zs[j]≠x)->y0e x zs i= -1:=by
 intro zs
 induction zs with
 |nil=>intro i _;rfl
 |cons y r ih=>intro i h;have h0:=h 0 (by simp);unfold y0e;rw[if_neg (λe=>h0 e.symm)];exact ih (i+1) (λj hj=>h (j+1) (by simpa using hj))
theorem q4A{x:List UInt8}:∀{zs:List (List UInt8)}(i:Int)(k:Nat)(hk:k<zs.length),zs[k]=x->(∀j(h:j<zs.length),j<k->zs[j]≠x)->y0e x zs i=i+(k:Int):=by
 intro zs
 induction zs with
 |nil=>intro i k hk;simp at hk
 |cons y r ih=>
  intro i k hk h1 h2;unfold y0e
  cases k with
  |zero=>have h1' :y=x:=h1;rw[if_pos h1'.symm];simp
  |succ k=>have h0:y≠x:=h2 0 (by simp) (by omega);rw[if_neg (λe=>h0 e.symm),ih (i+1) k (by simpa using hk) h1 (λj hj hjk=>h2 (j+1) (by simpa using hj) (by omega))];omega
def q1F(H:q0a)(x:List UInt8)(j:Nat)(m:Int):Prop:=(m= -1/\∀i(h:i<H.sites.length),i<j->H.sites[i]≠x)\/∃(i:Nat)(h:i<H.sites.length),i<j/\H.sites[i]=x/\m=(i:Int)
theorem x2r{x:List UInt8}{m:Int}(hok:∀i(h:i<H.sites.length),okN H i H.sites[i])(h:q1F H x H.sites.length m):y0b H x=m:=by
 unfold y0b;rcases h with⟨rfl,h⟩|⟨i,hi,_,e,rfl⟩
 ·exact x4w 0 (λj hj=>h j hj hj)
 ·rw[q4A 0 i hi e (λj hj hji he=>(hok i hi).2 j hj hji (by rw[he,e]))];omega
theorem q3J{t i j l:Tmp}{X:World}{g m:Int}{x:Option Addr}{n c:Nat}(h1:a.eval (.tmp i)= .int .i64 g)(h2:a.eval (.tmp j)= .int .i64 m)(h3:a.eval (.tmp l)= .slice x n c)(hK:K (a.put (some t) (y0J (y0X g m) (.slice x n c))) X):
 Oper.wp Tryz.prog ⟨some t,.build 90 #[(0,.const (.bool true)),(1,.tmp i),(2,.tmp j),(3,.const (.int .i64 1)),(5,.const (.int .i64 1)),(6,.tmp l)],ty,pos,af,none⟩ a X K Q:=by
 have e1:=q0x h1;have e2:=q0x h2;have e3:=q0x h3;unfold y0J y0X at hK;go_simp;exact hK
theorem q3I{t i:Tmp}{X:World}{v:Int}(h1:a.eval (.tmp i)= .int .i64 v)(hK:K (a.put (some t) (.agg #[.int .i64 0,.int .i64 v,.slice none 0 0])) X):
 Oper.wp Tryz.prog ⟨some t,.build 37 #[(1,.tmp i)],ty,pos,af,none⟩ a X K Q:=by
 have e1:=q0x h1;go_simp;exact hK
theorem q5f{t i j:Tmp}{X:World}{u v:Value}(h1:a.eval (.tmp i)=u)(h2:a.eval (.tmp j)=v)(hC:Calls Tryz.prog 67 #[u,v] X post)(hK:∀e w',post e w' ->∃x,e= .returned x/\K (a.put (some t) x) w'):
 Oper.wp Tryz.prog ⟨some t,.call {callee:= .value (.func 67),args:= #[.tmp i,.tmp j],argTypes:=ats},ty,pos,af,none⟩ a X K Q:=by
 have e1:=q0x h1;have e2:=q0x h2;go_simp;refine hC.mono (λe w' hp=> ?_);obtain⟨x,rfl,hx⟩:=hK e w' hp;exact hx
def RMd(n go k len oc:Nat)(g m:Int)(N:Nat):Nat->World->Value->Prop
 |0,_,v=>v= .pointer (some ⟨n,0,none⟩)
 |1,_,v=>v= .slice (some ⟨go,0,none⟩) len oc
 |2,_,v=>v= .int .i64 (k:Int)
 |3,_,v=>v= .int .i64 g
 |4,_,v=>v= .int .i64 m
 |5,X,v=>∃a c,v= .slice a 3 c/\q0i X N (.slice a 3 c) [-1,-1,-1]
 |6,X,v=>∃a c,v=y0J (y0X g m) (.slice a 3 c)/\q0i X N (.slice a 3 c) [-1,-1,-1]
 |7,_,v=>v= .pointer (some ⟨go,k*8,none⟩)
 |_,_,_=>True
theorem v3J{n go k len oc:Nat}{g m:Int}{N:Nat}(i:Nat)(X Y:World)(v:Value)(h:RMd n go k len oc g m N i X v)(hb:Below X.heap.size X Y):RMd n go k len oc g m N i Y v:=by
 match i,h with
 |0,h=>exact h
 |1,h=>exact h
 |2,h=>exact h
 |3,h=>exact h
 |4,h=>exact h
 |5,⟨a,c,h1,h2⟩=>exact⟨a,c,h1,q0o h2 hb⟩
 |6,⟨a,c,h1,h2⟩=>exact⟨a,c,h1,q0o h2 hb⟩
 |7,h=>exact h
 |n+8,_=>exact trivial
structure RJ5(w wr:World)(C n:Nat)(x0 x1 x2 x3:Value)(dn:Nat->Prop)(X:World):Prop where
 bel:Below C w X
 ge:wr.heap.size<=X.heap.size
 oth:∀i,i≠n->i<wr.heap.size->X.heap[i]? =wr.heap[i]?
 f0:¬dn 5->q0d X n (.slice none 0 0) (.slice none 0 0) (.slice none 0 0) (.slice none 0 0)
 f1:dn 5->q0d X n x0 x1 x2 x3
theorem RJ5.later{w wr X Y:World}{C n:Nat}{x0 x1 x2 x3:Value}{dn:Nat->Prop}{i:Nat}(hw:C<=wr.heap.size)(h:RJ5 w wr C n x0 x1 x2 x3 dn X)(hi:i≠5)(hb:Below X.heap.size X Y):RJ5 w wr C n x0 x1 x2 x3 (λj=>dn j\/j=i) Y:=
 ⟨h.bel.trans (hb.mono (Nat.le_trans hw h.ge)),Nat.le_trans h.ge hb.size,λj hj hl=>(hb.block j (Nat.lt_of_lt_of_le hl h.ge)).trans (h.oth j hj hl),λhn=>(h.f0 (λh2=>hn (.inl h2))).later hb,λhd=>(h.f1 (hd.resolve_right (λe=>hi e.symm))).later hb⟩
def RV5(hv:Value)(k g id:Int):Nat->World->Value->Prop
 |0,_,v=>v=hv
 |1,_,v=>v= .int .i64 k
 |2,_,v=>v= .int .i64 g
 |3,_,v=>v= .int .i64 id
 |4,_,v=>v= .agg #[.int .i64 0,.int .i64 id,.slice none 0 0]
 |_,_,_=>True
theorem v2j{hv:Value}{k g id:Int}(i:Nat)(X Y:World)(v:Value)(h:RV5 hv k g id i X v):RV5 hv k g id i Y v:=by
 match i,h with
 |0,h=>exact h
 |1,h=>exact h
 |2,h=>exact h
 |3,h=>exact h
 |4,h=>exact h
 |n+5,_=>exact trivial
theorem u4j(w:World)(B:Nat)(s:HSh)(H:q0a)(o:OpD)(hM:HM w B s H)(hB:B<=w.heap.size)(hs:q0h H)(hsl:o.site.length<=1048576)(hl:o.site.length<1\/8<o.site.length):
 Calls Tryz.prog 32 #[s.v,opV o] w λe w' =>q0z w B (x0o H o.site) e w' :=by
 obtain⟨W,hW,BW,sW,F4,F5,FR,FA⟩:=z0S w (.slice s.oa s.os.length s.oc) (.slice s.wa s.wn s.wc) (.slice s.ba s.bn s.bc) (.slice s.sa s.sn s.sc) o;have MW:=q0c hM BW;have HM0:=hdx MW;have HBW:Hid (Below B w W):=BW.mono hB;have HF4:=hdx F4;have HF5:=hdx F5;have HFR:=hdx FR;have HFA:=hdx FA;have n2:¬q0u s (w.heap.size+1+1):=q0D hM (.inr (by omega));have n3:¬q0u s (w.heap.size+1+1+1):=q0D hM (.inr (by omega));have nx:¬q0u s w.heap.size:=q0D hM (.inr nl0);have HE:Hid (j5Q w B s):=j5S (by omega) n2 n3;rw[hsv];unfold opV;have CW:Hid (∀X,_):=λX=>x0B ((txt o.site).size:Int) 1 8 X (by rw[q0L];omega);have HR:Hid (x0o H o.site=(H,⟨2,0,[]⟩)):=by show _=_;unfold x0o;rw[if_pos hl];rfl
 rw[HR.out];clear hM hs MW F4 F5 FR FA BW HR hl hsl;go_enter Tryz.func32,Tryz.ntmps32;go_wp2_with fail
 rw[<-hW];clear hW;refine(CW.out _).mono ?_;rintro e w1 ⟨rfl,rfl⟩;have b1:Below w1.heap.size w1 w1:=bl0;obtain⟨x0,x1,x2,x3⟩:=(HF4.out.later b1).cells;obtain⟨r0,r1,r2,r3⟩:=(HFR.out.later b1).cells;obtain⟨z0,z1,z2,z3⟩:=(HFR.out.later b1).frees;obtain⟨q0,q1,q2⟩:=(HFA.out.later b1).cells;obtain⟨y0,y1,y2⟩:=(HFA.out.later b1).frees;have HX:Hid _:=HE.out w1 H 2 0 (.slice s.oa s.os.length s.oc) (.slice s.wa s.wn s.wc) (.slice s.ba s.bn s.bc) (.slice s.sa s.sn s.sc) (.int .i64 2) (.int .i64 0) (.slice none 0 0) (HBW.out.trans (b1.mono (by have:=HBW.out.size;omega))) (q0c HM0.out b1);clear HF4 HF5 HFR HFA HM0 HBW HE CW b1;unfold q0g q0p at HX;go_wp2;exact bodyPost_ret (v:= .tuple #[.agg #[.slice s.oa s.os.length s.oc,.slice s.wa s.wn s.wc,.slice s.ba s.bn s.bc,.slice s.sa s.sn s.sc],q0m 2 0 (.slice none 0 0)]) (by simp[results,Tryz.results32,go_sem,q0m, *]) rfl HX.out
theorem u4k(w:World)(B:Nat)(s:HSh)(H:q0a)(o:OpD)(hM:HM w B s H)(hB:B<=w.heap.size)(hs:q0h H)(hsl:o.site.length<=1048576)(hl:1<=o.site.length/\o.site.length<=8)(hfz:v0x H<0):
 Calls Tryz.prog 32 #[s.v,opV o] w λe w' =>q0z w B (x0o H o.site) e w' :=by
 obtain⟨W,hW,BW,sW,F4,F5,FR,FA⟩:=z0S w (.slice s.oa s.os.length s.oc) (.slice s.wa s.wn s.wc) (.slice s.ba s.bn s.bc) (.slice s.sa s.sn s.sc) o;have MW:=q0c hM BW;have HM0:=hdx MW;have HBW:Hid (Below B w W):=BW.mono hB;have HF4:=hdx F4;have HF5:=hdx F5;have HFR:=hdx FR;have HFA:=hdx FA;have n2:¬q0u s (w.heap.size+1+1):=q0D hM (.inr (by omega));have n3:¬q0u s (w.heap.size+1+1+1):=q0D hM (.inr (by omega));have nx:¬q0u s w.heap.size:=q0D hM (.inr nl0);have HE:Hid (j5Q w B s):=j5S (by omega) n2 n3;rw[hsv];unfold opV;have CW:Hid (∀X,_):=λX=>z0s ((txt o.site).size:Int) 1 8 X (by rw[q0L];omega) (by rw[q0L];omega);have CF:Hid (∀_:Unit,_):=λ(_:Unit)=>q1k s.v H W (q0K MW) hs;rw[hsv]at CF;have HR:Hid (x0o H o.site=(H,⟨3,0,[]⟩)):=by show _=_;unfold x0o;rw[if_neg (by omega),if_pos hfz];rfl
 rw[HR.out];generalize v0x H=fz at*;clear hM hs MW F4 F5 FR FA BW HR hl hsl;go_enter Tryz.func32,Tryz.ntmps32;go_wp2_with fail
 rw[<-hW];clear hW;refine(CW.out _).mono ?_;rintro e w1 ⟨rfl,hww⟩;have hw9:W=w1:=hww.symm;subst hw9;clear hww;obtain⟨x0,x1,x2,x3⟩:=HF4.out.cells;go_wp2_with fail
 refine(CF.out ()).mono ?_;rintro e w2 ⟨rfl,b2⟩;clear x0 x1 x2 x3 CW CF;obtain⟨x0,x1,x2,x3⟩:=(HF4.out.later b2).cells;obtain⟨r0,r1,r2,r3⟩:=(HFR.out.later b2).cells;obtain⟨z0,z1,z2,z3⟩:=(HFR.out.later b2).frees;obtain⟨q0,q1,q2⟩:=(HFA.out.later b2).cells;obtain⟨y0,y1,y2⟩:=(HFA.out.later b2).frees;have HX:Hid _:=HE.out w2 H 3 0 (.slice s.oa s.os.length s.oc) (.slice s.wa s.wn s.wc) (.slice s.ba s.bn s.bc) (.slice s.sa s.sn s.sc) (.int .i64 3) (.int .i64 0) (.slice none 0 0) (HBW.out.trans (b2.mono (by have:=HBW.out.size;omega))) (q0c HM0.out b2);clear HF4 HF5 HFR HFA HM0 HBW HE b2;unfold q0g q0p at HX;go_wp2;exact bodyPost_ret (v:= .tuple #[.agg #[.slice s.oa s.os.length s.oc,.slice s.wa s.wn s.wc,.slice s.ba s.bn s.bc,.slice s.sa s.sn s.sc],q0m 3 0 (.slice none 0 0)]) (by simp[results,Tryz.results32,go_sem,q0m, *]) rfl HX.out
theorem u4l(w:World)(B:Nat)(s:HSh)(H:q0a)(o:OpD)(hM:HM w B s H)(hB:B<=w.heap.size)(hs:q0h H)(hsl:o.site.length<=1048576)(hl:1<=o.site.length/\o.site.length<=8)(k:Nat)(hkl:k<H.objs.length)(hk8:k<8)(h8:H.objs.length=8)(ekf:v0x H=(k:Int))(h6:H.sites.length<=6)(hokn:∀i(h:i<H.sites.length),okN H i H.sites[i])(hgen:0<=H.objs[k].gen/\H.objs[k].gen<999)(hsz:y0b H o.site<0)(hfull:H.sites.length=6):
 Calls Tryz.prog 32 #[s.v,opV o] w λe w' =>q0z w B (x0o H o.site) e w' :=by
 obtain⟨W,hW,BW,sW,F4,F5,FR,FA⟩:=z0S w (.slice s.oa s.os.length s.oc) (.slice s.wa s.wn s.wc) (.slice s.ba s.bn s.bc) (.slice s.sa s.sn s.sc) o;have MW:=q0c hM BW;have HM0:=hdx MW;have HBW:Hid (Below B w W):=BW.mono hB;have HF4:=hdx F4;have HF5:=hdx F5;have HFR:=hdx FR;have HFA:=hdx FA;have n2:¬q0u s (w.heap.size+1+1):=q0D hM (.inr (by omega));have n3:¬q0u s (w.heap.size+1+1+1):=q0D hM (.inr (by omega));have nx:¬q0u s w.heap.size:=q0D hM (.inr nl0);have HE:Hid (j5Q w B s):=j5S (by omega) n2 n3;rw[hsv];unfold opV;have CW:Hid (∀X,_):=λX=>z0s ((txt o.site).size:Int) 1 8 X (by rw[q0L];omega) (by rw[q0L];omega);have CF:Hid (∀_:Unit,_):=λ(_:Unit)=>q1k s.v H W (q0K MW) hs;rw[hsv]at CF;have HFD0:Hid (q1F H o.site 0 (-1)):= .inl ⟨rfl,λi h hi=>absurd hi (by omega)⟩
 have HRS:Hid (∀X,Below W.heap.size W X->∀j(h:j<H.sites.length),∃g,s.sa=some ⟨g,0,none⟩/\X.cell? ⟨g,j,none⟩=some (.string (txt H.sites[j]))):=λX hX j h=>by
  rcases j0S (q0c MW hX).st with⟨e,e2⟩|⟨g,cap,e,_,_,_,_,HC⟩
  ·rw[e2]at h;simp at h
  ·simp only[Value.slice.injEq]at e;exact⟨g,e.1,(HC.out j h).1⟩
 have HSN:Hid (s.sn=H.sites.length):=MW.ls;have HSE:Hid (∀m,q1F H o.site H.sites.length m->y0b H o.site=m):=λm hm=>x2r hokn hm;have hsn6:s.sn<=6:=by rw[MW.ls];exact h6
 have HR:Hid (x0o H o.site=(H,⟨6,0,[]⟩)):=by show _=_;unfold x0o;rw[if_neg (by omega),if_neg (by omega),if_pos ⟨hsz,by omega⟩];rfl
 rw[HR.out];rw[ekf]at CF;have hq6:6<=(s.sn:Int):=by rw[HSN.out];omega
 have HSZ:Hid (y0b H o.site<0):=hsz;clear hM hs MW F4 F5 FR FA BW HR hl hsl hgen ekf hfull hokn h6 h8 hsz;go_enter Tryz.func32,Tryz.ntmps32;go_wp2_with fail
 rw[<-hW];clear hW;refine(CW.out _).mono ?_;rintro e w1 ⟨rfl,hww⟩;have hw9:W=w1:=hww.symm;subst hw9;clear hww;obtain⟨x0,x1,x2,x3⟩:=HF4.out.cells;go_wp2_with fail
 refine(CF.out ()).mono ?_;rintro e w2 ⟨rfl,b2⟩;clear x0 x1 x2 x3 CW CF;have HB2:Hid (Below W.heap.size W w2):=b2;clear b2;go_wp2;go_loopw[7,8] (λsv i wr=>∃(j:Nat)(m:Int),j<=s.sn/\i= .int .i64 (j:Int)/\sv= .int .i64 m/\Hid (Below W.heap.size W wr)/\Hid (q1F H o.site j m)) (λ_ i _=>s.sn - (intOf i).toNat)
 case atStart=>exact⟨0,-1,by omega,rfl,rfl,HB2,HFD0⟩
 case round=>
  obtain⟨j,m,hjn,rfl,rfl,HBW2,HFD⟩:=hrel;have hwr:=HBW2.out.size;obtain⟨x0,x1,x2,x3⟩:=(HF4.out.later HBW2.out).cells;by_cases hlt:j<s.sn
  ·have hjs:j<H.sites.length:=by have:=HSN.out;omega
   obtain⟨gs,hgs,-⟩:=HRS.out wr HBW2.out j hjs;have HGS:Hid (s.sa=some ⟨gs,0,none⟩):=hgs
   have l1:∀Z:q0b wr,Z.on.cell? ⟨w.heap.size,3,none⟩=some (.slice (some ⟨gs,0,none⟩) s.sn s.sc):=λZ=>by
    have e:=(HF4.out.later (HBW2.out.trans (Z.bel.mono hwr))).cell 3;rw[HGS.out]at e;exact e
   have l2:∀Z:q0b wr,Z.on.cell? ⟨gs,j,none⟩=some (.string (txt H.sites[j])):=λZ=>by
    obtain⟨g2,e1,e2⟩:=HRS.out _ (HBW2.out.trans (Z.bel.mono hwr)) j hjs;rw[HGS.out]at e1;injection e1 with e1;injection e1 with e1 _ _;subst e1;exact e2
   have l3:∀Z:q0b wr,Z.on.cell? ⟨w.heap.size+1,4,none⟩=some (.string (txt o.site)):=λZ=>(HF5.out.later (HBW2.out.trans (Z.bel.mono hwr))).cell 4;have hnel:=q0b.some_ wr;have hj0:(0:Int)<=(j:Int):=by omega
   have hj1:(j:Int)<(s.sn:Int):=by omega
   by_cases he:H.sites[j]=o.site
   ·have HF2:Hid (q1F H o.site (j+1) (j:Int)):= .inr ⟨j,hjs,by omega,he,rfl⟩;rw[he]at l2;clear hgs he;go_wp2;refine q0j wr bl0 (by kernel_rfl) (by kernel_rfl) ?_;repeat (go_big_quiet_step (fail))
    refine wpQuiet_nil ?_;intro X4 hXe;have hX4:Below wr.heap.size wr X4:=by obtain⟨n,hn⟩:=hXe;rw[hn];exact n.bel
    have HB4:Hid (Below W.heap.size W X4):=HBW2.out.trans (hX4.mono hwr);clear hXe l1 l2 l3 hnel hX4 x0 x1 x2 x3;go_wp2;go_roundw
    case rel=>exact⟨j+1,(j:Int),by omega,by go_num,rfl,HB4,HF2⟩
    case measure=>simp[intOf];omega
   ·have HF2:Hid (q1F H o.site (j+1) m):=by
     rcases HFD.out with⟨e1,e2⟩|⟨i,h1,h2,h3,h4⟩
     ·refine .inl ⟨e1,λi h hi=> ?_⟩;by_cases e3:i=j
      ·subst e3;exact he
      ·exact e2 i h (by omega)
     ·exact .inr ⟨i,h1,by omega,h3,h4⟩
    have hq:((txt H.sites[j]).toList==(txt o.site).toList)=false:=z1G he;generalize txt H.sites[j]=tz at*;clear hgs he;go_wp2;refine q0j wr bl0 (by kernel_rfl) (by kernel_rfl) ?_;repeat (go_big_quiet_step (fail))
    refine wpQuiet_nil ?_;intro X4 hXe;have hX4:Below wr.heap.size wr X4:=by obtain⟨n,hn⟩:=hXe;rw[hn];exact n.bel
    have HB4:Hid (Below W.heap.size W X4):=HBW2.out.trans (hX4.mono hwr);clear hXe l1 l2 l3 hnel hX4 x0 x1 x2 x3 hq;go_wp2;go_roundw
    case rel=>exact⟨j+1,m,by omega,by go_num,rfl,HB4,HF2⟩
    case measure=>simp[intOf];omega
  ·have hm:y0b H o.site=m:=HSE.out m (by have e:j=H.sites.length:=by have:=HSN.out;omega
                                         rw[<-e];exact HFD.out)
   have bX:=HBW2.out;have hm0:m<0:=by have:=HSZ.out;omega
   clear hm HFD;obtain⟨r0,r1,r2,r3⟩:=(HFR.out.later bX).cells;obtain⟨z0,z1,z2,z3⟩:=(HFR.out.later bX).frees;obtain⟨q0,q1,q2⟩:=(HFA.out.later bX).cells;obtain⟨y0,y1,y2⟩:=(HFA.out.later bX).frees;have HX:Hid _:=HE.out wr H 6 0 (.slice s.oa s.os.length s.oc) (.slice s.wa s.wn s.wc) (.slice s.ba s.bn s.bc) (.slice s.sa s.sn s.sc) (.int .i64 6) (.int .i64 0) (.slice none 0 0) (HBW.out.trans (bX.mono (by have:=HBW.out.size;omega))) (q0c HM0.out bX);clear HF4 HF5 HFR HFA HM0 HBW HE bX HBW2 HB2 HFD0 HRS HSN HSE HSZ;unfold q0g q0p at HX;go_wp2;exact bodyPost_ret (v:= .tuple #[.agg #[.slice s.oa s.os.length s.oc,.slice s.wa s.wn s.wc,.slice s.ba s.bn s.bc,.slice s.sa s.sn s.sc],q0m 6 0 (.slice none 0 0)]) (by simp[results,Tryz.results32,go_sem,q0m, *]) rfl HX.out
theorem u4n(w:World)(B:Nat)(s:HSh)(H:q0a)(o:OpD)(hM:HM w B s H)(hB:B<=w.heap.size)(hs:q0h H)(hsl:o.site.length<=1048576)(hl:1<=o.site.length/\o.site.length<=8)(k:Nat)(hkl:k<H.objs.length)(hk8:k<8)(h8:H.objs.length=8)(ekf:v0x H=(k:Int))(h6:H.sites.length<=6)(hokn:∀i(h:i<H.sites.length),okN H i H.sites[i])(hgen:0<=H.objs[k].gen/\H.objs[k].gen<999)(hsz:0<=y0b H o.site):
 Calls Tryz.prog 32 #[s.v,opV o] w λe w' =>q0z w B (x0o H o.site) e w' :=by
 obtain⟨W,hW,BW,sW,F4,F5,FR,FA⟩:=z0S w (.slice s.oa s.os.length s.oc) (.slice s.wa s.wn s.wc) (.slice s.ba s.bn s.bc) (.slice s.sa s.sn s.sc) o;have MW:=q0c hM BW;have HM0:=hdx MW;have HBW:Hid (Below B w W):=BW.mono hB;have HF4:=hdx F4;have HF5:=hdx F5;have HFR:=hdx FR;have HFA:=hdx FA;have n2:¬q0u s (w.heap.size+1+1):=q0D hM (.inr (by omega));have n3:¬q0u s (w.heap.size+1+1+1):=q0D hM (.inr (by omega));have nx:¬q0u s w.heap.size:=q0D hM (.inr nl0);have HE:Hid (j5Q w B s):=j5S (by omega) n2 n3;rw[hsv];unfold opV;have CW:Hid (∀X,_):=λX=>z0s ((txt o.site).size:Int) 1 8 X (by rw[q0L];omega) (by rw[q0L];omega);have CF:Hid (∀_:Unit,_):=λ(_:Unit)=>q1k s.v H W (q0K MW) hs;rw[hsv]at CF;have HFD0:Hid (q1F H o.site 0 (-1)):= .inl ⟨rfl,λi h hi=>absurd hi (by omega)⟩
 have HRS:Hid (∀X,Below W.heap.size W X->∀j(h:j<H.sites.length),∃g,s.sa=some ⟨g,0,none⟩/\X.cell? ⟨g,j,none⟩=some (.string (txt H.sites[j]))):=λX hX j h=>by
  rcases j0S (q0c MW hX).st with⟨e,e2⟩|⟨g,cap,e,_,_,_,_,HC⟩
  ·rw[e2]at h;simp at h
  ·simp only[Value.slice.injEq]at e;exact⟨g,e.1,(HC.out j h).1⟩
 have HSN:Hid (s.sn=H.sites.length):=MW.ls;have HSE:Hid (∀m,q1F H o.site H.sites.length m->y0b H o.site=m):=λm hm=>x2r hokn hm;have hsn6:s.sn<=6:=by rw[MW.ls];exact h6
 obtain⟨go,hgo,hgB,hgl⟩:=v0E MW k hkl;have hgn:go<w.heap.size:=(z0X hM (.inl ⟨_,hgo,rfl⟩)).2;have hget:H.objs[(v0x H).toNat]? =some H.objs[k]:=by rw[ekf,Int.toNat_natCast,List.getElem?_eq_getElem hkl]
 obtain⟨gen,hge⟩:∃gen,H.objs[k].gen=gen:=⟨_,rfl⟩
 have HR:Hid (∀m,y0b H o.site=m->x0o H o.site=(q0r H k (y0X (gen+1) m),⟨0,idZ (k:Int) (gen+1),[]⟩)):=λm hm=>by
  unfold x0o;rw[if_neg (by omega),if_neg (by omega),if_neg (by omega),hget];simp only[ekf,Int.toNat_natCast,hge,q1U,j2N];rw[if_neg (by omega),if_neg (by omega),hm]
 rw[ekf]at CF;have HSZ:Hid (0<=y0b H o.site):=hsz;have HGO:=hdx hgo;have HK2:Hid (k<H.objs.length):=hkl;have HH8:Hid (H.objs.length=8):=h8
 have HGN:Hid (∀X,HM X B s H->X.cell? ⟨go,k*8+1,none⟩=some (.int .i64 gen)):=λX hX=>by
  have e:=(z0o hX k hkl go hgo).2.1.c1;rw[hge]at e;exact e
 have HNS:Hid (¬q0u s (w.heap.size+1+1)/\¬q0u s (w.heap.size+1+1+1)):=⟨n2,n3⟩;have HNX:Hid (¬q0u s w.heap.size):=nx;rw[hge]at hgen;obtain⟨RR,hRR⟩:∃R,x0o H o.site=R:=⟨_,rfl⟩;have HRR:Hid (x0o H o.site=RR):=hRR;rw[hRR];clear hM hs MW F4 F5 FR FA BW hl hsl ekf hokn h6 h8 hsz hget hge hgo hkl hRR;go_enter Tryz.func32,Tryz.ntmps32;go_wp2_with fail
 rw[<-hW];clear hW;refine(CW.out _).mono ?_;rintro e w1 ⟨rfl,hww⟩;have hw9:W=w1:=hww.symm;subst hw9;clear hww;obtain⟨x0,x1,x2,x3⟩:=HF4.out.cells;go_wp2_with fail
 refine(CF.out ()).mono ?_;rintro e w2 ⟨rfl,b2⟩;clear x0 x1 x2 x3 CW CF;have HB2:Hid (Below W.heap.size W w2):=b2;clear b2;go_wp2;go_loopw[7,8] (λsv i wr=>∃(j:Nat)(m:Int),j<=s.sn/\i= .int .i64 (j:Int)/\sv= .int .i64 m/\Hid (Below W.heap.size W wr)/\Hid (q1F H o.site j m)) (λ_ i _=>s.sn - (intOf i).toNat)
 case atStart=>exact⟨0,-1,by omega,rfl,rfl,HB2,HFD0⟩
 case round=>
  obtain⟨j,m,hjn,rfl,rfl,HBW2,HFD⟩:=hrel;have hwr:=HBW2.out.size;obtain⟨x0,x1,x2,x3⟩:=(HF4.out.later HBW2.out).cells;by_cases hlt:j<s.sn
  ·have hjs:j<H.sites.length:=by have:=HSN.out;omega
   obtain⟨gs,hgs,-⟩:=HRS.out wr HBW2.out j hjs;have HGS:Hid (s.sa=some ⟨gs,0,none⟩):=hgs
   have l1:∀Z:q0b wr,Z.on.cell? ⟨w.heap.size,3,none⟩=some (.slice (some ⟨gs,0,none⟩) s.sn s.sc):=λZ=>by
    have e:=(HF4.out.later (HBW2.out.trans (Z.bel.mono hwr))).cell 3;rw[HGS.out]at e;exact e
   have l2:∀Z:q0b wr,Z.on.cell? ⟨gs,j,none⟩=some (.string (txt H.sites[j])):=λZ=>by
    obtain⟨g2,e1,e2⟩:=HRS.out _ (HBW2.out.trans (Z.bel.mono hwr)) j hjs;rw[HGS.out]at e1;injection e1 with e1;injection e1 with e1 _ _;subst e1;exact e2
   have l3:∀Z:q0b wr,Z.on.cell? ⟨w.heap.size+1,4,none⟩=some (.string (txt o.site)):=λZ=>(HF5.out.later (HBW2.out.trans (Z.bel.mono hwr))).cell 4;have hnel:=q0b.some_ wr;have hj0:(0:Int)<=(j:Int):=by omega
   have hj1:(j:Int)<(s.sn:Int):=by omega
   by_cases he:H.sites[j]=o.site
   ·have HF2:Hid (q1F H o.site (j+1) (j:Int)):= .inr ⟨j,hjs,by omega,he,rfl⟩;rw[he]at l2;clear hgs he;go_wp2;refine q0j wr bl0 (by kernel_rfl) (by kernel_rfl) ?_;repeat (go_big_quiet_step (fail))
    refine wpQuiet_nil ?_;intro X4 hXe;have hX4:Below wr.heap.size wr X4:=by obtain⟨n,hn⟩:=hXe;rw[hn];exact n.bel
    have HB4:Hid (Below W.heap.size W X4):=HBW2.out.trans (hX4.mono hwr);clear hXe l1 l2 l3 hnel hX4 x0 x1 x2 x3;go_wp2;go_roundw
    case rel=>exact⟨j+1,(j:Int),by omega,by go_num,rfl,HB4,HF2⟩
    case measure=>simp[intOf];omega
   ·have HF2:Hid (q1F H o.site (j+1) m):=by
     rcases HFD.out with⟨e1,e2⟩|⟨i,h1,h2,h3,h4⟩
     ·refine .inl ⟨e1,λi h hi=> ?_⟩;by_cases e3:i=j
      ·subst e3;exact he
      ·exact e2 i h (by omega)
     ·exact .inr ⟨i,h1,by omega,h3,h4⟩
    have hq:((txt H.sites[j]).toList==(txt o.site).toList)=false:=z1G he;generalize txt H.sites[j]=tz at*;clear hgs he;go_wp2;refine q0j wr bl0 (by kernel_rfl) (by kernel_rfl) ?_;repeat (go_big_quiet_step (fail))
    refine wpQuiet_nil ?_;intro X4 hXe;have hX4:Below wr.heap.size wr X4:=by obtain⟨n,hn⟩:=hXe;rw[hn];exact n.bel
    have HB4:Hid (Below W.heap.size W X4):=HBW2.out.trans (hX4.mono hwr);clear hXe l1 l2 l3 hnel hX4 x0 x1 x2 x3 hq;go_wp2;go_roundw
    case rel=>exact⟨j+1,m,by omega,by go_num,rfl,HB4,HF2⟩
    case measure=>simp[intOf];omega
  ·have hm:y0b H o.site=m:=HSE.out m (by have e:j=H.sites.length:=by have:=HSN.out;omega
                                         rw[<-e];exact HFD.out)
   have bX:=HBW2.out;have hm0:0<=m:=by have:=HSZ.out;omega
   have hRm:RR=(q0r H k (y0X (gen+1) m),⟨0,idZ (k:Int) (gen+1),[]⟩):=by rw[<-HRR.out];exact HR.out m hm
   subst hRm;clear hm HFD HRR HR;have HLY:Hid (LS0 w wr B w.heap.size s H):=⟨HBW.out.trans (bX.mono (by have:=HBW.out.size;omega)),hB,q0c HM0.out bX,HF4.out.later bX,hB,HNX.out,.inl ⟨rfl,rfl⟩,z0H _ _,λg hg=>(by simp[Value.ownBlock]at hg),λg hg=>(by simp[Value.ownBlock]at hg),λg hg=>(by simp[Value.ownBlock]at hg)⟩;have HRY:Hid (q0d wr (w.heap.size+1+1) (.slice none 0 0) (.slice none 0 0) (.slice none 0 0) (.slice none 0 0)/\q0k wr (w.heap.size+1+1+1) (.int .i64 0) (.int .i64 0) (.slice none 0 0)):=⟨HFR.out.later bX,HFA.out.later bX⟩;clear bX HBW2 HB2 HFD0 HRS HSN HSE HSZ HF4 HF5 HFR HFA HM0 HBW HE HNX x0 x1 x2 x3;obtain⟨x0,x1,x2,x3⟩:=HLY.out.x.cells;have HOS:Hid (s.os.length=8):=by show _=_;rw[HLY.out.m.lo];exact HH8.out
   rw[HGO.out,HOS.out]at x0;have g1:wr.cell? ⟨go,k*8+1,none⟩=some (.int .i64 gen):=HGN.out _ HLY.out.m;have hk0:(0:Int)<=(k:Int):=by omega
   have hk1:(k:Int)<8:=by omega
   have hgb:=hgen;have HYX:Hid (∀X,Below wr.heap.size wr X->LS0 w X B w.heap.size s H):=λX hX=>q0y HLY.out hX;go_wp2;clear x0 x1 x2 x3 g1;refine q0R 8 (by kernel_rfl) (by kernel_rfl) (RMd w.heap.size go k 8 s.oc (gen+1) m wr.heap.size) v3J ?_ ?_
   ·intro i o_ hi ho a X hX hA hdep
    match i,hi,ho with
    |0,_,ho=>
     cases ho
     exact v0f 0 (by omega) (q0f hA (t:=2) (by kernel_rfl)) ⟨_,rfl,bl0,rfl⟩
    |1,_,ho=>
     cases ho
     have g0_:a.eval (.tmp 68)= .pointer (some ⟨w.heap.size,0,none⟩):=hdep ⟨0,.data⟩ (by simp) rfl 68 rfl;have e:=(HYX.out X hX).x.cell 0;rw[HGO.out,HOS.out]at e;exact u0A g0_ e ⟨_,rfl,bl0,rfl⟩
    |2,_,ho=>
     cases ho
     exact z0p (q0f hA (t:=6) (by kernel_rfl)) ⟨_,rfl,bl0,rfl⟩
    |3,_,ho=>
     cases ho
     exact z0p (q0f hA (t:=9) (by kernel_rfl)) ⟨_,rfl,bl0,rfl⟩
    |4,_,ho=>
     cases ho
     exact z0p (q0f hA (t:=7) (by kernel_rfl)) ⟨_,rfl,bl0,rfl⟩
    |5,_,ho=>
     cases ho
     exact u2G (q2k X) (λe w' ⟨a1,c1,h1,h2,h3⟩=>⟨_,h1,_,rfl,h3,⟨a1,c1,rfl,q0A h2 hX.size⟩⟩)
    |6,_,ho=>
     cases ho
     have g3_:a.eval (.tmp 71)= .int .i64 (gen+1):=hdep ⟨3,.data⟩ (by simp) rfl 71 rfl;have g4_:a.eval (.tmp 72)= .int .i64 m:=hdep ⟨4,.data⟩ (by simp) rfl 72 rfl;obtain⟨a1,c1,g5_,o5⟩:=hdep ⟨5,.data⟩ (by simp) rfl 73 rfl;exact q3J g3_ g4_ g5_ ⟨_,rfl,bl0,⟨a1,c1,rfl,o5⟩⟩
    |7,_,ho=>
     cases ho
     have g1_:a.eval (.tmp 69)= .slice (some ⟨go,0,none⟩) 8 s.oc:=hdep ⟨1,.data⟩ (by simp) rfl 69 rfl;have g2_:a.eval (.tmp 70)= .int .i64 (k:Int):=hdep ⟨2,.data⟩ (by simp) rfl 70 rfl;exact q1y g1_ g2_ hk8 ⟨_,rfl,bl0,rfl⟩
   ·intro o_ ho a X hX hA hdep
    cases ho
    have g7_:a.eval (.tmp 75)= .pointer (some ⟨go,k*8,none⟩):=hdep ⟨7,.data⟩ (by simp) rfl 75 rfl;obtain⟨a1,c1,g6_,o6⟩:=hdep ⟨6,.data⟩ (by simp) rfl 74 rfl;have LX:=HYX.out X hX;obtain⟨hk2,ob6,fz6⟩:=z0o LX.m k HK2.out go HGO.out;refine x2H g7_ g6_ ob6 fz6 ?_;have L9:=y1X HLY.out hX k HK2.out go HGO.out (y0X (gen+1) m) a1 c1 o6;obtain⟨Z,hZ⟩:∃Z,Z=z0r X go (k*8) (y0X (gen+1) m) (.slice a1 3 c1):=⟨_,rfl⟩;have L9' :LS w Z B w.heap.size {s with os:=s.os.set k ⟨a1,3,c1⟩} (q0r H k (y0X (gen+1) m)) (.slice none 0 0) (.slice none 0 0) [] []:=by rw[hZ];exact L9
    have sZ:Z.heap.size=X.heap.size:=by rw[hZ,x1Q]
    have hXs:=hX.size
    have othZ:∀i,i≠go->Z.heap[i]? =X.heap[i]?:=λi hi=>by
     rw[hZ];unfold z0r;iterate 8 rw[heap_setCell_other _ _ _ _ (by exact hi)]
    have HN0:Hid (q0d Z (w.heap.size+1+1) (.slice none 0 0) (.slice none 0 0) (.slice none 0 0) (.slice none 0 0)):=(HRY.out.1.later hX).same (othZ _ (by omega));have HN1:Hid (q0k Z (w.heap.size+1+1+1) (.int .i64 0) (.int .i64 0) (.slice none 0 0)):=(HRY.out.2.later hX).same (othZ _ (by omega));obtain⟨s9,hs9⟩:∃s9:HSh,s9={s with os:=s.os.set k ⟨a1,3,c1⟩}:=⟨_,rfl⟩
    have HNB:Hid (¬q0u s9 (w.heap.size+1+1)/\¬q0u s9 (w.heap.size+1+1+1)):=by
     have key:∀g,¬q0u s g->g<wr.heap.size->¬q0u s9 g:=λg h1 h2 hh=>by
      rw[hs9]at hh;rcases j1Y hh with h3|⟨x,hx,e⟩
      ·exact h1 h3
      ·have h4:=(q0n o6 _ (x0b hx)).1;omega
     exact⟨key _ HNS.out.1 (by have:=HRY.out.1.lt;omega),key _ HNS.out.2 (by have:=HRY.out.2.lt;omega)⟩
    rw[<-hs9]at L9';have HLZ:Hid (LS0 w Z B w.heap.size s9 (q0r H k (y0X (gen+1) m))):=L9';have HGX:Hid (q0d Z w.heap.size (.slice s9.oa s9.os.length s9.oc) (.slice s9.wa s9.wn s9.wc) (.slice s9.ba s9.bn s9.bc) (.slice s9.sa s9.sn s9.sc)):=L9'.x;have HCN:Hid (B<=w.heap.size):=hB;have hZB:w.heap.size+1+1+1<Z.heap.size:=HN1.out.lt;rw[<-hZ];obtain⟨us,hus,rfl⟩:=q0F hA [68,69,70,71,72,73,74,75] (by kernel_rfl);clear hdep hA hus g7_ g6_ o6 LX ob6 fz6 L9 L9' othZ hZ hs9 hX HYX HLY HGO HOS HRY HNS HGN;simp only[List.mapIdx_cons,List.mapIdx_nil,Nat.reduceAdd,List.contains_cons,List.contains_nil,Nat.reduceBEq,Bool.or_false,Bool.or_true,if_true,if_false,Bool.false_eq_true];go_wp2;refine x0u 6 (by kernel_rfl) (by kernel_rfl) (RJ5 w Z B (w.heap.size+1+1) (.slice s9.oa s9.os.length s9.oc) (.slice s9.wa s9.wn s9.wc) (.slice s9.ba s9.bn s9.bc) (.slice s9.sa s9.sn s9.sc)) (RV5 (.agg #[.slice s9.oa s9.os.length s9.oc,.slice s9.wa s9.wn s9.wc,.slice s9.ba s9.bn s9.bc,.slice s9.sa s9.sn s9.sc]) (k:Int) (gen+1) (idZ (k:Int) (gen+1))) (λ_ _ _ _=>True) ⟨HLZ.out.bel.drew,Nat.le_refl _,λ_ _ _=>rfl,λ_=>HN0.out,λh=>h.elim⟩ ?_ ?_
    ·intro i o_ hi ho a Y9 dn hJ hA hbn hnot hdep;have hBZ:B<=Z.heap.size:=by have:=HCN.out;omega
     match i,hi,ho with
     |0,_,ho=>
      cases ho
      exact y0q (q0f hA (t:=2) (by kernel_rfl)) (HGX.out.same (hJ.oth _ (by omega) HGX.out.lt)) ⟨_,rfl,hJ.later hBZ (by decide) bl0,rfl,λq hq _ t ht=>⟨hbn.yields q hq t ht,trivial,trivial⟩⟩
     |1,_,ho=>
      cases ho
      exact z0p (q0f hA (t:=6) (by kernel_rfl)) ⟨_,rfl,hJ.later hBZ (by decide) bl0,rfl,λq hq _ t ht=>⟨hbn.yields q hq t ht,trivial,trivial⟩⟩
     |2,_,ho=>
      cases ho
      exact z0p (q0f hA (t:=9) (by kernel_rfl)) ⟨_,rfl,hJ.later hBZ (by decide) bl0,rfl,λq hq _ t ht=>⟨hbn.yields q hq t ht,trivial,trivial⟩⟩
     |3,_,ho=>
      cases ho
      have g1_:a.eval (.tmp 77)= .int .i64 (k:Int):=hbn.yields 1 (hdep ⟨1,.data⟩ (by simp) rfl) 77 rfl;have g2_:a.eval (.tmp 78)= .int .i64 (gen+1):=hbn.yields 2 (hdep ⟨2,.data⟩ (by simp) rfl) 78 rfl;exact q5f g1_ g2_ (q1C (k:Int) (gen+1) Y9) (λe w' ⟨h1,h2⟩=>⟨_,h1,_,rfl,by rw[h2];exact hJ.later hBZ (by decide) bl0,rfl,λq hq _ t ht=>⟨v2j q _ _ _ (hbn.yields q hq t ht),trivial,trivial⟩⟩)
     |4,_,ho=>
      cases ho
      have g3_:a.eval (.tmp 79)= .int .i64 (idZ (k:Int) (gen+1)):=hbn.yields 3 (hdep ⟨3,.data⟩ (by simp) rfl) 79 rfl;exact q3I g3_ ⟨_,rfl,hJ.later hBZ (by decide) bl0,rfl,λq hq _ t ht=>⟨hbn.yields q hq t ht,trivial,trivial⟩⟩
     |5,_,ho=>
      cases ho
      have g0_:a.eval (.tmp 76)= .agg #[.slice s9.oa s9.os.length s9.oc,.slice s9.wa s9.wn s9.wc,.slice s9.ba s9.bn s9.bc,.slice s9.sa s9.sn s9.sc]:=hbn.yields 0 (hdep ⟨0,.data⟩ (by simp) rfl) 76 rfl;refine v0t (q0f hA (t:=4) (by kernel_rfl)) g0_ (hJ.f0 hnot) ?_;refine⟨undef,rfl,⟨?_,by rw[z0U];exact hJ.ge,λj hj hl=>(q0T _ _ _ _ _ _ j hj).trans (hJ.oth j hj hl),λh=>absurd (.inr rfl) h,λ_=>q0d.setAll (hJ.f0 hnot) _ _ _ _⟩,trivial,λq hq hne t ht=>⟨v2j q _ _ _ (hbn.yields q hq t ht),trivial,trivial⟩⟩;unfold q0p;iterate 4 refine Below.setCell ?_ (by simp only;have:=HCN.out;omega) _
      exact hJ.bel
    ·intro o_ ho a Y9 dn hJ hA hbn hdn
     cases ho
     have g4_:a.eval (.tmp 80)= .agg #[.int .i64 0,.int .i64 (idZ (k:Int) (gen+1)),.slice none 0 0]:=hbn.yields 4 (hdn 4 (by omega)) 80 rfl;have T1:q0k Y9 (w.heap.size+1+1+1) (.int .i64 0) (.int .i64 0) (.slice none 0 0):=HN1.out.same (hJ.oth _ (by omega) HN1.out.lt);refine y0x (q0f hA (t:=5) (by kernel_rfl)) g4_ T1 ?_;have F1:=hJ.f1 (hdn 5 (by omega));obtain⟨Z2,hZ2⟩:∃Z2,Z2=q0g Y9 (w.heap.size+1+1+1) (.int .i64 0) (.int .i64 (idZ (k:Int) (gen+1))) (.slice none 0 0):=⟨_,rfl⟩;have FZ:q0d Z2 (w.heap.size+1+1) (.slice s9.oa s9.os.length s9.oc) (.slice s9.wa s9.wn s9.wc) (.slice s9.ba s9.bn s9.bc) (.slice s9.sa s9.sn s9.sc):=by rw[hZ2];exact F1.same (q0Q _ _ _ _ _ _ (by omega))
     have TZ:q0k Z2 (w.heap.size+1+1+1) (.int .i64 0) (.int .i64 (idZ (k:Int) (gen+1))) (.slice none 0 0):=by rw[hZ2];unfold q0g;exact heap_setCell_same _ _ 2 _ _ _ (heap_setCell_same _ _ 1 _ _ _ (heap_setCell_same _ _ 0 _ _ _ T1))
     have HXZ:Hid (q0z w B (q0r H k (y0X (gen+1) m),⟨0,idZ (k:Int) (gen+1),[]⟩) (.returned (.tuple #[.agg #[.slice s9.oa s9.os.length s9.oc,.slice s9.wa s9.wn s9.wc,.slice s9.ba s9.bn s9.bc,.slice s9.sa s9.sn s9.sc],q0m 0 (idZ (k:Int) (gen+1)) (.slice none 0 0)])) Z2):=by
      refine⟨s9,.slice none 0 0,rfl,y0l HLZ.out.m ?_ (λg hg=> ?_),z0H _ _,λg hg=>by simp[Value.ownBlock]at hg,?_⟩
      ·rw[hZ2,x0k];exact hJ.ge
      ·rw[hZ2,q0Q _ _ _ _ _ g (λe=>HNB.out.2 (by rw[<-e];exact hg))];exact hJ.oth g (λe=>HNB.out.1 (by rw[<-e];exact hg)) (z0X HLZ.out.m hg).2
      ·rw[hZ2];unfold q0g;iterate 3 refine Below.setCell ?_ (by simp only;have:=HCN.out;omega) _
       exact hJ.bel
     rw[<-hZ2];obtain⟨us,hus,rfl⟩:=q0F hA [76,77,78,79,80] (by kernel_rfl);clear hbn hdn hA hus g4_ hJ F1 T1 hZ2;simp only[List.mapIdx_cons,List.mapIdx_nil,Nat.reduceAdd,List.contains_cons,List.contains_nil,Nat.reduceBEq,Bool.or_false,Bool.or_true,if_true,if_false,Bool.false_eq_true];obtain⟨r0,r1,r2,r3⟩:=FZ.cells;obtain⟨q0,q1,q2⟩:=TZ.cells;clear FZ TZ HGX HN0 HN1 HLZ HCN HNB;go_wp2;exact bodyPost_ret (v:= .tuple #[.agg #[.slice s9.oa s9.os.length s9.oc,.slice s9.wa s9.wn s9.wc,.slice s9.ba s9.bn s9.bc,.slice s9.sa s9.sn s9.sc],q0m 0 (idZ (k:Int) (gen+1)) (.slice none 0 0)]) (by simp[results,Tryz.results32,go_sem,q0m, *]) rfl HXZ.out
theorem u4m(w:World)(B:Nat)(s:HSh)(H:q0a)(o:OpD)(hM:HM w B s H)(hB:B<=w.heap.size)(hs:q0h H)(hsl:o.site.length<=1048576)(hl:1<=o.site.length/\o.site.length<=8)(k:Nat)(hkl:k<H.objs.length)(hk8:k<8)(h8:H.objs.length=8)(ekf:v0x H=(k:Int))(h6:H.sites.length<=6)(hokn:∀i(h:i<H.sites.length),okN H i H.sites[i])(hgen:0<=H.objs[k].gen/\H.objs[k].gen<999)(hsz:y0b H o.site<0)(hfull:H.sites.length<6):
 Calls Tryz.prog 32 #[s.v,opV o] w λe w' =>q0z w B (x0o H o.site) e w' :=by
 obtain⟨W,hW,BW,sW,F4,F5,FR,FA⟩:=z0S w (.slice s.oa s.os.length s.oc) (.slice s.wa s.wn s.wc) (.slice s.ba s.bn s.bc) (.slice s.sa s.sn s.sc) o;have MW:=q0c hM BW;have HM0:=hdx MW;have HBW:Hid (Below B w W):=BW.mono hB;have HF4:=hdx F4;have HF5:=hdx F5;have HFR:=hdx FR;have HFA:=hdx FA;have n2:¬q0u s (w.heap.size+1+1):=q0D hM (.inr (by omega));have n3:¬q0u s (w.heap.size+1+1+1):=q0D hM (.inr (by omega));have nx:¬q0u s w.heap.size:=q0D hM (.inr nl0);have HE:Hid (j5Q w B s):=j5S (by omega) n2 n3;rw[hsv];unfold opV;have CW:Hid (∀X,_):=λX=>z0s ((txt o.site).size:Int) 1 8 X (by rw[q0L];omega) (by rw[q0L];omega);have CF:Hid (∀_:Unit,_):=λ(_:Unit)=>q1k s.v H W (q0K MW) hs;rw[hsv]at CF;have HFD0:Hid (q1F H o.site 0 (-1)):= .inl ⟨rfl,λi h hi=>absurd hi (by omega)⟩
 have HRS:Hid (∀X,Below W.heap.size W X->∀j(h:j<H.sites.length),∃g,s.sa=some ⟨g,0,none⟩/\X.cell? ⟨g,j,none⟩=some (.string (txt H.sites[j]))):=λX hX j h=>by
  rcases j0S (q0c MW hX).st with⟨e,e2⟩|⟨g,cap,e,_,_,_,_,HC⟩
  ·rw[e2]at h;simp at h
  ·simp only[Value.slice.injEq]at e;exact⟨g,e.1,(HC.out j h).1⟩
 have HSN:Hid (s.sn=H.sites.length):=MW.ls;have HSE:Hid (∀m,q1F H o.site H.sites.length m->y0b H o.site=m):=λm hm=>x2r hokn hm;have hsn6:s.sn<=6:=by rw[MW.ls];exact h6
 obtain⟨go,hgo,hgB,hgl⟩:=v0E MW k hkl;have hgn:go<w.heap.size:=(z0X hM (.inl ⟨_,hgo,rfl⟩)).2;have hget:H.objs[(v0x H).toNat]? =some H.objs[k]:=by rw[ekf,Int.toNat_natCast,List.getElem?_eq_getElem hkl]
 obtain⟨gen,hge⟩:∃gen,H.objs[k].gen=gen:=⟨_,rfl⟩
 have HR:Hid (x0o H o.site=(q0r {H with sites:=H.sites++[o.site]} k (y0X (gen+1) (s.sn:Int)),⟨0,idZ (k:Int) (gen+1),[]⟩)):=by show _=_;unfold x0o;rw[if_neg (by omega),if_neg (by omega),if_neg (by omega),hget];simp only[ekf,Int.toNat_natCast,hge,q1U,j2N];rw[if_pos hsz,if_pos hsz,HSN.out]
 rw[ekf]at CF;have HSZ:Hid (y0b H o.site<0):=hsz;have HGO0:=hdx hgo;have HK2:Hid (k<H.objs.length):=hkl;have HGEN:Hid ((H.objs[k]'HK2.out).gen=gen):=hge;have HH8:Hid (H.objs.length=8):=h8;have HNS0:Hid (¬q0u s (w.heap.size+1+1)/\¬q0u s (w.heap.size+1+1+1)):=⟨n2,n3⟩;have HNX:Hid (¬q0u s w.heap.size):=nx;have hq6:(s.sn:Int)<6:=by rw[HSN.out];omega
 rw[hge]at hgen;rw[HR.out];clear hM hs MW F4 F5 FR FA BW hl hsl ekf hokn h6 h8 hsz hget hge hgo hkl HR hfull;go_enter Tryz.func32,Tryz.ntmps32;go_wp2_with fail
 rw[<-hW];clear hW;refine(CW.out _).mono ?_;rintro e w1 ⟨rfl,hww⟩;have hw9:W=w1:=hww.symm;subst hw9;clear hww;obtain⟨x0,x1,x2,x3⟩:=HF4.out.cells;go_wp2_with fail
 refine(CF.out ()).mono ?_;rintro e w2 ⟨rfl,b2⟩;clear x0 x1 x2 x3 CW CF;have HB2:Hid (Below W.heap.size W w2):=b2;clear b2;go_wp2;go_loopw[7,8] (λsv i wr=>∃(j:Nat)(m:Int),j<=s.sn/\i= .int .i64 (j:Int)/\sv= .int .i64 m/\Hid (Below W.heap.size W wr)/\Hid (q1F H o.site j m)) (λ_ i _=>s.sn - (intOf i).toNat)
 case atStart=>exact⟨0,-1,by omega,rfl,rfl,HB2,HFD0⟩
 case round=>
  obtain⟨j,m,hjn,rfl,rfl,HBW2,HFD⟩:=hrel;have hwr:=HBW2.out.size;obtain⟨x0,x1,x2,x3⟩:=(HF4.out.later HBW2.out).cells;by_cases hlt:j<s.sn
  ·have hjs:j<H.sites.length:=by have:=HSN.out;omega
   obtain⟨gs,hgs,-⟩:=HRS.out wr HBW2.out j hjs;have HGS:Hid (s.sa=some ⟨gs,0,none⟩):=hgs
   have l1:∀Z:q0b wr,Z.on.cell? ⟨w.heap.size,3,none⟩=some (.slice (some ⟨gs,0,none⟩) s.sn s.sc):=λZ=>by
    have e:=(HF4.out.later (HBW2.out.trans (Z.bel.mono hwr))).cell 3;rw[HGS.out]at e;exact e
   have l2:∀Z:q0b wr,Z.on.cell? ⟨gs,j,none⟩=some (.string (txt H.sites[j])):=λZ=>by
    obtain⟨g2,e1,e2⟩:=HRS.out _ (HBW2.out.trans (Z.bel.mono hwr)) j hjs;rw[HGS.out]at e1;injection e1 with e1;injection e1 with e1 _ _;subst e1;exact e2
   have l3:∀Z:q0b wr,Z.on.cell? ⟨w.heap.size+1,4,none⟩=some (.string (txt o.site)):=λZ=>(HF5.out.later (HBW2.out.trans (Z.bel.mono hwr))).cell 4;have hnel:=q0b.some_ wr;have hj0:(0:Int)<=(j:Int):=by omega
   have hj1:(j:Int)<(s.sn:Int):=by omega
   by_cases he:H.sites[j]=o.site
   ·have HF2:Hid (q1F H o.site (j+1) (j:Int)):= .inr ⟨j,hjs,by omega,he,rfl⟩;rw[he]at l2;clear hgs he;go_wp2;refine q0j wr bl0 (by kernel_rfl) (by kernel_rfl) ?_;repeat (go_big_quiet_step (fail))
    refine wpQuiet_nil ?_;intro X4 hXe;have hX4:Below wr.heap.size wr X4:=by obtain⟨n,hn⟩:=hXe;rw[hn];exact n.bel
    have HB4:Hid (Below W.heap.size W X4):=HBW2.out.trans (hX4.mono hwr);clear hXe l1 l2 l3 hnel hX4 x0 x1 x2 x3;go_wp2;go_roundw
    case rel=>exact⟨j+1,(j:Int),by omega,by go_num,rfl,HB4,HF2⟩
    case measure=>simp[intOf];omega
   ·have HF2:Hid (q1F H o.site (j+1) m):=by
     rcases HFD.out with⟨e1,e2⟩|⟨i,h1,h2,h3,h4⟩
     ·refine .inl ⟨e1,λi h hi=> ?_⟩;by_cases e3:i=j
      ·subst e3;exact he
      ·exact e2 i h (by omega)
     ·exact .inr ⟨i,h1,by omega,h3,h4⟩
    have hq:((txt H.sites[j]).toList==(txt o.site).toList)=false:=z1G he;generalize txt H.sites[j]=tz at*;clear hgs he;go_wp2;refine q0j wr bl0 (by kernel_rfl) (by kernel_rfl) ?_;repeat (go_big_quiet_step (fail))
    refine wpQuiet_nil ?_;intro X4 hXe;have hX4:Below wr.heap.size wr X4:=by obtain⟨n,hn⟩:=hXe;rw[hn];exact n.bel
    have HB4:Hid (Below W.heap.size W X4):=HBW2.out.trans (hX4.mono hwr);clear hXe l1 l2 l3 hnel hX4 x0 x1 x2 x3 hq;go_wp2;go_roundw
    case rel=>exact⟨j+1,m,by omega,by go_num,rfl,HB4,HF2⟩
    case measure=>simp[intOf];omega
  ·have hm:y0b H o.site=m:=HSE.out m (by have e:j=H.sites.length:=by have:=HSN.out;omega
                                         rw[<-e];exact HFD.out)
   have bX:=HBW2.out;have hm0:m<0:=by have:=HSZ.out;omega
   have HLW:Hid (LS0 w wr B w.heap.size s H):=⟨HBW.out.trans (bX.mono (by have:=HBW.out.size;omega)),hB,q0c HM0.out bX,HF4.out.later bX,hB,HNX.out,.inl ⟨rfl,rfl⟩,z0H _ _,λg hg=>(by simp[Value.ownBlock]at hg),λg hg=>(by simp[Value.ownBlock]at hg),λg hg=>(by simp[Value.ownBlock]at hg)⟩;have HRY0:Hid (q0d wr (w.heap.size+1+1) (.slice none 0 0) (.slice none 0 0) (.slice none 0 0) (.slice none 0 0)/\q0k wr (w.heap.size+1+1+1) (.int .i64 0) (.int .i64 0) (.slice none 0 0)):=⟨HFR.out.later bX,HFA.out.later bX⟩;have ko:wr.cell? ⟨w.heap.size+1,4,none⟩=some (.string (txt o.site)):=(HF5.out.later bX).cell 4;have hs3:=bX.size;have HSL:Hid (H.sites.length<=6):=by have:=HSN.out;show _<=_;omega
   have HBWR:Hid (B<=wr.heap.size):=by have:=HBW.out.size;show _<=_;omega
   have d1:w.heap.size<wr.heap.size:=by omega
   have d2:¬w.heap.size=wr.heap.size:=by omega
   clear bX hm HFD HBW2 HB2 HFD0 HRS HSE HSZ HF4 HF5 HFR HFA HM0 HBW HE HNX;obtain⟨V,hV⟩:∃V,V=wr.alloc (.cells #[.string (txt o.site)] 9):=⟨_,rfl⟩;have bV:Below wr.heap.size wr V:=by rw[hV];exact bl1 _
   have HSV:Hid (V.heap.size=wr.heap.size+1):=by show _=_;rw[hV];simp
   have HLV:Hid (LS0 w V B w.heap.size s H):=q0y HLW.out bV;have hVc:V.cell? ⟨wr.heap.size,0,none⟩=some (.string (txt o.site)):=by rw[hV,World.cell?_alloc_mark];rfl
   have HRV:Hid (q0d V (w.heap.size+1+1) (.slice none 0 0) (.slice none 0 0) (.slice none 0 0) (.slice none 0 0)/\q0k V (w.heap.size+1+1+1) (.int .i64 0) (.int .i64 0) (.slice none 0 0)):=⟨HRY0.out.1.later bV,HRY0.out.2.later bV⟩;clear bV HLW HRY0;go_wp2_with (at_builtin;rw[<-hV];clear hV;refine q3f rfl _ _ rfl B _ H.sites rfl HLV.out.m.st ⟨wr.heap.size,0,none⟩ o.site rfl hVc ?hlen ?hbv ?_)
   case hlen=>have:=HSL.out;omega
   case hbv=>have:=HBWR.out;have:=HSV.out;omega
   intro v4 X4 O4 s4 H4 A4 B4;obtain⟨sa2,sc2,e2,-⟩:=j0t O4;subst e2;have hsb:∀i,(Value.slice s.sa s.sn s.sc).ownBlock=some i->q0u s i:=λi hi=>by obtain⟨y,hy,e⟩:=z0L hi;exact .inr (.inr (.inr (.inl ⟨y,hy,e⟩)))
   have hlS:(H.sites++[o.site]).length=H.sites.length+1:=by simp
   have LN:=v3e HLV.out (B4.out B w HLV.out.bel nl0) s4 H4.out sa2 (H.sites++[o.site]).length sc2 (H.sites++[o.site]) rfl O4 (λg hg=>by
    rcases A4.out with e|e
    ·exact .inl (by rw[<-e];exact hg)
    ·rw[e]at hg;injection hg with hg;subst hg;exact .inr nl0)
   have F4X:q0d X4 w.heap.size (.slice s.oa s.os.length s.oc) (.slice s.wa s.wn s.wc) (.slice s.ba s.bn s.bc) (.slice s.sa s.sn s.sc):=HLV.out.x.same (H4.out _ HLV.out.x.lt (λe=>HLV.out.sx (hsb _ e)))
   have HNS:Hid (¬q0u ({s with sa:=sa2,sn:=(H.sites++[o.site]).length,sc:=sc2}:HSh) (w.heap.size+1+1)/\¬q0u ({s with sa:=sa2,sn:=(H.sites++[o.site]).length,sc:=sc2}:HSh) (w.heap.size+1+1+1)):=by
    have key:∀g,¬q0u s g->g<wr.heap.size->¬q0u ({s with sa:=sa2,sn:=(H.sites++[o.site]).length,sc:=sc2}:HSh) g:=λg h1 h2 hh=>by
     rcases j1r hh with h3|⟨x,hx,e⟩
     ·exact h1 h3.has
     ·rcases A4.out with e3|e3
      ·exact h1 (by rw[<-e];exact hsb _ (by rw[<-e3];exact x0b hx))
      ·rw[x0b hx]at e3;injection e3 with e3;have:=HSV.out;omega
    exact⟨key _ HNS0.out.1 (by omega),key _ HNS0.out.2 (by omega)⟩
   have HRX:Hid (q0d X4 (w.heap.size+1+1) (.slice none 0 0) (.slice none 0 0) (.slice none 0 0) (.slice none 0 0)/\q0k X4 (w.heap.size+1+1+1) (.int .i64 0) (.int .i64 0) (.slice none 0 0)):=⟨HRV.out.1.same (H4.out _ HRV.out.1.lt (λe=>HNS0.out.1 (hsb _ e))),HRV.out.2.same (H4.out _ HRV.out.2.lt (λe=>HNS0.out.2 (hsb _ e)))⟩;obtain⟨Y,hY⟩:∃Y,Y=X4.setCell ⟨w.heap.size,3,none⟩ (.slice sa2 (H.sites++[o.site]).length sc2):=⟨_,rfl⟩;rw[<-hY]at LN
   have HRY:Hid (q0d Y (w.heap.size+1+1) (.slice none 0 0) (.slice none 0 0) (.slice none 0 0) (.slice none 0 0)/\q0k Y (w.heap.size+1+1+1) (.int .i64 0) (.int .i64 0) (.slice none 0 0)):=by rw[hY];exact⟨HRX.out.1.same (heap_setCell_other _ _ _ _ (by simp only;omega)),HRX.out.2.same (heap_setCell_other _ _ _ _ (by simp only;omega))⟩
   have f3:=F4X.frozen 3;have c3:X4.cell? ⟨w.heap.size,3,none⟩=some (.slice s.sa s.sn s.sc):=F4X.cell 3
   have hx0:X4.cell? ⟨w.heap.size,0,none⟩=some (.slice (some ⟨go,0,none⟩) 8 s.oc):=by
    have e:=F4X.cell 0;have e8:s.os.length=8:=by rw[HLV.out.m.lo];exact HH8.out
    rw[HGO0.out,e8]at e;exact e
   obtain⟨s1,hs1⟩:∃s1:HSh,s1={s with sa:=sa2,sn:=(H.sites++[o.site]).length,sc:=sc2}:=⟨_,rfl⟩;have HGO:Hid (s1.oa=some ⟨go,0,none⟩):=by show _=_;rw[hs1];exact HGO0.out
   rw[<-hs1]at LN HNS;have HLY:Hid (LS w Y B w.heap.size s1 {H with sites:=H.sites++[o.site]} (.slice none 0 0) (.slice none 0 0) [] []):=LN
   have HGN:Hid (∀X,HM X B s1 {H with sites:=H.sites++[o.site]}->X.cell? ⟨go,k*8+1,none⟩=some (.int .i64 gen)):=λX hX=>by
    have e:X.cell? ⟨go,k*8+1,none⟩=some (.int .i64 (H.objs[k]'(HK2.out)).gen):=(z0o hX k HK2.out go HGO.out).2.1.c1;exact e.trans (congrArg (λz=>some (Value.int .i64 z)) HGEN.out)
   have hgy:Y.cell? ⟨go,k*8+1,none⟩=some (.int .i64 gen):=HGN.out _ HLY.out.m
   have hg4:X4.cell? ⟨go,k*8+1,none⟩=some (.int .i64 gen):=by rw[hY]at hgy;rw[<-hgy];exact(World.cell?_of_block (a:=⟨go,k*8+1,none⟩) (heap_setCell_other _ _ _ _ (by simp only;omega))).symm
   have hn1:¬go=w.heap.size:=by omega
   have hn2:¬w.heap.size=go:=by omega
   clear hgy LN O4 s4 H4 A4 B4 F4X hsb hVc HLV HRV HRX HNS0 HGO0 HGEN hs1 HSL HBWR ko x0 x1 x2 x3;generalize (H.sites++[o.site]).length=sn2 at hY c3 f3 ⊢;have hsn0:(0:Int)<=(s.sn:Int):=by omega
   have hkk:(k:Int)<8:=by omega
   have hkk0:(0:Int)<=(k:Int):=by omega
   obtain⟨x0,x1,x2,x3⟩:=HLY.out.x.cells;have HOS:Hid (s1.os.length=8):=by show _=_;rw[HLY.out.m.lo];exact HH8.out
   rw[HGO.out,HOS.out]at x0;have g1:Y.cell? ⟨go,k*8+1,none⟩=some (.int .i64 gen):=HGN.out _ HLY.out.m;have hk0:(0:Int)<=(k:Int):=by omega
   have hk1:(k:Int)<8:=by omega
   have hgb:=hgen;have HYX:Hid (∀X,Below Y.heap.size Y X->LS w X B w.heap.size s1 {H with sites:=H.sites++[o.site]} (.slice none 0 0) (.slice none 0 0) [] []):=λX hX=>q0y HLY.out hX;go_wp2;rw[<-hY];clear hY c3 f3 hx0 hg4;clear x0 x1 x2 x3 g1;refine q0R 8 (by kernel_rfl) (by kernel_rfl) (RMd w.heap.size go k 8 s1.oc (gen+1) (s.sn:Int) Y.heap.size) v3J ?_ ?_
   ·intro i o_ hi ho a X hX hA hdep
    match i,hi,ho with
    |0,_,ho=>
     cases ho
     exact v0f 0 (by omega) (q0f hA (t:=2) (by kernel_rfl)) ⟨_,rfl,bl0,rfl⟩
    |1,_,ho=>
     cases ho
     have g0_:a.eval (.tmp 68)= .pointer (some ⟨w.heap.size,0,none⟩):=hdep ⟨0,.data⟩ (by simp) rfl 68 rfl;have e:=(HYX.out X hX).x.cell 0;rw[HGO.out,HOS.out]at e;exact u0A g0_ e ⟨_,rfl,bl0,rfl⟩
    |2,_,ho=>
     cases ho
     exact z0p (q0f hA (t:=6) (by kernel_rfl)) ⟨_,rfl,bl0,rfl⟩
    |3,_,ho=>
     cases ho
     exact z0p (q0f hA (t:=9) (by kernel_rfl)) ⟨_,rfl,bl0,rfl⟩
    |4,_,ho=>
     cases ho
     exact z0p (q0f hA (t:=7) (by kernel_rfl)) ⟨_,rfl,bl0,rfl⟩
    |5,_,ho=>
     cases ho
     exact u2G (q2k X) (λe w' ⟨a1,c1,h1,h2,h3⟩=>⟨_,h1,_,rfl,h3,⟨a1,c1,rfl,q0A h2 hX.size⟩⟩)
    |6,_,ho=>
     cases ho
     have g3_:a.eval (.tmp 71)= .int .i64 (gen+1):=hdep ⟨3,.data⟩ (by simp) rfl 71 rfl;have g4_:a.eval (.tmp 72)= .int .i64 (s.sn:Int):=hdep ⟨4,.data⟩ (by simp) rfl 72 rfl;obtain⟨a1,c1,g5_,o5⟩:=hdep ⟨5,.data⟩ (by simp) rfl 73 rfl;exact q3J g3_ g4_ g5_ ⟨_,rfl,bl0,⟨a1,c1,rfl,o5⟩⟩
    |7,_,ho=>
     cases ho
     have g1_:a.eval (.tmp 69)= .slice (some ⟨go,0,none⟩) 8 s1.oc:=hdep ⟨1,.data⟩ (by simp) rfl 69 rfl;have g2_:a.eval (.tmp 70)= .int .i64 (k:Int):=hdep ⟨2,.data⟩ (by simp) rfl 70 rfl;exact q1y g1_ g2_ hk8 ⟨_,rfl,bl0,rfl⟩
   ·intro o_ ho a X hX hA hdep
    cases ho
    have g7_:a.eval (.tmp 75)= .pointer (some ⟨go,k*8,none⟩):=hdep ⟨7,.data⟩ (by simp) rfl 75 rfl;obtain⟨a1,c1,g6_,o6⟩:=hdep ⟨6,.data⟩ (by simp) rfl 74 rfl;have LX:=HYX.out X hX;obtain⟨hk2,ob6,fz6⟩:=z0o LX.m k HK2.out go HGO.out;refine x2H g7_ g6_ ob6 fz6 ?_;have L9:=y1X HLY.out hX k HK2.out go HGO.out (y0X (gen+1) (s.sn:Int)) a1 c1 o6;obtain⟨Z,hZ⟩:∃Z,Z=z0r X go (k*8) (y0X (gen+1) (s.sn:Int)) (.slice a1 3 c1):=⟨_,rfl⟩;have L9' :LS w Z B w.heap.size {s1 with os:=s1.os.set k ⟨a1,3,c1⟩} (q0r {H with sites:=H.sites++[o.site]} k (y0X (gen+1) (s.sn:Int))) (.slice none 0 0) (.slice none 0 0) [] []:=by rw[hZ];exact L9
    have sZ:Z.heap.size=X.heap.size:=by rw[hZ,x1Q]
    have hXs:=hX.size
    have othZ:∀i,i≠go->Z.heap[i]? =X.heap[i]?:=λi hi=>by
     rw[hZ];unfold z0r;iterate 8 rw[heap_setCell_other _ _ _ _ (by exact hi)]
    have HN0:Hid (q0d Z (w.heap.size+1+1) (.slice none 0 0) (.slice none 0 0) (.slice none 0 0) (.slice none 0 0)):=(HRY.out.1.later hX).same (othZ _ (by omega));have HN1:Hid (q0k Z (w.heap.size+1+1+1) (.int .i64 0) (.int .i64 0) (.slice none 0 0)):=(HRY.out.2.later hX).same (othZ _ (by omega));obtain⟨s9,hs9⟩:∃s9:HSh,s9={s1 with os:=s1.os.set k ⟨a1,3,c1⟩}:=⟨_,rfl⟩
    have HNB:Hid (¬q0u s9 (w.heap.size+1+1)/\¬q0u s9 (w.heap.size+1+1+1)):=by
     have key:∀g,¬q0u s1 g->g<Y.heap.size->¬q0u s9 g:=λg h1 h2 hh=>by
      rw[hs9]at hh;rcases j1Y hh with h3|⟨x,hx,e⟩
      ·exact h1 h3
      ·have h4:=(q0n o6 _ (x0b hx)).1;omega
     exact⟨key _ HNS.out.1 (by have:=HRY.out.1.lt;omega),key _ HNS.out.2 (by have:=HRY.out.2.lt;omega)⟩
    rw[<-hs9]at L9';have HLZ:Hid (LS0 w Z B w.heap.size s9 (q0r {H with sites:=H.sites++[o.site]} k (y0X (gen+1) (s.sn:Int)))):=L9';have HGX:Hid (q0d Z w.heap.size (.slice s9.oa s9.os.length s9.oc) (.slice s9.wa s9.wn s9.wc) (.slice s9.ba s9.bn s9.bc) (.slice s9.sa s9.sn s9.sc)):=L9'.x;have HCN:Hid (B<=w.heap.size):=hB;have hZB:w.heap.size+1+1+1<Z.heap.size:=HN1.out.lt;rw[<-hZ];obtain⟨us,hus,rfl⟩:=q0F hA [68,69,70,71,72,73,74,75] (by kernel_rfl);clear hdep hA hus g7_ g6_ o6 LX ob6 fz6 L9 L9' othZ hZ hs9 hX HYX HLY HGO HOS HRY HNS HGN;simp only[List.mapIdx_cons,List.mapIdx_nil,Nat.reduceAdd,List.contains_cons,List.contains_nil,Nat.reduceBEq,Bool.or_false,Bool.or_true,if_true,if_false,Bool.false_eq_true];go_wp2;refine x0u 6 (by kernel_rfl) (by kernel_rfl) (RJ5 w Z B (w.heap.size+1+1) (.slice s9.oa s9.os.length s9.oc) (.slice s9.wa s9.wn s9.wc) (.slice s9.ba s9.bn s9.bc) (.slice s9.sa s9.sn s9.sc)) (RV5 (.agg #[.slice s9.oa s9.os.length s9.oc,.slice s9.wa s9.wn s9.wc,.slice s9.ba s9.bn s9.bc,.slice s9.sa s9.sn s9.sc]) (k:Int) (gen+1) (idZ (k:Int) (gen+1))) (λ_ _ _ _=>True) ⟨HLZ.out.bel.drew,Nat.le_refl _,λ_ _ _=>rfl,λ_=>HN0.out,λh=>h.elim⟩ ?_ ?_
    ·intro i o_ hi ho a Y9 dn hJ hA hbn hnot hdep;have hBZ:B<=Z.heap.size:=by have:=HCN.out;omega
     match i,hi,ho with
     |0,_,ho=>
      cases ho
      exact y0q (q0f hA (t:=2) (by kernel_rfl)) (HGX.out.same (hJ.oth _ (by omega) HGX.out.lt)) ⟨_,rfl,hJ.later hBZ (by decide) bl0,rfl,λq hq _ t ht=>⟨hbn.yields q hq t ht,trivial,trivial⟩⟩
     |1,_,ho=>
      cases ho
      exact z0p (q0f hA (t:=6) (by kernel_rfl)) ⟨_,rfl,hJ.later hBZ (by decide) bl0,rfl,λq hq _ t ht=>⟨hbn.yields q hq t ht,trivial,trivial⟩⟩
     |2,_,ho=>
      cases ho
      exact z0p (q0f hA (t:=9) (by kernel_rfl)) ⟨_,rfl,hJ.later hBZ (by decide) bl0,rfl,λq hq _ t ht=>⟨hbn.yields q hq t ht,trivial,trivial⟩⟩
     |3,_,ho=>
      cases ho
      have g1_:a.eval (.tmp 77)= .int .i64 (k:Int):=hbn.yields 1 (hdep ⟨1,.data⟩ (by simp) rfl) 77 rfl;have g2_:a.eval (.tmp 78)= .int .i64 (gen+1):=hbn.yields 2 (hdep ⟨2,.data⟩ (by simp) rfl) 78 rfl;exact q5f g1_ g2_ (q1C (k:Int) (gen+1) Y9) (λe w' ⟨h1,h2⟩=>⟨_,h1,_,rfl,by rw[h2];exact hJ.later hBZ (by decide) bl0,rfl,λq hq _ t ht=>⟨v2j q _ _ _ (hbn.yields q hq t ht),trivial,trivial⟩⟩)
     |4,_,ho=>
      cases ho
      have g3_:a.eval (.tmp 79)= .int .i64 (idZ (k:Int) (gen+1)):=hbn.yields 3 (hdep ⟨3,.data⟩ (by simp) rfl) 79 rfl;exact q3I g3_ ⟨_,rfl,hJ.later hBZ (by decide) bl0,rfl,λq hq _ t ht=>⟨hbn.yields q hq t ht,trivial,trivial⟩⟩
     |5,_,ho=>
      cases ho
      have g0_:a.eval (.tmp 76)= .agg #[.slice s9.oa s9.os.length s9.oc,.slice s9.wa s9.wn s9.wc,.slice s9.ba s9.bn s9.bc,.slice s9.sa s9.sn s9.sc]:=hbn.yields 0 (hdep ⟨0,.data⟩ (by simp) rfl) 76 rfl;refine v0t (q0f hA (t:=4) (by kernel_rfl)) g0_ (hJ.f0 hnot) ?_;refine⟨undef,rfl,⟨?_,by rw[z0U];exact hJ.ge,λj hj hl=>(q0T _ _ _ _ _ _ j hj).trans (hJ.oth j hj hl),λh=>absurd (.inr rfl) h,λ_=>q0d.setAll (hJ.f0 hnot) _ _ _ _⟩,trivial,λq hq hne t ht=>⟨v2j q _ _ _ (hbn.yields q hq t ht),trivial,trivial⟩⟩;unfold q0p;iterate 4 refine Below.setCell ?_ (by simp only;have:=HCN.out;omega) _
      exact hJ.bel
    ·intro o_ ho a Y9 dn hJ hA hbn hdn
     cases ho
     have g4_:a.eval (.tmp 80)= .agg #[.int .i64 0,.int .i64 (idZ (k:Int) (gen+1)),.slice none 0 0]:=hbn.yields 4 (hdn 4 (by omega)) 80 rfl;have T1:q0k Y9 (w.heap.size+1+1+1) (.int .i64 0) (.int .i64 0) (.slice none 0 0):=HN1.out.same (hJ.oth _ (by omega) HN1.out.lt);refine y0x (q0f hA (t:=5) (by kernel_rfl)) g4_ T1 ?_;have F1:=hJ.f1 (hdn 5 (by omega));obtain⟨Z2,hZ2⟩:∃Z2,Z2=q0g Y9 (w.heap.size+1+1+1) (.int .i64 0) (.int .i64 (idZ (k:Int) (gen+1))) (.slice none 0 0):=⟨_,rfl⟩;have FZ:q0d Z2 (w.heap.size+1+1) (.slice s9.oa s9.os.length s9.oc) (.slice s9.wa s9.wn s9.wc) (.slice s9.ba s9.bn s9.bc) (.slice s9.sa s9.sn s9.sc):=by rw[hZ2];exact F1.same (q0Q _ _ _ _ _ _ (by omega))
     have TZ:q0k Z2 (w.heap.size+1+1+1) (.int .i64 0) (.int .i64 (idZ (k:Int) (gen+1))) (.slice none 0 0):=by rw[hZ2];unfold q0g;exact heap_setCell_same _ _ 2 _ _ _ (heap_setCell_same _ _ 1 _ _ _ (heap_setCell_same _ _ 0 _ _ _ T1))
     have HXZ:Hid (q0z w B (q0r {H with sites:=H.sites++[o.site]} k (y0X (gen+1) (s.sn:Int)),⟨0,idZ (k:Int) (gen+1),[]⟩) (.returned (.tuple #[.agg #[.slice s9.oa s9.os.length s9.oc,.slice s9.wa s9.wn s9.wc,.slice s9.ba s9.bn s9.bc,.slice s9.sa s9.sn s9.sc],q0m 0 (idZ (k:Int) (gen+1)) (.slice none 0 0)])) Z2):=by
      refine⟨s9,.slice none 0 0,rfl,y0l HLZ.out.m ?_ (λg hg=> ?_),z0H _ _,λg hg=>by simp[Value.ownBlock]at hg,?_⟩
      ·rw[hZ2,x0k];exact hJ.ge
      ·rw[hZ2,q0Q _ _ _ _ _ g (λe=>HNB.out.2 (by rw[<-e];exact hg))];exact hJ.oth g (λe=>HNB.out.1 (by rw[<-e];exact hg)) (z0X HLZ.out.m hg).2
      ·rw[hZ2];unfold q0g;iterate 3 refine Below.setCell ?_ (by simp only;have:=HCN.out;omega) _
       exact hJ.bel
     rw[<-hZ2];obtain⟨us,hus,rfl⟩:=q0F hA [76,77,78,79,80] (by kernel_rfl);clear hbn hdn hA hus g4_ hJ F1 T1 hZ2;simp only[List.mapIdx_cons,List.mapIdx_nil,Nat.reduceAdd,List.contains_cons,List.contains_nil,Nat.reduceBEq,Bool.or_false,Bool.or_true,if_true,if_false,Bool.false_eq_true];obtain⟨r0,r1,r2,r3⟩:=FZ.cells;obtain⟨q0,q1,q2⟩:=TZ.cells;clear FZ TZ HGX HN0 HN1 HLZ HCN HNB;go_wp2;exact bodyPost_ret (v:= .tuple #[.agg #[.slice s9.oa s9.os.length s9.oc,.slice s9.wa s9.wn s9.wc,.slice s9.ba s9.bn s9.bc,.slice s9.sa s9.sn s9.sc],q0m 0 (idZ (k:Int) (gen+1)) (.slice none 0 0)]) (by simp[results,Tryz.results32,go_sem,q0m, *]) rfl HXZ.out
end
section
open Go.RowKit
variable{H:q0a}
structure RV(X:World)(v:Value)(H:q0a)(s:Nat)(ao:Option Addr)(co:Nat)(aw:Option Addr)(cw:Nat)(ab:Option Addr)(cb:Nat)(sa:Option Addr)(sc:Nat):Prop where
 p0:X.cell? ⟨s,0,none⟩=some (.slice ao H.objs.length co)
 p1:X.cell? ⟨s,1,none⟩=some (.slice aw H.weaks.length cw)
 p2:X.cell? ⟨s,2,none⟩=some (.slice ab H.buffer.length cb)
 p3:X.cell? ⟨s,3,none⟩=some (.slice sa H.sites.length sc)
 ro:RdO X ao H.objs
 rw:RdW X aw H.weaks
 ri:RdI X ab H.buffer
 rs:RdS X sa H.sites
 lt:s<X.heap.size
theorem RV.later{X Y:World}{v:Value}{s:Nat}{ao:Option Addr}{co:Nat}{aw:Option Addr}{cw:Nat}{ab:Option Addr}{cb:Nat}{sa:Option Addr}{sc:Nat}(h:RV X v H s ao co aw cw ab cb sa sc)(hb:Below X.heap.size X Y):RV Y v H s ao co aw cw ab cb sa sc:=
 ⟨(hb.cell (p:=⟨s,0,none⟩) h.lt).trans h.p0,(hb.cell (p:=⟨s,1,none⟩) h.lt).trans h.p1,(hb.cell (p:=⟨s,2,none⟩) h.lt).trans h.p2,(hb.cell (p:=⟨s,3,none⟩) h.lt).trans h.p3,q0V h.ro hb,z0R h.rw hb,q0t h.ri hb,z0l h.rs hb,Nat.lt_of_lt_of_le h.lt hb.size⟩
theorem RV.rd{X:World}{v:Value}{s:Nat}{ao:Option Addr}{co:Nat}{aw:Option Addr}{cw:Nat}{ab:Option Addr}{cb:Nat}{sa:Option Addr}{sc:Nat}(h:RV X v H s ao co aw cw ab cb sa sc):RdH X (.agg #[.slice ao H.objs.length co,.slice aw H.weaks.length cw,.slice ab H.buffer.length cb,.slice sa H.sites.length sc]) H:=
 ⟨ao,co,aw,cw,ab,cb,sa,sc,rfl,h.ro,h.rw,h.ri,h.rs⟩
def q2W(X:World)(b:Nat)(o:q0E)(f:Value):Prop:=X.heap[b]? =some (.cells #[.bool o.live,.int .i64 o.gen,.int .i64 o.site,.int .i64 o.holds,.int .i64 o.roots,.int .i64 o.count,f,.bool o.purple] 90 (0,0))
theorem q2W.cell{X:World}{b:Nat}{o:q0E}{f:Value}(h:q2W X b o f)(j:Nat):X.cell? ⟨b,j,none⟩=(#[.bool o.live,.int .i64 o.gen,.int .i64 o.site,.int .i64 o.holds,.int .i64 o.roots,.int .i64 o.count,f,.bool o.purple]:Array Value)[j]?:=by rw[World.cell?,show X.heap[b]? =_ from h];rfl
theorem q2W.later{X Y:World}{b:Nat}{o:q0E}{f:Value}(h:q2W X b o f)(hb:Below X.heap.size X Y):q2W Y b o f:=(hb.block b (Array.getElem?_eq_some_iff.1 h).1).trans h
theorem z4L{y x:List UInt8}(h:y≠x):((txt y).toList==(txt x).toList)=false:=by rw[beq_eq_false_iff_ne];intro e;unfold txt at e;rw[ByteArray.toList_mk,ByteArray.toList_mk]at e;exact h (by simpa using e)
theorem x0S(v:Value)(H:q0a)(w:World)(h:RdH w v H)(hs:q0h H)(hf:WfH H)(hcap:v0B v)(b:Bool)(hbb:b=true↔OkH H):
 Calls Tryz.prog 31 #[v] w λe w' =>e= .returned (.bool b)/\Below w.heap.size w w' :=by
 obtain⟨ao,co,aw,cw,ab,cb,sa,sc,rfl,ro,rwk,ri,rs⟩:=h
 have hcb:H.buffer.length<=cb:=by obtain⟨a0,n0,k0,a1,n1,k1,a2,n2,k2,a3,n3,k3,e,h0,h1,h2,h3⟩:=hcap;simp only[Value.agg.injEq,Array.mk.injEq,List.cons.injEq,Value.slice.injEq]at e;obtain⟨-,-,⟨-,e1,e2⟩,-⟩:=e;omega
 clear hcap;have HNO:Hid (¬OkH H->b=false):=x1j hbb;have HYES:Hid (OkH H->b=true):=hbb.2;clear hbb;have l0:=hs.objs;have l1:=hs.weaks;have l2:=hs.buffer;have l3:=hs.sites;by_cases h0:H.objs.length=8
 rotate_left
 ·have hb:=HNO.out (λok=>h0 ok.size.1);subst hb;have q0:¬((H.objs.length:Int)=8):=by omega
  clear ro rwk ri rs hs hf HNO HYES h0;go_enter Tryz.func31,Tryz.ntmps31;go_wp2;go_ret
  exact⟨rfl,bl1 _⟩
 by_cases h1:H.weaks.length=8
 rotate_left
 ·have hb:=HNO.out (λok=>h1 ok.size.2.1);subst hb;have q1:¬((H.weaks.length:Int)=8):=by omega
  rw[h0];clear ro rwk ri rs hs hf HNO HYES h0 h1;go_enter Tryz.func31,Tryz.ntmps31;go_wp2;go_ret
  exact⟨rfl,bl1 _⟩
 by_cases h2:6<H.sites.length
 ·have hb:=HNO.out (λok=>by have:=ok.size.2.2;omega);subst hb;have q2:(6:Int)<(H.sites.length:Int):=by omega
  rw[h0,h1];clear ro rwk ri rs hs hf HNO HYES h0 h1;go_enter Tryz.func31,Tryz.ntmps31;go_wp2;go_ret
  exact⟨rfl,bl1 _⟩
 have hn6:H.sites.length<=6:=by omega
 obtain⟨W,hW⟩:∃W,W=w.alloc (.cells #[.slice ao H.objs.length co,.slice aw H.weaks.length cw,.slice ab H.buffer.length cb,.slice sa H.sites.length sc] 35):=⟨_,rfl⟩;have BW:Below w.heap.size w W:=by rw[hW];exact bl1 _
 have RW:Hid (RV W (.agg #[.slice ao H.objs.length co,.slice aw H.weaks.length cw,.slice ab H.buffer.length cb,.slice sa H.sites.length sc]) H w.heap.size ao co aw cw ab cb sa sc):=by obtain⟨k0,k1,k2,k3⟩:=z0z w 35 (.slice ao H.objs.length co) (.slice aw H.weaks.length cw) (.slice ab H.buffer.length cb) (.slice sa H.sites.length sc) W (by rw[hW];exact bl0);exact⟨k0,k1,k2,k3,q0V ro BW,z0R rwk BW,q0t ri BW,z0l rs BW,by rw[hW];simp⟩
 have HS:Hid (q0h H):=hs;have HF:Hid (WfH H):=hf;have H0:Hid (H.objs.length=8):=h0;have H1:Hid (H.weaks.length=8):=h1;rw[h0,h1]at hW;rw[h0,h1];clear ro rwk ri rs hs hf h0 h1;go_enter Tryz.func31,Tryz.ntmps31;go_wp2;rw[<-hW];clear hW;go_loopw[3] (λi wr=>∃j:Nat,j<=8/\i= .int .i64 (j:Int)/\Below W.heap.size W wr/\Hid (∀i(h:i<H.objs.length),i<j->okO H i H.objs[i])) (λi _=>8 - (intOf i).toNat)
 case atStart=>exact⟨0,by omega,rfl,bl0,λi _ h=>absurd h (by omega)⟩
 case round=>
  obtain⟨j,hj,rfl,hb,HO⟩:=hrel;have R1:=RW.out.later hb;have p0:=R1.p0;rw[H0.out]at p0;by_cases hlt:j<8
  ·have hj2:j<H.objs.length:=by have:=H0.out;omega
   obtain⟨g,off,f,fc,rfl,hg,hc,hrf⟩:=R1.ro j hj2;have HNX:Hid (¬okO H j H.objs[j]->b=false):=λhn=>HNO.out (λok=>hn (ok.objs j hj2))
   have HOX:Hid (okO H j H.objs[j]->∀i(h:i<H.objs.length),i<j+1->okO H i H.objs[i]):=λho i hi hl=>by
    rcases Nat.lt_or_ge i j with h3|h3
    ·exact HO.out i hi h3
    ·obtain rfl:i=j:=by omega
     exact ho
   have hfl:=HS.out.fields _ (List.getElem_mem hj2);have HWF:Hid (WfO H.objs[j]):=HF.out.objs _ (List.getElem_mem hj2);obtain⟨o,ho⟩:∃o,H.objs[j]=o:=⟨_,rfl⟩;rw[ho]at hc hrf HNX HOX hfl HWF;clear ho;obtain⟨c0,c1,c2,c3,c4,c5,c6,c7⟩:=hc;have HRF:Hid (RdI wr f o.field):=hrf;clear hrf;have bO:q2W (wr.alloc (.cells #[.bool o.live,.int .i64 o.gen,.int .i64 o.site,.int .i64 o.holds,.int .i64 o.roots,.int .i64 o.count,.slice f o.field.length fc,.bool o.purple] 90)) wr.heap.size o (.slice f o.field.length fc):=by show(wr.heap.push _)[wr.heap.size]? =_;simp
   have bV:Below wr.heap.size wr (wr.alloc (.cells #[.bool o.live,.int .i64 o.gen,.int .i64 o.site,.int .i64 o.holds,.int .i64 o.roots,.int .i64 o.count,.slice f o.field.length fc,.bool o.purple] 90)):=bl1 _;have hsW:=hb.size;have HBV:=λX(hX:Below (wr.heap.size+1) (wr.alloc (.cells #[.bool o.live,.int .i64 o.gen,.int .i64 o.site,.int .i64 o.holds,.int .i64 o.roots,.int .i64 o.count,.slice f o.field.length fc,.bool o.purple] 90)) X)=>hb.trans ((bV.trans (hX.mono (by omega))).mono hsW);have R2:=R1.later bV;have HF2:Hid (RdI _ f o.field):=q0t HRF.out bV;obtain⟨V,hV⟩:∃V,V=wr.alloc (.cells #[.bool o.live,.int .i64 o.gen,.int .i64 o.site,.int .i64 o.holds,.int .i64 o.roots,.int .i64 o.count,.slice f o.field.length fc,.bool o.purple] 90):=⟨_,rfl⟩;have hVs:V.heap.size=wr.heap.size+1:=by rw[hV];simp
   rw[<-hV]at bO bV R2 HBV HF2;rw[<-hVs]at HBV;have HB2:Hid (∀X,Below V.heap.size V X->Below W.heap.size W X):=HBV;have HR2:Hid (RV V _ H w.heap.size _ co aw cw ab cb sa sc):=R2;have HOB:Hid (q2W V wr.heap.size o (.slice f o.field.length fc)):=bO
   have HCE:Hid (∀X,Below V.heap.size V X->X.cell? ⟨wr.heap.size,0,none⟩=some (.bool o.live)/\X.cell? ⟨wr.heap.size,1,none⟩=some (.int .i64 o.gen)/\X.cell? ⟨wr.heap.size,2,none⟩=some (.int .i64 o.site)/\X.cell? ⟨wr.heap.size,3,none⟩=some (.int .i64 o.holds)/\X.cell? ⟨wr.heap.size,4,none⟩=some (.int .i64 o.roots)/\X.cell? ⟨wr.heap.size,5,none⟩=some (.int .i64 o.count)/\X.cell? ⟨wr.heap.size,6,none⟩=some (.slice f o.field.length fc)/\X.cell? ⟨wr.heap.size,7,none⟩=some (.bool o.purple)):=λX hX=>by
    have hbx:=HOB.out.later hX;exact⟨hbx.cell 0,hbx.cell 1,hbx.cell 2,hbx.cell 3,hbx.cell 4,hbx.cell 5,hbx.cell 6,hbx.cell 7⟩
   clear R2 bO HBV;by_cases hgen:0<=o.gen/\o.gen<=999
   rotate_left
   ·have hb0:=HNX.out (λok=>hgen ok.1.1);subst hb0;go_wp2_with fail
    rw[<-hV];refine(x0B o.gen 0 999 _ (by omega)).mono ?_;rintro e V ⟨rfl,rfl⟩;clear hV;obtain⟨c0,c1,c2,c3,c4,c5,c6,c7⟩:=HCE.out V bl0;go_wp2;go_ret
    exact⟨rfl,BW.trans ((HB2.out _ bl0).mono BW.size)⟩
   ·go_wp2_with fail
    rw[<-hV];refine(z0s o.gen 0 999 _ hgen.1 hgen.2).mono ?_;rintro e V ⟨rfl,rfl⟩;clear hV c0 c1 c2 c3 c4 c5 c6 c7 R1 p0;obtain⟨c0,c1,c2,c3,c4,c5,c6,c7⟩:=HCE.out V bl0;by_cases hf3:o.field.length=3
    rotate_left
    ·have hb0:=HNX.out (λok=>hf3 ok.1.2);subst hb0;have q3:¬((o.field.length:Int)=3):=by omega
     go_wp2;go_ret
     exact⟨rfl,BW.trans ((HB2.out _ bl0).mono BW.size)⟩
    ·have H3:Hid (o.field.length=3):=hf3;rw[hf3]at c6 HCE;clear hf3
     cases hlive:o.live with
     |false=>
      have HD:Hid (¬v2a o->b=false):=λhn=>HNX.out (λok=>hn (ok.2.1 hlive));have HK:Hid (v2a o->okO H j o):=λhd=>⟨⟨hgen,H3.out⟩,λ_=>hd,λh=>(by rw[hlive]at h;cases h)⟩;rw[hlive]at c0;clear hlive;go_wp2;all_goals (try (go_ret;exact⟨u1n (HD.out (λhd=>by obtain⟨d1,d2,d3,d4,d5,_⟩:=hd;first|omega|simp_all)).symm,BW.trans ((HB2.out _ bl0).mono BW.size)⟩))
      have hd1:o.site=0:=by omega
      have hd2:o.holds=0:=by omega
      have hd3:o.roots=0:=by omega
      have hd4:o.count=0:=by omega
      have hd5:o.purple=false:=by first|assumption|simp_all
      have HDD:Hid ((∀k(h:k<o.field.length),o.field[k]= -1)->v2a o):=λhh=>⟨hd1,hd2,hd3,hd4,hd5,hh⟩;clear hd1 hd2 hd3 hd4 hd5;go_loop [5] (λx=>∃k:Nat,k<=3/\x= .int .i64 (k:Int)/\Hid (∀i(h:i<o.field.length),i<k->o.field[i]= -1)) (λx=>3 - (intOf x).toNat)
      case atStart=>exact⟨0,by omega,rfl,λi _ h=>absurd h (by omega)⟩
      case round=>
       obtain⟨k,hk,rfl,HKK⟩:=hrel;by_cases hk3:k<3
       ·have hk2:k<o.field.length:=by have:=H3.out;omega
        obtain⟨gf,of2,rfl,-,hcf⟩:=HF2.out k hk2
        have HZ:Hid (o.field[k]= -1->∀i(h:i<o.field.length),i<k+1->o.field[i]= -1):=λhz i hi hl=>by
         rcases Nat.lt_or_ge i k with h3|h3
         ·exact HKK.out i hi h3
         ·obtain rfl:i=k:=by omega
          exact hz
        have HZN:Hid (o.field[k]≠ -1->b=false):=λhz=>HD.out (λhd=>hz (hd.2.2.2.2.2 k hk2));generalize o.field[k]=z at*;by_cases hz:z= -1
        ·have HZ2:=HZ.out hz;have HZ3:Hid _:=HZ2;clear HZ2;subst hz;go_wp2;go_round
         case rel=>exact⟨k+1,by omega,by go_num,HZ3⟩
         case measure=>simp[intOf];omega
        ·have hb0:=HZN.out hz;subst hb0;have hq:(z != -1)=true:=by rw[bne_iff_ne];exact hz
         go_wp2;go_ret
         exact⟨rfl,BW.trans ((HB2.out _ bl0).mono BW.size)⟩
       ·obtain rfl:k=3:=by omega
        have HFIN:Hid (∀i(h:i<H.objs.length),i<j+1->okO H i H.objs[i]):=HOX.out (HK.out (HDD.out (λi hi=>HKK.out i hi (by have:=H3.out;omega))));go_wp2;go_roundw
        case rel=>exact⟨j+1,by omega,by go_num,HB2.out _ bl0,HFIN⟩
        case measure=>simp[intOf];omega
     |true=>
      have HL:Hid (¬j1v H j o->b=false):=λhn=>HNX.out (λok=>hn (ok.2.2 hlive));have HK:Hid (j1v H j o->okO H j o):=λhd=>⟨⟨hgen,H3.out⟩,λh=>(by rw[hlive]at h;cases h),λ_=>hd⟩;rw[hlive]at c0;clear hlive;have p3:=HR2.out.p3;by_cases e1:1<=o.gen
      rotate_left
      ·have hb0:=HL.out (λhd=>e1 hd.1.1);subst hb0;go_wp2;go_ret
       exact⟨rfl,BW.trans ((HB2.out _ bl0).mono BW.size)⟩
      by_cases e2:0<=o.site/\o.site<=(H.sites.length:Int) - 1
      rotate_left
      ·have hb0:=HL.out (λhd=>e2 hd.1.2.1);subst hb0;go_wp2_with fail
       refine(x0B o.site 0 ((H.sites.length:Int) - 1) _ (by omega)).mono ?_;rintro e V ⟨rfl,rfl⟩;go_wp2;go_ret
       exact⟨rfl,BW.trans ((HB2.out _ bl0).mono BW.size)⟩
      by_cases e3:0<=o.holds/\o.holds<=20
      rotate_left
      ·have hb0:=HL.out (λhd=>e3 hd.1.2.2.1);subst hb0;go_wp2_with fail
       refine(z0s o.site 0 ((H.sites.length:Int) - 1) _ e2.1 e2.2).mono ?_;rintro e V ⟨rfl,rfl⟩;go_wp2_with fail
       refine(x0B o.holds 0 20 _ (by omega)).mono ?_;rintro e V ⟨rfl,rfl⟩;go_wp2;go_ret
       exact⟨rfl,BW.trans ((HB2.out _ bl0).mono BW.size)⟩
      by_cases e4:0<=o.roots/\o.roots<=20
      rotate_left
      ·have hb0:=HL.out (λhd=>e4 hd.1.2.2.2);subst hb0;go_wp2_with fail
       refine(z0s o.site 0 ((H.sites.length:Int) - 1) _ e2.1 e2.2).mono ?_;rintro e V ⟨rfl,rfl⟩;go_wp2_with fail
       refine(z0s o.holds 0 20 _ e3.1 e3.2).mono ?_;rintro e V ⟨rfl,rfl⟩;go_wp2_with fail
       refine(x0B o.roots 0 20 _ (by omega)).mono ?_;rintro e V ⟨rfl,rfl⟩;go_wp2;go_ret
       exact⟨rfl,BW.trans ((HB2.out _ bl0).mono BW.size)⟩
      have HL1:Hid (1<=o.gen/\(0<=o.site/\o.site<=(H.sites.length:Int) - 1)/\(0<=o.holds/\o.holds<=20)/\(0<=o.roots/\o.roots<=20)):=⟨e1,e2,e3,e4⟩;go_wp2_with fail
      refine(z0s o.site 0 ((H.sites.length:Int) - 1) _ e2.1 e2.2).mono ?_;rintro e V ⟨rfl,rfl⟩;go_wp2_with fail
      refine(z0s o.holds 0 20 _ e3.1 e3.2).mono ?_;rintro e V ⟨rfl,rfl⟩;go_wp2_with fail
      refine(z0s o.roots 0 20 _ e4.1 e4.2).mono ?_;rintro e V ⟨rfl,rfl⟩;go_wp2;clear c0 c1 c2 c3 c4 c5 c6 c7 p3 bV hVs HOB HRF hb hsW e1 e2 e3 e4 hgen;generalize wr.heap.size=bo at*;go_loopw[6] (λx X=>∃k:Nat,k<=3/\x= .int .i64 (k:Int)/\Below V.heap.size V X/\Hid (∀i(h:i<o.field.length),i<k->(o.field[i]= -1\/0<=q0l H o.field[i]))) (λx _=>3 - (intOf x).toNat)
      case atStart=>exact⟨0,by omega,rfl,bl0,λi _ h=>absurd h (by omega)⟩
      case round=>
       obtain⟨k,hk,rfl,hbx,HKK⟩:=hrel;obtain⟨c0,c1,c2,c3,c4,c5,c6,c7⟩:=HCE.out wr hbx;have R3:=HR2.out.later hbx;have p0:=R3.p0;have p1:=R3.p1;have p2:=R3.p2;have p3:=R3.p3;rw[H0.out]at p0;rw[H1.out]at p1;have HR3:Hid (RV wr _ H w.heap.size _ co aw cw ab cb sa sc):=R3;clear R3;by_cases hk3:k<3
       ·have hk2:k<o.field.length:=by have:=H3.out;omega
        obtain⟨gf,of2,rfl,-,hcf⟩:=q0t HF2.out hbx k hk2;have hz64:=HWF.out.2.2.2.2.2 _ (List.getElem_mem hk2)
        have HZ:Hid ((o.field[k]= -1\/0<=q0l H o.field[k])->∀i(h:i<o.field.length),i<k+1->(o.field[i]= -1\/0<=q0l H o.field[i])):=λhz i hi hl=>by
         rcases Nat.lt_or_ge i k with h3|h3
         ·exact HKK.out i hi h3
         ·obtain rfl:i=k:=by omega
          exact hz
        have HZN:Hid (¬(o.field[k]= -1\/0<=q0l H o.field[k])->b=false):=λhz=>HL.out (λhd=>hz (hd.2.1 k hk2));generalize o.field[k]=z at*;have hi1:(k:Int)<3:=by omega
        by_cases hz:z= -1
        ·have HZ3:Hid _:=HZ.out (.inl hz);subst hz;clear HZ HZN;go_wp2;go_quiet (fail)
         go_wp2;go_roundw
         case rel=>exact⟨k+1,by omega,by go_num,⟨hbx.os,hbx.tape,hbx.output,hbx.size,hbx.block⟩,HZ3⟩
         case measure=>simp[intOf];omega
        ·have hq:(z != -1)=true:=by rw[bne_iff_ne];exact hz
         have CS:Hid (∀X,RdH X _ H->_):=λX hX=>z0k (.agg #[.slice (some ⟨g,off,none⟩) H.objs.length co,.slice aw H.weaks.length cw,.slice ab H.buffer.length cb,.slice sa H.sites.length sc]) H z X hX (by omega) hz64.1 hz64.2;have HRD:Hid (RdH wr.drew (.agg #[.slice (some ⟨g,off,none⟩) H.objs.length co,.slice aw H.weaks.length cw,.slice ab H.buffer.length cb,.slice sa H.sites.length sc]) H):=q0s HR3.out.rd ((Below.refl _ wr).drew);rw[H0.out,H1.out]at CS HRD;by_cases hsl:q0l H z<0
         ·have hb0:=HZN.out (λh=>by omega);subst hb0;clear HZ HZN;generalize q0l H z=sl at*;go_wp2;go_region_with (go_at_call 64;refine(CS.out _ HRD.out).mono ?_;rintro e w1 ⟨rfl,b1⟩)
          all_goals
           go_wp2;go_ret
           exact⟨rfl,BW.trans ((HB2.out _ (hbx.trans (Below.mono ⟨b1.os,b1.tape,b1.output,b1.size,b1.block⟩ hbx.size))).mono BW.size)⟩
         ·have HZ3:Hid _:=HZ.out (.inr (by omega));clear HZ HZN;generalize q0l H z=sl at*;go_wp2;go_region_with (go_at_call 64;refine(CS.out _ HRD.out).mono ?_;rintro e w1 ⟨rfl,b1⟩)
          all_goals
           go_wp2;go_roundw
           case rel=>exact⟨k+1,by omega,by go_num,hbx.trans (Below.mono ⟨b1.os,b1.tape,b1.output,b1.size,b1.block⟩ hbx.size),HZ3⟩
           case measure=>simp[intOf];omega
       ·obtain rfl:k=3:=by omega
        have HLED:Hid (j4s H o):=λi hi=>HKK.out i hi (by have:=H3.out;omega);have CE:Hid (∀X,RdH X _ H->_):=λX hX=>q2N (.agg #[.slice (some ⟨g,off,none⟩) H.objs.length co,.slice aw H.weaks.length cw,.slice ab H.buffer.length cb,.slice sa H.sites.length sc]) H (j:Int) X hX HS.out (by omega) (by omega);have HRD:Hid (RdH wr.drew (.agg #[.slice (some ⟨g,off,none⟩) H.objs.length co,.slice aw H.weaks.length cw,.slice ab H.buffer.length cb,.slice sa H.sites.length sc]) H):=q0s HR3.out.rd ((Below.refl _ wr).drew);rw[H0.out,H1.out]at CE HRD;have hebd:=j2i H HS.out (j:Int);have CI:Hid (∀X,_):=λX=>q1C (j:Int) o.gen X;have CH:Hid (∀X,RdI X ab H.buffer->_):=λX hX=>z2C X ab cb H.buffer (idZ (j:Int) o.gen) hX (by omega);have HLV:Hid (o.count=o.holds+o.roots+x0a H (j:Int)/\1<=o.count/\o.purple=decide (idZ (j:Int) o.gen∈H.buffer)->∀i(h:i<H.objs.length),i<j+1->okO H i H.objs[i]):=λhh=>HOX.out (HK.out ⟨HL1.out,HLED.out,hh⟩);have HLN:Hid (¬(o.count=o.holds+o.roots+x0a H (j:Int)/\1<=o.count/\o.purple=decide (idZ (j:Int) o.gen∈H.buffer))->b=false):=λhh=>HL.out (λhd=>hh hd.2.2);have hl3:=HL1.out.2.2.1;have hl4:=HL1.out.2.2.2;have h64:=HWF.out.2.2.2.2.1
        have HSX:Hid (∀X,Below V.heap.size V X->((X.cell? ⟨bo,1,none⟩=some (.int .i64 o.gen)/\X.cell? ⟨bo,3,none⟩=some (.int .i64 o.holds)/\X.cell? ⟨bo,4,none⟩=some (.int .i64 o.roots)/\X.cell? ⟨bo,5,none⟩=some (.int .i64 o.count)/\X.cell? ⟨bo,7,none⟩=some (.bool o.purple))/\(X.cell? ⟨w.heap.size,0,none⟩=some (.slice (some ⟨g,off,none⟩) 8 co)/\X.cell? ⟨w.heap.size,1,none⟩=some (.slice aw 8 cw)/\X.cell? ⟨w.heap.size,2,none⟩=some (.slice ab H.buffer.length cb)/\X.cell? ⟨w.heap.size,3,none⟩=some (.slice sa H.sites.length sc)))):=λX hX=>by
         obtain⟨d0,d1,d2,d3,d4,d5,d6,d7⟩:=HCE.out X hX;have r:=HR2.out.later hX;have q0:=r.p0;have q1:=r.p1;rw[H0.out]at q0;rw[H1.out]at q1;exact⟨⟨d1,d3,d4,d5,d7⟩,q0,q1,r.p2,r.p3⟩
        have HRI:Hid (∀X,Below V.heap.size V X->RdI X ab H.buffer):=λX hX=>(HR2.out.later hX).ri;have hb0:Below V.heap.size V wr.drew:=hbx.drew;have HEND:Hid (∀X,Below wr.heap.size wr.drew X->Below V.heap.size V X):=λX hX=>hbx.trans (Below.mono ⟨hX.os,hX.tape,hX.output,hX.size,hX.block⟩ hbx.size);generalize x0a H (j:Int)=E at*;generalize idZ (j:Int) o.gen=id at*;generalize hmem:decide (id∈H.buffer)=mem at*;unfold q0w at h64;clear HKK hmem;have r1:IntKind.i64.wrap (o.holds+o.roots)=o.holds+o.roots:=by rw[IntKind.wrap_i64];omega
        have r2:IntKind.i64.wrap (o.holds+o.roots+E)=o.holds+o.roots+E:=by rw[IntKind.wrap_i64];omega
        have HCW:Hid (∀X:q0b wr,_):=λX=>HSX.out X.on (hbx.trans (X.bel.mono hbx.size));have hne:=q0b.some_ wr;have z1:∀X:q0b wr,X.on.cell? ⟨bo,1,none⟩=some (.int .i64 o.gen):=λX=>(HCW.out X).1.1;have z3:∀X:q0b wr,X.on.cell? ⟨bo,3,none⟩=some (.int .i64 o.holds):=λX=>(HCW.out X).1.2.1;have z4:∀X:q0b wr,X.on.cell? ⟨bo,4,none⟩=some (.int .i64 o.roots):=λX=>(HCW.out X).1.2.2.1;have z5:∀X:q0b wr,X.on.cell? ⟨bo,5,none⟩=some (.int .i64 o.count):=λX=>(HCW.out X).1.2.2.2.1;have z7:∀X:q0b wr,X.on.cell? ⟨bo,7,none⟩=some (.bool o.purple):=λX=>(HCW.out X).1.2.2.2.2;have y0:∀X:q0b wr,X.on.cell? ⟨w.heap.size,0,none⟩=some (.slice (some ⟨g,off,none⟩) 8 co):=λX=>(HCW.out X).2.1;have y1:∀X:q0b wr,X.on.cell? ⟨w.heap.size,1,none⟩=some (.slice aw 8 cw):=λX=>(HCW.out X).2.2.1;have y2:∀X:q0b wr,X.on.cell? ⟨w.heap.size,2,none⟩=some (.slice ab H.buffer.length cb):=λX=>(HCW.out X).2.2.2.1;have y3:∀X:q0b wr,X.on.cell? ⟨w.heap.size,3,none⟩=some (.slice sa H.sites.length sc):=λX=>(HCW.out X).2.2.2.2;have CEL:Hid (∀X:q0b wr,RdH X.on _ H):=λX=>q0s HR3.out.rd X.bel;have CIL:Hid (∀X:q0b wr,RdI X.on ab H.buffer):=λX=>HRI.out X.on (hbx.trans (X.bel.mono hbx.size));rw[H0.out,H1.out]at CEL;clear c0 c1 c2 c3 c4 c5 c6 c7 p0 p1 p2 p3 HRD hb0;by_cases g1:o.count=o.holds+o.roots+E
        ·have hq:(o.count !=o.holds+o.roots+E)=false:=by rw[bne_eq_false_iff_eq];exact g1
         by_cases g2:o.count<1
         ·have hb0:=HLN.out (λh=>by omega);subst hb0;have hq2:decide (o.count<1)=true:=decide_eq_true g2;clear HLN HLV g1;go_wp2;refine q0j wr bl0 (by kernel_rfl) (by kernel_rfl) ?_
          repeat (go_big_quiet_step (first
           |(go_at_call 65;refine(CE.out _ (CEL.out _)).mono ?_;rintro e w1 ⟨rfl,b1⟩;exact⟨rfl,q0b.step _ b1⟩)
           |(go_at_call 67;refine(CI.out _).mono ?_;rintro e w1 ⟨rfl,hw1⟩;exact⟨rfl,_,hw1⟩)
           |(go_at_call 66;refine(CH.out _ (CIL.out _)).mono ?_;rintro e w1 ⟨rfl,hw1⟩;exact⟨rfl,_,hw1⟩)))
          refine wpQuiet_nil ?_;rintro _ ⟨⟨X,hX⟩,rfl⟩;go_wp2;go_ret
          exact⟨rfl,BW.trans ((HB2.out _ (hbx.trans (hX.mono hbx.size))).mono BW.size)⟩
         ·have hq2:decide (o.count<1)=false:=decide_eq_false g2;generalize o.purple=pu at*;by_cases g3:pu=mem
          ·have HFIN:Hid (∀i(h:i<H.objs.length),i<j+1->okO H i H.objs[i]):=HLV.out ⟨g1,by omega,g3⟩;subst g3;clear HLN HLV g1 g2
           cases pu
           all_goals
            go_wp2;refine q0j wr bl0 (by kernel_rfl) (by kernel_rfl) ?_
            repeat (go_big_quiet_step (first
             |(go_at_call 65;refine(CE.out _ (CEL.out _)).mono ?_;rintro e w1 ⟨rfl,b1⟩;exact⟨rfl,q0b.step _ b1⟩)
             |(go_at_call 67;refine(CI.out _).mono ?_;rintro e w1 ⟨rfl,hw1⟩;exact⟨rfl,_,hw1⟩)
             |(go_at_call 66;refine(CH.out _ (CIL.out _)).mono ?_;rintro e w1 ⟨rfl,hw1⟩;exact⟨rfl,_,hw1⟩)))
            refine wpQuiet_nil ?_;rintro _ ⟨⟨X,hX⟩,rfl⟩;go_wp2;go_roundw
            case rel=>exact⟨j+1,by omega,by go_num,HB2.out _ (hbx.trans (hX.mono hbx.size)),HFIN⟩
            case measure=>simp[intOf];omega
          ·have hb0:=HLN.out (λh=>g3 h.2.2);subst hb0;obtain rfl:pu= !mem:=by cases pu<;>cases mem<;>simp_all
           clear HLN HLV g1 g2 g3
           cases mem
           all_goals
            simp only[Bool.not_false,Bool.not_true]at*;go_wp2;refine q0j wr bl0 (by kernel_rfl) (by kernel_rfl) ?_
            repeat (go_big_quiet_step (first
             |(go_at_call 65;refine(CE.out _ (CEL.out _)).mono ?_;rintro e w1 ⟨rfl,b1⟩;exact⟨rfl,q0b.step _ b1⟩)
             |(go_at_call 67;refine(CI.out _).mono ?_;rintro e w1 ⟨rfl,hw1⟩;exact⟨rfl,_,hw1⟩)
             |(go_at_call 66;refine(CH.out _ (CIL.out _)).mono ?_;rintro e w1 ⟨rfl,hw1⟩;exact⟨rfl,_,hw1⟩)))
            refine wpQuiet_nil ?_;rintro _ ⟨⟨X,hX⟩,rfl⟩;go_wp2;go_ret
            exact⟨rfl,BW.trans ((HB2.out _ (hbx.trans (hX.mono hbx.size))).mono BW.size)⟩
        ·have hb0:=HLN.out (λh=>g1 h.1);subst hb0;have hq:(o.count !=o.holds+o.roots+E)=true:=by rw[bne_iff_ne];exact g1
         clear HLN HLV;go_wp2;refine q0j wr bl0 (by kernel_rfl) (by kernel_rfl) ?_
         repeat (go_big_quiet_step (first
          |(go_at_call 65;refine(CE.out _ (CEL.out _)).mono ?_;rintro e w1 ⟨rfl,b1⟩;exact⟨rfl,q0b.step _ b1⟩)))
         refine wpQuiet_nil ?_;rintro _ ⟨⟨X,hX⟩,rfl⟩;go_wp2;go_ret
         exact⟨rfl,BW.trans ((HB2.out _ (hbx.trans (hX.mono hbx.size))).mono BW.size)⟩
  ·have e8:8<=j:=by omega
   have HOA:Hid (∀i(h:i<H.objs.length),okO H i H.objs[i]):=λi hi=>HO.out i hi (by have:=H0.out;omega);have HNW:Hid (∀i(h:i<H.weaks.length),¬okW H.weaks[i]->b=false):=λi hi hn=>HNO.out (λok=>hn (ok.weaks i hi));have HNB:Hid (∀i(h:i<H.buffer.length),¬okB H i H.buffer[i]->b=false):=λi hi hn=>HNO.out (λok=>hn (ok.buffer i hi));have HNS:Hid (∀i(h:i<H.sites.length),¬okN H i H.sites[i]->b=false):=λi hi hn=>HNO.out (λok=>hn (ok.sites i hi));have HAY:Hid ((∀i(h:i<H.weaks.length),okW H.weaks[i])->(∀i(h:i<H.buffer.length),okB H i H.buffer[i])->(∀i(h:i<H.sites.length),okN H i H.sites[i])->b=true):=λa1 a2 a3=>HYES.out ⟨⟨H0.out,H1.out,hn6⟩,HOA.out,a1,a2,a3⟩;clear HO HOA HNO HYES R1;go_wp2;clear p0;go_loopw[7] (λi X=>∃k:Nat,k<=8/\i= .int .i64 (k:Int)/\Below W.heap.size W X/\Hid (∀i(h:i<H.weaks.length),i<k->okW H.weaks[i])) (λi _=>8 - (intOf i).toNat)
   case atStart=>exact⟨0,by omega,rfl,hb,λi _ h=>absurd h (by omega)⟩
   case round=>
    clear hb;obtain⟨k,hk,rfl,hb,HO⟩:=hrel;have R1:=RW.out.later hb;have p1:=R1.p1;rw[H1.out]at p1;by_cases hlt:k<8
    ·have hk2:k<H.weaks.length:=by have:=H1.out;omega
     obtain⟨g,off,rfl,hg,hc⟩:=R1.rw k hk2;have HNX:Hid (¬okW H.weaks[k]->b=false):=λhn=>HNW.out k hk2 hn
     have HOX:Hid (okW H.weaks[k]->∀i(h:i<H.weaks.length),i<k+1->okW H.weaks[i]):=λho i hi hl=>by
      rcases Nat.lt_or_ge i k with h3|h3
      ·exact HO.out i hi h3
      ·obtain rfl:i=k:=by omega
       exact ho
     obtain⟨d,hd⟩:∃d,H.weaks[k]=d:=⟨_,rfl⟩;rw[hd]at hc HNX HOX;obtain⟨du,dt⟩:=d;obtain⟨c0,c1⟩:=hc;simp only at c0 c1;have HBN:Hid (Below W.heap.size W (wr.alloc (.cells #[.bool du,.int .i64 dt] 95))):=hb.alloc hb.size _;clear hd HO R1
     cases du with
     |false=>
      by_cases hz:dt=0
      ·have HFIN:Hid _:=HOX.out ⟨λ_=>hz,λh=>by cases h⟩;subst hz;go_wp2;go_roundw
       case rel=>exact⟨k+1,by omega,by go_num,HBN.out,HFIN⟩
       case measure=>simp[intOf];omega
      ·have hb0:=HNX.out (λh=>hz (h.1 rfl));subst hb0;have hq:(dt !=0)=true:=by rw[bne_iff_ne];exact hz
       go_wp2;go_ret
       exact⟨rfl,BW.trans (HBN.out.mono BW.size)⟩
     |true=>
      by_cases hz:8<=dt/\dt<=7999
      ·have HFIN:Hid _:=HOX.out ⟨λh=>(by cases h),λ_=>hz⟩;go_wp2_with fail
       refine(z0s dt 8 7999 _ hz.1 hz.2).mono ?_;rintro e V ⟨rfl,hV⟩;subst hV;go_wp2;go_roundw
       case rel=>exact⟨k+1,by omega,by go_num,HBN.out,HFIN⟩
       case measure=>simp[intOf];omega
      ·have hb0:=HNX.out (λh=>hz (h.2 rfl));subst hb0;go_wp2_with fail
       refine(x0B dt 8 7999 _ (by omega)).mono ?_;rintro e V ⟨rfl,hV⟩;subst hV;go_wp2;go_ret
       exact⟨rfl,BW.trans (HBN.out.mono BW.size)⟩
    ·have ek8:8<=k:=by omega
     have HWA:Hid (∀i(h:i<H.weaks.length),okW H.weaks[i]):=λi hi=>HO.out i hi (by have:=H1.out;omega);clear HO HNW R1;go_wp2;clear p1;go_loopw[9] (λi X=>∃k:Nat,k<=H.buffer.length/\i= .int .i64 (k:Int)/\Below W.heap.size W X/\Hid (∀i(h:i<H.buffer.length),i<k->okB H i H.buffer[i])) (λi _=>H.buffer.length - (intOf i).toNat)
     case atStart=>exact⟨0,by omega,rfl,hb,λi _ h=>absurd h (by omega)⟩
     case round=>
      clear hb;obtain⟨l,hl,rfl,hb,HO⟩:=hrel;have R1:=RW.out.later hb;have p2:=R1.p2;by_cases hlt:l<H.buffer.length
      ·have HCW:Hid (∀X:q0b wr,RV X.on _ H w.heap.size ao co aw cw ab cb sa sc):=λX=>R1.later X.bel;obtain⟨g,off,rfl,hg,hc⟩:=R1.ri l hlt;have HNX:Hid (¬okB H l H.buffer[l]->b=false):=λhn=>HNB.out l hlt hn
       have HOX:Hid (okB H l H.buffer[l]->∀i(h:i<H.buffer.length),i<l+1->okB H i H.buffer[i]):=λho i hi hl=>by
        rcases Nat.lt_or_ge i l with h3|h3
        ·exact HO.out i hi h3
        ·obtain rfl:i=l:=by omega
         exact ho
       have hx64:=HF.out.buffer _ (List.getElem_mem hlt);have htk:(H.buffer.take l).length=l:=by rw[List.length_take];omega
       have HRT:Hid (∀X:q0b wr,RdI X.on (some ⟨g,off,none⟩) (H.buffer.take l)):=λX i hi=>by
        have hi2:i<H.buffer.length:=by rw[htk]at hi;omega
        obtain⟨g',off',e1,e2,e3⟩:=(HCW.out X).ri i hi2;exact⟨g',off',e1,e2,by rw[List.getElem_take];exact e3⟩
       have CH:Hid (∀X c,RdI X (some ⟨g,off,none⟩) (H.buffer.take l)->_):=λX c hX=>z2C X (some ⟨g,off,none⟩) c (H.buffer.take l) H.buffer[l] hX (by rw[htk];omega);rw[htk]at CH;generalize H.buffer[l]=x at*;have CS:Hid (∀X,RdH X _ H->_):=λX hX=>z0k (.agg #[.slice ao H.objs.length co,.slice aw H.weaks.length cw,.slice (some ⟨g,off,none⟩) H.buffer.length cb,.slice sa H.sites.length sc]) H x X hX (by omega) hx64.1 hx64.2;have CEL:Hid (∀X:q0b wr,RdH X.on _ H):=λX=>(HCW.out X).rd;rw[H0.out,H1.out]at CEL CS;have hne:=q0b.some_ wr;have zx:∀X:q0b wr,X.on.cell? ⟨g,off+l,none⟩=some (.int .i64 x):=λX=>(X.bel.cell (p:=⟨g,off+l,none⟩) hg).trans hc;have y0:∀X:q0b wr,X.on.cell? ⟨w.heap.size,0,none⟩=some (.slice ao 8 co):=λX=>by have h:=(HCW.out X).p0;rw[H0.out]at h;exact h
       have y1:∀X:q0b wr,X.on.cell? ⟨w.heap.size,1,none⟩=some (.slice aw 8 cw):=λX=>by have h:=(HCW.out X).p1;rw[H1.out]at h;exact h
       have y2:∀X:q0b wr,X.on.cell? ⟨w.heap.size,2,none⟩=some (.slice (some ⟨g,off,none⟩) H.buffer.length cb):=λX=>(HCW.out X).p2;have y3:∀X:q0b wr,X.on.cell? ⟨w.heap.size,3,none⟩=some (.slice sa H.sites.length sc):=λX=>(HCW.out X).p3;have i1:(l:Int)<(H.buffer.length:Int):=by omega
       have i2:(l:Int)<=(cb:Int):=by omega
       clear hc R1 HO;by_cases hsl:q0l H x<0
       ·have hb0:=HNX.out (λh=>by have:=h.1;omega);subst hb0;have hq:decide (q0l H x<0)=true:=decide_eq_true hsl;clear HNX HOX hsl;generalize q0l H x=sl at*;go_wp2;refine q0j wr bl0 (by kernel_rfl) (by kernel_rfl) ?_
        repeat (go_big_quiet_step (first
         |(go_at_call 64;refine(CS.out _ (CEL.out _)).mono ?_;rintro e w1 ⟨rfl,b1⟩;exact⟨rfl,q0b.step _ b1⟩)
         |(go_at_call 66;refine(CH.out _ _ (HRT.out _)).mono ?_;rintro e w1 ⟨rfl,hw1⟩;exact⟨rfl,_,hw1⟩)))
        refine wpQuiet_nil ?_;rintro _ ⟨⟨X,hX⟩,rfl⟩;go_wp2;go_ret
        exact⟨rfl,BW.trans ((hb.trans (hX.mono hb.size)).mono BW.size)⟩
       ·have hq:decide (q0l H x<0)=false:=decide_eq_false hsl;by_cases hm:x∈H.buffer.take l
        ·have hb0:=HNX.out (λh=>h.2 hm);subst hb0;rw[decide_eq_true hm]at CH;clear HNX HOX hsl hm;generalize q0l H x=sl at*;go_wp2;refine q0j wr bl0 (by kernel_rfl) (by kernel_rfl) ?_
         repeat (go_big_quiet_step (first
          |(go_at_call 64;refine(CS.out _ (CEL.out _)).mono ?_;rintro e w1 ⟨rfl,b1⟩;exact⟨rfl,q0b.step _ b1⟩)
          |(go_at_call 66;refine(CH.out _ _ (HRT.out _)).mono ?_;rintro e w1 ⟨rfl,hw1⟩;exact⟨rfl,_,hw1⟩)))
         refine wpQuiet_nil ?_;rintro _ ⟨⟨X,hX⟩,rfl⟩;go_wp2;go_ret
         exact⟨rfl,BW.trans ((hb.trans (hX.mono hb.size)).mono BW.size)⟩
        ·have HFIN:Hid _:=HOX.out ⟨by omega,hm⟩;rw[decide_eq_false hm]at CH;clear HNX HOX hsl hm;generalize q0l H x=sl at*;go_wp2;refine q0j wr bl0 (by kernel_rfl) (by kernel_rfl) ?_
         repeat (go_big_quiet_step (first
          |(go_at_call 64;refine(CS.out _ (CEL.out _)).mono ?_;rintro e w1 ⟨rfl,b1⟩;exact⟨rfl,q0b.step _ b1⟩)
          |(go_at_call 66;refine(CH.out _ _ (HRT.out _)).mono ?_;rintro e w1 ⟨rfl,hw1⟩;exact⟨rfl,_,hw1⟩)))
         refine wpQuiet_nil ?_;rintro _ ⟨⟨X,hX⟩,rfl⟩;go_wp2;go_roundw
         case rel=>exact⟨l+1,by omega,by go_num,hb.trans (hX.mono hb.size),HFIN⟩
         case measure=>simp[intOf];omega
      ·have el:H.buffer.length<=l:=by omega
       have HBA:Hid (∀i(h:i<H.buffer.length),okB H i H.buffer[i]):=λi hi=>HO.out i hi (by omega);clear HO HNB R1;go_wp2;clear p2;go_loopw[10] (λi X=>∃m:Nat,m<=H.sites.length/\i= .int .i64 (m:Int)/\Below W.heap.size W X/\Hid (∀i(h:i<H.sites.length),i<m->okN H i H.sites[i])) (λi _=>H.sites.length - (intOf i).toNat)
       case atStart=>exact⟨0,by omega,rfl,hb,λi _ h=>absurd h (by omega)⟩
       case round=>
        clear hb;obtain⟨m,hm,rfl,hb,HO⟩:=hrel;have R1:=RW.out.later hb;have p3:=R1.p3;by_cases hlt:m<H.sites.length
        ·have HRV:Hid (∀X,Below wr.heap.size wr X->RV X _ H w.heap.size ao co aw cw ab cb sa sc):=λX hX=>R1.later hX;obtain⟨g,off,rfl,hg,hc⟩:=R1.rs m hlt;have HNX:Hid (¬okN H m H.sites[m]->b=false):=λhn=>HNS.out m hlt hn
         have HOX:Hid (okN H m H.sites[m]->∀i(h:i<H.sites.length),i<m+1->okN H i H.sites[i]):=λho i hi hl=>by
          rcases Nat.lt_or_ge i m with h3|h3
          ·exact HO.out i hi h3
          ·obtain rfl:i=m:=by omega
           exact ho
         have HNM:Hid (H.sites[m].length<=1048576):=HS.out.names _ (List.getElem_mem hlt);have HEQ:Hid (∀k(h:k<H.sites.length),k<m->H.sites[k]=H.sites[m]->b=false):=λk hk hkm e=>HNX.out (λok=>ok.2 k hk hkm e);have HLEN:Hid (¬(1<=H.sites[m].length/\H.sites[m].length<=8)->b=false):=λhn=>HNX.out (λok=>hn ok.1);have HOK:Hid ((1<=H.sites[m].length/\H.sites[m].length<=8)->(∀k(h:k<H.sites.length),k<m->H.sites[k]≠H.sites[m])->∀i(h:i<H.sites.length),i<m+1->okN H i H.sites[i]):=λh1 h2=>HOX.out ⟨h1,h2⟩;clear HNX HOX HO;obtain⟨x,hx⟩:∃x,H.sites[m]=x:=⟨_,rfl⟩;rw[hx]at hc HNM HEQ HLEN HOK;clear hx;have hsz:(txt x).size=x.length:=rfl;have hnm:=HNM.out;generalize hL:x.length=L at*;by_cases hl8:1<=L/\L<=8
         rotate_left
         ·have hb0:=HLEN.out hl8;subst hb0;go_wp2_with fail
          refine(x0B (L:Int) 1 8 _ (by omega)).mono ?_;rintro e V ⟨rfl,hV⟩;subst hV;go_wp2;go_ret
          exact⟨rfl,BW.trans (hb.mono BW.size)⟩
         ·go_wp2_with fail
          refine(z0s (L:Int) 1 8 _ (by omega) (by omega)).mono ?_;rintro e V ⟨rfl,hV⟩;subst hV;go_wp2
          have HLT:Hid (∀X,Below V.heap.size V X->∀q(h:q<H.sites.length),X.cell? ⟨g,off+q,none⟩=some (.string (txt H.sites[q]))):=λX hX q hq=>by
           obtain⟨g',off',e1,e2,e3⟩:=(HRV.out X hX).rs q hq;simp only[Option.some.injEq,Addr.mk.injEq,and_true]at e1;obtain⟨rfl,rfl⟩:=e1;exact e3
          have HXM:Hid (∀X,Below V.heap.size V X->X.cell? ⟨g,off+m,none⟩=some (.string (txt x))):=λX hX=>(hX.cell (p:=⟨g,off+m,none⟩) hg).trans hc;have HBW:Hid (∀X,Below V.heap.size V X->Below W.heap.size W X):=λX hX=>hb.trans (hX.mono hb.size);have HP3:Hid (∀X,Below V.heap.size V X->X.cell? ⟨w.heap.size,3,none⟩=some (.slice (some ⟨g,off,none⟩) H.sites.length sc)):=λX hX=>(HRV.out X hX).p3;clear hc p3 R1 hb HNM HLEN hsz hnm;go_loopw[11] (λi X=>∃q:Nat,q<=m/\i= .int .i64 (q:Int)/\Below V.heap.size V X/\Hid (∀k(h:k<H.sites.length),k<q->H.sites[k]≠x)) (λi _=>m - (intOf i).toNat)
          case atStart=>exact⟨0,by omega,rfl,bl0,λi _ h=>absurd h (by omega)⟩
          case round=>
           obtain⟨q,hq,rfl,hbq,HQ⟩:=hrel;by_cases hql:q<m
           ·have hq2:q<H.sites.length:=by omega
            have hne:=q0b.some_ wr;have zx:∀X:q0b wr,X.on.cell? ⟨g,off+m,none⟩=some (.string (txt x)):=λX=>HXM.out _ (hbq.trans (X.bel.mono hbq.size));have zq:∀X:q0b wr,X.on.cell? ⟨g,off+q,none⟩=some (.string (txt H.sites[q])):=λX=>HLT.out _ (hbq.trans (X.bel.mono hbq.size)) q hq2;have y3:∀X:q0b wr,X.on.cell? ⟨w.heap.size,3,none⟩=some (.slice (some ⟨g,off,none⟩) H.sites.length sc):=λX=>HP3.out _ (hbq.trans (X.bel.mono hbq.size));have i1:(q:Int)<(H.sites.length:Int):=by omega
            have i2:(m:Int)<(H.sites.length:Int):=by omega
            have HE:Hid (H.sites[q]=x->b=false):=HEQ.out q hq2 hql
            have HN:Hid (H.sites[q]≠x->∀k(h:k<H.sites.length),k<q+1->H.sites[k]≠x):=λhn k hk hl=>by
             rcases Nat.lt_or_ge k q with h3|h3
             ·exact HQ.out k hk h3
             ·obtain rfl:k=q:=by omega
              exact hn
            generalize H.sites[q]=y at*;by_cases he:y=x
            ·have hb0:=HE.out he;subst hb0;subst he;go_wp2;refine q0j wr bl0 (by kernel_rfl) (by kernel_rfl) ?_;repeat (go_big_quiet_step (fail))
             refine wpQuiet_nil ?_;rintro _ ⟨⟨X,hX⟩,rfl⟩;go_wp2;go_ret
             exact⟨rfl,BW.trans ((HBW.out _ (hbq.trans (hX.mono hbq.size))).mono BW.size)⟩
            ·have HFIN:Hid _:=HN.out he;have hqs:((txt y).toList==(txt x).toList)=false:=z4L he;go_wp2;refine q0j wr bl0 (by kernel_rfl) (by kernel_rfl) ?_;repeat (go_big_quiet_step (fail))
             refine wpQuiet_nil ?_;rintro _ ⟨⟨X,hX⟩,rfl⟩;go_wp2;go_roundw
             case rel=>exact⟨q+1,by omega,by go_num,hbq.trans (hX.mono hbq.size),HFIN⟩
             case measure=>simp[intOf];omega
           ·have eq:m<=q:=by omega
            have HFIN:Hid _:=HOK.out hl8 (λk hk hkm=>HQ.out k hk (by omega));go_wp2;go_roundw
            case rel=>exact⟨m+1,by omega,by go_num,HBW.out _ hbq,HFIN⟩
            case measure=>simp[intOf];omega
        ·have em:H.sites.length<=m:=by omega
         have hb1:=HAY.out HWA.out HBA.out (λi hi=>HO.out i hi (by omega));subst hb1;go_wp2;go_ret
         exact⟨rfl,BW.trans (hb.mono BW.size)⟩
end
section
open Go.RowKit
theorem v4M(v:Value)(H:q0a)(o:OpD)(w:World)(h:RdH w v H)(hs:q0h H)(hf:WfH H)(hcap:v0B v)(hno:¬OkH H):
 Calls Tryz.prog 7 #[v,opV o] w λe w' =>q0z w w.heap.size (y0n H 2) e w' :=by
 have CC:Hid (∀X,Below w.heap.size w X->_):=λX hX=>x0P v H X (q0s h hX) hs;have CH:Hid (∀X,Below w.heap.size w X->_):=λX hX=>x0S v H X (q0s h hX) hs hf hcap false (by simp;exact hno);obtain⟨ao,co,aw,cw,ab,cb,sa,sc,rfl,-⟩:=h;clear hcap;generalize H.objs.length=no at*;generalize H.weaks.length=nw at*;generalize H.buffer.length=nb at*;generalize H.sites.length=ns at*;obtain⟨W,hW,BW,sW,F4,F5,FR,FA⟩:=z0S w (.slice ao no co) (.slice aw nw cw) (.slice ab nb cb) (.slice sa ns sc) o;have HBW:Hid (Below w.heap.size w W):=BW;have HF4:=hdx F4;have HF5:=hdx F5;have HFR:=hdx FR;have HFA:=hdx FA;unfold opV;clear hs hf F4 F5 FR FA;go_enter Tryz.func7,Tryz.ntmps7;go_wp2_with fail
 rw[<-hW];clear hW;refine(CC.out _ BW).mono ?_;rintro e w1 ⟨s,rfl,M1,b1⟩;have hs1:=b1.size;obtain⟨V,hV⟩:∃V,V=w1.alloc (.cells #[.slice s.oa s.os.length s.oc,.slice s.wa s.wn s.wc,.slice s.ba s.bn s.bc,.slice s.sa s.sn s.sc] 35):=⟨_,rfl⟩;have BV:Below w1.heap.size w1 V:=by rw[hV];exact bl1 _
 have HX4:Hid (q0d V w1.heap.size (.slice s.oa s.os.length s.oc) (.slice s.wa s.wn s.wc) (.slice s.ba s.bn s.bc) (.slice s.sa s.sn s.sc)):=by rw[hV];exact q0d.new w1 _ _ _ _
 have HMV:Hid (HM V W.heap.size s H):=q0c M1 BV;have HBV:Hid (Below W.heap.size W V):=b1.trans (BV.mono b1.size);obtain⟨k0,k1,k2,k3⟩:=(HF4.out.later b1).cells;have m1:w.heap.size<w1.heap.size:=by omega
 have m2:¬w.heap.size=w1.heap.size:=by omega
 rw[hsv];clear M1 b1 BV BW CC HF4;go_wp2_with fail
 rw[<-hV];clear hV k0 k1 k2 k3 m1 m2;refine(CH.out _ (HBW.out.trans (HBV.out.mono HBW.out.size))).mono ?_;rintro e w2 ⟨rfl,b2⟩;have hs2:=b2.size;have HX5:Hid (q0d w2 w1.heap.size (.slice s.oa s.os.length s.oc) (.slice s.wa s.wn s.wc) (.slice s.ba s.bn s.bc) (.slice s.sa s.sn s.sc)):=HX4.out.later b2;have HM2:Hid (HM w2 W.heap.size s H):=q0c HMV.out b2;have HB2:Hid (Below W.heap.size W w2):=HBV.out.trans (b2.mono HBV.out.size);have HBB:Hid (Below w.heap.size w w2):=HBW.out.trans (HB2.out.mono HBW.out.size);clear CH HX4 HMV HBV b2;obtain⟨x0,x1,x2,x3⟩:=HX5.out.cells;obtain⟨r0,r1,r2,r3⟩:=(HFR.out.later HB2.out).cells;obtain⟨z0,z1,z2,z3⟩:=(HFR.out.later HB2.out).frees;obtain⟨q0,q1,q2⟩:=(HFA.out.later HB2.out).cells;obtain⟨y0,y1,y2⟩:=(HFA.out.later HB2.out).frees;have HX:Hid _:=z0W (w:=w) (wr:=w2) (n:=w.heap.size+1+1) (B:=w.heap.size) (s:=s) (H:=H) (c:=2) (v:=0) HBB.out (z0G HM2.out HBW.out.size) (by omega) (q0D HM2.out (.inl (by omega))) (q0D HM2.out (.inl (by omega))) (.slice s.oa s.os.length s.oc) (.slice s.wa s.wn s.wc) (.slice s.ba s.bn s.bc) (.slice s.sa s.sn s.sc) (.int .i64 2) (.int .i64 0) (.slice none 0 0);rw[hsv]at HX;clear HFR HFA HF5 HX5 HM2 HB2 HBB HBW;unfold q0g q0p at HX;go_wp2;exact bodyPost_ret (v:= .tuple #[.agg #[.slice s.oa s.os.length s.oc,.slice s.wa s.wn s.wc,.slice s.ba s.bn s.bc,.slice s.sa s.sn s.sc],q0m 2 0 (.slice none 0 0)]) (by simp[results,Tryz.results7,go_sem,q0m, *]) rfl HX.out
theorem z4m(v:Value)(H:q0a)(o:OpD)(w:World)(h:RdH w v H)(hs:q0h H)(hf:WfH H)(hcap:v0B v)(hok:OkH H)(hk:o.kind<1\/10<o.kind):
 Calls Tryz.prog 7 #[v,opV o] w λe w' =>q0z w w.heap.size (y0n H 2) e w' :=by
 have CC:Hid (∀X,Below w.heap.size w X->_):=λX hX=>x0P v H X (q0s h hX) hs;have CH:Hid (∀X,Below w.heap.size w X->_):=λX hX=>x0S v H X (q0s h hX) hs hf hcap true (by simp;exact hok);obtain⟨ao,co,aw,cw,ab,cb,sa,sc,rfl,-⟩:=h;clear hcap;generalize H.objs.length=no at*;generalize H.weaks.length=nw at*;generalize H.buffer.length=nb at*;generalize H.sites.length=ns at*;obtain⟨W,hW,BW,sW,F4,F5,FR,FA⟩:=z0S w (.slice ao no co) (.slice aw nw cw) (.slice ab nb cb) (.slice sa ns sc) o;have HBW:Hid (Below w.heap.size w W):=BW;have HF4:=hdx F4;have HF5:=hdx F5;have HFR:=hdx FR;have HFA:=hdx FA;unfold opV;clear hs hf F4 F5 FR FA;go_enter Tryz.func7,Tryz.ntmps7;go_wp2_with fail
 rw[<-hW];clear hW;refine(CC.out _ BW).mono ?_;rintro e w1 ⟨s,rfl,M1,b1⟩;have hs1:=b1.size;obtain⟨V,hV⟩:∃V,V=w1.alloc (.cells #[.slice s.oa s.os.length s.oc,.slice s.wa s.wn s.wc,.slice s.ba s.bn s.bc,.slice s.sa s.sn s.sc] 35):=⟨_,rfl⟩;have BV:Below w1.heap.size w1 V:=by rw[hV];exact bl1 _
 have HX4:Hid (q0d V w1.heap.size (.slice s.oa s.os.length s.oc) (.slice s.wa s.wn s.wc) (.slice s.ba s.bn s.bc) (.slice s.sa s.sn s.sc)):=by rw[hV];exact q0d.new w1 _ _ _ _
 have HMV:Hid (HM V W.heap.size s H):=q0c M1 BV;have HBV:Hid (Below W.heap.size W V):=b1.trans (BV.mono b1.size);obtain⟨k0,k1,k2,k3⟩:=(HF4.out.later b1).cells;have m1:w.heap.size<w1.heap.size:=by omega
 have m2:¬w.heap.size=w1.heap.size:=by omega
 rw[hsv];clear M1 b1 BV BW CC HF4;go_wp2_with fail
 rw[<-hV];clear hV k0 k1 k2 k3 m1 m2;refine(CH.out _ (HBW.out.trans (HBV.out.mono HBW.out.size))).mono ?_;rintro e w2 ⟨rfl,b2⟩;have hs2:=b2.size;have HX5:Hid (q0d w2 w1.heap.size (.slice s.oa s.os.length s.oc) (.slice s.wa s.wn s.wc) (.slice s.ba s.bn s.bc) (.slice s.sa s.sn s.sc)):=HX4.out.later b2;have HM2:Hid (HM w2 W.heap.size s H):=q0c HMV.out b2;have HB2:Hid (Below W.heap.size W w2):=HBV.out.trans (b2.mono HBV.out.size);have HBB:Hid (Below w.heap.size w w2):=HBW.out.trans (HB2.out.mono HBW.out.size);clear CH HX4 HMV HBV b2;obtain⟨v0,v1,v2,v3,v4⟩:=(HF5.out.later HB2.out).cells;have t1:(o.kind==1)=false:=by simp;omega
 have u1:¬o.kind=1:=by omega
 have t2:(o.kind==2)=false:=by simp;omega
 have u2:¬o.kind=2:=by omega
 have t3:(o.kind==3)=false:=by simp;omega
 have u3:¬o.kind=3:=by omega
 have t4:(o.kind==4)=false:=by simp;omega
 have u4:¬o.kind=4:=by omega
 have t5:(o.kind==5)=false:=by simp;omega
 have u5:¬o.kind=5:=by omega
 have t6:(o.kind==6)=false:=by simp;omega
 have u6:¬o.kind=6:=by omega
 have t7:(o.kind==7)=false:=by simp;omega
 have u7:¬o.kind=7:=by omega
 have t8:(o.kind==8)=false:=by simp;omega
 have u8:¬o.kind=8:=by omega
 have t9:(o.kind==9)=false:=by simp;omega
 have u9:¬o.kind=9:=by omega
 have t10:(o.kind==10)=false:=by simp;omega
 have u10:¬o.kind=10:=by omega
 generalize o.kind=kd at*;obtain⟨x0,x1,x2,x3⟩:=HX5.out.cells;obtain⟨r0,r1,r2,r3⟩:=(HFR.out.later HB2.out).cells;obtain⟨z0,z1,z2,z3⟩:=(HFR.out.later HB2.out).frees;obtain⟨q0,q1,q2⟩:=(HFA.out.later HB2.out).cells;obtain⟨y0,y1,y2⟩:=(HFA.out.later HB2.out).frees;have HX:Hid _:=z0W (w:=w) (wr:=w2) (n:=w.heap.size+1+1) (B:=w.heap.size) (s:=s) (H:=H) (c:=2) (v:=0) HBB.out (z0G HM2.out HBW.out.size) (by omega) (q0D HM2.out (.inl (by omega))) (q0D HM2.out (.inl (by omega))) (.slice s.oa s.os.length s.oc) (.slice s.wa s.wn s.wc) (.slice s.ba s.bn s.bc) (.slice s.sa s.sn s.sc) (.int .i64 2) (.int .i64 0) (.slice none 0 0);rw[hsv]at HX;clear hk hok;clear HFR HFA HF5 HX5 HM2 HB2 HBB HBW;unfold q0g q0p at HX;go_wp2;exact bodyPost_ret (v:= .tuple #[.agg #[.slice s.oa s.os.length s.oc,.slice s.wa s.wn s.wc,.slice s.ba s.bn s.bc,.slice s.sa s.sn s.sc],q0m 2 0 (.slice none 0 0)]) (by simp[results,Tryz.results7,go_sem,q0m, *]) rfl HX.out
theorem v5M(F:Nat)(v:Value)(H:q0a)(o:OpD)(w:World)(h:RdH w v H)(hs:q0h H)(hf:WfH H)(hcap:v0B v)(R:q0a×z0D)(hok:OkH H)(hkd:(o.kind=1/\F=32)\/(o.kind=2/\F=33)\/(o.kind=3/\F=33)\/(o.kind=5/\F=33)\/(o.kind=6/\F=33)\/(o.kind=4/\F=34)\/(o.kind=7/\F=35)\/(o.kind=8/\F=35)\/(o.kind=9/\F=35))(hC:∀X B s,HM X B s H->B<=X.heap.size->Calls Tryz.prog F #[s.v,opV o] X λe w' =>q0z X B R e w'):
 Calls Tryz.prog 7 #[v,opV o] w λe w' =>q0z w w.heap.size (R) e w' :=by
 have CC:Hid (∀X,Below w.heap.size w X->_):=λX hX=>x0P v H X (q0s h hX) hs;have CH:Hid (∀X,Below w.heap.size w X->_):=λX hX=>x0S v H X (q0s h hX) hs hf hcap true (by simp;exact hok);obtain⟨ao,co,aw,cw,ab,cb,sa,sc,rfl,-⟩:=h;clear hcap;obtain⟨RH,rc,rv,rf⟩:=R;have HKD:Hid ((o.kind=1/\F=32)\/(o.kind=2/\F=33)\/(o.kind=3/\F=33)\/(o.kind=5/\F=33)\/(o.kind=6/\F=33)\/(o.kind=4/\F=34)\/(o.kind=7/\F=35)\/(o.kind=8/\F=35)\/(o.kind=9/\F=35)):=hkd;clear hkd;generalize H.objs.length=no at*;generalize H.weaks.length=nw at*;generalize H.buffer.length=nb at*;generalize H.sites.length=ns at*;obtain⟨W,hW,BW,sW,F4,F5,FR,FA⟩:=z0S w (.slice ao no co) (.slice aw nw cw) (.slice ab nb cb) (.slice sa ns sc) o;have HBW:Hid (Below w.heap.size w W):=BW;have HF4:=hdx F4;have HF5:=hdx F5;have HFR:=hdx FR;have HFA:=hdx FA;unfold opV;clear hs hf F4 F5 FR FA;go_enter Tryz.func7,Tryz.ntmps7;go_wp2_with fail
 rw[<-hW];clear hW;refine(CC.out _ BW).mono ?_;rintro e w1 ⟨s,rfl,M1,b1⟩;have hs1:=b1.size;obtain⟨V,hV⟩:∃V,V=w1.alloc (.cells #[.slice s.oa s.os.length s.oc,.slice s.wa s.wn s.wc,.slice s.ba s.bn s.bc,.slice s.sa s.sn s.sc] 35):=⟨_,rfl⟩;have BV:Below w1.heap.size w1 V:=by rw[hV];exact bl1 _
 have HX4:Hid (q0d V w1.heap.size (.slice s.oa s.os.length s.oc) (.slice s.wa s.wn s.wc) (.slice s.ba s.bn s.bc) (.slice s.sa s.sn s.sc)):=by rw[hV];exact q0d.new w1 _ _ _ _
 have HMV:Hid (HM V W.heap.size s H):=q0c M1 BV;have HBV:Hid (Below W.heap.size W V):=b1.trans (BV.mono b1.size);obtain⟨k0,k1,k2,k3⟩:=(HF4.out.later b1).cells;have m1:w.heap.size<w1.heap.size:=by omega
 have m2:¬w.heap.size=w1.heap.size:=by omega
 rw[hsv];clear M1 b1 BV BW CC HF4;go_wp2_with fail
 rw[<-hV];clear hV k0 k1 k2 k3 m1 m2;refine(CH.out _ (HBW.out.trans (HBV.out.mono HBW.out.size))).mono ?_;rintro e w2 ⟨rfl,b2⟩;have hs2:=b2.size;have HX5:Hid (q0d w2 w1.heap.size (.slice s.oa s.os.length s.oc) (.slice s.wa s.wn s.wc) (.slice s.ba s.bn s.bc) (.slice s.sa s.sn s.sc)):=HX4.out.later b2;have HM2:Hid (HM w2 W.heap.size s H):=q0c HMV.out b2;have HB2:Hid (Below W.heap.size W w2):=HBV.out.trans (b2.mono HBV.out.size);have HBB:Hid (Below w.heap.size w w2):=HBW.out.trans (HB2.out.mono HBW.out.size);clear CH HX4 HMV HBV b2;have HC:Hid (∀X,HM X W.heap.size s H->W.heap.size<=X.heap.size->_):=λX h1 h2=>hC X W.heap.size s h1 h2;rw[hsv]at HC;unfold opV at HC;obtain⟨v0,v1,v2,v3,v4⟩:=(HF5.out.later HB2.out).cells;have hk_:=HKD.out;obtain⟨x0,x1,x2,x3⟩:=HX5.out.cells;clear hC hok HF5 HX5 HKD;rcases hk_ with⟨hk_,rfl⟩|⟨hk_,rfl⟩|⟨hk_,rfl⟩|⟨hk_,rfl⟩|⟨hk_,rfl⟩|⟨hk_,rfl⟩|⟨hk_,rfl⟩|⟨hk_,rfl⟩|⟨hk_,rfl⟩
 all_goals
  rw[hk_]at HC v0;clear hk_;go_wp2_with fail
  refine(HC.out _ HM2.out HB2.out.size).mono ?_;rintro e w3 ⟨s4,vf,rfl,M4,f4,d4,b4⟩;obtain⟨fa,fc,rfl,-⟩:=q0Y f4;simp only at M4 f4 d4;simp only[q0m];have hs4:=b4.size;have HB3:Hid (Below W.heap.size W w3):=HB2.out.trans b4;clear x0 x1 x2 x3 v0 v1 v2 v3 v4 HC;obtain⟨r0,r1,r2,r3⟩:=(HFR.out.later HB3.out).cells;obtain⟨z0,z1,z2,z3⟩:=(HFR.out.later HB3.out).frees;obtain⟨q0,q1,q2⟩:=(HFA.out.later HB3.out).cells;obtain⟨y0,y1,y2⟩:=(HFA.out.later HB3.out).frees;have HX:Hid _:=y0K (w:=w) (wr:=w3) (n:=w.heap.size+1+1) (B:=w.heap.size) (s:=s4) (H:=RH) (c:=rc) (v:=rv) (HBW.out.trans (HB3.out.mono HBW.out.size)) (z0G M4 HBW.out.size) (q0A f4 HBW.out.size) d4 (by omega) (q0D M4 (.inl (by omega))) (q0D M4 (.inl (by omega))) (λe=>by have:=(q0n f4 _ e).1;omega) (λe=>by have:=(q0n f4 _ e).1;omega) (.slice s4.oa s4.os.length s4.oc) (.slice s4.wa s4.wn s4.wc) (.slice s4.ba s4.bn s4.bc) (.slice s4.sa s4.sn s4.sc) (.int .i64 rc) (.int .i64 rv) (.slice fa rf.length fc);rw[hsv]at HX;rw[hsv];clear HFR HFA HM2 HB2 HB3 HBB HBW M4 f4 d4 b4;generalize rf.length=rn at*;unfold q0g q0p at HX;go_wp2;exact bodyPost_ret (v:= .tuple #[.agg #[.slice s4.oa s4.os.length s4.oc,.slice s4.wa s4.wn s4.wc,.slice s4.ba s4.bn s4.bc,.slice s4.sa s4.sn s4.sc],q0m rc rv (.slice fa rn fc)]) (by simp[results,Tryz.results7,go_sem,q0m, *]) rfl HX.out
theorem v4L(v:Value)(H:q0a)(o:OpD)(w:World)(h:RdH w v H)(hs:q0h H)(hf:WfH H)(hcap:v0B v)(hok:OkH H)(hkd:o.kind=10)(h8:H.objs.length=8)(hfi:∀o∈H.objs,∀z∈o.field,q0w z)(hbf:∀z∈H.buffer,q0w z):
 Calls Tryz.prog 7 #[v,opV o] w λe w' =>q0z w w.heap.size ((j0c H,⟨0,0,y0v H⟩)) e w' :=by
 have CC:Hid (∀X,Below w.heap.size w X->_):=λX hX=>x0P v H X (q0s h hX) hs;have CH:Hid (∀X,Below w.heap.size w X->_):=λX hX=>x0S v H X (q0s h hX) hs hf hcap true (by simp;exact hok);obtain⟨ao,co,aw,cw,ab,cb,sa,sc,rfl,-⟩:=h;clear hcap;have HKD:Hid (o.kind=10):=hkd;clear hkd;have hC:Hid (∀s X B,HM X B s H->_):=λs X B hM=>x2M s.v H X (q0K hM) hs h8 hfi hbf;clear hfi hbf h8;generalize j0c H=RH at*;generalize y0v H=rf at*;generalize H.objs.length=no at*;generalize H.weaks.length=nw at*;generalize H.buffer.length=nb at*;generalize H.sites.length=ns at*;obtain⟨W,hW,BW,sW,F4,F5,FR,FA⟩:=z0S w (.slice ao no co) (.slice aw nw cw) (.slice ab nb cb) (.slice sa ns sc) o;have HBW:Hid (Below w.heap.size w W):=BW;have HF4:=hdx F4;have HF5:=hdx F5;have HFR:=hdx FR;have HFA:=hdx FA;unfold opV;clear hs hf F4 F5 FR FA;go_enter Tryz.func7,Tryz.ntmps7;go_wp2_with fail
 rw[<-hW];clear hW;refine(CC.out _ BW).mono ?_;rintro e w1 ⟨s,rfl,M1,b1⟩;have hs1:=b1.size;obtain⟨V,hV⟩:∃V,V=w1.alloc (.cells #[.slice s.oa s.os.length s.oc,.slice s.wa s.wn s.wc,.slice s.ba s.bn s.bc,.slice s.sa s.sn s.sc] 35):=⟨_,rfl⟩;have BV:Below w1.heap.size w1 V:=by rw[hV];exact bl1 _
 have HX4:Hid (q0d V w1.heap.size (.slice s.oa s.os.length s.oc) (.slice s.wa s.wn s.wc) (.slice s.ba s.bn s.bc) (.slice s.sa s.sn s.sc)):=by rw[hV];exact q0d.new w1 _ _ _ _
 have HMV:Hid (HM V W.heap.size s H):=q0c M1 BV;have HBV:Hid (Below W.heap.size W V):=b1.trans (BV.mono b1.size);obtain⟨k0,k1,k2,k3⟩:=(HF4.out.later b1).cells;have m1:w.heap.size<w1.heap.size:=by omega
 have m2:¬w.heap.size=w1.heap.size:=by omega
 rw[hsv];clear M1 b1 BV BW CC HF4;go_wp2_with fail
 rw[<-hV];clear hV k0 k1 k2 k3 m1 m2;refine(CH.out _ (HBW.out.trans (HBV.out.mono HBW.out.size))).mono ?_;rintro e w2 ⟨rfl,b2⟩;have hs2:=b2.size;have HX5:Hid (q0d w2 w1.heap.size (.slice s.oa s.os.length s.oc) (.slice s.wa s.wn s.wc) (.slice s.ba s.bn s.bc) (.slice s.sa s.sn s.sc)):=HX4.out.later b2;have HM2:Hid (HM w2 W.heap.size s H):=q0c HMV.out b2;have HB2:Hid (Below W.heap.size W w2):=HBV.out.trans (b2.mono HBV.out.size);have HBB:Hid (Below w.heap.size w w2):=HBW.out.trans (HB2.out.mono HBW.out.size);clear CH HX4 HMV HBV b2;have HC:Hid (∀X,HM X W.heap.size s H->_):=λX h1=>hC.out s X W.heap.size h1;rw[hsv]at HC;obtain⟨v0,v1,v2,v3,v4⟩:=(HF5.out.later HB2.out).cells;rw[HKD.out]at v0;obtain⟨x0,x1,x2,x3⟩:=HX5.out.cells;clear hC hok HF5 HX5 HKD;go_wp2_with fail
 refine(HC.out _ HM2.out).mono ?_;rintro e w3 ⟨s4,vf,rfl,M4,f4,d4,b4⟩;obtain⟨fa,fc,rfl,-⟩:=q0Y f4;have hs4:=b4.size;have hsB:=HB2.out.size;have HB3:Hid (Below W.heap.size W w3):=HB2.out.trans (b4.mono HB2.out.size);clear x0 x1 x2 x3 v0 v1 v2 v3 v4 HC;obtain⟨r0,r1,r2,r3⟩:=(HFR.out.later HB3.out).cells;obtain⟨z0,z1,z2,z3⟩:=(HFR.out.later HB3.out).frees;obtain⟨q0,q1,q2⟩:=(HFA.out.later HB3.out).cells;obtain⟨y0,y1,y2⟩:=(HFA.out.later HB3.out).frees;have HX:Hid _:=u0q (.cells #[.slice s4.oa s4.os.length s4.oc,.slice s4.wa s4.wn s4.wc,.slice s4.ba s4.bn s4.bc,.slice s4.sa s4.sn s4.sc] 35) nl0 (y0K (w:=w) (wr:=w3) (n:=w.heap.size+1+1) (B:=w.heap.size) (s:=s4) (H:=RH) (c:=0) (v:=0) (HBW.out.trans (HB3.out.mono HBW.out.size)) (z0G M4 (by omega)) (q0A f4 (by omega)) d4 (by omega) (q0D M4 (.inl (by omega))) (q0D M4 (.inl (by omega))) (λe=>by have:=(q0n f4 _ e).1;omega) (λe=>by have:=(q0n f4 _ e).1;omega) (.slice s4.oa s4.os.length s4.oc) (.slice s4.wa s4.wn s4.wc) (.slice s4.ba s4.bn s4.bc) (.slice s4.sa s4.sn s4.sc) (.int .i64 0) (.int .i64 0) (.slice fa rf.length fc));rw[hsv]at HX;rw[hsv];have m1:w.heap.size+1+1<w3.heap.size:=by omega
 have m2:¬w.heap.size+1+1=w3.heap.size:=by omega
 have m3:w.heap.size+1+1+1<w3.heap.size:=by omega
 have m4:¬w.heap.size+1+1+1=w3.heap.size:=by omega
 clear HFR HFA HM2 HB2 HB3 HBB HBW M4 f4 d4 b4;generalize rf.length=rn at*;unfold q0g q0p at HX;go_wp2;exact bodyPost_ret (v:= .tuple #[.agg #[.slice s4.oa s4.os.length s4.oc,.slice s4.wa s4.wn s4.wc,.slice s4.ba s4.bn s4.bc,.slice s4.sa s4.sn s4.sc],q0m 0 0 (.slice fa rn fc)]) (by simp[results,Tryz.results7,go_sem,q0m, *]) rfl HX.out
end
end Go.Proofs.YtebgngofnmcklaaGreat
