/- Texts of this claim, joined and laid tight: part 6 of 6. No condition. -/
import Derived.Test.YtebgngofnmcklaaGreatJApply5
namespace Go.Proofs.YtebgngofnmcklaaGreat
set_option linter.unusedVariables false
set_option maxRecDepth 100000
set_option maxHeartbeats 8000000
section
open Go.RowKit
theorem x2O(H:q0a)(id:Int)(h:id<8):q0l H id= -1:=by unfold q0l;rw[if_pos (.inl h)]
theorem y4Z(H:q0a)(id:Int)(h:id<8):z0n H id=H:=by unfold z0n;rw[x2O H id h,if_neg (by omega)]
theorem v3a(H:q0a)(id:Int)(h:id<8):j0h H id=(H,⟨0,0,[]⟩):=by unfold j0h;rw[x4P H id (by rw[x2O H id h];omega)]
theorem u4A(w:World)(B:Nat)(s:HSh)(H:q0a)(o:OpD)(hM:HM w B s H)(hB:B<=w.heap.size)(hs:q0h H)(hoa:q0w o.a)(hob:q0w o.b)(hoc:q0w o.c)(hz:q0l H o.a<0):
 Calls Tryz.prog 34 #[s.v,opV o] w λe w' =>q0z w B (x0c H o.a o.b o.c) e w' :=by
 obtain⟨W,hW,BW,sW,F4,F5,FR,FA⟩:=z0S w (.slice s.oa s.os.length s.oc) (.slice s.wa s.wn s.wc) (.slice s.ba s.bn s.bc) (.slice s.sa s.sn s.sc) o;have MW:=q0c hM BW;have HM0:=hdx MW;have HBW:Hid (Below B w W):=BW.mono hB;have HF4:=hdx F4;have HF5:=hdx F5;have HFR:=hdx FR;have HFA:=hdx FA;have n2:¬q0u s (w.heap.size+1+1):=q0D hM (.inr (by omega));have n3:¬q0u s (w.heap.size+1+1+1):=q0D hM (.inr (by omega));have nx:¬q0u s w.heap.size:=q0D hM (.inr nl0);have HE:Hid (j5Q w B s):=j5S (by omega) n2 n3;rw[hsv];unfold opV;have CS:Hid (∀_:Unit,_):=λ(_:Unit)=>z0k s.v H o.a W (q0K MW) (by have:=hs.objs;omega) hoa.1 hoa.2;have CC:Hid (∀X,Below W.heap.size W X->_):=λX hX=>z0k s.v H o.c X (q0K (q0c MW hX)) (by have:=hs.objs;omega) hoc.1 hoc.2;rw[hsv]at CS CC;have HR:Hid (x0c H o.a o.b o.c=(H,⟨1,0,[]⟩)):=by show _=_;unfold x0c;rw[if_pos (.inl hz)];rfl
 rw[HR.out];generalize q0l H o.a=z at*;generalize q0l H o.c=zc at*;clear hM hs hoa hob hoc HR MW F4 F5 FR FA BW;go_enter Tryz.func34,Tryz.ntmps34;go_wp2_with fail
 rw[<-hW];clear hW;refine(CS.out ()).mono ?_;rintro e w1 ⟨rfl,b1⟩;obtain⟨x0,x1,x2,x3⟩:=(HF4.out.later b1).cells;obtain⟨r0,r1,r2,r3⟩:=(HFR.out.later b1).cells;obtain⟨z0,z1,z2,z3⟩:=(HFR.out.later b1).frees;obtain⟨q0,q1,q2⟩:=(HFA.out.later b1).cells;obtain⟨y0,y1,y2⟩:=(HFA.out.later b1).frees;have HX:Hid _:=HE.out w1 H 1 0 (.slice s.oa s.os.length s.oc) (.slice s.wa s.wn s.wc) (.slice s.ba s.bn s.bc) (.slice s.sa s.sn s.sc) (.int .i64 1) (.int .i64 0) (.slice none 0 0) (HBW.out.trans (b1.mono (by have:=HBW.out.size;omega))) (q0c HM0.out b1);clear HF4 HF5 HFR HFA HM0 HBW HE CS CC b1;unfold q0g q0p at HX;go_wp2;exact bodyPost_ret (v:= .tuple #[.agg #[.slice s.oa s.os.length s.oc,.slice s.wa s.wn s.wc,.slice s.ba s.bn s.bc,.slice s.sa s.sn s.sc],q0m 1 0 (.slice none 0 0)]) (by simp[results,Tryz.results34,go_sem,q0m, *]) rfl HX.out
theorem u4B(w:World)(B:Nat)(s:HSh)(H:q0a)(o:OpD)(hM:HM w B s H)(hB:B<=w.heap.size)(hs:q0h H)(hoa:q0w o.a)(hob:q0w o.b)(hoc:q0w o.c)(hz:0<=q0l H o.a)(hc:o.c≠ -1)(hzc:q0l H o.c<0):
 Calls Tryz.prog 34 #[s.v,opV o] w λe w' =>q0z w B (x0c H o.a o.b o.c) e w' :=by
 obtain⟨W,hW,BW,sW,F4,F5,FR,FA⟩:=z0S w (.slice s.oa s.os.length s.oc) (.slice s.wa s.wn s.wc) (.slice s.ba s.bn s.bc) (.slice s.sa s.sn s.sc) o;have MW:=q0c hM BW;have HM0:=hdx MW;have HBW:Hid (Below B w W):=BW.mono hB;have HF4:=hdx F4;have HF5:=hdx F5;have HFR:=hdx FR;have HFA:=hdx FA;have n2:¬q0u s (w.heap.size+1+1):=q0D hM (.inr (by omega));have n3:¬q0u s (w.heap.size+1+1+1):=q0D hM (.inr (by omega));have nx:¬q0u s w.heap.size:=q0D hM (.inr nl0);have HE:Hid (j5Q w B s):=j5S (by omega) n2 n3;rw[hsv];unfold opV;have CS:Hid (∀_:Unit,_):=λ(_:Unit)=>z0k s.v H o.a W (q0K MW) (by have:=hs.objs;omega) hoa.1 hoa.2;have CC:Hid (∀X,Below W.heap.size W X->_):=λX hX=>z0k s.v H o.c X (q0K (q0c MW hX)) (by have:=hs.objs;omega) hoc.1 hoc.2;rw[hsv]at CS CC;have HR:Hid (x0c H o.a o.b o.c=(H,⟨1,0,[]⟩)):=by show _=_;unfold x0c;rw[if_pos (.inr ⟨hc,hzc⟩)];rfl
 rw[HR.out];have hd3:(o.c !=(-1:Int))=true:=by simpa using hc
 generalize q0l H o.a=z at*;generalize q0l H o.c=zc at*;clear hM hs hoa hob hoc HR MW F4 F5 FR FA BW;go_enter Tryz.func34,Tryz.ntmps34;go_wp2_with fail
 rw[<-hW];clear hW;refine(CS.out ()).mono ?_;rintro e w1 ⟨rfl,b1⟩;have kc:w1.cell? ⟨w.heap.size+1,3,none⟩=some (.int .i64 o.c):=(HF5.out.later b1).cell 3;obtain⟨x0,x1,x2,x3⟩:=(HF4.out.later b1).cells;go_wp2_with fail
 refine(CC.out w1 b1).mono ?_;rintro e w2 ⟨rfl,b2⟩;have b12:=b1.trans (b2.mono b1.size);clear x0 x1 x2 x3 kc;obtain⟨x0,x1,x2,x3⟩:=(HF4.out.later b12).cells;obtain⟨r0,r1,r2,r3⟩:=(HFR.out.later b12).cells;obtain⟨z0,z1,z2,z3⟩:=(HFR.out.later b12).frees;obtain⟨q0,q1,q2⟩:=(HFA.out.later b12).cells;obtain⟨y0,y1,y2⟩:=(HFA.out.later b12).frees;have HX:Hid _:=HE.out w2 H 1 0 (.slice s.oa s.os.length s.oc) (.slice s.wa s.wn s.wc) (.slice s.ba s.bn s.bc) (.slice s.sa s.sn s.sc) (.int .i64 1) (.int .i64 0) (.slice none 0 0) (HBW.out.trans (b12.mono (by have:=HBW.out.size;omega))) (q0c HM0.out b12);clear HF4 HF5 HFR HFA HM0 HBW HE CS CC b1 b2 b12;unfold q0g q0p at HX;go_wp2;exact bodyPost_ret (v:= .tuple #[.agg #[.slice s.oa s.os.length s.oc,.slice s.wa s.wn s.wc,.slice s.ba s.bn s.bc,.slice s.sa s.sn s.sc],q0m 1 0 (.slice none 0 0)]) (by simp[results,Tryz.results34,go_sem,q0m, *]) rfl HX.out
theorem v4P(w:World)(B:Nat)(s:HSh)(H:q0a)(o:OpD)(hM:HM w B s H)(hB:B<=w.heap.size)(hs:q0h H)(hoa:q0w o.a)(hob:q0w o.b)(hoc:q0w o.c)(hz:0<=q0l H o.a)(hc:o.c= -1)(hb:o.b<0\/2<o.b):
 Calls Tryz.prog 34 #[s.v,opV o] w λe w' =>q0z w B (x0c H o.a o.b o.c) e w' :=by
 obtain⟨W,hW,BW,sW,F4,F5,FR,FA⟩:=z0S w (.slice s.oa s.os.length s.oc) (.slice s.wa s.wn s.wc) (.slice s.ba s.bn s.bc) (.slice s.sa s.sn s.sc) o;have MW:=q0c hM BW;have HM0:=hdx MW;have HBW:Hid (Below B w W):=BW.mono hB;have HF4:=hdx F4;have HF5:=hdx F5;have HFR:=hdx FR;have HFA:=hdx FA;have n2:¬q0u s (w.heap.size+1+1):=q0D hM (.inr (by omega));have n3:¬q0u s (w.heap.size+1+1+1):=q0D hM (.inr (by omega));have nx:¬q0u s w.heap.size:=q0D hM (.inr nl0);have HE:Hid (j5Q w B s):=j5S (by omega) n2 n3;rw[hsv];unfold opV;have CS:Hid (∀_:Unit,_):=λ(_:Unit)=>z0k s.v H o.a W (q0K MW) (by have:=hs.objs;omega) hoa.1 hoa.2;have CC:Hid (∀X,Below W.heap.size W X->_):=λX hX=>z0k s.v H o.c X (q0K (q0c MW hX)) (by have:=hs.objs;omega) hoc.1 hoc.2;rw[hsv]at CS CC
 have hno:¬(q0l H o.a<0\/(o.c≠ -1/\q0l H o.c<0)):=by
  rintro(h|⟨h,h2⟩)
  ·omega
  ·exact h hc
 have HR:Hid (x0c H o.a o.b o.c=(H,⟨2,0,[]⟩)):=by show _=_;unfold x0c;rw[if_neg hno,if_pos hb];rfl
 rw[HR.out];have CW:Hid (∀X,_):=λX=>x0B o.b 0 2 X hb;generalize q0l H o.a=z at*;generalize q0l H o.c=zc at*;clear hM hs hoa hob hoc HR MW F4 F5 FR FA BW hno hb;have HCM:Hid (o.c= -1):=hc;rw[hc]at hW;rw[hc];clear hc;go_enter Tryz.func34,Tryz.ntmps34;go_wp2_with fail
 rw[<-hW];clear hW;refine(CS.out ()).mono ?_;rintro e w1 ⟨rfl,b1⟩;have kc:w1.cell? ⟨w.heap.size+1,3,none⟩=some (.int .i64 (-1)):=by rw[<-HCM.out];exact(HF5.out.later b1).cell 3
 have b12:=b1;have kb:w1.cell? ⟨w.heap.size+1,2,none⟩=some (.int .i64 o.b):=(HF5.out.later b12).cell 2;go_wp2_with fail
 refine(CW.out _).mono ?_;rintro e w3 ⟨rfl,rfl⟩;obtain⟨x0,x1,x2,x3⟩:=(HF4.out.later b12).cells;obtain⟨r0,r1,r2,r3⟩:=(HFR.out.later b12).cells;obtain⟨z0,z1,z2,z3⟩:=(HFR.out.later b12).frees;obtain⟨q0,q1,q2⟩:=(HFA.out.later b12).cells;obtain⟨y0,y1,y2⟩:=(HFA.out.later b12).frees;have HX:Hid _:=HE.out w3 H 2 0 (.slice s.oa s.os.length s.oc) (.slice s.wa s.wn s.wc) (.slice s.ba s.bn s.bc) (.slice s.sa s.sn s.sc) (.int .i64 2) (.int .i64 0) (.slice none 0 0) (HBW.out.trans (b12.mono (by have:=HBW.out.size;omega))) (q0c HM0.out b12);clear HF4 HF5 HFR HFA HM0 HBW HE CS CC b1 b12 CW kb;unfold q0g q0p at HX;go_wp2;exact bodyPost_ret (v:= .tuple #[.agg #[.slice s.oa s.os.length s.oc,.slice s.wa s.wn s.wc,.slice s.ba s.bn s.bc,.slice s.sa s.sn s.sc],q0m 2 0 (.slice none 0 0)]) (by simp[results,Tryz.results34,go_sem,q0m, *]) rfl HX.out
theorem v4Q(w:World)(B:Nat)(s:HSh)(H:q0a)(o:OpD)(hM:HM w B s H)(hB:B<=w.heap.size)(hs:q0h H)(hoa:q0w o.a)(hob:q0w o.b)(hoc:q0w o.c)(hz:0<=q0l H o.a)(hc:o.c≠ -1)(hzc:0<=q0l H o.c)(hb:o.b<0\/2<o.b):
 Calls Tryz.prog 34 #[s.v,opV o] w λe w' =>q0z w B (x0c H o.a o.b o.c) e w' :=by
 obtain⟨W,hW,BW,sW,F4,F5,FR,FA⟩:=z0S w (.slice s.oa s.os.length s.oc) (.slice s.wa s.wn s.wc) (.slice s.ba s.bn s.bc) (.slice s.sa s.sn s.sc) o;have MW:=q0c hM BW;have HM0:=hdx MW;have HBW:Hid (Below B w W):=BW.mono hB;have HF4:=hdx F4;have HF5:=hdx F5;have HFR:=hdx FR;have HFA:=hdx FA;have n2:¬q0u s (w.heap.size+1+1):=q0D hM (.inr (by omega));have n3:¬q0u s (w.heap.size+1+1+1):=q0D hM (.inr (by omega));have nx:¬q0u s w.heap.size:=q0D hM (.inr nl0);have HE:Hid (j5Q w B s):=j5S (by omega) n2 n3;rw[hsv];unfold opV;have CS:Hid (∀_:Unit,_):=λ(_:Unit)=>z0k s.v H o.a W (q0K MW) (by have:=hs.objs;omega) hoa.1 hoa.2;have CC:Hid (∀X,Below W.heap.size W X->_):=λX hX=>z0k s.v H o.c X (q0K (q0c MW hX)) (by have:=hs.objs;omega) hoc.1 hoc.2;rw[hsv]at CS CC
 have hno:¬(q0l H o.a<0\/(o.c≠ -1/\q0l H o.c<0)):=by
  rintro(h|⟨h,h2⟩)
  ·omega
  ·omega
 have hd3:(o.c !=(-1:Int))=true:=by simpa using hc
 have HR:Hid (x0c H o.a o.b o.c=(H,⟨2,0,[]⟩)):=by show _=_;unfold x0c;rw[if_neg hno,if_pos hb];rfl
 rw[HR.out];have CW:Hid (∀X,_):=λX=>x0B o.b 0 2 X hb;generalize q0l H o.a=z at*;generalize q0l H o.c=zc at*;clear hM hs hoa hob hoc HR MW F4 F5 FR FA BW hno hb;go_enter Tryz.func34,Tryz.ntmps34;go_wp2_with fail
 rw[<-hW];clear hW;refine(CS.out ()).mono ?_;rintro e w1 ⟨rfl,b1⟩;have kc:w1.cell? ⟨w.heap.size+1,3,none⟩=some (.int .i64 o.c):=(HF5.out.later b1).cell 3;obtain⟨x0,x1,x2,x3⟩:=(HF4.out.later b1).cells;go_wp2_with fail
 refine(CC.out w1 b1).mono ?_;rintro e w2 ⟨rfl,b2⟩;have b12:=b1.trans (b2.mono b1.size);clear x0 x1 x2 x3 kc;have kb:w2.cell? ⟨w.heap.size+1,2,none⟩=some (.int .i64 o.b):=(HF5.out.later b12).cell 2;go_wp2_with fail
 refine(CW.out _).mono ?_;rintro e w3 ⟨rfl,rfl⟩;obtain⟨x0,x1,x2,x3⟩:=(HF4.out.later b12).cells;obtain⟨r0,r1,r2,r3⟩:=(HFR.out.later b12).cells;obtain⟨z0,z1,z2,z3⟩:=(HFR.out.later b12).frees;obtain⟨q0,q1,q2⟩:=(HFA.out.later b12).cells;obtain⟨y0,y1,y2⟩:=(HFA.out.later b12).frees;have HX:Hid _:=HE.out w3 H 2 0 (.slice s.oa s.os.length s.oc) (.slice s.wa s.wn s.wc) (.slice s.ba s.bn s.bc) (.slice s.sa s.sn s.sc) (.int .i64 2) (.int .i64 0) (.slice none 0 0) (HBW.out.trans (b12.mono (by have:=HBW.out.size;omega))) (q0c HM0.out b12);clear HF4 HF5 HFR HFA HM0 HBW HE CS CC b1 b2 b12 CW kb;unfold q0g q0p at HX;go_wp2;exact bodyPost_ret (v:= .tuple #[.agg #[.slice s.oa s.os.length s.oc,.slice s.wa s.wn s.wc,.slice s.ba s.bn s.bc,.slice s.sa s.sn s.sc],q0m 2 0 (.slice none 0 0)]) (by simp[results,Tryz.results34,go_sem,q0m, *]) rfl HX.out
theorem v4R(w:World)(B:Nat)(s:HSh)(H:q0a)(o:OpD)(hM:HM w B s H)(hB:B<=w.heap.size)(hs:q0h H)(hoa:q0w o.a)(hob:q0w o.b)(hoc:q0w o.c)(hw:∀z∈H.objs,∀x∈z.field,q0w x)(k:Nat)(hkl:k<H.objs.length)(hk8:k<8)(h8:H.objs.length=8)(hlv:H.objs[k].live=true)(hfl:H.objs[k].field.length=3)(ek:q0l H o.a=(k:Int))(hc:o.c= -1)(j:Nat)(hj:j<3)(hbj:o.b=(j:Int)):
 Calls Tryz.prog 34 #[s.v,opV o] w λe w' =>q0z w B (x0c H o.a o.b o.c) e w' :=by
 obtain⟨W,hW,BW,sW,F4,F5,FR,FA⟩:=z0S w (.slice s.oa s.os.length s.oc) (.slice s.wa s.wn s.wc) (.slice s.ba s.bn s.bc) (.slice s.sa s.sn s.sc) o;have MW:=q0c hM BW;have HM0:=hdx MW;have HBW:Hid (Below B w W):=BW.mono hB;have HF4:=hdx F4;have HF5:=hdx F5;have HFR:=hdx FR;have HFA:=hdx FA;have n2:¬q0u s (w.heap.size+1+1):=q0D hM (.inr (by omega));have n3:¬q0u s (w.heap.size+1+1+1):=q0D hM (.inr (by omega));have nx:¬q0u s w.heap.size:=q0D hM (.inr nl0);have HE:Hid (j5Q w B s):=j5S (by omega) n2 n3;rw[hsv];unfold opV;have hz:0<=q0l H o.a:=by omega
 have CS:Hid (∀_:Unit,_):=λ(_:Unit)=>z0k s.v H o.a W (q0K MW) (by have:=hs.objs;omega) hoa.1 hoa.2;have CC:Hid (∀X,Below W.heap.size W X->_):=λX hX=>z0k s.v H o.c X (q0K (q0c MW hX)) (by have:=hs.objs;omega) hoc.1 hoc.2;rw[hsv]at CS CC
 have hno:¬(q0l H o.a<0\/(o.c≠ -1/\q0l H o.c<0)):=by
  rintro(h|⟨h,h2⟩)
  ·omega
  ·exact h hc
 have hG0:k<(z0n H o.c).objs.length:=by rw[z1P];exact hkl
 obtain⟨hG1,hG2⟩:=u1B H o.c k hkl hG0;have HSM0:q0h (z0n H o.c):=u0w hs o.c;have HWF0:=j1H hw o.c;rw[ek]at CS;obtain⟨G,hG⟩:∃G,z0n H o.c=G:=⟨_,rfl⟩;have hGg:(z0n H o.c).objs[((k:Int)).toNat]? =G.objs[k]?:=by rw[hG,Int.toNat_natCast]
 simp only[hG]at hG0 hG1 hG2 HSM0 HWF0;have hG3:G.objs[k].field.length=3:=by rw[hG2];exact hfl
 have hj3:j<G.objs[k].field.length:=by omega
 have hj4:j<H.objs[k].field.length:=by omega
 obtain⟨o1,ho1⟩:∃o1:q0E,o1={G.objs[k]with field:=G.objs[k].field.set j o.c}:=⟨_,rfl⟩;obtain⟨old,hold⟩:∃z,H.objs[k].field[j]=z:=⟨_,rfl⟩;have hold2:G.objs[k].field[j]=old:=by rw[<-hold];congr 1
 have HR:Hid (x0c H o.a o.b o.c=j0h (q0r G k o1) old):=by show _=_;unfold x0c;rw[if_neg hno,if_neg (by omega),ek,hGg,hbj,List.getElem?_eq_getElem hG0];simp only[Int.toNat_natCast,hG];rw[<-ho1,List.getD_eq_getElem?_getD,List.getElem?_eq_getElem hj3,hold2];rfl
 have hof:∀x∈o1.field,q0w x:=by
  rw[ho1];intro x hx;rcases List.mem_or_eq_of_mem_set hx with hx|rfl
  ·exact HWF0 _ (List.getElem_mem hG0) x hx
  ·exact hoc
 have HSM:Hid (q0h (q0r G k o1)):=x0W HSM0 k _ (by rw[ho1];simp only[List.length_set];omega);have HWF:Hid (∀z∈(q0r G k o1).objs,∀x∈z.field,q0w x):=j0D HWF0 k _ hof;have HOLD:Hid (q0w old):=by show q0w old;rw[<-hold];exact hw _ (List.getElem_mem hkl) _ (List.getElem_mem hj4)
 have H0:Hid (k<G.objs.length):=hG0;have HG8:Hid (G.objs.length=8):=by show _=_;rw[<-hG,z1P];exact h8
 have HO1:Hid (o1={G.objs[k]with field:=G.objs[k].field.set j o.c}):=ho1;have HG3:Hid (G.objs[k].field.length=3):=hG3;have HBJ:Hid (o.b=(j:Int)):=hbj;have CW:Hid (∀X,_):=λX=>z0s (j:Int) 0 2 X (by omega) (by omega);obtain⟨go,hgo,hgB,hgl⟩:=v0E MW k hkl;obtain⟨hk2,hob_,hfz_⟩:=z0o MW k hkl go hgo;obtain⟨gf,e1,e2,e3,e4,e5,e6⟩:=v1o MW k hkl hk2 j hj4;obtain⟨fc0,hfc0⟩:∃c,s.os[k].c=c:=⟨_,rfl⟩;have hso:s.os.length=8:=by rw[MW.lo];exact h8
 have HRD:Hid (∀X,Below W.heap.size W X->X.cell? ⟨w.heap.size,0,none⟩=some (.slice (some ⟨go,0,none⟩) 8 s.oc)/\X.cell? ⟨go,k*8+6,none⟩=some (.slice (some ⟨gf,0,none⟩) 3 fc0)/\X.cell? ⟨gf,j,none⟩=some (.int .i64 old)/\X.cell? ⟨w.heap.size+1,2,none⟩=some (.int .i64 (j:Int))):=λX hX=>by
  refine⟨?_,?_,(hX.cell (p:=⟨gf,j,none⟩) e4).trans (by rw[e5,hold]),?_⟩
  ·have e:=(F4.later hX).cell 0;rw[hgo,hso]at e;exact e
  ·refine(hX.cell (p:=⟨go,k*8+6,none⟩) hgl).trans ?_;rw[hob_.c6,e1,e2,hfl,hfc0]
  ·rw[<-hbj];exact(F5.later hX).cell 2
 have HNB0:Hid (¬q0u s w.heap.size/\¬q0u s (w.heap.size+1+1)/\¬q0u s (w.heap.size+1+1+1)):=⟨nx,n2,n3⟩;have HHG:Hid (z0n H o.c=G):=hG;have HLO:Hid (G=H):=by show _=_;rw[<-hG,y4Z H o.c (by omega)]
 rw[HR.out];clear hM hs hoa hob hoc HR MW F4 F5 FR FA BW hno hbj hG hGg ho1 hold hold2 hof hG0 hG1 hG2 hG3 hj3 hj4 HSM0 HWF0 hw hlv hfl hkl ek hz hk2 hob_ hfz_ e1 e2 e5 e6 hfc0 hso hgo h8;have HCM:Hid (o.c= -1):=hc;rw[hc]at hW;rw[hc];clear hc;go_enter Tryz.func34,Tryz.ntmps34;go_wp2_with fail
 rw[<-hW];clear hW;refine(CS.out ()).mono ?_;rintro e w1 ⟨rfl,b1⟩;have kc:w1.cell? ⟨w.heap.size+1,3,none⟩=some (.int .i64 (-1)):=by rw[<-HCM.out];exact(HF5.out.later b1).cell 3
 have b12:=b1;have kb:=(HRD.out w1 b12).2.2.2;go_wp2_with fail
 refine(CW.out _).mono ?_;rintro e w3 ⟨rfl,rfl⟩;clear kb CW;have l1:∀Z:q0b w3,Z.on.cell? ⟨w.heap.size,0,none⟩=some (.slice (some ⟨go,0,none⟩) 8 s.oc):=λZ=>(HRD.out _ (b12.trans (Z.bel.mono b12.size))).1;have l2:∀Z:q0b w3,Z.on.cell? ⟨go,k*8+6,none⟩=some (.slice (some ⟨gf,0,none⟩) 3 fc0):=λZ=>(HRD.out _ (b12.trans (Z.bel.mono b12.size))).2.1;have l3:∀Z:q0b w3,Z.on.cell? ⟨gf,j,none⟩=some (.int .i64 old):=λZ=>(HRD.out _ (b12.trans (Z.bel.mono b12.size))).2.2.1;have l4:∀Z:q0b w3,Z.on.cell? ⟨w.heap.size+1,2,none⟩=some (.int .i64 (j:Int)):=λZ=>(HRD.out _ (b12.trans (Z.bel.mono b12.size))).2.2.2;have hnel:=q0b.some_ w3;have hj0:(0:Int)<=(j:Int):=by omega
 have hj1:(j:Int)<3:=by omega
 have hk0:(0:Int)<=(k:Int):=by omega
 have hk1:(k:Int)<8:=by omega
 go_wp2;refine q0j w3 bl0 (by kernel_rfl) (by kernel_rfl) ?_;repeat (go_big_quiet_step (fail))
 refine wpQuiet_nil ?_;intro X4 hXe;have hX4:Below w3.heap.size w3 X4:=by obtain⟨n,hn⟩:=hXe;rw[hn];exact n.bel
 have bX:=b12.trans (hX4.mono b12.size);clear hXe l1 l2 l3 l4 hnel hX4;have kc2:X4.cell? ⟨w.heap.size+1,3,none⟩=some (.int .i64 (-1)):=by rw[<-HCM.out];exact(HF5.out.later bX).cell 3
 have HYF:Hid (∀X,Below X4.heap.size X4 X->q0d X w.heap.size (.slice s.oa s.os.length s.oc) (.slice s.wa s.wn s.wc) (.slice s.ba s.bn s.bc) (.slice s.sa s.sn s.sc)/\z0d X (w.heap.size+1) o/\q0d X (w.heap.size+1+1) (.slice none 0 0) (.slice none 0 0) (.slice none 0 0) (.slice none 0 0)/\q0k X (w.heap.size+1+1+1) (.int .i64 0) (.int .i64 0) (.slice none 0 0)/\HM X B s G):=λX hX=>by
  have b:=bX.trans (hX.mono bX.size);refine⟨HF4.out.later b,HF5.out.later b,HFR.out.later b,HFA.out.later b,?_⟩;rw[HLO.out];exact q0c HM0.out b
 have HBY:Hid (Below B w X4):=HBW.out.trans (bX.mono (by have:=HBW.out.size;omega));have HNB:Hid _:=HNB0.out;clear HF4 HF5 HFR HFA HM0 HBW HE b1 b12 bX CS CC HRD HHG;have hg3:∀h:k<G.objs.length,(G.objs[k]'h).field.length=3:=λh=>HG3.out;have HOS:Hid (s.os.length=8):=by show _=_;rw[(HYF.out _ bl0).2.2.2.2.lo];exact HG8.out
 have HK2:Hid (k<s.os.length):=by have:=HOS.out;show _<_;omega
 obtain⟨fcc,hfcc⟩:∃c,(s.os[k]'HK2.out).c=c:=⟨_,rfl⟩;obtain⟨go2,hgo2,hgB2,hgl2⟩:=v0E (HYF.out _ bl0).2.2.2.2 k H0.out;obtain⟨gf2,f1,f2,f3,f4,f5,f6⟩:=v1o (HYF.out _ bl0).2.2.2.2 k H0.out HK2.out j (by have:=HG3.out;omega);have HF1:Hid (_=_):=f1;have HGO:Hid (s.oa=some ⟨go2,0,none⟩):=hgo2
 have HYG:Hid (∀X,Below X4.heap.size X4 X->X.cell? ⟨w.heap.size,0,none⟩=some (.slice (some ⟨go2,0,none⟩) 8 s.oc)/\X.cell? ⟨go2,k*8+6,none⟩=some (.slice (some ⟨gf2,0,none⟩) 3 fcc)/\(∃u,X.cell? ⟨gf2,j,none⟩=some u)/\X.frozen? ⟨gf2,j,none⟩=false):=λX hX=>by
  obtain⟨h1,h2,h3,h4,h5⟩:=HYF.out X hX;obtain⟨_,a1,a2⟩:=z0o h5 k H0.out go2 hgo2;obtain⟨g9,b1,b2,b3,b4,b5,b6⟩:=v1o h5 k H0.out HK2.out j (by have:=HG3.out;omega);rw[f1]at b1;injection b1 with b1;injection b1 with b1 _ _;subst b1;refine⟨?_,?_,⟨_,b5⟩,b6⟩
  ·have e:=h1.cell 0;rw[hgo2,HOS.out]at e;exact e
  ·rw[a1.c6,f1,b2,hg3,hfcc]
 clear f1 f2 f5 f6 hgo2 hfcc hg3;go_wp2;refine q0R 11 (by kernel_rfl) (by kernel_rfl) (RP 1000 (noP) [.pointer (some ⟨w.heap.size,0,none⟩),.slice (some ⟨go2,0,none⟩) 8 s.oc,.int .i64 (k:Int),.pointer (some ⟨go2,k*8,none⟩),.pointer (some ⟨go2,k*8+6,none⟩),.slice (some ⟨gf2,0,none⟩) 3 fcc,.pointer (some ⟨w.heap.size+1,2,none⟩),.int .i64 (j:Int),.pointer (some ⟨w.heap.size+1,3,none⟩),.int .i64 o.c,.pointer (some ⟨gf2,j,none⟩)]) (x1y u1g) ?_ ?_
 ·intro i o hi ho a X hX hA hdep
  match i,hi,ho with
  |0,_,ho=>
   cases ho
   exact v0f 0 (by omega) (q0f hA (t:=2) (by kernel_rfl)) ⟨_,rfl,bl0,q0S (by decide) rfl⟩
  |1,_,ho=>
   cases ho
   have g0_:a.eval (.tmp 53)= .pointer (some ⟨w.heap.size,0,none⟩):=z0g (hdep ⟨0,.data⟩ (by simp) rfl 53 rfl) (by decide) rfl;exact u0A g0_ (HYG.out X hX).1 ⟨_,rfl,bl0,q0S (by decide) rfl⟩
  |2,_,ho=>
   cases ho
   exact z0p (q0f hA (t:=6) (by kernel_rfl)) ⟨_,rfl,bl0,q0S (by decide) rfl⟩
  |3,_,ho=>
   cases ho
   have g0_:a.eval (.tmp 54)= .slice (some ⟨go2,0,none⟩) 8 s.oc:=z0g (hdep ⟨1,.data⟩ (by simp) rfl 54 rfl) (by decide) rfl;have g1_:a.eval (.tmp 55)= .int .i64 (k:Int):=z0g (hdep ⟨2,.data⟩ (by simp) rfl 55 rfl) (by decide) rfl;exact q1y g0_ g1_ hk8 ⟨_,rfl,bl0,q0S (by decide) rfl⟩
  |4,_,ho=>
   cases ho
   have g0_:a.eval (.tmp 56)= .pointer (some ⟨go2,k*8,none⟩):=z0g (hdep ⟨3,.data⟩ (by simp) rfl 56 rfl) (by decide) rfl;exact u1I g0_ ⟨_,rfl,bl0,q0S (by decide) rfl⟩
  |5,_,ho=>
   cases ho
   have g0_:a.eval (.tmp 57)= .pointer (some ⟨go2,k*8+6,none⟩):=z0g (hdep ⟨4,.data⟩ (by simp) rfl 57 rfl) (by decide) rfl;exact x0E g0_ (HYG.out X hX).2.1 ⟨_,rfl,bl0,q0S (by decide) rfl⟩
  |6,_,ho=>
   cases ho
   exact y0w 2 (by omega) (q0f hA (t:=3) (by kernel_rfl)) ⟨_,rfl,bl0,q0S (by decide) rfl⟩
  |7,_,ho=>
   cases ho
   have g0_:a.eval (.tmp 59)= .pointer (some ⟨w.heap.size+1,2,none⟩):=z0g (hdep ⟨6,.data⟩ (by simp) rfl 59 rfl) (by decide) rfl;exact z0V g0_ (by rw[<-HBJ.out];exact(HYF.out X hX).2.1.cell 2:X.cell? ⟨w.heap.size+1,2,none⟩=some (.int .i64 (j:Int))) ⟨_,rfl,bl0,q0S (by decide) rfl⟩
  |8,_,ho=>
   cases ho
   exact y0w 3 (by omega) (q0f hA (t:=3) (by kernel_rfl)) ⟨_,rfl,bl0,q0S (by decide) rfl⟩
  |9,_,ho=>
   cases ho
   have g0_:a.eval (.tmp 61)= .pointer (some ⟨w.heap.size+1,3,none⟩):=z0g (hdep ⟨8,.data⟩ (by simp) rfl 61 rfl) (by decide) rfl;exact z0V g0_ ((HYF.out X hX).2.1.cell 3) ⟨_,rfl,bl0,q0S (by decide) rfl⟩
  |10,_,ho=>
   cases ho
   have g0_:a.eval (.tmp 58)= .slice (some ⟨gf2,0,none⟩) 3 fcc:=z0g (hdep ⟨5,.data⟩ (by simp) rfl 58 rfl) (by decide) rfl;have g1_:a.eval (.tmp 60)= .int .i64 (j:Int):=z0g (hdep ⟨7,.data⟩ (by simp) rfl 60 rfl) (by decide) rfl;exact y0p g0_ g1_ hj ⟨_,rfl,bl0,q0S (by decide) rfl⟩
 ·intro o ho a X hX hA hdep
  cases ho
  have g0_:a.eval (.tmp 63)= .pointer (some ⟨gf2,j,none⟩):=z0g (hdep ⟨10,.data⟩ (by simp) rfl 63 rfl) (by decide) rfl;have g1_:a.eval (.tmp 62)= .int .i64 o.c:=z0g (hdep ⟨9,.data⟩ (by simp) rfl 62 rfl) (by decide) rfl;obtain⟨u5,h5u⟩:=(HYG.out X hX).2.2.1;refine q1e g0_ g1_ h5u (HYG.out X hX).2.2.2 ?_;obtain⟨us,hus,rfl⟩:=q0F hA [53,54,55,56,57,58,59,60,61,62,63] (by kernel_rfl);simp only[List.mapIdx_cons,List.mapIdx_nil,Nat.reduceAdd,List.contains_cons,List.contains_nil,Nat.reduceBEq,Bool.or_false,Bool.or_true,if_true,if_false,Bool.false_eq_true];obtain⟨Z,hZ⟩:∃Z,Z=X.setCell ⟨gf2,j,none⟩ (.int .i64 o.c):=⟨_,rfl⟩;have hXs:=hX.size;have sZ:Z.heap.size=X.heap.size:=by rw[hZ];simp[World.setCell]
  have HM2:Hid (HM Z B s (q0r G k o1)):=by rw[hZ];exact y2q (HYF.out X hX).2.2.2.2 k H0.out HK2.out gf2 HF1.out j o.c o1 HO1.out
  have othZ:∀i,i≠gf2->Z.heap[i]? =X.heap[i]?:=λi hi=>by rw[hZ];exact heap_setCell_other _ _ _ _ (by exact hi)
  have hgfn:q0u s gf2:= .inr (.inr (.inr (.inr ⟨_,List.getElem_mem HK2.out,_,HF1.out,rfl⟩)));have HF42:Hid (q0d Z w.heap.size (.slice s.oa s.os.length s.oc) (.slice s.wa s.wn s.wc) (.slice s.ba s.bn s.bc) (.slice s.sa s.sn s.sc)):=(HYF.out X hX).1.same (othZ _ (λe=>HNB.out.1 (by rw[e];exact hgfn)));have HFR2:Hid (q0d Z (w.heap.size+1+1) (.slice none 0 0) (.slice none 0 0) (.slice none 0 0) (.slice none 0 0)):=(HYF.out X hX).2.2.1.same (othZ _ (λe=>HNB.out.2.1 (by rw[e];exact hgfn)));have HFA2:Hid (q0k Z (w.heap.size+1+1+1) (.int .i64 0) (.int .i64 0) (.slice none 0 0)):=(HYF.out X hX).2.2.2.1.same (othZ _ (λe=>HNB.out.2.2 (by rw[e];exact hgfn)));have HBS:Hid (B<=Z.heap.size):=by have:=HBY.out.size;show _<=_;omega
  have HB2:Hid (Below B w Z):=by rw[hZ];exact(HBY.out.trans (hX.mono (by have:=HBY.out.size;omega))).setCell (by exact f3) _
  have HS2:Hid (w.heap.size+1+1+1<Z.heap.size):=by have:=HFA2.out.lt;exact this
  rw[<-hZ];obtain⟨x0,x1,x2,x3⟩:=HF42.out.cells;rw[HGO.out]at x0;clear hZ hX hdep hA hus g0_ g1_ h5u othZ hgfn HYG HYF HF42;by_cases hold:old<0
  ·have HRL:Hid (j0h (q0r G k o1) old=(q0r G k o1,⟨0,0,[]⟩)):=v3a _ old (by omega);have HX:Hid (q0z w B (j0h (q0r G k o1) old) _ _):=HRL.out▸z0W (w:=w) (n:=w.heap.size+1+1) (c:=0) (v:=0) HB2.out HM2.out (by omega) HNB.out.2.1 HNB.out.2.2 (.slice s.oa s.os.length s.oc) (.slice s.wa s.wn s.wc) (.slice s.ba s.bn s.bc) (.slice s.sa s.sn s.sc) (.int .i64 0) (.int .i64 0) (.slice none 0 0);rw[hsv,HGO.out]at HX;obtain⟨r0,r1,r2,r3⟩:=HFR2.out.cells;obtain⟨z0,z1,z2,z3⟩:=HFR2.out.frees;obtain⟨q0,q1,q2⟩:=HFA2.out.cells;obtain⟨y0,y1,y2⟩:=HFA2.out.frees;clear HFR2 HFA2 HB2 HS2 HBS HM2 HRL HGO;unfold q0g q0p at HX;go_wp2;exact bodyPost_ret (v:= .tuple #[.agg #[.slice (some ⟨go2,0,none⟩) s.os.length s.oc,.slice s.wa s.wn s.wc,.slice s.ba s.bn s.bc,.slice s.sa s.sn s.sc],q0m 0 0 (.slice none 0 0)]) (by simp[results,Tryz.results34,go_sem,q0m, *]) rfl HX.out
  ·skip
   obtain⟨w4,hw4⟩:∃w4,w4=Z.alloc (.cells #[.int .i64 old] 3):=⟨_,rfl⟩;have b4:Below Z.heap.size Z w4:=by rw[hw4];exact bl1 _
   have s4:w4.heap.size=Z.heap.size+1:=by rw[hw4];simp
   have hri:RdI w4 (some ⟨Z.heap.size,0,none⟩) [old]:=by
    intro j hj;obtain rfl:j=0:=by simpa using hj
    refine⟨Z.heap.size,0,rfl,by omega,?_⟩;rw[hw4,World.cell?_alloc_mark];rfl
   have CG:Hid (∀_:Unit,_):=λ(_:Unit)=>x1P s.v (q0r G k o1) (some ⟨Z.heap.size,0,none⟩) 1 [old] w4 (q0K (q0c HM2.out b4)) HSM.out HWF.out hri (by simp) (λx hx=>by simp at hx;subst hx;exact HOLD.out);rw[show([old]:List Int).length=1 from rfl,hsv,HGO.out]at CG;rw[sZ]at CG;have HB4:Hid (Below B w w4):=HB2.out.trans (b4.mono HBS.out);have HFR4:Hid (q0d w4 (w.heap.size+1+1) (.slice none 0 0) (.slice none 0 0) (.slice none 0 0) (.slice none 0 0)):=HFR2.out.later b4;have HFA4:Hid (q0k w4 (w.heap.size+1+1+1) (.int .i64 0) (.int .i64 0) (.slice none 0 0)):=HFA2.out.later b4;have HS4:Hid (w.heap.size+1+1+1<w4.heap.size):=by have:=HS2.out;show _<_;omega
   have HBS4:Hid (B<=w4.heap.size):=by have:=HBS.out;show _<=_;omega
   clear HM2 HGO hri b4 HSM HWF HOLD;go_wp2_with fail
   rw[<-hw4];clear hw4 x0 x1 x2 x3;refine(CG.out ()).mono ?_;rintro e w3 ⟨s9,vf,rfl,M3,f3,dd3,b3⟩;obtain⟨fa3,fc3,rfl,-⟩:=q0Y f3;have hs3:=b3.size;have HX:Hid _:=u0q (.cells #[.slice s9.oa s9.os.length s9.oc,.slice s9.wa s9.wn s9.wc,.slice s9.ba s9.bn s9.bc,.slice s9.sa s9.sn s9.sc] 35) hB (y0K (w:=w) (n:=w.heap.size+1+1) (c:=0) (v:=0) (HB4.out.trans (b3.mono HBS4.out)) (z0G M3 HBS4.out) (q0A f3 HBS4.out) dd3 (by omega) (q0D M3 (.inl (by have:=HS4.out;omega))) (q0D M3 (.inl HS4.out)) (λe=>by have:=(q0n f3 _ e).1;have:=HS4.out;omega) (λe=>by have:=(q0n f3 _ e).1;have:=HS4.out;omega) (.slice s9.oa s9.os.length s9.oc) (.slice s9.wa s9.wn s9.wc) (.slice s9.ba s9.bn s9.bc) (.slice s9.sa s9.sn s9.sc) (.int .i64 0) (.int .i64 0) (.slice fa3 (z0F (q0r G k o1) [old]).2.length fc3));obtain⟨r0,r1,r2,r3⟩:=(HFR4.out.later b3).cells;obtain⟨z0,z1,z2,z3⟩:=(HFR4.out.later b3).frees;obtain⟨q0,q1,q2⟩:=(HFA4.out.later b3).cells;obtain⟨y0,y1,y2⟩:=(HFA4.out.later b3).frees;have m1:w.heap.size+1+1<w3.heap.size:=by have:=HS4.out;omega
   have m2:¬w.heap.size+1+1=w3.heap.size:=by omega
   have m3:w.heap.size+1+1+1<w3.heap.size:=by have:=HS4.out;omega
   have m4:¬w.heap.size+1+1+1=w3.heap.size:=by omega
   rw[hsv];rw[hsv]at HX;clear HFR4 HFA4 HB4 HS4 HBS4 CG M3 f3 dd3 b3 HFR2 HFA2 HB2 HS2 HBS;unfold q0g q0p at HX;go_wp2;exact bodyPost_ret (v:= .tuple #[.agg #[.slice s9.oa s9.os.length s9.oc,.slice s9.wa s9.wn s9.wc,.slice s9.ba s9.bn s9.bc,.slice s9.sa s9.sn s9.sc],q0m 0 0 (.slice fa3 (z0F (q0r G k o1) [old]).2.length fc3)]) (by simp[results,Tryz.results34,go_sem,q0m, *]) rfl HX.out
theorem v4S(w:World)(B:Nat)(s:HSh)(H:q0a)(o:OpD)(hM:HM w B s H)(hB:B<=w.heap.size)(hs:q0h H)(hoa:q0w o.a)(hob:q0w o.b)(hoc:q0w o.c)(hw:∀z∈H.objs,∀x∈z.field,q0w x)(k:Nat)(hkl:k<H.objs.length)(hk8:k<8)(h8:H.objs.length=8)(hlv:H.objs[k].live=true)(hfl:H.objs[k].field.length=3)(ek:q0l H o.a=(k:Int))(hc:o.c≠ -1)(hzc:0<=q0l H o.c)(j:Nat)(hj:j<3)(hbj:o.b=(j:Int)):
 Calls Tryz.prog 34 #[s.v,opV o] w λe w' =>q0z w B (x0c H o.a o.b o.c) e w' :=by
 obtain⟨W,hW,BW,sW,F4,F5,FR,FA⟩:=z0S w (.slice s.oa s.os.length s.oc) (.slice s.wa s.wn s.wc) (.slice s.ba s.bn s.bc) (.slice s.sa s.sn s.sc) o;have MW:=q0c hM BW;have HM0:=hdx MW;have HBW:Hid (Below B w W):=BW.mono hB;have HF4:=hdx F4;have HF5:=hdx F5;have HFR:=hdx FR;have HFA:=hdx FA;have n2:¬q0u s (w.heap.size+1+1):=q0D hM (.inr (by omega));have n3:¬q0u s (w.heap.size+1+1+1):=q0D hM (.inr (by omega));have nx:¬q0u s w.heap.size:=q0D hM (.inr nl0);have HE:Hid (j5Q w B s):=j5S (by omega) n2 n3;rw[hsv];unfold opV;have hz:0<=q0l H o.a:=by omega
 have CS:Hid (∀_:Unit,_):=λ(_:Unit)=>z0k s.v H o.a W (q0K MW) (by have:=hs.objs;omega) hoa.1 hoa.2;have CC:Hid (∀X,Below W.heap.size W X->_):=λX hX=>z0k s.v H o.c X (q0K (q0c MW hX)) (by have:=hs.objs;omega) hoc.1 hoc.2;rw[hsv]at CS CC
 have hno:¬(q0l H o.a<0\/(o.c≠ -1/\q0l H o.c<0)):=by
  rintro(h|⟨h,h2⟩)
  ·omega
  ·omega
 have hd3:(o.c !=(-1:Int))=true:=by simpa using hc
 have hc0:0<=o.c:=by
  obtain⟨_,_,_,_,_,_⟩:=j0w H o.c hzc;rcases Int.lt_or_le o.c 8 with h|h
  ·rw[x2O H o.c h]at hzc;omega
  ·omega
 have hG0:k<(z0n H o.c).objs.length:=by rw[z1P];exact hkl
 obtain⟨hG1,hG2⟩:=u1B H o.c k hkl hG0;have HSM0:q0h (z0n H o.c):=u0w hs o.c;have HWF0:=j1H hw o.c;rw[ek]at CS;obtain⟨G,hG⟩:∃G,z0n H o.c=G:=⟨_,rfl⟩;have hGg:(z0n H o.c).objs[((k:Int)).toNat]? =G.objs[k]?:=by rw[hG,Int.toNat_natCast]
 simp only[hG]at hG0 hG1 hG2 HSM0 HWF0;have hG3:G.objs[k].field.length=3:=by rw[hG2];exact hfl
 have hj3:j<G.objs[k].field.length:=by omega
 have hj4:j<H.objs[k].field.length:=by omega
 obtain⟨o1,ho1⟩:∃o1:q0E,o1={G.objs[k]with field:=G.objs[k].field.set j o.c}:=⟨_,rfl⟩;obtain⟨old,hold⟩:∃z,H.objs[k].field[j]=z:=⟨_,rfl⟩;have hold2:G.objs[k].field[j]=old:=by rw[<-hold];congr 1
 have HR:Hid (x0c H o.a o.b o.c=j0h (q0r G k o1) old):=by show _=_;unfold x0c;rw[if_neg hno,if_neg (by omega),ek,hGg,hbj,List.getElem?_eq_getElem hG0];simp only[Int.toNat_natCast,hG];rw[<-ho1,List.getD_eq_getElem?_getD,List.getElem?_eq_getElem hj3,hold2];rfl
 have hof:∀x∈o1.field,q0w x:=by
  rw[ho1];intro x hx;rcases List.mem_or_eq_of_mem_set hx with hx|rfl
  ·exact HWF0 _ (List.getElem_mem hG0) x hx
  ·exact hoc
 have HSM:Hid (q0h (q0r G k o1)):=x0W HSM0 k _ (by rw[ho1];simp only[List.length_set];omega);have HWF:Hid (∀z∈(q0r G k o1).objs,∀x∈z.field,q0w x):=j0D HWF0 k _ hof;have HOLD:Hid (q0w old):=by show q0w old;rw[<-hold];exact hw _ (List.getElem_mem hkl) _ (List.getElem_mem hj4)
 have H0:Hid (k<G.objs.length):=hG0;have HG8:Hid (G.objs.length=8):=by show _=_;rw[<-hG,z1P];exact h8
 have HO1:Hid (o1={G.objs[k]with field:=G.objs[k].field.set j o.c}):=ho1;have HG3:Hid (G.objs[k].field.length=3):=hG3;have HBJ:Hid (o.b=(j:Int)):=hbj;have CW:Hid (∀X,_):=λX=>z0s (j:Int) 0 2 X (by omega) (by omega);obtain⟨go,hgo,hgB,hgl⟩:=v0E MW k hkl;obtain⟨hk2,hob_,hfz_⟩:=z0o MW k hkl go hgo;obtain⟨gf,e1,e2,e3,e4,e5,e6⟩:=v1o MW k hkl hk2 j hj4;obtain⟨fc0,hfc0⟩:∃c,s.os[k].c=c:=⟨_,rfl⟩;have hso:s.os.length=8:=by rw[MW.lo];exact h8
 have HRD:Hid (∀X,Below W.heap.size W X->X.cell? ⟨w.heap.size,0,none⟩=some (.slice (some ⟨go,0,none⟩) 8 s.oc)/\X.cell? ⟨go,k*8+6,none⟩=some (.slice (some ⟨gf,0,none⟩) 3 fc0)/\X.cell? ⟨gf,j,none⟩=some (.int .i64 old)/\X.cell? ⟨w.heap.size+1,2,none⟩=some (.int .i64 (j:Int))):=λX hX=>by
  refine⟨?_,?_,(hX.cell (p:=⟨gf,j,none⟩) e4).trans (by rw[e5,hold]),?_⟩
  ·have e:=(F4.later hX).cell 0;rw[hgo,hso]at e;exact e
  ·refine(hX.cell (p:=⟨go,k*8+6,none⟩) hgl).trans ?_;rw[hob_.c6,e1,e2,hfl,hfc0]
  ·rw[<-hbj];exact(F5.later hX).cell 2
 have HNB0:Hid (¬q0u s w.heap.size/\¬q0u s (w.heap.size+1+1)/\¬q0u s (w.heap.size+1+1+1)):=⟨nx,n2,n3⟩;have HHG:Hid (z0n H o.c=G):=hG;have CGN:Hid (∀X,Below W.heap.size W X->_):=λX hX=>y1P s.v H o.c X (q0K (q0c MW hX)) hs hoc;rw[hsv]at CGN;rw[HR.out];clear hM hs hoa hob hoc HR MW F4 F5 FR FA BW hno hbj hG hGg ho1 hold hold2 hof hG0 hG1 hG2 hG3 hj3 hj4 HSM0 HWF0 hw hlv hfl hkl ek hz hk2 hob_ hfz_ e1 e2 e5 e6 hfc0 hso hgo h8;generalize q0l H o.c=zc at*;go_enter Tryz.func34,Tryz.ntmps34;go_wp2_with fail
 rw[<-hW];clear hW;refine(CS.out ()).mono ?_;rintro e w1 ⟨rfl,b1⟩;have kc:w1.cell? ⟨w.heap.size+1,3,none⟩=some (.int .i64 o.c):=(HF5.out.later b1).cell 3;obtain⟨x0,x1,x2,x3⟩:=(HF4.out.later b1).cells;go_wp2_with fail
 refine(CC.out w1 b1).mono ?_;rintro e w2 ⟨rfl,b2⟩;have b12:=b1.trans (b2.mono b1.size);clear x0 x1 x2 x3 kc;have kb:=(HRD.out w2 b12).2.2.2;go_wp2_with fail
 refine(CW.out _).mono ?_;rintro e w3 ⟨rfl,rfl⟩;clear kb CW;have l1:∀Z:q0b w3,Z.on.cell? ⟨w.heap.size,0,none⟩=some (.slice (some ⟨go,0,none⟩) 8 s.oc):=λZ=>(HRD.out _ (b12.trans (Z.bel.mono b12.size))).1;have l2:∀Z:q0b w3,Z.on.cell? ⟨go,k*8+6,none⟩=some (.slice (some ⟨gf,0,none⟩) 3 fc0):=λZ=>(HRD.out _ (b12.trans (Z.bel.mono b12.size))).2.1;have l3:∀Z:q0b w3,Z.on.cell? ⟨gf,j,none⟩=some (.int .i64 old):=λZ=>(HRD.out _ (b12.trans (Z.bel.mono b12.size))).2.2.1;have l4:∀Z:q0b w3,Z.on.cell? ⟨w.heap.size+1,2,none⟩=some (.int .i64 (j:Int)):=λZ=>(HRD.out _ (b12.trans (Z.bel.mono b12.size))).2.2.2;have hnel:=q0b.some_ w3;have hj0:(0:Int)<=(j:Int):=by omega
 have hj1:(j:Int)<3:=by omega
 have hk0:(0:Int)<=(k:Int):=by omega
 have hk1:(k:Int)<8:=by omega
 go_wp2;refine q0j w3 bl0 (by kernel_rfl) (by kernel_rfl) ?_;repeat (go_big_quiet_step (fail))
 refine wpQuiet_nil ?_;intro X4 hXe;have hX4:Below w3.heap.size w3 X4:=by obtain⟨n,hn⟩:=hXe;rw[hn];exact n.bel
 have bX:=b12.trans (hX4.mono b12.size);clear hXe l1 l2 l3 l4 hnel hX4;have kc2:X4.cell? ⟨w.heap.size+1,3,none⟩=some (.int .i64 o.c):=(HF5.out.later bX).cell 3;obtain⟨x0,x1,x2,x3⟩:=(HF4.out.later bX).cells;have hXs4:=bX.size;go_wp2_with fail
 refine(CGN.out X4 bX).mono ?_;rintro e w6 ⟨s1,rfl,M6,b6⟩;clear x0 x1 x2 x3 kc2;have b16:=bX.trans (b6.mono bX.size);have hs6:=b6.size;obtain⟨x0,x1,x2,x3⟩:=(HF4.out.later b16).cells;obtain⟨y0,y1,y2,y3⟩:=(HF4.out.later b16).frees;obtain⟨Y,hY⟩:∃Y,Y=q0p w6 w.heap.size (.slice s1.oa s1.os.length s1.oc) (.slice s1.wa s1.wn s1.wc) (.slice s1.ba s1.bn s1.bc) (.slice s1.sa s1.sn s1.sc):=⟨_,rfl⟩;have sY:Y.heap.size=w6.heap.size:=by rw[hY,z0U]
 have othY:∀i,i≠w.heap.size->Y.heap[i]? =w6.heap[i]?:=λi hi=>by rw[hY];exact q0T _ _ _ _ _ _ i hi
 have FY:q0d Y w.heap.size (.slice s1.oa s1.os.length s1.oc) (.slice s1.wa s1.wn s1.wc) (.slice s1.ba s1.bn s1.bc) (.slice s1.sa s1.sn s1.sc):=by rw[hY];exact q0d.setAll (HF4.out.later b16) _ _ _ _
 have F5Y:z0d Y (w.heap.size+1) o:=(HF5.out.later b16).same (othY _ (by omega));have FRY:q0d Y (w.heap.size+1+1) (.slice none 0 0) (.slice none 0 0) (.slice none 0 0) (.slice none 0 0):=(HFR.out.later b16).same (othY _ (by omega));have FAY:q0k Y (w.heap.size+1+1+1) (.int .i64 0) (.int .i64 0) (.slice none 0 0):=(HFA.out.later b16).same (othY _ (by omega));have nx1:¬q0u s1 w.heap.size:=q0D M6 (.inl (by omega))
 have M7:HM Y B s1 G:=by rw[<-HHG.out];exact z0G (y0l M6 (by omega) (λg hg=>othY g (λe=>nx1 (by rw[<-e];exact hg)))) (by have:=HBW.out.size;omega)
 have HYF:Hid (∀X,Below Y.heap.size Y X->q0d X w.heap.size (.slice s1.oa s1.os.length s1.oc) (.slice s1.wa s1.wn s1.wc) (.slice s1.ba s1.bn s1.bc) (.slice s1.sa s1.sn s1.sc)/\z0d X (w.heap.size+1) o/\q0d X (w.heap.size+1+1) (.slice none 0 0) (.slice none 0 0) (.slice none 0 0) (.slice none 0 0)/\q0k X (w.heap.size+1+1+1) (.int .i64 0) (.int .i64 0) (.slice none 0 0)/\HM X B s1 G):=λX hX=>⟨FY.later hX,F5Y.later hX,FRY.later hX,FAY.later hX,q0c M7 hX⟩
 have HBY:Hid (Below B w Y):=by
  rw[hY];unfold q0p;iterate 4 refine Below.setCell ?_ (by exact hB) _
  exact HBW.out.trans (b16.mono (by have:=HBW.out.size;omega))
 have HNB:Hid (¬q0u s1 w.heap.size/\¬q0u s1 (w.heap.size+1+1)/\¬q0u s1 (w.heap.size+1+1+1)):=⟨nx1,q0D M6 (.inl (by omega)),q0D M6 (.inl (by omega))⟩;rw[hsv];unfold q0p at hY;clear HF4 HF5 HFR HFA HM0 HBW HE b1 b2 b12 b16 b6 bX CS CC CGN HRD HHG M6 M7 FY F5Y FRY FAY othY nx1;go_wp2;rw[<-hY];clear hY x0 x1 x2 x3 y0 y1 y2 y3;have hg3:∀h:k<G.objs.length,(G.objs[k]'h).field.length=3:=λh=>HG3.out;have HOS:Hid (s1.os.length=8):=by show _=_;rw[(HYF.out _ bl0).2.2.2.2.lo];exact HG8.out
 have HK2:Hid (k<s1.os.length):=by have:=HOS.out;show _<_;omega
 obtain⟨fcc,hfcc⟩:∃c,(s1.os[k]'HK2.out).c=c:=⟨_,rfl⟩;obtain⟨go2,hgo2,hgB2,hgl2⟩:=v0E (HYF.out _ bl0).2.2.2.2 k H0.out;obtain⟨gf2,f1,f2,f3,f4,f5,f6⟩:=v1o (HYF.out _ bl0).2.2.2.2 k H0.out HK2.out j (by have:=HG3.out;omega);have HF1:Hid (_=_):=f1;have HGO:Hid (s1.oa=some ⟨go2,0,none⟩):=hgo2
 have HYG:Hid (∀X,Below Y.heap.size Y X->X.cell? ⟨w.heap.size,0,none⟩=some (.slice (some ⟨go2,0,none⟩) 8 s1.oc)/\X.cell? ⟨go2,k*8+6,none⟩=some (.slice (some ⟨gf2,0,none⟩) 3 fcc)/\(∃u,X.cell? ⟨gf2,j,none⟩=some u)/\X.frozen? ⟨gf2,j,none⟩=false):=λX hX=>by
  obtain⟨h1,h2,h3,h4,h5⟩:=HYF.out X hX;obtain⟨_,a1,a2⟩:=z0o h5 k H0.out go2 hgo2;obtain⟨g9,b1,b2,b3,b4,b5,b6⟩:=v1o h5 k H0.out HK2.out j (by have:=HG3.out;omega);rw[f1]at b1;injection b1 with b1;injection b1 with b1 _ _;subst b1;refine⟨?_,?_,⟨_,b5⟩,b6⟩
  ·have e:=h1.cell 0;rw[hgo2,HOS.out]at e;exact e
  ·rw[a1.c6,f1,b2,hg3,hfcc]
 clear f1 f2 f5 f6 hgo2 hfcc hg3;go_wp2;refine q0R 11 (by kernel_rfl) (by kernel_rfl) (RP 1000 (noP) [.pointer (some ⟨w.heap.size,0,none⟩),.slice (some ⟨go2,0,none⟩) 8 s1.oc,.int .i64 (k:Int),.pointer (some ⟨go2,k*8,none⟩),.pointer (some ⟨go2,k*8+6,none⟩),.slice (some ⟨gf2,0,none⟩) 3 fcc,.pointer (some ⟨w.heap.size+1,2,none⟩),.int .i64 (j:Int),.pointer (some ⟨w.heap.size+1,3,none⟩),.int .i64 o.c,.pointer (some ⟨gf2,j,none⟩)]) (x1y u1g) ?_ ?_
 ·intro i o hi ho a X hX hA hdep
  match i,hi,ho with
  |0,_,ho=>
   cases ho
   exact v0f 0 (by omega) (q0f hA (t:=2) (by kernel_rfl)) ⟨_,rfl,bl0,q0S (by decide) rfl⟩
  |1,_,ho=>
   cases ho
   have g0_:a.eval (.tmp 53)= .pointer (some ⟨w.heap.size,0,none⟩):=z0g (hdep ⟨0,.data⟩ (by simp) rfl 53 rfl) (by decide) rfl;exact u0A g0_ (HYG.out X hX).1 ⟨_,rfl,bl0,q0S (by decide) rfl⟩
  |2,_,ho=>
   cases ho
   exact z0p (q0f hA (t:=6) (by kernel_rfl)) ⟨_,rfl,bl0,q0S (by decide) rfl⟩
  |3,_,ho=>
   cases ho
   have g0_:a.eval (.tmp 54)= .slice (some ⟨go2,0,none⟩) 8 s1.oc:=z0g (hdep ⟨1,.data⟩ (by simp) rfl 54 rfl) (by decide) rfl;have g1_:a.eval (.tmp 55)= .int .i64 (k:Int):=z0g (hdep ⟨2,.data⟩ (by simp) rfl 55 rfl) (by decide) rfl;exact q1y g0_ g1_ hk8 ⟨_,rfl,bl0,q0S (by decide) rfl⟩
  |4,_,ho=>
   cases ho
   have g0_:a.eval (.tmp 56)= .pointer (some ⟨go2,k*8,none⟩):=z0g (hdep ⟨3,.data⟩ (by simp) rfl 56 rfl) (by decide) rfl;exact u1I g0_ ⟨_,rfl,bl0,q0S (by decide) rfl⟩
  |5,_,ho=>
   cases ho
   have g0_:a.eval (.tmp 57)= .pointer (some ⟨go2,k*8+6,none⟩):=z0g (hdep ⟨4,.data⟩ (by simp) rfl 57 rfl) (by decide) rfl;exact x0E g0_ (HYG.out X hX).2.1 ⟨_,rfl,bl0,q0S (by decide) rfl⟩
  |6,_,ho=>
   cases ho
   exact y0w 2 (by omega) (q0f hA (t:=3) (by kernel_rfl)) ⟨_,rfl,bl0,q0S (by decide) rfl⟩
  |7,_,ho=>
   cases ho
   have g0_:a.eval (.tmp 59)= .pointer (some ⟨w.heap.size+1,2,none⟩):=z0g (hdep ⟨6,.data⟩ (by simp) rfl 59 rfl) (by decide) rfl;exact z0V g0_ (by rw[<-HBJ.out];exact(HYF.out X hX).2.1.cell 2:X.cell? ⟨w.heap.size+1,2,none⟩=some (.int .i64 (j:Int))) ⟨_,rfl,bl0,q0S (by decide) rfl⟩
  |8,_,ho=>
   cases ho
   exact y0w 3 (by omega) (q0f hA (t:=3) (by kernel_rfl)) ⟨_,rfl,bl0,q0S (by decide) rfl⟩
  |9,_,ho=>
   cases ho
   have g0_:a.eval (.tmp 61)= .pointer (some ⟨w.heap.size+1,3,none⟩):=z0g (hdep ⟨8,.data⟩ (by simp) rfl 61 rfl) (by decide) rfl;exact z0V g0_ ((HYF.out X hX).2.1.cell 3) ⟨_,rfl,bl0,q0S (by decide) rfl⟩
  |10,_,ho=>
   cases ho
   have g0_:a.eval (.tmp 58)= .slice (some ⟨gf2,0,none⟩) 3 fcc:=z0g (hdep ⟨5,.data⟩ (by simp) rfl 58 rfl) (by decide) rfl;have g1_:a.eval (.tmp 60)= .int .i64 (j:Int):=z0g (hdep ⟨7,.data⟩ (by simp) rfl 60 rfl) (by decide) rfl;exact y0p g0_ g1_ hj ⟨_,rfl,bl0,q0S (by decide) rfl⟩
 ·intro o ho a X hX hA hdep
  cases ho
  have g0_:a.eval (.tmp 63)= .pointer (some ⟨gf2,j,none⟩):=z0g (hdep ⟨10,.data⟩ (by simp) rfl 63 rfl) (by decide) rfl;have g1_:a.eval (.tmp 62)= .int .i64 o.c:=z0g (hdep ⟨9,.data⟩ (by simp) rfl 62 rfl) (by decide) rfl;obtain⟨u5,h5u⟩:=(HYG.out X hX).2.2.1;refine q1e g0_ g1_ h5u (HYG.out X hX).2.2.2 ?_;obtain⟨us,hus,rfl⟩:=q0F hA [53,54,55,56,57,58,59,60,61,62,63] (by kernel_rfl);simp only[List.mapIdx_cons,List.mapIdx_nil,Nat.reduceAdd,List.contains_cons,List.contains_nil,Nat.reduceBEq,Bool.or_false,Bool.or_true,if_true,if_false,Bool.false_eq_true];obtain⟨Z,hZ⟩:∃Z,Z=X.setCell ⟨gf2,j,none⟩ (.int .i64 o.c):=⟨_,rfl⟩;have hXs:=hX.size;have sZ:Z.heap.size=X.heap.size:=by rw[hZ];simp[World.setCell]
  have HM2:Hid (HM Z B s1 (q0r G k o1)):=by rw[hZ];exact y2q (HYF.out X hX).2.2.2.2 k H0.out HK2.out gf2 HF1.out j o.c o1 HO1.out
  have othZ:∀i,i≠gf2->Z.heap[i]? =X.heap[i]?:=λi hi=>by rw[hZ];exact heap_setCell_other _ _ _ _ (by exact hi)
  have hgfn:q0u s1 gf2:= .inr (.inr (.inr (.inr ⟨_,List.getElem_mem HK2.out,_,HF1.out,rfl⟩)));have HF42:Hid (q0d Z w.heap.size (.slice s1.oa s1.os.length s1.oc) (.slice s1.wa s1.wn s1.wc) (.slice s1.ba s1.bn s1.bc) (.slice s1.sa s1.sn s1.sc)):=(HYF.out X hX).1.same (othZ _ (λe=>HNB.out.1 (by rw[e];exact hgfn)));have HFR2:Hid (q0d Z (w.heap.size+1+1) (.slice none 0 0) (.slice none 0 0) (.slice none 0 0) (.slice none 0 0)):=(HYF.out X hX).2.2.1.same (othZ _ (λe=>HNB.out.2.1 (by rw[e];exact hgfn)));have HFA2:Hid (q0k Z (w.heap.size+1+1+1) (.int .i64 0) (.int .i64 0) (.slice none 0 0)):=(HYF.out X hX).2.2.2.1.same (othZ _ (λe=>HNB.out.2.2 (by rw[e];exact hgfn)));have HBS:Hid (B<=Z.heap.size):=by have:=HBY.out.size;show _<=_;omega
  have HB2:Hid (Below B w Z):=by rw[hZ];exact(HBY.out.trans (hX.mono (by have:=HBY.out.size;omega))).setCell (by exact f3) _
  have HS2:Hid (w.heap.size+1+1+1<Z.heap.size):=by have:=HFA2.out.lt;exact this
  rw[<-hZ];obtain⟨x0,x1,x2,x3⟩:=HF42.out.cells;rw[HGO.out]at x0;clear hZ hX hdep hA hus g0_ g1_ h5u othZ hgfn HYG HYF HF42;by_cases hold:old<0
  ·have HRL:Hid (j0h (q0r G k o1) old=(q0r G k o1,⟨0,0,[]⟩)):=v3a _ old (by omega);have HX:Hid (q0z w B (j0h (q0r G k o1) old) _ _):=HRL.out▸z0W (w:=w) (n:=w.heap.size+1+1) (c:=0) (v:=0) HB2.out HM2.out (by omega) HNB.out.2.1 HNB.out.2.2 (.slice s1.oa s1.os.length s1.oc) (.slice s1.wa s1.wn s1.wc) (.slice s1.ba s1.bn s1.bc) (.slice s1.sa s1.sn s1.sc) (.int .i64 0) (.int .i64 0) (.slice none 0 0);rw[hsv,HGO.out]at HX;obtain⟨r0,r1,r2,r3⟩:=HFR2.out.cells;obtain⟨z0,z1,z2,z3⟩:=HFR2.out.frees;obtain⟨q0,q1,q2⟩:=HFA2.out.cells;obtain⟨y0,y1,y2⟩:=HFA2.out.frees;clear HFR2 HFA2 HB2 HS2 HBS HM2 HRL HGO;unfold q0g q0p at HX;go_wp2;exact bodyPost_ret (v:= .tuple #[.agg #[.slice (some ⟨go2,0,none⟩) s1.os.length s1.oc,.slice s1.wa s1.wn s1.wc,.slice s1.ba s1.bn s1.bc,.slice s1.sa s1.sn s1.sc],q0m 0 0 (.slice none 0 0)]) (by simp[results,Tryz.results34,go_sem,q0m, *]) rfl HX.out
  ·skip
   obtain⟨w4,hw4⟩:∃w4,w4=Z.alloc (.cells #[.int .i64 old] 3):=⟨_,rfl⟩;have b4:Below Z.heap.size Z w4:=by rw[hw4];exact bl1 _
   have s4:w4.heap.size=Z.heap.size+1:=by rw[hw4];simp
   have hri:RdI w4 (some ⟨Z.heap.size,0,none⟩) [old]:=by
    intro j hj;obtain rfl:j=0:=by simpa using hj
    refine⟨Z.heap.size,0,rfl,by omega,?_⟩;rw[hw4,World.cell?_alloc_mark];rfl
   have CG:Hid (∀_:Unit,_):=λ(_:Unit)=>x1P s1.v (q0r G k o1) (some ⟨Z.heap.size,0,none⟩) 1 [old] w4 (q0K (q0c HM2.out b4)) HSM.out HWF.out hri (by simp) (λx hx=>by simp at hx;subst hx;exact HOLD.out);rw[show([old]:List Int).length=1 from rfl,hsv,HGO.out]at CG;rw[sZ]at CG;have HB4:Hid (Below B w w4):=HB2.out.trans (b4.mono HBS.out);have HFR4:Hid (q0d w4 (w.heap.size+1+1) (.slice none 0 0) (.slice none 0 0) (.slice none 0 0) (.slice none 0 0)):=HFR2.out.later b4;have HFA4:Hid (q0k w4 (w.heap.size+1+1+1) (.int .i64 0) (.int .i64 0) (.slice none 0 0)):=HFA2.out.later b4;have HS4:Hid (w.heap.size+1+1+1<w4.heap.size):=by have:=HS2.out;show _<_;omega
   have HBS4:Hid (B<=w4.heap.size):=by have:=HBS.out;show _<=_;omega
   clear HM2 HGO hri b4 HSM HWF HOLD;go_wp2_with fail
   rw[<-hw4];clear hw4 x0 x1 x2 x3;refine(CG.out ()).mono ?_;rintro e w3 ⟨s9,vf,rfl,M3,f3,dd3,b3⟩;obtain⟨fa3,fc3,rfl,-⟩:=q0Y f3;have hs3:=b3.size;have HX:Hid _:=u0q (.cells #[.slice s9.oa s9.os.length s9.oc,.slice s9.wa s9.wn s9.wc,.slice s9.ba s9.bn s9.bc,.slice s9.sa s9.sn s9.sc] 35) hB (y0K (w:=w) (n:=w.heap.size+1+1) (c:=0) (v:=0) (HB4.out.trans (b3.mono HBS4.out)) (z0G M3 HBS4.out) (q0A f3 HBS4.out) dd3 (by omega) (q0D M3 (.inl (by have:=HS4.out;omega))) (q0D M3 (.inl HS4.out)) (λe=>by have:=(q0n f3 _ e).1;have:=HS4.out;omega) (λe=>by have:=(q0n f3 _ e).1;have:=HS4.out;omega) (.slice s9.oa s9.os.length s9.oc) (.slice s9.wa s9.wn s9.wc) (.slice s9.ba s9.bn s9.bc) (.slice s9.sa s9.sn s9.sc) (.int .i64 0) (.int .i64 0) (.slice fa3 (z0F (q0r G k o1) [old]).2.length fc3));obtain⟨r0,r1,r2,r3⟩:=(HFR4.out.later b3).cells;obtain⟨z0,z1,z2,z3⟩:=(HFR4.out.later b3).frees;obtain⟨q0,q1,q2⟩:=(HFA4.out.later b3).cells;obtain⟨y0,y1,y2⟩:=(HFA4.out.later b3).frees;have m1:w.heap.size+1+1<w3.heap.size:=by have:=HS4.out;omega
   have m2:¬w.heap.size+1+1=w3.heap.size:=by omega
   have m3:w.heap.size+1+1+1<w3.heap.size:=by have:=HS4.out;omega
   have m4:¬w.heap.size+1+1+1=w3.heap.size:=by omega
   rw[hsv];rw[hsv]at HX;clear HFR4 HFA4 HB4 HS4 HBS4 CG M3 f3 dd3 b3 HFR2 HFA2 HB2 HS2 HBS;unfold q0g q0p at HX;go_wp2;exact bodyPost_ret (v:= .tuple #[.agg #[.slice s9.oa s9.os.length s9.oc,.slice s9.wa s9.wn s9.wc,.slice s9.ba s9.bn s9.bc,.slice s9.sa s9.sn s9.sc],q0m 0 0 (.slice fa3 (z0F (q0r G k o1) [old]).2.length fc3)]) (by simp[results,Tryz.results34,go_sem,q0m, *]) rfl HX.out
end
section
open Go.RowKit
variable{H:q0a}
theorem j3D{o:OpD}(h:q1J H o)(hk:o.kind=1):∀X B s,HM X B s H->B<=X.heap.size->Calls Tryz.prog 32 #[s.v,opV o] X λe w' =>q0z X B (x0z H o) e w' :=by
 intro X B s hM hB;have e:x0z H o=x0o H o.site:=by unfold x0z;rw[if_pos hk]
 rw[e];by_cases hl:o.site.length<1\/8<o.site.length
 ·exact u4j X B s H o hM hB h.s h.sl hl
 ·by_cases hz:v0x H<0
  ·exact u4k X B s H o hM hB h.s h.sl (by omega) hz
  ·obtain⟨k,hkl,ek,hk8,_,hg⟩:=q3r H hz;have hge:=(j2w h.ok k hkl).1;have h6:=h.ok.size.2.2;have h8:=h.ok.size.1;have hn:=h.ok.sites;by_cases hs:y0b H o.site<0
   ·by_cases h7:H.sites.length=6
    ·exact u4l X B s H o hM hB h.s h.sl (by omega) k hkl hk8 h8 ek h6 hn ⟨hge.1,hg⟩ hs h7
    ·exact u4m X B s H o hM hB h.s h.sl (by omega) k hkl hk8 h8 ek h6 hn ⟨hge.1,hg⟩ hs (by omega)
   ·exact u4n X B s H o hM hB h.s h.sl (by omega) k hkl hk8 h8 ek h6 hn ⟨hge.1,hg⟩ (by omega)
theorem j1B{o:OpD}(h:q1J H o)(hk:o.kind=2\/o.kind=3\/o.kind=5\/o.kind=6):∀X B s,HM X B s H->B<=X.heap.size->Calls Tryz.prog 33 #[s.v,opV o] X λe w' =>q0z X B (x0z H o) e w' :=by
 intro X B s hM hB;have e:x0z H o=z0Y H o.kind o.a:=by unfold x0z;rw[if_neg (by omega),if_pos hk]
 rw[e];have hw:=x1g h.f;by_cases hz:q0l H o.a<0
 ·exact u4z X B s H o hM hB h.s h.sane.a hz
 ·obtain⟨k,hkl,ek,hk8,hlv,_⟩:=j0w H o.a (by omega);have hb:=u3t h.ok k hkl hlv;rcases hk with e2|e2|e2|e2
  ·rw[e2];exact j5V 2 3 _ _ X B s H o hM hB h.s e2 h.sane.a hw k hkl (.inl ⟨rfl,rfl,rfl⟩) (times_holds H k hkl) (y5d hkl ek).1 (y5d hkl ek).2.1 ek hk8 hlv hb
  ·rw[e2];exact j5T 3 3 _ _ X B s H o hM hB h.s e2 h.sane.a hw k hkl (.inl ⟨rfl,rfl,rfl⟩) (times_holds H k hkl) (y5d hkl ek).2.2.2.2.1 (y5d hkl ek).2.2.2.2.2.1 ek hk8 hlv hb
  ·rw[e2];exact j5V 5 4 _ _ X B s H o hM hB h.s e2 h.sane.a hw k hkl (.inr ⟨rfl,rfl,rfl⟩) (y5A H k hkl) (y5d hkl ek).2.2.1 (y5d hkl ek).2.2.2.1 ek hk8 hlv hb
  ·rw[e2];exact j5T 6 4 _ _ X B s H o hM hB h.s e2 h.sane.a hw k hkl (.inr ⟨rfl,rfl,rfl⟩) (y5A H k hkl) (y5d hkl ek).2.2.2.2.2.2.1 (y5d hkl ek).2.2.2.2.2.2.2 ek hk8 hlv hb
theorem j3E{o:OpD}(h:q1J H o)(hk:o.kind=4):∀X B s,HM X B s H->B<=X.heap.size->Calls Tryz.prog 34 #[s.v,opV o] X λe w' =>q0z X B (x0z H o) e w' :=by
 intro X B s hM hB;have e:x0z H o=x0c H o.a o.b o.c:=by unfold x0z;rw[if_neg (by omega),if_neg (by omega),if_pos hk]
 rw[e];have hw:=x1g h.f;have h8:=h.ok.size.1;by_cases hz:q0l H o.a<0
 ·exact u4A X B s H o hM hB h.s h.sane.a h.sane.b h.sane.c hz
 ·obtain⟨k,hkl,ek,hk8,hlv,_⟩:=j0w H o.a (by omega);have hfl:=(j2w h.ok k hkl).2;by_cases hc:o.c= -1
  ·by_cases hb:o.b<0\/2<o.b
   ·exact v4P X B s H o hM hB h.s h.sane.a h.sane.b h.sane.c (by omega) hc hb
   ·exact v4R X B s H o hM hB h.s h.sane.a h.sane.b h.sane.c hw k hkl hk8 h8 hlv hfl ek hc o.b.toNat (by omega) (by omega)
  ·by_cases hzc:q0l H o.c<0
   ·exact u4B X B s H o hM hB h.s h.sane.a h.sane.b h.sane.c (by omega) hc hzc
   ·by_cases hb:o.b<0\/2<o.b
    ·exact v4Q X B s H o hM hB h.s h.sane.a h.sane.b h.sane.c (by omega) hc (by omega) hb
    ·exact v4S X B s H o hM hB h.s h.sane.a h.sane.b h.sane.c hw k hkl hk8 h8 hlv hfl ek hc (by omega) o.b.toNat (by omega) (by omega)
theorem z5w{o:OpD}(h:q1J H o)(hk:o.kind=7):∀X B s,HM X B s H->B<=X.heap.size->Calls Tryz.prog 35 #[s.v,opV o] X λe w' =>q0z X B (j0Y H o.a) e w' :=by
 intro X B s hM hB;by_cases hz:q0l H o.a<0
 ·exact v4T X B s H o hM hB h.s hk h.sane.a hz
 ·exact z5t X B s H o hM hB h.s hk h.sane.a (by omega) h.ok.size.2.1
theorem z5x{o:OpD}(h:q1J H o)(hk:o.kind=8):∀X B s,HM X B s H->B<=X.heap.size->Calls Tryz.prog 35 #[s.v,opV o] X λe w' =>q0z X B (q1H H o.a) e w' :=by
 intro X B s hM hB;rcases hu:z1t H o.a with _|d
 ·exact j5W _ X B s H o hM hB h.s (.inl ⟨hk,rfl⟩) hu h.ok.size.2.1
 ·exact z5u X B s H o hM hB h.s hk h.f.weaks d hu h.ok.size.2.1
theorem z5y{o:OpD}(h:q1J H o)(hk:o.kind=9):∀X B s,HM X B s H->B<=X.heap.size->Calls Tryz.prog 35 #[s.v,opV o] X λe w' =>q0z X B (q1G H o.a) e w' :=by
 intro X B s hM hB;rcases hu:z1t H o.a with _|d
 ·exact j5W _ X B s H o hM hB h.s (.inr ⟨hk,rfl⟩) hu h.ok.size.2.1
 ·exact z5v X B s H o hM hB h.s hk h.f.weaks d hu h.ok.size.2.1
theorem v3N(v:Value)(H:q0a)(o:OpD)(w:World)(h:RdH w v H)(hs:q0h H)(hf:WfH H)(hcap:v0B v)(ho:q2t o)(hsl:o.site.length<=1048576)(q:Bool)(hq:q=true↔OkH H):
 Calls Tryz.prog 7 #[v,opV o] w λe w' =>q0z w w.heap.size (y2f q H o) e w' :=by
 cases q with
 |false=>
  have hno:¬OkH H:=λhh=>by have:=hq.2 hh;cases this
  exact v4M v H o w h hs hf hcap hno
 |true=>
  have hok:OkH H:=hq.1 rfl;have hW:q1J H o:=⟨hs,hf,ho,hok,hsl⟩;show Calls _ _ _ _ λe w' =>q0z w w.heap.size (x0z H o) e w';by_cases hk:o.kind<1\/10<o.kind
  ·rw[y3D hk];exact z4m v H o w h hs hf hcap hok hk
  ·have hc:o.kind=1\/o.kind=2\/o.kind=3\/o.kind=5\/o.kind=6\/o.kind=4\/o.kind=7\/o.kind=8\/o.kind=9\/o.kind=10:=by omega
   rcases hc with e|e|e|e|e|e|e|e|e|e
   ·exact v5M _ v H o w h hs hf hcap _ hok (.inl ⟨e,rfl⟩) (j3D hW e)
   ·exact v5M _ v H o w h hs hf hcap _ hok (.inr (.inl ⟨e,rfl⟩)) (j1B hW (by omega))
   ·exact v5M _ v H o w h hs hf hcap _ hok (.inr (.inr (.inl ⟨e,rfl⟩))) (j1B hW (by omega))
   ·exact v5M _ v H o w h hs hf hcap _ hok (.inr (.inr (.inr (.inl ⟨e,rfl⟩)))) (j1B hW (by omega))
   ·exact v5M _ v H o w h hs hf hcap _ hok (.inr (.inr (.inr (.inr (.inl ⟨e,rfl⟩))))) (j1B hW (by omega))
   ·exact v5M _ v H o w h hs hf hcap _ hok (.inr (.inr (.inr (.inr (.inr (.inl ⟨e,rfl⟩)))))) (j3E hW e)
   ·have e2:x0z H o=j0Y H o.a:=by unfold x0z;rw[if_neg (by omega),if_neg (by omega),if_neg (by omega),if_pos e]
    rw[e2];exact v5M _ v H o w h hs hf hcap _ hok (.inr (.inr (.inr (.inr (.inr (.inr (.inl ⟨e,rfl⟩))))))) (z5w hW e)
   ·have e2:x0z H o=q1H H o.a:=by unfold x0z;rw[if_neg (by omega),if_neg (by omega),if_neg (by omega),if_neg (by omega),if_pos e]
    rw[e2];exact v5M _ v H o w h hs hf hcap _ hok (.inr (.inr (.inr (.inr (.inr (.inr (.inr (.inl ⟨e,rfl⟩)))))))) (z5x hW e)
   ·have e2:x0z H o=q1G H o.a:=by unfold x0z;rw[if_neg (by omega),if_neg (by omega),if_neg (by omega),if_neg (by omega),if_neg (by omega),if_pos e]
    rw[e2];exact v5M _ v H o w h hs hf hcap _ hok (.inr (.inr (.inr (.inr (.inr (.inr (.inr (.inr (⟨e,rfl⟩))))))))) (z5y hW e)
   ·have e2:x0z H o=(j0c H,⟨0,0,y0v H⟩):=by unfold x0z;rw[if_neg (by omega),if_neg (by omega),if_neg (by omega),if_neg (by omega),if_neg (by omega),if_neg (by omega),if_pos e]
    rw[e2];exact v4L v H o w h hs hf hcap hok e hok.size.1 (x1g hf) hf.buffer
end
section
open Go.RowKit
variable{a:Act}{K:Act → World → Prop}{af:Array Edge}{ats:Array TypeId}{post:Ending → World → Prop}{Q:Exit → Act → World → Prop}{s:HSh}{H:q0a}{pos:String}{ty:TypeId}
theorem q3M{t i:Tmp}{X:World}{g:Nat}{x0 x1 x2 x3:Value}(h1:a.eval (.tmp i)= .pointer (some ⟨g,0,none⟩))(hf:X.cell? ⟨g,0,none⟩=some x0/\X.cell? ⟨g,1,none⟩=some x1/\X.cell? ⟨g,2,none⟩=some x2/\X.cell? ⟨g,3,none⟩=some x3)(hK:K (a.put (some t) (.agg #[x0,x1,x2,x3])) X):
 Oper.wp Tryz.prog ⟨some t,.load 27 (.tmp i),ty,pos,af,none⟩ a X K Q:=by
 have h:=q0x h1;obtain⟨k0,k1,k2,k3⟩:=hf;go_simp;exact hK
theorem y2y{t i:Tmp}{X:World}{g:Nat}{x0 x1 x2 x3 x4:Value}(h1:a.eval (.tmp i)= .pointer (some ⟨g,0,none⟩))(hf:X.cell? ⟨g,0,none⟩=some x0/\X.cell? ⟨g,1,none⟩=some x1/\X.cell? ⟨g,2,none⟩=some x2/\X.cell? ⟨g,3,none⟩=some x3/\X.cell? ⟨g,4,none⟩=some x4)(hK:K (a.put (some t) (.agg #[x0,x1,x2,x3,x4])) X):
 Oper.wp Tryz.prog ⟨some t,.load 29 (.tmp i),ty,pos,af,none⟩ a X K Q:=by
 have h:=q0x h1;obtain⟨k0,k1,k2,k3,k4⟩:=hf;go_simp;exact hK
theorem v3r{t i:Tmp}{X:World}{x y:Value}(h1:a.eval (.tmp i)= .tuple #[x,y])(hK:K (a.put (some t) x) X):
 Oper.wp Tryz.prog ⟨some t,.extract (.tmp i) 0,ty,pos,af,none⟩ a X K Q:=by
 have h:=q0x h1;go_simp;exact hK
theorem u2D{t i:Tmp}{X:World}{x y:Value}(h1:a.eval (.tmp i)= .tuple #[x,y])(hK:K (a.put (some t) y) X):
 Oper.wp Tryz.prog ⟨some t,.extract (.tmp i) 1,ty,pos,af,none⟩ a X K Q:=by
 have h:=q0x h1;go_simp;exact hK
theorem x2F{t:Tmp}{X:World}(hK:K (a.put (some t) (.pointer (some ⟨X.heap.size,0,none⟩))) (X.alloc (.cells #[.int .i64 0,.int .i64 0,.slice none 0 0] 37))):
 Oper.wp Tryz.prog ⟨some t,.alloc 37,ty,pos,af,none⟩ a X K Q:=by
 go_simp;exact hK
theorem v4B{t i:Tmp}{X:World}{u:Value}(h1:a.eval (.tmp i)=u)(hC:Calls Tryz.prog 8 #[u] X post)(hK:∀e w',post e w' ->∃x,e= .returned x/\K (a.put (some t) x) w'):
 Oper.wp Tryz.prog ⟨some t,.call {callee:= .value (.func 8),args:= #[.tmp i],argTypes:=ats},ty,pos,af,none⟩ a X K Q:=by
 have e1:=q0x h1;go_simp;refine hC.mono (λe w' hp=> ?_);obtain⟨x,rfl,hx⟩:=hK e w' hp;exact hx
theorem v3v{t i:Tmp}{X:World}{u:Value}(h1:a.eval (.tmp i)=u)(hC:Calls Tryz.prog 9 #[u] X post)(hK:∀e w',post e w' ->∃x,e= .returned x/\K (a.put (some t) x) w'):
 Oper.wp Tryz.prog ⟨some t,.call {callee:= .value (.func 9),args:= #[.tmp i],argTypes:=ats},ty,pos,af,none⟩ a X K Q:=by
 have e1:=q0x h1;go_simp;refine hC.mono (λe w' hp=> ?_);obtain⟨x,rfl,hx⟩:=hK e w' hp;exact hx
theorem v5d{t i j:Tmp}{X:World}{u v:Value}(h1:a.eval (.tmp i)=u)(h2:a.eval (.tmp j)=v)(hC:Calls Tryz.prog 7 #[u,v] X post)(hK:∀e w',post e w' ->∃x,e= .returned x/\K (a.put (some t) x) w'):
 Oper.wp Tryz.prog ⟨some t,.call {callee:= .value (.func 7),args:= #[.tmp i,.tmp j],argTypes:=ats},ty,pos,af,none⟩ a X K Q:=by
 have e1:=q0x h1;have e2:=q0x h2;go_simp;refine hC.mono (λe w' hp=> ?_);obtain⟨x,rfl,hx⟩:=hK e w' hp;exact hx
theorem q5e{t i j:Tmp}{X:World}{u v:Value}(h1:a.eval (.tmp i)=u)(h2:a.eval (.tmp j)=v)(hC:Calls Tryz.prog 10 #[u,v] X post)(hK:∀e w',post e w' ->∃x,e= .returned x/\K (a.put (some t) x) w'):
 Oper.wp Tryz.prog ⟨some t,.call {callee:= .value (.func 10),args:= #[.tmp i,.tmp j],argTypes:=ats},ty,pos,af,none⟩ a X K Q:=by
 have e1:=q0x h1;have e2:=q0x h2;go_simp;refine hC.mono (λe w' hp=> ?_);obtain⟨x,rfl,hx⟩:=hK e w' hp;exact hx
theorem u3Y(w:World)(x0 x1 x2 x3:Value)(o:OpD):∃W,W=(w.alloc (.cells #[x0,x1,x2,x3] 27)).alloc (.cells #[.int .i64 o.kind,.int .i64 o.a,.int .i64 o.b,.int .i64 o.c,.string (txt o.site)] 29)/\Below w.heap.size w W/\W.heap.size=w.heap.size+2/\
 (∀X,Below W.heap.size W X->X.cell? ⟨w.heap.size,0,none⟩=some x0/\X.cell? ⟨w.heap.size,1,none⟩=some x1/\X.cell? ⟨w.heap.size,2,none⟩=some x2/\X.cell? ⟨w.heap.size,3,none⟩=some x3)/\
 (∀X,Below W.heap.size W X->X.cell? ⟨w.heap.size+1,0,none⟩=some (.int .i64 o.kind)/\X.cell? ⟨w.heap.size+1,1,none⟩=some (.int .i64 o.a)/\X.cell? ⟨w.heap.size+1,2,none⟩=some (.int .i64 o.b)/\X.cell? ⟨w.heap.size+1,3,none⟩=some (.int .i64 o.c)/\X.cell? ⟨w.heap.size+1,4,none⟩=some (.string (txt o.site))):=by
 obtain⟨V,hV⟩:∃V,V=w.alloc (.cells #[x0,x1,x2,x3] 27):=⟨_,rfl⟩;have sV:V.heap.size=w.heap.size+1:=by rw[hV];simp
 have bV:Below w.heap.size w V:=by rw[hV];exact bl1 _
 obtain⟨W,hW⟩:∃W,W=V.alloc (.cells #[.int .i64 o.kind,.int .i64 o.a,.int .i64 o.b,.int .i64 o.c,.string (txt o.site)] 29):=⟨_,rfl⟩;have sW:W.heap.size=V.heap.size+1:=by rw[hW];simp
 have bW:Below V.heap.size V W:=by rw[hW];exact bl1 _
 refine⟨W,by rw[hW,hV],bV.trans (bW.mono bV.size),by omega,λX hX=> ?_,λX hX=> ?_⟩
 ·have b:Below V.heap.size V X:=bW.trans (hX.mono (by omega))
  have h:∀k,X.cell? ⟨w.heap.size,k,none⟩=(#[x0,x1,x2,x3]:Array Value)[k]?:=λk=>by
   rw[b.cell (p:=⟨w.heap.size,k,none⟩) (by show w.heap.size<_;omega),hV,World.cell?_alloc_mark]
  exact⟨h 0,h 1,h 2,h 3⟩
 ·have h:∀k,X.cell? ⟨w.heap.size+1,k,none⟩=(#[.int .i64 o.kind,.int .i64 o.a,.int .i64 o.b,.int .i64 o.c,.string (txt o.site)]:Array Value)[k]?:=λk=>by
   rw[hX.cell (p:=⟨w.heap.size+1,k,none⟩) (by show w.heap.size+1<_;omega),hW,<-sV,World.cell?_alloc_mark]
  exact⟨h 0,h 1,h 2,h 3,h 4⟩
theorem JR.same{wb X:World}{c:Nat}{R:q0a×z0D}{dn:Nat->Prop}{f:Nat->Value}{s2:HSh}{vf vf2:Value}(j:JR wb c R dn f X s vf)(j2:JR wb c R dn f X s2 vf2):s.v=s2.v/\q0m R.2.code R.2.val vf=q0m R.2.code R.2.val vf2:=by have h:=j.e.symm.trans j2.e;simpa using h
def j3U(f:Nat)(H:q0a)(o:OpD)(R:q0a×z0D):Prop:=∀X u,RdH X u H->v0B u->Calls Tryz.prog f #[u,opV o] X λe w' =>q0z X X.heap.size R e w'
structure A8(vh ov:Value)(H:q0a)(dn:Nat->Prop)(f:Nat->Value)(X:World):Prop where
 l0:dn 0->f 0=vh
 l1:dn 1->RdH X (f 1) H/\v0B (f 1)
 l2:dn 2->f 2=ov
 l3:dn 3->f 3=ov
theorem A8.move{vh ov v:Value}{dn:Nat->Prop}{f:Nat->Value}{X Y:World}(i:Nat)(h:A8 vh ov H dn f X)(hb:Below X.heap.size X Y)(hni:¬dn i)(v0:i=0->v=vh)(v1:i=1->RdH Y v H/\v0B v)(v2:i=2->v=ov)(v3:i=3->v=ov):
 A8 vh ov H (λj=>dn j\/j=i) (λj=>if j=i then v else f j) Y:=by
 have old:∀k,dn k->(if k=i then v else f k)=f k:=λk hk=>if_neg (λ(e:k=i)=>hni (e▸hk));refine⟨λhd=> ?_,λhd=> ?_,λhd=> ?_,λhd=> ?_⟩
 ·rcases hd with hd|hd
  ·exact(old 0 hd).trans (h.l0 hd)
  ·exact(if_pos hd).trans (v0 hd.symm)
 ·show RdH Y (if 1=i then v else f 1) H/\v0B (if 1=i then v else f 1)
  rcases hd with hd|hd
  ·rw[old 1 hd];obtain⟨h1,h2⟩:=h.l1 hd;exact⟨q0s h1 hb,h2⟩
  ·rw[if_pos hd];exact v1 hd.symm
 ·rcases hd with hd|hd
  ·exact(old 2 hd).trans (h.l2 hd)
  ·exact(if_pos hd).trans (v2 hd.symm)
 ·rcases hd with hd|hd
  ·exact(old 3 hd).trans (h.l3 hd)
  ·exact(if_pos hd).trans (v3 hd.symm)
structure A10(vh ov:Value)(dn:Nat->Prop)(f:Nat->Value)(X:World):Prop where
 l0:dn 0->f 0=vh
 l1:dn 1->f 1=ov
 l2:dn 2->f 2=ov
theorem A10.move{vh ov v:Value}{dn:Nat->Prop}{f:Nat->Value}{X Y:World}(i:Nat)(h:A10 vh ov dn f X)(hni:¬dn i)(v0:i=0->v=vh)(v1:i=1->v=ov)(v2:i=2->v=ov):
 A10 vh ov (λj=>dn j\/j=i) (λj=>if j=i then v else f j) Y:=by
 have old:∀k,dn k->(if k=i then v else f k)=f k:=λk hk=>if_neg (λ(e:k=i)=>hni (e▸hk));refine⟨λhd=> ?_,λhd=> ?_,λhd=> ?_⟩
 ·rcases hd with hd|hd
  ·exact(old 0 hd).trans (h.l0 hd)
  ·exact(if_pos hd).trans (v0 hd.symm)
 ·rcases hd with hd|hd
  ·exact(old 1 hd).trans (h.l1 hd)
  ·exact(if_pos hd).trans (v1 hd.symm)
 ·rcases hd with hd|hd
  ·exact(old 2 hd).trans (h.l2 hd)
  ·exact(if_pos hd).trans (v2 hd.symm)
end
section
open Go.RowKit
theorem z4Z(v:Value)(H:q0a)(o:OpD)(w:World)(r:RdH w v H)(y:v0W H)(yo:o.site.length<=9223372036854775807)(R:q0a×z0D)
 (hG:q0h H->o.site.length<=1048576->(R.1.objs.length<=16777216/\(∀z∈R.1.objs,z.field.length<=16777216)/\R.1.weaks.length<=16777216/\R.1.buffer.length<=16777216/\R.1.sites.length<=16777216)/\R.2.freed.length<=16777216)
 (hS:q0h H->o.site.length<=1048576->j3U 7 H o R) (hI:q0h H->o.site.length<=1048576->j3U 10 H o R):
 Calls Tryz.prog 3 #[v,opV o] w λe w' =>e= .returned (.bool true)/\Below w.heap.size w w' :=by
 obtain⟨RH,rc,rv,rf⟩:=R;simp only at hG;have RR:Hid (∀X,Below w.heap.size w X->RdH X v H):=λX hX=>q0s r hX;have CZ:Hid (∀X,Below w.heap.size w X->_):=λX hX=>x0Y X v H 1048576 (RR.out X hX) y (by omega) (by omega);have VH:Hid (∃a0 n0 k0 a1 n1 k1 a2 n2 k2 a3 n3 k3,v= .agg #[.slice a0 n0 k0,.slice a1 n1 k1,.slice a2 n2 k2,.slice a3 n3 k3]):=x0R r;clear r;obtain⟨a0,n0,k0,a1,n1,k1,a2,n2,k2,a3,n3,k3,rfl⟩:=VH.out;obtain⟨W,hW,BW,hWs,hK0,hK1⟩:=u3Y w (.slice a0 n0 k0) (.slice a1 n1 k1) (.slice a2 n2 k2) (.slice a3 n3 k3) o;have HK0:Hid (∀X,Below W.heap.size W X->_):=hK0;have HK1:Hid (∀X,Below W.heap.size W X->_):=hK1;clear hK0 hK1;by_cases hz:szH H 1048576<0
 ·clear hS hI hG HK0 HK1;generalize szH H 1048576=z at*;unfold opV;go_enter Tryz.func3,Tryz.ntmps3;go_wp2_with fail
  rw[<-hW];clear hW;refine(CZ.out _ BW).mono ?_;rintro e w1 ⟨rfl,b1⟩;have B1:=BW.trans (b1.mono BW.size);clear BW b1;go_wp2;go_ret
  exact⟨rfl,B1⟩
 have hsm:=y0T H hz;have hzl:szH H 1048576<=1048576:=u2W H;have CO:Hid (∀X,_):=λX=>z4H X o (szH H 1048576) yo (by omega) hzl;unfold opV at CO;by_cases hz2:szH H 1048576 - (o.site.length:Int)<0
 ·rw[if_pos hz2]at CO;clear hS hI hG hz2 hzl;generalize szH H 1048576=z at*;unfold opV;go_enter Tryz.func3,Tryz.ntmps3;go_wp2_with fail
  rw[<-hW];clear hW;refine(CZ.out _ BW).mono ?_;rintro e w1 ⟨rfl,b1⟩;obtain⟨q0,q1,q2,q3,q4⟩:=HK1.out _ b1;have B1:=BW.trans (b1.mono BW.size);clear BW b1 HK0 HK1;go_wp2_with fail
  refine(CO.out _).mono ?_;rintro e w2 ⟨rfl,b2⟩;have B2:=B1.trans (b2.mono B1.size);clear q0 q1 q2 q3 q4 B1 b2;go_wp2;go_ret
  exact⟨rfl,B2⟩
 rw[if_neg hz2]at CO;have hsl:o.site.length<=1048576:=by omega
 have CT:Hid (∀X,Below w.heap.size w X->_):=λX hX=>x0Z X _ H (RR.out X hX) hsm;have CTO:Hid (∀X,_):=λX=>z4I X o;have CS:Hid (∀X u,RdH X u H->v0B u->_):=hS hsm hsl;have CI:Hid (∀X u,RdH X u H->v0B u->_):=hI hsm hsl;unfold opV at CTO CS CI;have HWB:Hid (∀X,Below W.heap.size W X->Below w.heap.size w X):=λX hX=>BW.trans (hX.mono BW.size);obtain⟨z2,hz3⟩:∃z2,szH H 1048576 - (o.site.length:Int)=z2:=⟨_,rfl⟩;rw[hz3]at CO hz2;obtain⟨hG1,hG2⟩:=hG hsm hsl;have HGL:Hid _:=hG1;have HC:Hid (∀X B u,v1z X B u H->∃s:HSh,u=s.v/\y0D X s/\∀q∈z0q s,B<=q.1.block):=λX B u h=>z1V h hsm;have CE:Hid (∀X u1 u2,RdH X u1 H->RdH X u2 H->_):=λX u1 u2 h1 h2=>x0H X u1 u2 H h1 h2 hsm;have CG:Hid (∀X u1 u2,RdH X u1 RH->RdH X u2 RH->Calls Tryz.prog 11 #[u1,u2] X λe w' =>e= .returned (.bool true)/\Below X.heap.size X w'):=λX u1 u2 h1 h2=>j1q X u1 u2 RH h1 h2 hG1.1 hG1.2.1 hG1.2.2.1 hG1.2.2.2.1 hG1.2.2.2.2;have CIQ:Hid (∀X u1 u2,RdA X u1 ⟨rc,rv,rf⟩->RdA X u2 ⟨rc,rv,rf⟩->_):=λX u1 u2 h1 h2=>x1p X u1 u2 ⟨rc,rv,rf⟩ h1 h2 hG2
 have hK:Hid (∀(X:World)(s:HSh),y0D X s->(0:Int)<=(s.k3:Int)+(s.sn:Int)/\(s.k3:Int)+(s.sn:Int)<=1000000000000000):=λX s hc=>by
  have h1:=v1m s.os hc.lo hc.lf;have h2:=hc.lw;have h3:=hc.lb;have h4:=hc.ls;unfold HSh.k3;omega
 obtain⟨N,hN⟩:∃N,rf.length=N:=⟨_,rfl⟩;have HNL:Hid (N<=16777216):=by show N<=_;omega
 clear hS hI hz3 hzl hG hG1 hG2 RR VH hsm y yo;generalize szH H 1048576=z at*;unfold opV;go_enter Tryz.func3,Tryz.ntmps3;go_wp2_with fail
 rw[<-hW];clear hW;refine(CZ.out _ BW).mono ?_;rintro e w1 ⟨rfl,b1⟩;obtain⟨q0,q1,q2,q3,q4⟩:=HK1.out _ b1;clear BW;go_wp2_with fail
 refine(CO.out _).mono ?_;rintro e w2 ⟨rfl,b2⟩;have T2:=b1.trans (b2.mono b1.size);have HUP:Hid (∀X,Below w2.heap.size w2 X->Below W.heap.size W X):=λX hX=>T2.trans (hX.mono T2.size);clear q0 q1 q2 q3 q4 b1 b2 CO CZ;go_wp2;refine j1l 11 (by kernel_rfl) (by kernel_rfl) (JB w2 4 (RH,⟨rc,rv,rf⟩) (A8 (.agg #[.slice a0 n0 k0,.slice a1 n1 k1,.slice a2 n2 k2,.slice a3 n3 k3]) (.agg #[.int .i64 o.kind,.int .i64 o.a,.int .i64 o.b,.int .i64 o.c,.string (txt o.site)]) H)) (λf=>⟨bl0.drew,λh=>h.elim,λh=>by simp at h,λh=>h.elim,λ_=>⟨λh=>h.elim,λh=>h.elim,λh=>h.elim,λh=>h.elim⟩,λh=>h.elim,λh=>h.elim,λh=>h.elim,λh=>h.elim⟩) ?_ ?_
 ·intro i o_ hi ho a X dn f hJ hA hf hn hdep
  match i,hi,ho with
  |0,_,ho=>
   cases ho
   exact q3M (q0f hA (t:=2) (by kernel_rfl)) (HK0.out X (HUP.out X hJ.bel)) ⟨_,rfl,hJ.move (i:=0) (by decide) (by decide) bl0 hn (λe=>by omega) (λ_ h=>h.move 0 bl0 hn (λ_=>rfl) (λe=>by omega) (λe=>by omega) (λe=>by omega)) (λe=>by omega) (λe=>by omega) (λe=>by omega) (λe=>by omega) (λe=>by omega)⟩
  |1,_,ho=>
   cases ho
   have hd:dn 0:=hdep ⟨0,.data⟩ (by simp) rfl;have h4:¬dn 4:=λh=>hn (hJ.cl h).2;refine v4B ((hf 0 27 rfl).trans ((hJ.arg h4).l0 hd)) (CT.out X (HWB.out X (HUP.out X hJ.bel))) ?_;rintro e X' ⟨u,rfl,O2,b2⟩;exact⟨_,rfl,_,rfl,hJ.move (i:=1) (by decide) (by decide) b2 hn (λe=>by omega) (λ_ h=>h.move 1 b2 hn (λe=>by omega) (λ_=>⟨q0X O2,q1A O2⟩) (λe=>by omega) (λe=>by omega)) (λe=>by omega) (λe=>by omega) (λe=>by omega) (λe=>by omega) (λe=>by omega)⟩
  |2,_,ho=>
   cases ho
   exact y2y (q0f hA (t:=3) (by kernel_rfl)) (HK1.out X (HUP.out X hJ.bel)) ⟨_,rfl,hJ.move (i:=2) (by decide) (by decide) bl0 hn (λe=>by omega) (λ_ h=>h.move 2 bl0 hn (λe=>by omega) (λe=>by omega) (λ_=>rfl) (λe=>by omega)) (λe=>by omega) (λe=>by omega) (λe=>by omega) (λe=>by omega) (λe=>by omega)⟩
  |3,_,ho=>
   cases ho
   have hd:dn 2:=hdep ⟨2,.data⟩ (by simp) rfl;have h4:¬dn 4:=λh=>hn (hJ.cl h).1;refine v3v ((hf 2 29 rfl).trans ((hJ.arg h4).l2 hd)) (CTO.out X) ?_;rintro e X' ⟨rfl,b2⟩;exact⟨_,rfl,_,rfl,hJ.move (i:=3) (by decide) (by decide) b2 hn (λe=>by omega) (λ_ h=>h.move 3 b2 hn (λe=>by omega) (λe=>by omega) (λe=>by omega) (λ_=>rfl)) (λe=>by omega) (λe=>by omega) (λe=>by omega) (λe=>by omega) (λe=>by omega)⟩
  |4,_,ho=>
   cases ho
   have hd1:dn 1:=hdep ⟨1,.data⟩ (by simp) rfl;have hd3:dn 3:=hdep ⟨3,.data⟩ (by simp) rfl;obtain⟨r1,r2⟩:=(hJ.arg hn).l1 hd1;refine v5d (hf 1 28 rfl) ((hf 3 30 rfl).trans ((hJ.arg hn).l3 hd3)) (CS.out X _ r1 r2) ?_;rintro e X' ⟨s,vf,rfl,M,O,D,b2⟩;exact⟨_,rfl,_,rfl,hJ.call b2 hn hd3 hd1 M O D⟩
  |5,_,ho=>
   cases ho
   have hd:dn 4:=hdep ⟨4,.data⟩ (by simp) rfl;exact z0p (hf 4 31 rfl) ⟨_,rfl,hJ.move (i:=5) (by decide) (by decide) bl0 hn (λ_=>hd) (λh=>absurd hd h) (λ_=>rfl) (λe=>by omega) (λe=>by omega) (λe=>by omega) (λe=>by omega)⟩
  |6,_,ho=>
   cases ho
   have hd1:dn 5:=hdep ⟨5,.data⟩ (by simp) rfl;have hd:dn 4:=hJ.cl2 (.inl hd1);obtain⟨s,vf,j⟩:=hJ.res hd;exact v3r ((hf 5 26 rfl).trans (j.e1 hd1)) ⟨_,rfl,hJ.move (i:=6) (by decide) (by decide) bl0 hn (λ_=>hd) (λh=>absurd hd h) (λe=>by omega) (λ_ s2 vf2 j2=>(j.same j2).1) (λe=>by omega) (λe=>by omega) (λe=>by omega)⟩
  |7,_,ho=>
   cases ho
   have hd1:dn 5:=hdep ⟨5,.data⟩ (by simp) rfl;have hd:dn 4:=hJ.cl2 (.inl hd1);obtain⟨s,vf,j⟩:=hJ.res hd;exact u2D ((hf 5 26 rfl).trans (j.e1 hd1)) ⟨_,rfl,hJ.move (i:=7) (by decide) (by decide) bl0 hn (λ_=>hd) (λh=>absurd hd h) (λe=>by omega) (λe=>by omega) (λ_ s2 vf2 j2=>(j.same j2).2) (λe=>by omega) (λe=>by omega)⟩
  |8,_,ho=>
   cases ho
   exact q2F ⟨_,rfl,hJ.move (i:=8) (by decide) (by decide) (bl1 _) hn (λe=>by omega) (λ_ h=>h.move 8 (bl1 _) hn (λe=>by omega) (λe=>by omega) (λe=>by omega) (λe=>by omega)) (λe=>by omega) (λe=>by omega) (λe=>by omega) (λ_=>⟨_,rfl,Nat.le_refl _,q0d.new X _ _ _ _⟩) (λe=>by omega)⟩
  |9,_,ho=>
   cases ho
   exact x2F ⟨_,rfl,hJ.move (i:=9) (by decide) (by decide) (bl1 _) hn (λe=>by omega) (λ_ h=>h.move 9 (bl1 _) hn (λe=>by omega) (λe=>by omega) (λe=>by omega) (λe=>by omega)) (λe=>by omega) (λe=>by omega) (λe=>by omega) (λe=>by omega) (λ_=>⟨_,rfl,Nat.le_refl _,q0k.new X _ _ _⟩)⟩
  |10,_,ho=>
   cases ho
   have hd2:dn 6:=hdep ⟨6,.data⟩ (by simp) rfl;have hd4:dn 8:=hdep ⟨8,.data⟩ (by simp) rfl;have hd:dn 4:=hdep ⟨4,.chain⟩ (by simp) rfl;obtain⟨s,vf,j⟩:=hJ.res hd;obtain⟨g,eg,_,_,hF⟩:=hJ.b8 hd4;exact v0t ((hf 8 6 rfl).trans eg) ((hf 6 32 rfl).trans (j.e2 hd2)) (hF hn) ⟨undef,rfl,hJ.store hn hd hd4 j eg⟩
 ·intro o_ ho a X dn f hJ hA hf hall
  cases ho
  obtain⟨sR,vR,j⟩:=hJ.res (hall 4 (by omega));obtain⟨gH,eH,lH,uH,-⟩:=hJ.b8 (hall 8 (by omega));obtain⟨gA,eA,lA,tA⟩:=hJ.b9 (hall 9 (by omega));have hne:gA≠gH:=λe=>hJ.df (hall 8 (by omega)) (hall 9 (by omega)) (by rw[eH,eA,e]);obtain⟨fa,fc,hvR,-⟩:=q0Y j.o;subst hvR;have FH:=j.st (hall 10 (by omega)) gH eH;have farA:=j.far 9 (.inr rfl) (hall 9 (by omega)) gA eA;have e3_:f 7= .agg #[.int .i64 rc,.int .i64 rv,.slice fa rf.length fc]:=j.e3 (hall 7 (by omega));refine y0x ((hf 9 7 rfl).trans eA) ((hf 7 33 rfl).trans e3_) tA ?_;clear e3_;obtain⟨us,hus,rfl⟩:=q0F hA [27,28,29,30,31,26,32,33,6,7] (by kernel_rfl);have u6:us 6= .pointer (some ⟨gH,0,none⟩):=(hus 6).symm.trans ((hf 8 6 rfl).trans eH);have u7:us 7= .pointer (some ⟨gA,0,none⟩):=(hus 7).symm.trans ((hf 9 7 rfl).trans eA);have HMZ:Hid (HM (q0g X gA (.int .i64 rc) (.int .i64 rv) (.slice fa rf.length fc)) w2.heap.size sR RH):=y0l j.m (by rw[x0k];exact Nat.le_refl _) (λg hg=>q0Q _ _ _ _ _ g (λe=>farA.1 (e▸hg)));have HOZ:Hid (q0i (q0g X gA (.int .i64 rc) (.int .i64 rv) (.slice fa rf.length fc)) w2.heap.size (.slice fa rf.length fc) rf):=q0v j.o (λg hg=>q0Q _ _ _ _ _ g (λe=>farA.2 (e▸hg)));have HFZ:Hid (q0d (q0g X gA (.int .i64 rc) (.int .i64 rv) (.slice fa rf.length fc)) gH (.slice sR.oa sR.os.length sR.oc) (.slice sR.wa sR.wn sR.wc) (.slice sR.ba sR.bn sR.bc) (.slice sR.sa sR.sn sR.sc)):=FH.same (q0Q _ _ _ _ _ gH hne.symm)
  have HTZ:Hid (q0k (q0g X gA (.int .i64 rc) (.int .i64 rv) (.slice fa rf.length fc)) gA (.int .i64 rc) (.int .i64 rv) (.slice fa rf.length fc)):=by show q0k _ _ _ _ _;unfold q0g;exact heap_setCell_same _ _ 2 _ _ _ (heap_setCell_same _ _ 1 _ _ _ (heap_setCell_same _ _ 0 _ _ _ tA))
  have HBZ:Hid (Below w2.heap.size w2 (q0g X gA (.int .i64 rc) (.int .i64 rv) (.slice fa rf.length fc))):=by
   show Below _ _ _;unfold q0g;iterate 3 refine Below.setCell ?_ (by simp only;exact lA) _
   exact hJ.bel
  have HDR:Hid (∀g,(Value.slice fa rf.length fc).ownBlock=some g->¬q0u sR g):=j.d;have HFA:Hid (¬q0u sR gA/\(Value.slice fa rf.length fc).ownBlock≠some gA):=farA;have HFH:Hid (¬q0u sR gH/\(Value.slice fa rf.length fc).ownBlock≠some gH):=j.far 8 (.inl rfl) (hall 8 (by omega)) gH eH;obtain⟨V3,hV3⟩:∃V,V=q0g X gA (.int .i64 rc) (.int .i64 rv) (.slice fa rf.length fc):=⟨_,rfl⟩;rw[<-hV3]at HMZ HOZ HFZ HTZ HBZ;have HNN:Hid (rf.length=N):=hN;rw[hN]at hV3 HOZ HTZ HDR HFA HFH ⊢;have HX6:Hid (∀Y,Below V3.heap.size V3 Y->q0d Y gH (.slice sR.oa sR.os.length sR.oc) (.slice sR.wa sR.wn sR.wc) (.slice sR.ba sR.bn sR.bc) (.slice sR.sa sR.sn sR.sc)):=λY hY=>HFZ.out.later hY;have HXA:Hid (∀Y,Below V3.heap.size V3 Y->q0k Y gA (.int .i64 rc) (.int .i64 rv) (.slice fa N fc)):=λY hY=>HTZ.out.later hY;have HRW:Hid (∀Y,Below V3.heap.size V3 Y->RdH Y (.agg #[.slice sR.oa sR.os.length sR.oc,.slice sR.wa sR.wn sR.wc,.slice sR.ba sR.bn sR.bc,.slice sR.sa sR.sn sR.sc]) RH):=λY hY=>q0s (q0K HMZ.out) hY
  have HIW:Hid (∀Y,Below V3.heap.size V3 Y->RdA Y (.agg #[.int .i64 rc,.int .i64 rv,.slice fa N fc]) ⟨rc,rv,rf⟩):=λY hY=>by
   obtain⟨a',c',e',hr'⟩:=z0e HOZ.out;simp only[Value.slice.injEq]at e';exact⟨fa,fc,by rw[HNN.out],q0t (by rw[e'.1];exact hr') hY⟩
  have TV3:Below W.heap.size W V3:=HUP.out _ HBZ.out;have HT3:Hid (∀Y,Below V3.heap.size V3 Y->Below W.heap.size W Y):=λY hY=>TV3.trans (hY.mono TV3.size);have HGL6:Hid (gH<V3.heap.size/\gA<V3.heap.size):=⟨HFZ.out.lt,HTZ.out.lt⟩;clear hJ hA hf hall j FH farA eH eA lH uH lA tA hne HMZ HOZ HFZ HTZ HBZ HDR HFA HFH CS;simp only[List.mapIdx_cons,List.mapIdx_nil,Nat.reduceAdd,List.contains_cons,List.contains_nil,Nat.reduceBEq,Bool.or_false,Bool.or_true,if_true,if_false,Bool.false_eq_true];rw[u6,u7,<-hV3];clear u6 u7 hV3 hus;obtain⟨c0,c1,c2,c3⟩:=HK0.out _ TV3;go_wp2_with fail
  refine(CT.out _ (HWB.out _ TV3)).mono ?_;rintro e w4 ⟨u4,rfl,O4,b4⟩;clear c0 c1 c2 c3;have hs4:=b4.size;obtain⟨s4,hus4,K4,M4⟩:=HC.out _ _ _ O4;have HR4:Hid (∀X,Below w4.heap.size w4 X->RdH X u4 H):=λX hX=>q0X (v0m O4 hX);have HCP:Hid (v0B u4):=q1A O4;have HM4:Hid (∀q∈z0q s4,V3.heap.size<=q.1.block):=M4;have HK4:Hid (y0D w4 s4):=K4;subst hus4;obtain⟨V4,hV4⟩:∃V,V=w4.alloc (.cells #[.slice s4.oa s4.os.length s4.oc,.slice s4.wa s4.wn s4.wc,.slice s4.ba s4.bn s4.bc,.slice s4.sa s4.sn s4.sc] 35):=⟨_,rfl⟩;have BV4:Below w4.heap.size w4 V4:=by rw[hV4];exact bl1 _
  have hV4s:V4.heap.size=w4.heap.size+1:=by rw[hV4];simp
  have HX7b:Hid (∀X,Below V4.heap.size V4 X->q0d X w4.heap.size (.slice s4.oa s4.os.length s4.oc) (.slice s4.wa s4.wn s4.wc) (.slice s4.ba s4.bn s4.bc) (.slice s4.sa s4.sn s4.sc)):=λX hX=>by
   have f:q0d V4 w4.heap.size (.slice s4.oa s4.os.length s4.oc) (.slice s4.wa s4.wn s4.wc) (.slice s4.ba s4.bn s4.bc) (.slice s4.sa s4.sn s4.sc):=by rw[hV4];exact q0d.new w4 _ _ _ _
   exact f.later hX
  have A4:Below V3.heap.size V3 V4:=b4.trans (BV4.mono b4.size);have hv4:=u1a s4;rw[hv4];rw[hv4]at HR4 HCP;have HC4b:Hid (Below w4.heap.size w4 V4):=BV4;have HA4b:Hid (Below V3.heap.size V3 V4):=A4;have HUP4:Hid (∀X,Below V4.heap.size V4 X->Below W.heap.size W X):=λX hX=>HT3.out X (A4.trans (hX.mono A4.size));clear O4 K4 M4 b4 HC A4 BV4 TV3;go_wp2;rw[<-hV4];clear hV4;refine j1l 10 (by kernel_rfl) (by kernel_rfl) (JB V4 3 (RH,⟨rc,rv,rf⟩) (A10 (.agg #[.slice s4.oa s4.os.length s4.oc,.slice s4.wa s4.wn s4.wc,.slice s4.ba s4.bn s4.bc,.slice s4.sa s4.sn s4.sc]) (.agg #[.int .i64 o.kind,.int .i64 o.a,.int .i64 o.b,.int .i64 o.c,.string (txt o.site)]))) (λf=>⟨bl0.drew,λh=>h.elim,λh=>by simp at h,λh=>h.elim,λ_=>⟨λh=>h.elim,λh=>h.elim,λh=>h.elim⟩,λh=>h.elim,λh=>h.elim,λh=>h.elim,λh=>h.elim⟩) ?_ ?_
  ·intro i o_ hi ho a X dn f hJ hA hf hn hdep
   match i,hi,ho with
   |0,_,ho=>
    cases ho
    exact y0q (q0f hA (t:=8) (by kernel_rfl)) (HX7b.out X hJ.bel) ⟨_,rfl,hJ.move (i:=0) (by decide) (by decide) bl0 hn (λe=>by omega) (λ_ h=>h.move 0 hn (λ_=>rfl) (λe=>by omega) (λe=>by omega)) (λe=>by omega) (λe=>by omega) (λe=>by omega) (λe=>by omega) (λe=>by omega)⟩
   |1,_,ho=>
    cases ho
    exact y2y (q0f hA (t:=3) (by kernel_rfl)) (HK1.out X (HUP4.out X hJ.bel)) ⟨_,rfl,hJ.move (i:=1) (by decide) (by decide) bl0 hn (λe=>by omega) (λ_ h=>h.move 1 hn (λe=>by omega) (λ_=>rfl) (λe=>by omega)) (λe=>by omega) (λe=>by omega) (λe=>by omega) (λe=>by omega) (λe=>by omega)⟩
   |2,_,ho=>
    cases ho
    have hd:dn 1:=hdep ⟨1,.data⟩ (by simp) rfl;have h3:¬dn 3:=λh=>hn (hJ.cl h).1;refine v3v ((hf 1 38 rfl).trans ((hJ.arg h3).l1 hd)) (CTO.out X) ?_;rintro e X' ⟨rfl,b2⟩;exact⟨_,rfl,_,rfl,hJ.move (i:=2) (by decide) (by decide) b2 hn (λe=>by omega) (λ_ h=>h.move 2 hn (λe=>by omega) (λe=>by omega) (λ_=>rfl)) (λe=>by omega) (λe=>by omega) (λe=>by omega) (λe=>by omega) (λe=>by omega)⟩
   |3,_,ho=>
    cases ho
    have hd0:dn 0:=hdep ⟨0,.data⟩ (by simp) rfl;have hd2:dn 2:=hdep ⟨2,.data⟩ (by simp) rfl;refine q5e ((hf 0 37 rfl).trans ((hJ.arg hn).l0 hd0)) ((hf 2 39 rfl).trans ((hJ.arg hn).l2 hd2)) (CI.out X _ (HR4.out X (HC4b.out.trans (hJ.bel.mono HC4b.out.size))) HCP.out) ?_;rintro e X' ⟨s,vf,rfl,M,O,D,b2⟩;exact⟨_,rfl,_,rfl,hJ.call b2 hn hd2 hd0 M O D⟩
   |4,_,ho=>
    cases ho
    have hd:dn 3:=hdep ⟨3,.data⟩ (by simp) rfl;exact z0p (hf 3 40 rfl) ⟨_,rfl,hJ.move (i:=4) (by decide) (by decide) bl0 hn (λ_=>hd) (λh=>absurd hd h) (λ_=>rfl) (λe=>by omega) (λe=>by omega) (λe=>by omega) (λe=>by omega)⟩
   |5,_,ho=>
    cases ho
    have hd1:dn 4:=hdep ⟨4,.data⟩ (by simp) rfl;have hd:dn 3:=hJ.cl2 (.inl hd1);obtain⟨s,vf,j⟩:=hJ.res hd;exact v3r ((hf 4 36 rfl).trans (j.e1 hd1)) ⟨_,rfl,hJ.move (i:=5) (by decide) (by decide) bl0 hn (λ_=>hd) (λh=>absurd hd h) (λe=>by omega) (λ_ s2 vf2 j2=>(j.same j2).1) (λe=>by omega) (λe=>by omega) (λe=>by omega)⟩
   |6,_,ho=>
    cases ho
    have hd1:dn 4:=hdep ⟨4,.data⟩ (by simp) rfl;have hd:dn 3:=hJ.cl2 (.inl hd1);obtain⟨s,vf,j⟩:=hJ.res hd;exact u2D ((hf 4 36 rfl).trans (j.e1 hd1)) ⟨_,rfl,hJ.move (i:=6) (by decide) (by decide) bl0 hn (λ_=>hd) (λh=>absurd hd h) (λe=>by omega) (λe=>by omega) (λ_ s2 vf2 j2=>(j.same j2).2) (λe=>by omega) (λe=>by omega)⟩
   |7,_,ho=>
    cases ho
    exact q2F ⟨_,rfl,hJ.move (i:=7) (by decide) (by decide) (bl1 _) hn (λe=>by omega) (λ_ h=>h.move 7 hn (λe=>by omega) (λe=>by omega) (λe=>by omega)) (λe=>by omega) (λe=>by omega) (λe=>by omega) (λ_=>⟨_,rfl,Nat.le_refl _,q0d.new X _ _ _ _⟩) (λe=>by omega)⟩
   |8,_,ho=>
    cases ho
    exact x2F ⟨_,rfl,hJ.move (i:=8) (by decide) (by decide) (bl1 _) hn (λe=>by omega) (λ_ h=>h.move 8 hn (λe=>by omega) (λe=>by omega) (λe=>by omega)) (λe=>by omega) (λe=>by omega) (λe=>by omega) (λe=>by omega) (λ_=>⟨_,rfl,Nat.le_refl _,q0k.new X _ _ _⟩)⟩
   |9,_,ho=>
    cases ho
    have hd2:dn 5:=hdep ⟨5,.data⟩ (by simp) rfl;have hd4:dn 7:=hdep ⟨7,.data⟩ (by simp) rfl;have hd:dn 3:=hdep ⟨3,.chain⟩ (by simp) rfl;obtain⟨s,vf,j⟩:=hJ.res hd;obtain⟨g,eg,_,_,hF⟩:=hJ.b8 hd4;exact v0t ((hf 7 9 rfl).trans eg) ((hf 5 41 rfl).trans (j.e2 hd2)) (hF hn) ⟨undef,rfl,hJ.store hn hd hd4 j eg⟩
  ·intro o_ ho a X dn f hJ hA hf hall
   cases ho
   obtain⟨sG,vR,j⟩:=hJ.res (hall 3 (by omega));obtain⟨gX,eH,lH,uH,-⟩:=hJ.b8 (hall 7 (by omega));obtain⟨gY,eA,lA,tA⟩:=hJ.b9 (hall 8 (by omega));have hne:gY≠gX:=λe=>hJ.df (hall 7 (by omega)) (hall 8 (by omega)) (by rw[eH,eA,e]);obtain⟨ga,gc,hvR,-⟩:=q0Y j.o;subst hvR;have FH:=j.st (hall 9 (by omega)) gX eH;have farA:=j.far 8 (.inr rfl) (hall 8 (by omega)) gY eA;have e3_:f 6= .agg #[.int .i64 rc,.int .i64 rv,.slice ga rf.length gc]:=j.e3 (hall 6 (by omega));refine y0x ((hf 8 10 rfl).trans eA) ((hf 6 42 rfl).trans e3_) tA ?_;clear e3_;obtain⟨us2,hus,rfl⟩:=q0F hA [37,38,39,40,36,41,42,9,10] (by kernel_rfl);have u9:us2 9= .pointer (some ⟨gX,0,none⟩):=(hus 9).symm.trans ((hf 7 9 rfl).trans eH);have u10:us2 10= .pointer (some ⟨gY,0,none⟩):=(hus 10).symm.trans ((hf 8 10 rfl).trans eA);have HMZ:Hid (HM (q0g X gY (.int .i64 rc) (.int .i64 rv) (.slice ga rf.length gc)) V4.heap.size sG RH):=y0l j.m (by rw[x0k];exact Nat.le_refl _) (λg hg=>q0Q _ _ _ _ _ g (λe=>farA.1 (e▸hg)));have HOZ:Hid (q0i (q0g X gY (.int .i64 rc) (.int .i64 rv) (.slice ga rf.length gc)) V4.heap.size (.slice ga rf.length gc) rf):=q0v j.o (λg hg=>q0Q _ _ _ _ _ g (λe=>farA.2 (e▸hg)));have HFZ:Hid (q0d (q0g X gY (.int .i64 rc) (.int .i64 rv) (.slice ga rf.length gc)) gX (.slice sG.oa sG.os.length sG.oc) (.slice sG.wa sG.wn sG.wc) (.slice sG.ba sG.bn sG.bc) (.slice sG.sa sG.sn sG.sc)):=FH.same (q0Q _ _ _ _ _ gX hne.symm)
   have HTZ:Hid (q0k (q0g X gY (.int .i64 rc) (.int .i64 rv) (.slice ga rf.length gc)) gY (.int .i64 rc) (.int .i64 rv) (.slice ga rf.length gc)):=by show q0k _ _ _ _ _;unfold q0g;exact heap_setCell_same _ _ 2 _ _ _ (heap_setCell_same _ _ 1 _ _ _ (heap_setCell_same _ _ 0 _ _ _ tA))
   have HBZ:Hid (Below V4.heap.size V4 (q0g X gY (.int .i64 rc) (.int .i64 rv) (.slice ga rf.length gc))):=by
    show Below _ _ _;unfold q0g;iterate 3 refine Below.setCell ?_ (by simp only;exact lA) _
    exact hJ.bel
   have HDR:Hid (∀g,(Value.slice ga rf.length gc).ownBlock=some g->¬q0u sG g):=j.d;have HFA:Hid (¬q0u sG gY/\(Value.slice ga rf.length gc).ownBlock≠some gY):=farA;have HFH:Hid (¬q0u sG gX/\(Value.slice ga rf.length gc).ownBlock≠some gX):=j.far 7 (.inl rfl) (hall 7 (by omega)) gX eH;obtain⟨V5,hV5⟩:∃V,V=q0g X gY (.int .i64 rc) (.int .i64 rv) (.slice ga rf.length gc):=⟨_,rfl⟩;rw[<-hV5]at HMZ HOZ HFZ HTZ HBZ;rw[HNN.out]at hV5 HOZ HTZ HDR HFA HFH ⊢;have HM5V:Hid (HM V5 V4.heap.size sG RH):=HMZ.out;have HI5V:Hid (∀X,Below V5.heap.size V5 X->q0i X V4.heap.size (.slice ga N gc) rf):=λX hX=>q0o HOZ.out hX;have HD5:Hid (∀g,(Value.slice ga N gc).ownBlock=some g->¬q0u sG g):=HDR.out;have HX8:Hid (q0d V5 gX (.slice sG.oa sG.os.length sG.oc) (.slice sG.wa sG.wn sG.wc) (.slice sG.ba sG.bn sG.bc) (.slice sG.sa sG.sn sG.sc)):=HFZ.out;have HY8:Hid (q0k V5 gY (.int .i64 rc) (.int .i64 rv) (.slice ga N gc)):=HTZ.out;have HC5:Hid (Below V4.heap.size V4 V5):=HBZ.out;have HA5:Hid (Below V3.heap.size V3 V5):=HA4b.out.trans (HBZ.out.mono HA4b.out.size);have HC4:Hid (Below w4.heap.size w4 V5):=HC4b.out.trans (HBZ.out.mono HC4b.out.size);have HGX:Hid (V4.heap.size<=gX/\gX<V5.heap.size/\V4.heap.size<=gY/\gY<V5.heap.size/\gY≠gX):=⟨lH,HFZ.out.lt,lA,HTZ.out.lt,hne⟩;have HBX:Hid (¬q0u sG gX/\¬q0u sG gY/\(∀x,ga=some x->x.block≠gX/\x.block≠gY)):=⟨HFH.out.1,HFA.out.1,λx hx=>⟨λe=>HFH.out.2 (by rw[hx,<-e];rfl),λe=>HFA.out.2 (by rw[hx,<-e];rfl)⟩⟩;have HRG:Hid (∀Y,HM Y V4.heap.size sG RH->RdH Y (.agg #[.slice sG.oa sG.os.length sG.oc,.slice sG.wa sG.wn sG.wc,.slice sG.ba sG.bn sG.bc,.slice sG.sa sG.sn sG.sc]) RH):=λY hY=>q0K hY
   have HAG:Hid (∀Y,q0i Y V4.heap.size (.slice ga N gc) rf->RdA Y (.agg #[.int .i64 rc,.int .i64 rv,.slice ga N gc]) ⟨rc,rv,rf⟩):=λY hO=>by
    obtain⟨a',c',e',hr'⟩:=z0e hO;simp only[Value.slice.injEq]at e';exact⟨ga,gc,by rw[HNN.out],by rw[e'.1];exact hr'⟩
   have HGB:Hid (∀x,ga=some x->V4.heap.size<=x.block/\x.block<V5.heap.size):=λx hx=>q0n HOZ.out _ (by rw[hx];rfl);have hs5:=HA5.out.size;clear hJ hA hf hall j FH farA eH eA lH uH lA tA hne HMZ HOZ HFZ HTZ HBZ HDR HFA HFH;simp only[List.mapIdx_cons,List.mapIdx_nil,Nat.reduceAdd,List.contains_cons,List.contains_nil,Nat.reduceBEq,Bool.or_false,Bool.or_true,if_true,if_false,Bool.false_eq_true];rw[u9,u10,<-hV5];clear u9 u10 hV5 hus;obtain⟨g0,g1,g2,g3⟩:=HX8.out.cells;obtain⟨d0,d1,d2,d3⟩:=(HX6.out _ HA5.out).cells;go_wp2_with fail
   refine(CG.out _ _ _ (HRG.out _ HM5V.out) (HRW.out _ HA5.out)).mono ?_;rintro e w6 ⟨rfl,b6⟩;have A6:=HA5.out.trans (b6.mono HA5.out.size);clear g0 g1 g2 g3 d0 d1 d2 d3;obtain⟨g0,g1,g2⟩:=(HY8.out.later b6).cells;obtain⟨d0,d1,d2⟩:=(HXA.out _ A6).cells;go_wp2_with fail
   refine(CIQ.out _ _ _ (HAG.out _ (HI5V.out _ b6)) (HIW.out _ A6)).mono ?_;rintro e w6b ⟨rfl,b6b⟩;have B6b:Below V5.heap.size V5 w6b:=b6.trans (b6b.mono b6.size);have HB6:Hid (Below V5.heap.size V5 w6b):=B6b;have hs6b:=B6b.size;clear g0 g1 g2 d0 d1 d2 b6 b6b A6;have HT6:Hid (∀X,Below w6b.heap.size w6b X->Below w.heap.size w X):=λX hX=>HWB.out _ (HT3.out _ (HA5.out.trans ((B6b.trans (hX.mono B6b.size)).mono HA5.out.size)))
   have HS:Hid (∀X,Below w6b.heap.size w6b X->(X.cell? ⟨w.heap.size,0,none⟩=some (.slice a0 n0 k0)/\X.cell? ⟨w.heap.size,1,none⟩=some (.slice a1 n1 k1)/\X.cell? ⟨w.heap.size,2,none⟩=some (.slice a2 n2 k2)/\X.cell? ⟨w.heap.size,3,none⟩=some (.slice a3 n3 k3))/\X.cell? ⟨w4.heap.size,0,none⟩=some (.slice s4.oa s4.os.length s4.oc)/\X.cell? ⟨w4.heap.size,1,none⟩=some (.slice s4.wa s4.wn s4.wc)/\X.cell? ⟨w4.heap.size,2,none⟩=some (.slice s4.ba s4.bn s4.bc)/\X.cell? ⟨w4.heap.size,3,none⟩=some (.slice s4.sa s4.sn s4.sc)):=λX hX=>by
    have h7:=HX7b.out X (HC5.out.trans ((B6b.trans (hX.mono B6b.size)).mono HC5.out.size));exact⟨HK0.out X (HT3.out _ (HA5.out.trans ((B6b.trans (hX.mono B6b.size)).mono HA5.out.size))),h7.cell 0,h7.cell 1,h7.cell 2,h7.cell 3⟩
   have HR6:Hid (∀X,Below w6b.heap.size w6b X->RdH X _ H):=λX hX=>HR4.out X (HC4.out.trans ((B6b.trans (hX.mono B6b.size)).mono HC4.out.size));have HT:Hid (∀X,Below w6b.heap.size w6b X->_):=λX hX=>CT.out X (HT6.out X hX);obtain⟨⟨c0,c1,c2,c3⟩,e0,e1,e2,e3⟩:=HS.out w6b bl0;have D6:Below w6b.heap.size w6b w6b.drew:=bl0.drew;clear B6b;go_wp2_with fail
   go_region_held (λX=>(X.cell? ⟨w.heap.size,0,none⟩=some (.slice a0 n0 k0)/\X.cell? ⟨w.heap.size,1,none⟩=some (.slice a1 n1 k1)/\X.cell? ⟨w.heap.size,2,none⟩=some (.slice a2 n2 k2)/\X.cell? ⟨w.heap.size,3,none⟩=some (.slice a3 n3 k3))/\X.cell? ⟨w4.heap.size,0,none⟩=some (.slice s4.oa s4.os.length s4.oc)/\X.cell? ⟨w4.heap.size,1,none⟩=some (.slice s4.wa s4.wn s4.wc)/\X.cell? ⟨w4.heap.size,2,none⟩=some (.slice s4.ba s4.bn s4.bc)/\X.cell? ⟨w4.heap.size,3,none⟩=some (.slice s4.sa s4.sn s4.sc))
    (first|exact HS.out _ B9|exact HS.out _ B8|exact HS.out _ D6)
    (first
      |(go_at_call 8;refine(HT.out _ D6).mono ?_;rintro e w8 ⟨u8,rfl,O8,b8⟩;have B8:=D6.trans (b8.mono D6.size))
      |(go_at_call 11;refine(CE.out _ _ _ (HR6.out _ B8) (q0X O8)).mono ?_;rintro e w9 ⟨rfl,b9⟩;have B9:=B8.trans (b9.mono B8.size)))
   all_goals
    clear c0 c1 c2 c3 e0 e1 e2 e3;have B59:Below V5.heap.size V5 w9:=HB6.out.trans (B9.mono HB6.out.size);clear HR6 HT b8 O8 b9 B8 HS HT6 B9 D6;have hc4B:y0D w9 s4:=j0G HK4.out (HC4.out.trans (B59.mono HC4.out.size));have CM:Hid (∀_:Unit,_):=λ(_:Unit)=>v0P w9 s4 hc4B;rw[hv4]at CM;obtain⟨hk0,hk9⟩:=hK.out _ _ hc4B;generalize (s4.k3:Int)+(s4.sn:Int)=K at CM hk0 hk9;have HLT:Hid (∀q∈z0q s4,V3.heap.size<=q.1.block/\q.1.block<w4.heap.size):=λq hq=>⟨HM4.out q hq,(j0A HK4.out q hq).1⟩;generalize z0q s4=L1 at CM HLT;have x7:=HX7b.out _ (HC5.out.trans (B59.mono HC5.out.size));obtain⟨e0,e1,e2,e3⟩:=x7.cells;have HM9:Hid (HM w9 V4.heap.size sG RH):=q0c HM5V.out B59;have HX9:Hid (q0d w9 gX (.slice sG.oa sG.os.length sG.oc) (.slice sG.wa sG.wn sG.wc) (.slice sG.ba sG.bn sG.bc) (.slice sG.sa sG.sn sG.sc)):=HX8.out.later B59;have HY9:Hid (q0k w9 gY (.int .i64 rc) (.int .i64 rv) (.slice ga N gc)):=HY8.out.later B59;have HI9:Hid (q0i w9 V4.heap.size (.slice ga N gc) rf):=HI5V.out _ B59;have A9:Below V3.heap.size V3 w9:=HA5.out.trans (B59.mono HA5.out.size);have hs9:=B59.size;clear x7 hc4B B59;go_wp2_with fail
    refine(CM.out ()).mono ?_;rintro e w10 ⟨rfl,b10⟩;have hss:(q0C w9 L1).heap.size=w9.heap.size:=q0Z _ _;have hs10:w9.heap.size<=w10.heap.size:=by rw[<-hss];exact b10.size
    have N10:Below V3.heap.size w9 w10:=(z0M L1 (λq hq=>(HLT.out q hq).1) w9 bl0).trans (b10.mono (by omega));have A10:Below V3.heap.size V3 w10:=A9.trans N10
    have KB2:y0j V4.heap.size w9 w10:=⟨hs10,λg hg hl=>by
     rw[b10.block g hl,z0B L1 g (λq hq e=>by have:=(HLT.out q hq).2;omega)]⟩
    obtain⟨l1,l2,l3,l4,l5⟩:=HGX.out;have HM10:Hid (HM w10 V4.heap.size sG RH):=v0V HM9.out KB2;have HX10:Hid (q0d w10 gX (.slice sG.oa sG.os.length sG.oc) (.slice sG.wa sG.wn sG.wc) (.slice sG.ba sG.bn sG.bc) (.slice sG.sa sG.sn sG.sc)):=HX9.out.same (KB2.2 gX l1 (by omega));have HY10:Hid (q0k w10 gY (.int .i64 rc) (.int .i64 rv) (.slice ga N gc)):=HY9.out.same (KB2.2 gY l3 (by omega));have HI10:Hid (q0i w10 V4.heap.size (.slice ga N gc) rf):=q0v HI9.out (λg hg=>KB2.2 g (q0n HI9.out g hg).1 (q0n HI9.out g hg).2);clear hss b10 CM N10 A9 e0 e1 e2 e3 HLT KB2 HM9 HX9 HY9 HI9 l1 l2 l3 l4 l5;obtain⟨d0,d1,d2,d3⟩:=(HX6.out _ A10).cells;obtain⟨g0,g1,g2,g3⟩:=HX10.out.cells;go_wp2_with fail
    refine(CG.out _ _ _ (HRG.out _ HM10.out) (HRW.out _ A10)).mono ?_;rintro e w11 ⟨rfl,b11⟩;have A11:=A10.trans (b11.mono A10.size);have HI11:Hid (q0i w11 V4.heap.size (.slice ga N gc) rf):=q0o HI10.out b11;have HM11:Hid (HM w11 V4.heap.size sG RH):=q0c HM10.out b11;have HX11:Hid (q0d w11 gX (.slice sG.oa sG.os.length sG.oc) (.slice sG.wa sG.wn sG.wc) (.slice sG.ba sG.bn sG.bc) (.slice sG.sa sG.sn sG.sc)):=HX10.out.later b11;have HY11:Hid (q0k w11 gY (.int .i64 rc) (.int .i64 rv) (.slice ga N gc)):=HY10.out.later b11;have hs11:=b11.size;clear d0 d1 d2 d3 g0 g1 g2 g3 b11 A10 HM10 HX10 HI10 HY10;obtain⟨d0,d1,d2⟩:=(HXA.out _ A11).cells;obtain⟨g0,g1,g2⟩:=HY11.out.cells;go_wp2_with fail
    refine(CIQ.out _ _ _ (HAG.out _ HI11.out) (HIW.out _ A11)).mono ?_;rintro e w12 ⟨rfl,b12⟩;have A12:=A11.trans (b12.mono A11.size);have HI12:Hid (q0i w12 V4.heap.size (.slice ga N gc) rf):=q0o HI11.out b12;have HY12:Hid (q0k w12 gY (.int .i64 rc) (.int .i64 rv) (.slice ga N gc)):=HY11.out.later b12;have M12:HM w12 V4.heap.size sG RH:=q0c HM11.out b12;have X12:=HX11.out.later b12;have hs12:=b12.size;clear d0 d1 d2 g0 g1 g2 b12 A11 HX11 HM11 HI11 HY11;have MM:z1d w12 V4.heap.size sG RH:=x2v M12 HGL.out.1 HGL.out.2.1 HGL.out.2.2.1 HGL.out.2.2.2.1 HGL.out.2.2.2.2;have CM:Hid (∀_:Unit,_):=λ(_:Unit)=>v0P w12 sG MM.can;obtain⟨hk1,hk8⟩:=hK.out _ _ MM.can;have HLT:Hid (∀q∈z0q sG,V4.heap.size<=q.1.block/\q.1.block≠gX/\q.1.block≠gY/\q0u sG q.1.block):=λq hq=>⟨q2E MM.lo q hq,λe=>HBX.out.1 (e▸q1w q hq),λe=>HBX.out.2.1 (e▸q1w q hq),q1w q hq⟩;have HH:Hid (∀X,Below w12.heap.size (q0C w12 (z0q sG)) X->v0G X sG):=λX hX=>y1Y MM hX;have CH:Hid (∀X,v0G X sG->_):=λX hX=>x1K X sG hX ⟨MM.can.lo,MM.can.lf,MM.can.lw,MM.can.lb,MM.can.ls⟩;have hvG:=u1a sG;rw[hvG]at CM CH;generalize (sG.k3:Int)+(sG.sn:Int)=K2 at CM hk1 hk8 CH;generalize z0q sG=L2 at CM HLT HH;have HX12:Hid (q0d w12 gX (.slice sG.oa sG.os.length sG.oc) (.slice sG.wa sG.wn sG.wc) (.slice sG.ba sG.bn sG.bc) (.slice sG.sa sG.sn sG.sc)):=X12;obtain⟨g0,g1,g2,g3⟩:=X12.cells;clear M12 X12 MM;go_wp2_with fail
    refine(CM.out ()).mono ?_;rintro e w13 ⟨rfl,b13⟩;have hss:(q0C w12 L2).heap.size=w12.heap.size:=q0Z _ _;have hs13:w12.heap.size<=w13.heap.size:=by rw[<-hss];exact b13.size
    have N13:Below V4.heap.size w12 w13:=(z0M L2 (λq hq=>(HLT.out q hq).1) w12 bl0).trans (b13.mono (by have:=HA5.out.size;have:=HC5.out.size;omega));have A13:Below V3.heap.size V3 w13:=A12.trans (N13.mono HA4b.out.size);have HH13:Hid (v0G w13 sG):=HH.out _ b13
    have HX13:Hid (q0d w13 gX (.slice sG.oa sG.os.length sG.oc) (.slice sG.wa sG.wn sG.wc) (.slice sG.ba sG.bn sG.bc) (.slice sG.sa sG.sn sG.sc)):=HX12.out.same (by
     rw[b13.block _ HX12.out.lt,z0B L2 _ (λq hq=>(HLT.out q hq).2.1)])
    have HY13:Hid (q0k w13 gY (.int .i64 rc) (.int .i64 rv) (.slice ga N gc)):=HY12.out.same (by
     rw[b13.block _ HY12.out.lt,z0B L2 _ (λq hq=>(HLT.out q hq).2.2.1)])
    have HI13:Hid (q0i w13 V4.heap.size (.slice ga N gc) rf):=q0v HI12.out (λg hg=>by
     rw[b13.block g (q0n HI12.out g hg).2,z0B L2 g (λq hq e=>HD5.out g hg (by rw[<-e];exact(HLT.out q hq).2.2.2))])
    have HCG:Hid (v0I w13 ga N):=by obtain⟨a',c',e',hc',_⟩:=j0B HI13.out;simp only[Value.slice.injEq]at e';show v0I w13 ga N;rw[e'.1,<-HNN.out];exact hc'
    have hNl:N<=16777216:=HNL.out;have CMA:Hid (∀_:Unit,_):=λ(_:Unit)=>z3z w13 rc rv ga N gc K2 HCG.out hNl hk1 hk8;unfold q0m at CMA;clear hss b13 CM N13 A12 g0 g1 g2 g3 HH HLT HX12 HY12 HI12;obtain⟨g0,g1,g2⟩:=HY13.out.cells;go_wp2_with fail
    refine(CMA.out ()).mono ?_;rintro e w14 ⟨rfl,wm,hw14,bm⟩;have hsm:=bm.size;have hl5:V5.heap.size<=w13.heap.size:=by omega
    have HLG:Hid (∀q∈mkI ga K2 N,V4.heap.size<=q.1.block/\q.1.block<V5.heap.size/\q.1.block≠gX/\q.1.block≠gY/\¬q0u sG q.1.block):=λq hq=>by
     obtain⟨_,x,hx,e⟩:=x0M _ _ _ _ hq;rw[e];exact⟨(HGB.out x hx).1,(HGB.out x hx).2,(HBX.out.2.2 x hx).1,(HBX.out.2.2 x hx).2,HD5.out _ (by rw[hx];rfl)⟩
    have hs14:w14.heap.size=wm.heap.size:=by rw[hw14,q0Z]
    have A14:Below V3.heap.size V3 w14:=by rw[hw14];exact z0M _ (λq hq=>by have h1:=(HLG.out q hq).1;have h2:=HA4b.out.size;omega) wm (A13.trans (bm.mono A13.size))
    have HH14:Hid (v0G w14 sG):=by show v0G w14 sG;rw[hw14];exact u1C _ (q1r HH13.out bm) (λq hq=>(HLG.out q hq).2.2.2.2)
    have HX14:Hid (∀X,Below w14.heap.size w14 X->q0d X gX (.slice sG.oa sG.os.length sG.oc) (.slice sG.wa sG.wn sG.wc) (.slice sG.ba sG.bn sG.bc) (.slice sG.sa sG.sn sG.sc)):=λX hX=>by
     have h1:q0d w14 gX (.slice sG.oa sG.os.length sG.oc) (.slice sG.wa sG.wn sG.wc) (.slice sG.ba sG.bn sG.bc) (.slice sG.sa sG.sn sG.sc):=(HX13.out.later bm).same (by rw[hw14,z0B _ _ (λq hq e=>(HLG.out q hq).2.2.1 e)]);exact h1.later hX
    have HY14:Hid (∀X,Below w14.heap.size w14 X->q0k X gY (.int .i64 rc) (.int .i64 rv) (.slice ga N gc)):=λX hX=>by
     have h1:q0k w14 gY (.int .i64 rc) (.int .i64 rv) (.slice ga N gc):=(HY13.out.later bm).same (by rw[hw14,z0B _ _ (λq hq e=>(HLG.out q hq).2.2.2.1 e)]);exact h1.later hX
    have HGI:Hid (∀X,Below w14.heap.size w14 X->∀p∈mkI ga K2 N,X.cell? p.1=some p.2):=λX hX p hp=>by
     have h1:=z2f (k:=K2) (u0X HCG.out bm) p hp;rw[<-hw14]at h1;exact(hX.cell (World.block_lt_of_cell? w14 _ h1)).trans h1
    have HGA:Hid (0<N->∃g off,ga=some ⟨g,off,none⟩):=λhn=>by obtain⟨g,off,e,_⟩:=HCG.out 0 hn;exact⟨g,off,e⟩
    have CHI:Hid (∀X,Below w14.heap.size w14 X->_):=λX hX=>z3q X rc rv ga N gc K2 (HGI.out X hX) HGA.out hNl hk1 hk8;unfold q0m at CHI;have hkN:(0:Int)<=K2+(N:Int):=by omega
    generalize K2+(N:Int)=KN at hkN CHI ⊢;clear hw14 A13 HX13 HY13 HI13 HCG HLG HGI HGA HH13 CMA g0 g1 g2 bm;obtain⟨g0,g1,g2,g3⟩:=(HX14.out _ bl0).cells;go_wp2_with fail
    refine(CH.out _ HH14.out).mono ?_;rintro e w15 ⟨rfl,b15⟩;have HB15:Hid (Below w14.heap.size w14 w15):=b15;clear g0 g1 g2 g3 b15;obtain⟨g0,g1,g2⟩:=(HY14.out _ HB15.out).cells;go_wp2_with fail
    refine(CHI.out _ HB15.out).mono ?_;rintro e w15b ⟨rfl,b15b⟩;have HB15b:Hid (Below w14.heap.size w14 w15b):=HB15.out.trans (b15b.mono HB15.out.size);have A15b:Below V3.heap.size V3 w15b:=A14.trans (HB15b.out.mono A14.size);have HA15:Hid (Below V3.heap.size V3 w15b):=A15b;have T15:=HT3.out _ A15b;have HUP15:Hid (∀X,Below w15b.heap.size w15b X->Below W.heap.size W X):=λX hX=>T15.trans (hX.mono T15.size);clear g0 g1 g2 b15b A14 A15b T15 HB15;go_wp2;refine j1l 11 (by kernel_rfl) (by kernel_rfl) (JB w15b 4 (RH,⟨rc,rv,rf⟩) (A8 (.agg #[.slice a0 n0 k0,.slice a1 n1 k1,.slice a2 n2 k2,.slice a3 n3 k3]) (.agg #[.int .i64 o.kind,.int .i64 o.a,.int .i64 o.b,.int .i64 o.c,.string (txt o.site)]) H)) (λf=>⟨bl0.drew,λh=>h.elim,λh=>by simp at h,λh=>h.elim,λ_=>⟨λh=>h.elim,λh=>h.elim,λh=>h.elim,λh=>h.elim⟩,λh=>h.elim,λh=>h.elim,λh=>h.elim,λh=>h.elim⟩) ?_ ?_
    ·intro i o_ hi ho a X dn f hJ hA hf hn hdep
     match i,hi,ho with
     |0,_,ho=>
      cases ho
      exact q3M (q0f hA (t:=2) (by kernel_rfl)) (HK0.out X (HUP15.out X hJ.bel)) ⟨_,rfl,hJ.move (i:=0) (by decide) (by decide) bl0 hn (λe=>by omega) (λ_ h=>h.move 0 bl0 hn (λ_=>rfl) (λe=>by omega) (λe=>by omega) (λe=>by omega)) (λe=>by omega) (λe=>by omega) (λe=>by omega) (λe=>by omega) (λe=>by omega)⟩
     |1,_,ho=>
      cases ho
      have hd:dn 0:=hdep ⟨0,.data⟩ (by simp) rfl;have h4:¬dn 4:=λh=>hn (hJ.cl h).2;refine v4B ((hf 0 95 rfl).trans ((hJ.arg h4).l0 hd)) (CT.out X (HWB.out X (HUP15.out X hJ.bel))) ?_;rintro e X' ⟨u,rfl,O2,b2⟩;exact⟨_,rfl,_,rfl,hJ.move (i:=1) (by decide) (by decide) b2 hn (λe=>by omega) (λ_ h=>h.move 1 b2 hn (λe=>by omega) (λ_=>⟨q0X O2,q1A O2⟩) (λe=>by omega) (λe=>by omega)) (λe=>by omega) (λe=>by omega) (λe=>by omega) (λe=>by omega) (λe=>by omega)⟩
     |2,_,ho=>
      cases ho
      exact y2y (q0f hA (t:=3) (by kernel_rfl)) (HK1.out X (HUP15.out X hJ.bel)) ⟨_,rfl,hJ.move (i:=2) (by decide) (by decide) bl0 hn (λe=>by omega) (λ_ h=>h.move 2 bl0 hn (λe=>by omega) (λe=>by omega) (λ_=>rfl) (λe=>by omega)) (λe=>by omega) (λe=>by omega) (λe=>by omega) (λe=>by omega) (λe=>by omega)⟩
     |3,_,ho=>
      cases ho
      have hd:dn 2:=hdep ⟨2,.data⟩ (by simp) rfl;have h4:¬dn 4:=λh=>hn (hJ.cl h).1;refine v3v ((hf 2 97 rfl).trans ((hJ.arg h4).l2 hd)) (CTO.out X) ?_;rintro e X' ⟨rfl,b2⟩;exact⟨_,rfl,_,rfl,hJ.move (i:=3) (by decide) (by decide) b2 hn (λe=>by omega) (λ_ h=>h.move 3 b2 hn (λe=>by omega) (λe=>by omega) (λe=>by omega) (λ_=>rfl)) (λe=>by omega) (λe=>by omega) (λe=>by omega) (λe=>by omega) (λe=>by omega)⟩
     |4,_,ho=>
      cases ho
      have hd1:dn 1:=hdep ⟨1,.data⟩ (by simp) rfl;have hd3:dn 3:=hdep ⟨3,.data⟩ (by simp) rfl;obtain⟨r1,r2⟩:=(hJ.arg hn).l1 hd1;refine q5e (hf 1 96 rfl) ((hf 3 98 rfl).trans ((hJ.arg hn).l3 hd3)) (CI.out X _ r1 r2) ?_;rintro e X' ⟨s,vf,rfl,M,O,D,b2⟩;exact⟨_,rfl,_,rfl,hJ.call b2 hn hd3 hd1 M O D⟩
     |5,_,ho=>
      cases ho
      have hd:dn 4:=hdep ⟨4,.data⟩ (by simp) rfl;exact z0p (hf 4 99 rfl) ⟨_,rfl,hJ.move (i:=5) (by decide) (by decide) bl0 hn (λ_=>hd) (λh=>absurd hd h) (λ_=>rfl) (λe=>by omega) (λe=>by omega) (λe=>by omega) (λe=>by omega)⟩
     |6,_,ho=>
      cases ho
      have hd1:dn 5:=hdep ⟨5,.data⟩ (by simp) rfl;have hd:dn 4:=hJ.cl2 (.inl hd1);obtain⟨s,vf,j⟩:=hJ.res hd;exact v3r ((hf 5 94 rfl).trans (j.e1 hd1)) ⟨_,rfl,hJ.move (i:=6) (by decide) (by decide) bl0 hn (λ_=>hd) (λh=>absurd hd h) (λe=>by omega) (λ_ s2 vf2 j2=>(j.same j2).1) (λe=>by omega) (λe=>by omega) (λe=>by omega)⟩
     |7,_,ho=>
      cases ho
      have hd1:dn 5:=hdep ⟨5,.data⟩ (by simp) rfl;have hd:dn 4:=hJ.cl2 (.inl hd1);obtain⟨s,vf,j⟩:=hJ.res hd;exact u2D ((hf 5 94 rfl).trans (j.e1 hd1)) ⟨_,rfl,hJ.move (i:=7) (by decide) (by decide) bl0 hn (λ_=>hd) (λh=>absurd hd h) (λe=>by omega) (λe=>by omega) (λ_ s2 vf2 j2=>(j.same j2).2) (λe=>by omega) (λe=>by omega)⟩
     |8,_,ho=>
      cases ho
      exact q2F ⟨_,rfl,hJ.move (i:=8) (by decide) (by decide) (bl1 _) hn (λe=>by omega) (λ_ h=>h.move 8 (bl1 _) hn (λe=>by omega) (λe=>by omega) (λe=>by omega) (λe=>by omega)) (λe=>by omega) (λe=>by omega) (λe=>by omega) (λ_=>⟨_,rfl,Nat.le_refl _,q0d.new X _ _ _ _⟩) (λe=>by omega)⟩
     |9,_,ho=>
      cases ho
      exact x2F ⟨_,rfl,hJ.move (i:=9) (by decide) (by decide) (bl1 _) hn (λe=>by omega) (λ_ h=>h.move 9 (bl1 _) hn (λe=>by omega) (λe=>by omega) (λe=>by omega) (λe=>by omega)) (λe=>by omega) (λe=>by omega) (λe=>by omega) (λe=>by omega) (λ_=>⟨_,rfl,Nat.le_refl _,q0k.new X _ _ _⟩)⟩
     |10,_,ho=>
      cases ho
      have hd2:dn 6:=hdep ⟨6,.data⟩ (by simp) rfl;have hd4:dn 8:=hdep ⟨8,.data⟩ (by simp) rfl;have hd:dn 4:=hdep ⟨4,.chain⟩ (by simp) rfl;obtain⟨s,vf,j⟩:=hJ.res hd;obtain⟨g,eg,_,_,hF⟩:=hJ.b8 hd4;exact v0t ((hf 8 14 rfl).trans eg) ((hf 6 100 rfl).trans (j.e2 hd2)) (hF hn) ⟨undef,rfl,hJ.store hn hd hd4 j eg⟩
    ·intro o_ ho a X dn f hJ hA hf hall
     cases ho
     obtain⟨sP,vR,j⟩:=hJ.res (hall 4 (by omega));obtain⟨gP,eH,lH,uH,-⟩:=hJ.b8 (hall 8 (by omega));obtain⟨gQ,eA,lA,tA⟩:=hJ.b9 (hall 9 (by omega));have hne:gQ≠gP:=λe=>hJ.df (hall 8 (by omega)) (hall 9 (by omega)) (by rw[eH,eA,e]);obtain⟨fp,fpc,hvR,-⟩:=q0Y j.o;subst hvR;have FH:=j.st (hall 10 (by omega)) gP eH;have farA:=j.far 9 (.inr rfl) (hall 9 (by omega)) gQ eA;have e3_:f 7= .agg #[.int .i64 rc,.int .i64 rv,.slice fp rf.length fpc]:=j.e3 (hall 7 (by omega));refine y0x ((hf 9 15 rfl).trans eA) ((hf 7 101 rfl).trans e3_) tA ?_;clear e3_;obtain⟨us3,hus,rfl⟩:=q0F hA [95,96,97,98,99,94,100,101,14,15] (by kernel_rfl);have u14:us3 14= .pointer (some ⟨gP,0,none⟩):=(hus 14).symm.trans ((hf 8 14 rfl).trans eH);have u15:us3 15= .pointer (some ⟨gQ,0,none⟩):=(hus 15).symm.trans ((hf 9 15 rfl).trans eA);have HMZ:Hid (HM (q0g X gQ (.int .i64 rc) (.int .i64 rv) (.slice fp rf.length fpc)) w15b.heap.size sP RH):=y0l j.m (by rw[x0k];exact Nat.le_refl _) (λg hg=>q0Q _ _ _ _ _ g (λe=>farA.1 (e▸hg)));have HOZ:Hid (q0i (q0g X gQ (.int .i64 rc) (.int .i64 rv) (.slice fp rf.length fpc)) w15b.heap.size (.slice fp rf.length fpc) rf):=q0v j.o (λg hg=>q0Q _ _ _ _ _ g (λe=>farA.2 (e▸hg)));have HFZ:Hid (q0d (q0g X gQ (.int .i64 rc) (.int .i64 rv) (.slice fp rf.length fpc)) gP (.slice sP.oa sP.os.length sP.oc) (.slice sP.wa sP.wn sP.wc) (.slice sP.ba sP.bn sP.bc) (.slice sP.sa sP.sn sP.sc)):=FH.same (q0Q _ _ _ _ _ gP hne.symm)
     have HTZ:Hid (q0k (q0g X gQ (.int .i64 rc) (.int .i64 rv) (.slice fp rf.length fpc)) gQ (.int .i64 rc) (.int .i64 rv) (.slice fp rf.length fpc)):=by show q0k _ _ _ _ _;unfold q0g;exact heap_setCell_same _ _ 2 _ _ _ (heap_setCell_same _ _ 1 _ _ _ (heap_setCell_same _ _ 0 _ _ _ tA))
     have HBZ:Hid (Below w15b.heap.size w15b (q0g X gQ (.int .i64 rc) (.int .i64 rv) (.slice fp rf.length fpc))):=by
      show Below _ _ _;unfold q0g;iterate 3 refine Below.setCell ?_ (by simp only;exact lA) _
      exact hJ.bel
     have HDR:Hid (∀g,(Value.slice fp rf.length fpc).ownBlock=some g->¬q0u sP g):=j.d;have HFA:Hid (¬q0u sP gQ/\(Value.slice fp rf.length fpc).ownBlock≠some gQ):=farA;have HFH:Hid (¬q0u sP gP/\(Value.slice fp rf.length fpc).ownBlock≠some gP):=j.far 8 (.inl rfl) (hall 8 (by omega)) gP eH;obtain⟨V7,hV7⟩:∃V,V=q0g X gQ (.int .i64 rc) (.int .i64 rv) (.slice fp rf.length fpc):=⟨_,rfl⟩;rw[<-hV7]at HMZ HOZ HFZ HTZ HBZ;rw[HNN.out]at hV7 HOZ HTZ HDR HFA HFH ⊢;have HX17:Hid (q0d V7 gP (.slice sP.oa sP.os.length sP.oc) (.slice sP.wa sP.wn sP.wc) (.slice sP.ba sP.bn sP.bc) (.slice sP.sa sP.sn sP.sc)):=HFZ.out;have HY17:Hid (q0k V7 gQ (.int .i64 rc) (.int .i64 rv) (.slice fp N fpc)):=HTZ.out;have A17:Below V3.heap.size V3 V7:=HA15.out.trans (HBZ.out.mono HA15.out.size);have HB17:Hid (Below w14.heap.size w14 V7):=HB15b.out.trans (HBZ.out.mono HB15b.out.size);have HR17:Hid (RdH V7 (.agg #[.slice sP.oa sP.os.length sP.oc,.slice sP.wa sP.wn sP.wc,.slice sP.ba sP.bn sP.bc,.slice sP.sa sP.sn sP.sc]) RH):=q0K HMZ.out
     have HA17:Hid (∀Y,Below V7.heap.size V7 Y->RdA Y (.agg #[.int .i64 rc,.int .i64 rv,.slice fp N fpc]) ⟨rc,rv,rf⟩):=λY hY=>by
      obtain⟨a',c',e',hr'⟩:=z0e HOZ.out;simp only[Value.slice.injEq]at e';exact⟨fp,fpc,by rw[HNN.out],q0t (by rw[e'.1];exact hr') hY⟩
     clear hJ hA hf hall j FH farA eH eA lH uH lA tA hne HMZ HOZ HFZ HTZ HBZ HDR HFA HFH;simp only[List.mapIdx_cons,List.mapIdx_nil,Nat.reduceAdd,List.contains_cons,List.contains_nil,Nat.reduceBEq,Bool.or_false,Bool.or_true,if_true,if_false,Bool.false_eq_true];rw[u14,u15,<-hV7];clear u14 u15 hV7 hus;obtain⟨g0,g1,g2,g3⟩:=HX17.out.cells;obtain⟨d0,d1,d2,d3⟩:=(HX6.out _ A17).cells;go_wp2_with fail
     refine(CG.out _ _ _ HR17.out (HRW.out _ A17)).mono ?_;rintro e w18 ⟨rfl,b18⟩;have A18:=A17.trans (b18.mono A17.size);have HB18:Hid (Below w14.heap.size w14 w18):=HB17.out.trans (b18.mono HB17.out.size);clear g0 g1 g2 g3 d0 d1 d2 d3;obtain⟨g0,g1,g2⟩:=(HY17.out.later b18).cells;obtain⟨d0,d1,d2⟩:=(HXA.out _ A18).cells;go_wp2_with fail
     refine(CIQ.out _ _ _ (HA17.out _ b18) (HIW.out _ A18)).mono ?_;rintro e w19 ⟨rfl,b19⟩;have A19:=A18.trans (b19.mono A18.size);have HZ19:Hid (Below w14.heap.size w14 w19):=HB18.out.trans (b19.mono HB18.out.size);clear g0 g1 g2 d0 d1 d2 b18 b19 A17 A18;obtain⟨g0,g1,g2,g3⟩:=(HX14.out _ HZ19.out).cells;go_wp2_with fail
     refine(CH.out _ (q1r HH14.out HZ19.out)).mono ?_;rintro e w20 ⟨rfl,b20⟩;have HZ20:Hid (Below w14.heap.size w14 w20):=HZ19.out.trans (b20.mono HZ19.out.size);have A20:=A19.trans (b20.mono A19.size);clear b20 A19 g0 g1 g2 g3;obtain⟨g0,g1,g2⟩:=(HY14.out _ HZ20.out).cells;go_wp2_with fail
     refine(CHI.out _ HZ20.out).mono ?_;rintro e w21 ⟨rfl,b21⟩;have T21:=HWB.out _ (HT3.out _ (A20.trans (b21.mono A20.size)));clear b21 A20 g0 g1 g2;go_wp2;go_ret
     exact⟨rfl,T21⟩
end
section
open Go.RowKit
variable{H:q0a}
def u1v(R:q0a×z0D):Prop:=(R.1.objs.length<=16777216/\(∀z∈R.1.objs,z.field.length<=16777216)/\R.1.weaks.length<=16777216/\R.1.buffer.length<=16777216/\R.1.sites.length<=16777216)/\R.2.freed.length<=16777216
theorem x0w(hs:q0h H)(c v:Int):u1v (H,⟨c,v,[]⟩):=by have h0:=hs.objs;have h1:=hs.fields;have h2:=hs.weaks;have h3:=hs.buffer;have h4:=hs.sites;exact⟨⟨by show H.objs.length<=_;omega,λz hz=>by have:=h1 z hz;omega,by show H.weaks.length<=_;omega,by show H.buffer.length<=_;omega,by show H.sites.length<=_;omega⟩,by simp⟩
theorem y2h(H:q0a)(id:Int)(h:q0h H)(hw:∀z∈H.objs,∀x∈z.field,q0w x)(hi:q0w id):u1v (j0h H id):=by
 have key:∀n(G:q0a)(todo fr:List Int),j1S G todo fr->∃t2,j1S (u0n n G todo fr).1 t2 (u0n n G todo fr).2:=by
  intro n
  induction n with
  |zero=>intro G todo fr hk;exact⟨todo,hk⟩
  |succ n ih=>
   intro G todo fr hk
   cases todo with
   |nil=>exact⟨[],hk⟩
   |cons id rest=>
    by_cases h8:8<fr.length
    ·rw[u0n,if_pos h8];exact⟨_,hk⟩
    ·rw[j1w (by omega)];exact ih _ _ _ (q2e hk (by omega)).1
 obtain⟨t2,hk⟩:=key (muL [id] []) H [id] [] (u1U h hw (by simp) (λx hx=>by simp at hx;subst hx;exact hi)).ok;unfold j0h z0F;have h0:=hk.objs;have h1:=hk.weaks;have h2:=hk.sites;have h3:=hk.buf;have h4:=hk.frl;refine⟨⟨?_,λz hz=> ?_,?_,?_,?_⟩,?_⟩
 ·show(u0n _ _ _ _).1.objs.length<=_;omega
 ·have:=hk.fields z hz;omega
 ·show(u0n _ _ _ _).1.weaks.length<=_;omega
 ·show(u0n _ _ _ _).1.buffer.length<=_;omega
 ·show(u0n _ _ _ _).1.sites.length<=_;omega
 ·show(u0n _ _ _ _).2.length<=_;omega
theorem x4a(hs:q0h H)(x:List UInt8):u1v (x0o H x):=by
 unfold x0o;split
 ·exact x0w hs 2 0
 split
 ·exact x0w hs 3 0
 split
 ·exact x0w hs 6 0
 split
 ·exact x0w hs 3 0
 ·have h0:=hs.objs;have h1:=hs.fields;have h2:=hs.weaks;have h3:=hs.buffer;have h4:=hs.sites
  have hn:(q1U H x).objs=H.objs/\(q1U H x).weaks=H.weaks/\(q1U H x).buffer=H.buffer/\(q1U H x).sites.length<=H.sites.length+1:=by
   unfold q1U;split
   ·exact⟨rfl,rfl,rfl,by simp⟩
   ·exact⟨rfl,rfl,rfl,by omega⟩
  obtain⟨e0,e2,e3,e4⟩:=hn;refine⟨⟨?_,λz hz=> ?_,?_,?_,?_⟩,by simp⟩
  ·simp only[q0r,List.length_set,e0];omega
  ·rcases z1r hz with hz|rfl
   ·rw[e0]at hz;have:=h1 z hz;omega
   ·simp[y0X]
  ·show(q1U H x).weaks.length<=_;rw[e2];omega
  ·show(q1U H x).buffer.length<=_;rw[e3];omega
  ·show(q1U H x).sites.length<=_;omega
theorem y4z(hs:q0h H)(hw:∀z∈H.objs,∀x∈z.field,q0w x)(k a:Int)(ha:q0w a):u1v (z0Y H k a):=by
 unfold z0Y;split
 ·exact x0w hs 1 0
 split
 ·exact x0w hs 1 0
 ·rename_i o ho
  have hm:=List.mem_of_getElem? ho;have hl:=hs.fields o hm;have hx:=hw o hm;split
  ·split
   ·exact x0w hs 4 0
   ·exact x0w (u0w (x0W hs _ {o with holds:=o.holds+1} hl) a) 0 0
  split
  ·split
   ·exact x0w hs 4 0
   ·exact x0w (u0w (x0W hs _ {o with roots:=o.roots+1} hl) a) 0 0
  split
  ·split
   ·exact x0w hs 5 0
   ·exact y2h _ a (x0W hs _ {o with holds:=o.holds - 1} hl) (j0D hw _ {o with holds:=o.holds - 1} hx) ha
  ·split
   ·exact x0w hs 5 0
   ·exact y2h _ a (x0W hs _ {o with roots:=o.roots - 1} hl) (j0D hw _ {o with roots:=o.roots - 1} hx) ha
theorem x4b(hs:q0h H)(hw:∀z∈H.objs,∀x∈z.field,q0w x)(a b c:Int)(hc:q0w c):u1v (x0c H a b c):=by
 unfold x0c;split
 ·exact x0w hs 1 0
 split
 ·exact x0w hs 2 0
 split
 ·exact x0w hs 1 0
 ·rename_i o ho
  have hm:=List.mem_of_getElem? ho;have hl:=(u0w hs c).fields o hm;have hx:=j1H hw c o hm;refine y2h _ _ (x0W (u0w hs c) _ {o with field:=o.field.set b.toNat c} (by simpa using hl)) (j0D (j1H hw c) _ {o with field:=o.field.set b.toNat c} (λx h=> ?_)) ?_
  ·rcases List.mem_or_eq_of_mem_set h with h|rfl
   ·exact hx x h
   ·exact hc
  ·rw[List.getD_eq_getElem?_getD]
   cases h:o.field[b.toNat]?with
   |none=>exact⟨by decide,by decide⟩
   |some x=>exact hx x (List.mem_of_getElem? h)
theorem q3j(hs:q0h H)(k:Nat)(d:x0g)(v:Int):u1v ({H with weaks:=H.weaks.set k d},⟨0,v,[]⟩):=by have h0:=hs.objs;have h1:=hs.fields;have h2:=hs.weaks;have h3:=hs.buffer;have h4:=hs.sites;exact⟨⟨by show H.objs.length<=_;omega,λz hz=>by have:=h1 z hz;omega,by show(H.weaks.set k d).length<=_;simp;omega,by show H.buffer.length<=_;omega,by show H.sites.length<=_;omega⟩,by simp⟩
theorem y4y(hs:q0h H)(h8:H.objs.length=8):u1v (j0c H,⟨0,0,y0v H⟩):=by
 have hl:(j0c H).objs.length=8:=by simp[j0c,z0t,h8]
 have hT8:=z1F H hs h8 H.buffer.length;have h1:=(z1R hs 8).fields;have h2:=(z1R hs 8).weaks;have h3:=(z1R hs 8).sites;have e:=u2v H 8 (by omega);rw[<-e]at hl ⊢;refine⟨⟨?_,λz hz=> ?_,?_,?_,?_⟩,?_⟩
 ·show(kup H 8).objs.length<=_
  rw[j1K];omega
 ·have:=h1 z hz;omega
 ·show(kup H 8).weaks.length<=_;omega
 ·show([]:List Int).length<=_;simp
 ·show(kup H 8).sites.length<=_;omega
 ·have key:∀(zs:List Int)(i:Int),(x0f zs i).length<=zs.length:=by
   intro zs
   induction zs with
   |nil=>intro i;simp[x0f]
   |cons o r ih=>intro i;unfold x0f;have:=ih (i+1);split<;>simp<;>omega
  have h4:=key (z0K H).colors 0;have h5:(z0K H).colors.length=8:=hT8.2;show(y0v H).length<=_;unfold y0v x0l;rw[List.length_map];omega
theorem q5l{o:OpD}(hs:q0h H)(hf:WfH H)(ho:q2t o)(q:Bool)(hq:q=true↔OkH H):u1v (y2f q H o):=by
 have hw:=x1g hf;unfold y2f;split
 ·rename_i e
  have hok:=hq.1 e;unfold x0z;split
  ·exact x4a hs _
  split
  ·exact y4z hs hw _ _ ho.a
  split
  ·exact x4b hs hw _ _ _ ho.c
  split
  ·unfold j0Y;split
   ·exact x0w hs 1 0
   split
   ·exact x0w hs 3 0
   ·exact q3j hs _ _ _
  split
  ·unfold q1H;split
   ·exact x0w hs 2 0
   ·exact x0w hs 0 _
  split
  ·unfold q1G;split
   ·exact x0w hs 2 0
   ·exact q3j hs _ _ _
  split
  ·exact y4y hs hok.size.1
  ·exact x0w hs 2 0
 ·exact x0w hs 2 0
end
end Go.Proofs.YtebgngofnmcklaaGreat
