/- Lemmas. -/
import Derived.Lib.AppendStr
import Derived.Test.YtipfpppcbmpjiaaGreatZC7
import Derived.Deep.Cut
set_option linter.unusedVariables false
set_option maxHeartbeats 16000000
set_option maxRecDepth 100000
set_option linter.unusedSimpArgs false
namespace Go.Proofs.YtipfpppcbmpjiaaGreat
open Go.RowKit
theorem ti_bytes:TI Tryz.prog 22 5 (.int .u8 0) 1 1:=⟨by kernel_rfl,by kernel_rfl⟩
def Bytes (base:Nat)(v:Value)(s:ByteArray)(w:World):Prop:=w.ownsRow base 5 1 v s.size (Lib.strCells s)
theorem Zkm (a b:ByteArray):Lib.strCells (a++b)=Lib.strCells a++Lib.strCells b:=by
 simp[Lib.strCells,ByteArray.data_append]
theorem Bytes.none (base:Nat)(w:World):Bytes base (.slice Option.none 0 0) ⟨#[]⟩ w:=World.ownsRow_nil _ _ _ _
variable {o:Oper}
theorem Zfh {w0:World}{ops:Array Oper}{rest:List Oper}{a:Act}{Q:Exit->Act->World->Prop}(hg:o.guard=Option.none)(s y:Operand)
  (ho:o.op=.call { callee:=.builtin .append,args:=#[s,y],argTypes:=#[22,22] })
  (base:Nat) (v:Value) (x b:ByteArray) (c:Int) (hs:a.eval s=v) (ag:Bytes base v x w0) (hy:a.eval y=.slice (some ⟨w0.heap.size,0,Option.none⟩) 1 1) (hb:Lib.strCells b=[.int .u8 c]) (dz:x.size<=1000000) (aK:base<=w0.heap.size)
  (h:∀v' w',Bytes base v' (x++b) w'->w0.grownBy w' v.ownBlock->wpList Tryz.prog ops Q rest (a.put o.dst v') w'):wpList Tryz.prog ops Q (o::rest) a (w0.alloc (.cells #[.int .u8 c] 5)):=by
 have aG:b.size=1:=by have:=JY List.length hb;rwa [Lib.strCells_length]at this
 refine Zck ti_bytes rfl w0 (.int .u8 c) rfl hg s y ho base v x.size (Lib.strCells x) hs ag hy (by unfold maxLen;omega) (by omega) aK λv' w' h1 h2=>h v' w' ?_ h2;unfold Bytes;rw[Zkm,QK,hb,aG];exact h1
theorem Zog (s:ByteArray)(k:Nat)(h:k<s.size):Lib.strCells (s.extract k (k+1))=[.int .u8 (s[k].toNat:Int)]:=by
 have e:s.data.toList.length=s.size:=Array.length_toList;unfold Lib.strCells;rw[ByteArray.data_extract,Array.toList_extract,List.extract_eq_take_drop,Qj (by omega),show k+1-k=1 from by omega];simp[Qx]
variable {w:World}
theorem Zk5 {base:Nat}{v:Value}{s:ByteArray}(h:Bytes base v s w):(convert 22 9 v).run Tryz.prog w=.ok (.string s) w:=by
 rcases h.2 with⟨rfl,h0⟩ | ⟨g,cap,cur,rfl,hb,hg,j7,gL,aS,lx⟩
 ·rw[run_convert_bytes_string _ _ _ 5 _ 0 0 Tryz.underlying22 Tryz.underlying5 Tryz.underlying9];have:s=⟨#[]⟩:=by apply Go.WideShapes.bytes_inj;rw[←QU,Array.length_toList];exact h0
  subst this;simp[Conv.bytesToString,loadCells];rfl
 ·have hl:s.data.toList.length=s.size:=Array.length_toList
  have:=run_convert_bytes_back (P:=Tryz.prog) w 22 9 5 ⟨g,0,Option.none⟩ cap s.data.toList Tryz.underlying22 Tryz.underlying5 Tryz.underlying9 (λj hj=>by
   have h1:=h.cellAt j (by omega);have h2:(Lib.strCells s)[j]?=some (.int .u8 (s.data.toList[j].toNat:Int)):=(by simp[Lib.strCells,QJ hj]);rw[JN,QX]
   exact h1.trans h2)
  rw[hl]at this;simpa using this
def Drawn (rb p n M:Nat)(w:World)(e:Ending)(w':World):Prop:=∃(s:ByteArray) (q:Nat),e=.returned (.string s)/\s.size<=M/\q<=p+n/\Rd w' rb q/\Kept [rb] w w'
def ZlV:List ByteArray:=[⟨#[10]⟩,⟨#[127]⟩,⟨#[64]⟩,⟨#[34,115]⟩,⟨#[97,98,99,100,101,102,103,104,105,106,107,108,109]⟩,⟨#[92]⟩]
theorem Zk6:∀s∈ZlV,s.size<=13:=by decide
theorem Y8A1 {g:Prop}(h:g:=by
 obtain⟨⟨p1,m6,bR⟩,iE⟩:=hJ;simp only[Zav,Qp,QL,QN]at hK ⊢;go_wp2_with (go_at_call 53;refine(ZdO rb p1 _ _ bR (by omega) (by omega) (by omega)).mono ?_;rintro e w2⟨rr,rfl,wl,wm,hRq,hkq⟩)
 exact hK _ _ (At.mk rfl ⟨rr,rfl,wl,by omega⟩) hkq ⟨⟨p1+1,by omega,hRq⟩,iE.trans hkq⟩):g:=h
theorem Y8A2 {g:Prop}(h:g:=by
 replace hm:m<14:=hm;obtain⟨x0,x1,x2,x3,x4,x5,x6,x7,x8,x9,aV,aU,aW,aZ,rfl⟩:=Zbo hl;clear aP;clear hf ho;simp only[Zav,Qp,QL,QN]at hK ⊢;go_wp2
 exact hK _ _ (At.mk rfl rfl) (Kept.refl _ _) hJ.same):g:=h
theorem l20Line (rb p:Nat)(n:Int)(w:World)(H:Rd w rb p)(hp:p<=100000)(hn:n<=100)(ke:0<=n):
  Calls Tryz.prog 57 #[.pointer (some ⟨rb,0,none⟩),.int .i64 n] w (Drawn rb p 110 1000 w):=by
 go_enter Tryz.func57,Tryz.ntmps57;go_wp2_with (go_at_call 53;refine(ZdO rb p _ _ H (by omega) (by omega) (by omega)).mono ?_;rintro e w2⟨r,rfl,h0,h1,bN,hK⟩)
 go_loopw [5,6] (λo i wr=>∃(k q:Nat) (out:ByteArray),k<=6/\q+14*k<=p+100/\out.size+20*k<=500/\o=.string out/\i=.int .i64 k/\Rd wr rb q/\Kept [rb] w wr) (λ_ i _=>(intOf i).toNat)
 case atStart=>exact⟨r.toNat,p+1,_,by omega,by omega,by show 0+_<=_;omega,rfl,by go_num,bN,hK⟩
 case round =>
  obtain⟨k,q,out,hk,hq,ho,rfl,rfl,hR,hB⟩:=hrel;clear bN hK;by_cases af:0<k
  ·go_wp2;refine ZgG (P:=Tryz.prog) (by kernel_rfl) (by kernel_rfl) (Kept [rb]) [Zfg (.string out),Zfy [rb] 20 6,Zfg (.pointer (some ⟨rb,0,none⟩)),pInt 20,pPtr [rb] 6,Zc2 6,Zc2 (out.size+6),Zfy [rb] 2 1,Zfg (.pointer (some ⟨rb,0,none⟩)),pInt 2,pPtr [rb] 1,Zc2 1,Zc2 ((out.size+6)+1),Zc2 ((out.size+6)+1)] (ZjA ⟨ZiR _,Zkl _ _,ZiR _,stInt _,stPtr _,Zfz _,Zfz _,Zkl _ _,ZiR _,stInt _,stPtr _,Zfz _,Zfz _,Zfz _,trivial⟩) (jRd rb q wr) ?start (ZlU ⟨?s0,?s1,?s2,?s3,?s4,?s5,?s6,?s7,?s8,?s9,?s10,?s11,?s12,?s13,trivial⟩) ?done;case start=>exact jRd.start hR
   case s0 =>
    intro xs w' m hl hm hJ aP hf ho K hK;replace hm:m<14:=hm;obtain⟨x0,x1,x2,x3,x4,x5,x6,x7,x8,x9,aV,aU,aW,aZ,rfl⟩:=Zbo hl;obtain rfl:aZ=.string out:=(by have:=ho 13 _ rfl (.inr ⟨⟨0,.phase⟩,by simp,rfl,rfl⟩);simpa[Zep]using this);clear aP;clear hf ho;simp only[Zav,Qp,QL,QN]at hK ⊢;go_wp2;exact hK _ _ (At.mk rfl rfl) (Kept.refl _ _) hJ.same
   case s1 =>
    intro xs w' m hl hm hJ aP hf ho K hK;replace hm:m<14:=hm;obtain⟨x0,x1,x2,x3,x4,x5,x6,x7,x8,x9,aV,aU,aW,aZ,rfl⟩:=Zbo hl;clear aP;clear hf ho;simp only[Zav,Qp,QL,QN]at hK ⊢;go_wp2;exact hK _ _ (At.mk rfl (ZgH [⟨#[97]⟩,⟨#[98]⟩,⟨#[102,40]⟩,⟨#[120]⟩,⟨#[41]⟩,⟨#[32]⟩,⟨#[44]⟩,⟨#[43]⟩,⟨#[49]⟩,⟨#[49,50]⟩,⟨#[34,115,34]⟩,⟨#[103,40,49,44,50,41]⟩,⟨#[102,40,97,41]⟩,⟨#[40]⟩,⟨#[65,66]⟩,⟨#[32,45,32]⟩,⟨#[61,61]⟩,⟨#[104,40,98,32,99,41]⟩,⟨#[101,40,41]⟩,⟨#[38,38]⟩] 6 [rb] w' (by decide) hJ.lts 20 rfl)) (Kept.of_below ((QD _ _).alloc (QA _) _)) (hJ.alloc _)
   case s2 =>
    intro xs w' m hl hm hJ aP hf ho K hK;exact Y8A2
   case s3 =>
    intro xs w' m hl hm hJ aP hf ho K hK;replace hm:m<14:=hm;obtain⟨x0,x1,x2,x3,x4,x5,x6,x7,x8,x9,aV,aU,aW,aZ,rfl⟩:=Zbo hl;have f2:Zfg (.pointer (some ⟨rb,0,none⟩)) x2 w':=hf ⟨2,.data⟩ (by simp) rfl _ rfl _ rfl;clear aP;clear hf ho;obtain rfl:=f2;exact Y8A1
   case s4 =>
    intro xs w' m hl hm hJ aP hf ho K hK;replace hm:m<14:=hm;obtain⟨x0,x1,x2,x3,x4,x5,x6,x7,x8,x9,aV,aU,aW,aZ,rfl⟩:=Zbo hl;have f1:Zfy [rb] 20 6 x1 w':=hf ⟨1,.data⟩ (by simp) rfl _ rfl _ rfl;have f3:pInt 20 x3 w':=hf ⟨3,.data⟩ (by simp) rfl _ rfl _ rfl;clear aP;clear hf ho;obtain⟨ba,rfl,iP,bH,m7⟩:=f1;obtain⟨ri,rfl,hii,ws⟩:=f3;obtain⟨s,fJ,gP⟩:=m7 ri.toNat (by omega);simp only[Zav,Qp,QL,QN]at hK ⊢;go_wp2;exact hK _ _ (At.mk rfl ⟨ba,_,s,rfl,iP,bH,fJ,gP⟩) (Kept.refl _ _) hJ.same
   case s5 =>
    intro xs w' m hl hm hJ aP hf ho K hK;replace hm:m<14:=hm;obtain⟨x0,x1,x2,x3,x4,x5,x6,x7,x8,x9,aV,aU,aW,aZ,rfl⟩:=Zbo hl;have f4:pPtr [rb] 6 x4 w':=hf ⟨4,.data⟩ (by simp) rfl _ rfl _ rfl;clear aP;clear hf ho;obtain⟨ba,ja,sa,rfl,iP,bH,m7,m8⟩:=f4;simp only[Zav,Qp,QL,QN]at hK ⊢;go_wp2;exact hK _ _ (At.mk rfl ⟨_,rfl,m8⟩) (Kept.refl _ _) hJ.same
   case s6 =>
    intro xs w' m hl hm hJ aP hf ho K hK;replace hm:m<14:=hm;obtain⟨x0,x1,x2,x3,x4,x5,x6,x7,x8,x9,aV,aU,aW,aZ,rfl⟩:=Zbo hl;have f0:Zfg (.string out) x0 w':=hf ⟨0,.data⟩ (by simp) rfl _ rfl _ rfl;have f5:Zc2 6 x5 w':=hf ⟨5,.data⟩ (by simp) rfl _ rfl _ rfl;clear aP;clear hf ho;obtain rfl:=f0;obtain⟨sb,rfl,zH⟩:=f5;have oH:=λW=>run_string_add_sum (P:=Tryz.prog) W out sb (by omega);simp only[Zav,Qp,QL,QN]at hK ⊢;go_wp2;exact hK _ _ (At.mk rfl ⟨_,rfl,by rw[QK];omega⟩) (Kept.refl _ _) hJ.same
   case s7 =>
    intro xs w' m hl hm hJ aP hf ho K hK;replace hm:m<14:=hm;obtain⟨x0,x1,x2,x3,x4,x5,x6,x7,x8,x9,aV,aU,aW,aZ,rfl⟩:=Zbo hl;clear aP;clear hf ho;simp only[Zav,Qp,QL,QN]at hK ⊢;go_wp2;exact hK _ _ (At.mk rfl (ZgH [⟨#[]⟩,⟨#[32]⟩] 1 [rb] w' (by decide) hJ.lts 2 rfl)) (Kept.of_below ((QD _ _).alloc (QA _) _)) (hJ.alloc _)
   case s8 =>
    intro xs w' m hl hm hJ aP hf ho K hK;exact Y8A2
   case s9 =>
    intro xs w' m hl hm hJ aP hf ho K hK;replace hm:m<14:=hm;obtain⟨x0,x1,x2,x3,x4,x5,x6,x7,x8,x9,aV,aU,aW,aZ,rfl⟩:=Zbo hl;have f8:Zfg (.pointer (some ⟨rb,0,none⟩)) x8 w':=hf ⟨8,.data⟩ (by simp) rfl _ rfl _ rfl;clear aP;clear hf ho;obtain rfl:=f8;exact Y8A1
   case s10 =>
    intro xs w' m hl hm hJ aP hf ho K hK;replace hm:m<14:=hm;obtain⟨x0,x1,x2,x3,x4,x5,x6,x7,x8,x9,aV,aU,aW,aZ,rfl⟩:=Zbo hl;have f7:Zfy [rb] 2 1 x7 w':=hf ⟨7,.data⟩ (by simp) rfl _ rfl _ rfl;have f9:pInt 2 x9 w':=hf ⟨9,.data⟩ (by simp) rfl _ rfl _ rfl;clear aP;clear hf ho;obtain⟨ba,rfl,iP,bH,m7⟩:=f7;obtain⟨ri,rfl,hii,ws⟩:=f9;obtain⟨s,fJ,gP⟩:=m7 ri.toNat (by omega);simp only[Zav,Qp,QL,QN]at hK ⊢;go_wp2;exact hK _ _ (At.mk rfl ⟨ba,_,s,rfl,iP,bH,fJ,gP⟩) (Kept.refl _ _) hJ.same
   case s11 =>
    intro xs w' m hl hm hJ aP hf ho K hK;replace hm:m<14:=hm;obtain⟨x0,x1,x2,x3,x4,x5,x6,x7,x8,x9,aV,aU,aW,aZ,rfl⟩:=Zbo hl;have zI:pPtr [rb] 1 aV w':=hf ⟨10,.data⟩ (by simp) rfl _ rfl _ rfl;clear aP;clear hf ho;obtain⟨ba,ja,sa,rfl,iP,bH,m7,m8⟩:=zI;simp only[Zav,Qp,QL,QN]at hK ⊢;go_wp2;exact hK _ _ (At.mk rfl ⟨_,rfl,m8⟩) (Kept.refl _ _) hJ.same
   case s12 =>
    intro xs w' m hl hm hJ aP hf ho K hK;replace hm:m<14:=hm;obtain⟨x0,x1,x2,x3,x4,x5,x6,x7,x8,x9,aV,aU,aW,aZ,rfl⟩:=Zbo hl;have f6:Zc2 (out.size+6) x6 w':=hf ⟨6,.data⟩ (by simp) rfl _ rfl _ rfl;have zJ:Zc2 1 aU w':=hf ⟨11,.data⟩ (by simp) rfl _ rfl _ rfl;clear aP;clear hf ho;obtain⟨sa,rfl,m8⟩:=f6;obtain⟨sb,rfl,zH⟩:=zJ;have oH:=λW=>run_string_add_sum (P:=Tryz.prog) W sa sb (by omega);simp only[Zav,Qp,QL,QN]at hK ⊢;go_wp2;exact hK _ _ (At.mk rfl ⟨_,rfl,by rw[QK];omega⟩) (Kept.refl _ _) hJ.same
   case s13 =>
    intro xs w' m hl hm hJ aP hf ho K hK;replace hm:m<14:=hm;obtain⟨x0,x1,x2,x3,x4,x5,x6,x7,x8,x9,aV,aU,aW,aZ,rfl⟩:=Zbo hl;have zK:Zc2 ((out.size+6)+1) aW w':=hf ⟨12,.data⟩ (by simp) rfl _ rfl _ rfl;clear aP;clear hf ho;obtain⟨sa,rfl,m8⟩:=zK;simp only[Zav,Qp,QL,QN]at hK ⊢;go_wp2;exact hK _ _ (At.mk rfl ⟨_,rfl,m8⟩) (Kept.refl _ _) hJ.same
   case done =>
    intro xs w' hl hf hJ;obtain⟨x0,x1,x2,x3,x4,x5,x6,x7,x8,x9,aV,aU,aW,aZ,rfl⟩:=Zbo hl;have zL:Zc2 ((out.size+6)+1) aZ w':=hf 13 _ rfl _ rfl;obtain⟨sz,rfl,cC⟩:=zL;clear hf;obtain⟨⟨p1,m6,bR⟩,iE⟩:=hJ;replace m6:p1<=q+14:=m6;simp only[Zav,Qp,QL,QN];go_wp2;go_roundw;case rel=>exact⟨k-1,p1,sz,by omega,by omega,by omega,rfl,by go_num,bR,hB.trans iE⟩
    case measure=>simp[intOf];omega
  ·go_wp2_with fail
   refine(odd rb q _ _ hR (by omega) (by omega) (by omega)).mono ?_;rintro e w3⟨b,q2,rfl,si,cU,gj,fY⟩;cases b
   ·go_wp2;go_ret;exact⟨out,q2,rfl,by omega,by omega,gj,hB.trans fY⟩
   ·go_wp2_with (go_at_call 53;refine(ZdO rb q2 _ _ (gj.grow ((QD _ _).alloc (QA _) _)) (by omega) (by omega) (by omega)).mono ?_;rintro e w4⟨r2,rfl,zM,h21,kK,fZ⟩;obtain⟨s,hs,hc⟩:=Zht ZlV 13 Zk6 zM (by show r2<6;omega) gj.lt fZ;have oH:=λW=>run_string_add_sum (P:=Tryz.prog) W out s (by omega))
    go_ret;exact⟨out++s,q2+1,rfl,by rw[QK];omega,by omega,kK,(hB.trans fY).trans ((Kept.of_below ((QD _ _).alloc (QA _) _)).trans fZ)⟩
def Zd8 (t:Tok):Prop:=t.text.size<=1000/\0<=t.kind/\t.kind<=4/\t.hidden.length<=3
def Zd9 (t:Tok):Elem Tok:=⟨Zco t,t,[]⟩
theorem ZlW {base:Nat}{v:Value}{l:List Tok}{B:Nat}(h:TokRow base v l w)(hf:Fresh B l)(hB:B<=1000):
  RowE sTok base 32 v (l.map Zd9) w/\∀x∈l.map Zd9,Zd8 x.d:=by
 have hL:(l.map Zd9).flatMap (·.cells)=l.flatMap Zco:=by rw[List.flatMap_map];rfl
 have hx:∀x∈l.map Zd9,∃t∈l,x=Zd9 t:=λx hx=>by
  obtain⟨t,ht,rfl⟩:=List.mem_map.1 hx;exact⟨t,ht,rfl⟩
 refine⟨⟨by rw[hL,QH];exact h,λx hm=>?_,λx hm=>?_,λx hm b hb=>?_,λx hm b hb=>?_⟩,λx hm=>?_⟩ <;> obtain⟨t,ht,rfl⟩:=hx x hm
 ·rfl
 ·obtain⟨a1,a2,a3,a4⟩:=hf t ht;have b1:Zb3 t.kind:=⟨by omega,by omega⟩;have b2:ZaC t.text:=by unfold ZaC maxLen;omega
  have b3:(Zaa sStr).R w [.slice none 0 0] t.hidden []:=by rw[a2];exact Zao sStr w none 0 (by simp)
  exact⟨_,rfl,b1,b2,b3⟩
 ·simp[Zd9]at hb
 ·simp[Zd9]at hb
 ·obtain⟨a1,a2,a3,a4⟩:=hf t ht;exact⟨QZ a1 hB,by show 0<=t.kind;omega,a4,by show t.hidden.length<=3;rw[a2];simp⟩
abbrev hidW (w:World):World:=
 ((
  (((w.alloc (.cells #[.string ⟨#[97]⟩] 9)).alloc (.cells #[.string ⟨#[97]⟩,.string ⟨#[98]⟩] 9)).alloc (.cells #[.string ⟨#[102]⟩] 9)).alloc (.cells #[.string ⟨#[97]⟩,.string ⟨#[102]⟩,.string ⟨#[103]⟩] 9)).alloc
  (.cells #[.slice (some ⟨w.heap.size,0,none⟩) 1 1,.slice (some ⟨w.heap.size+1,0,none⟩) 2 2,.slice (some ⟨w.heap.size+1+1,0,none⟩) 1 1,.slice (some ⟨w.heap.size+1+1+1,0,none⟩) 3 3] 30))
def hidL (n:Nat):List Obj:=[.cells #[.string ⟨#[97]⟩] 9,.cells #[.string ⟨#[97]⟩,.string ⟨#[98]⟩] 9,.cells #[.string ⟨#[102]⟩] 9,.cells #[.string ⟨#[97]⟩,.string ⟨#[102]⟩,.string ⟨#[103]⟩] 9,
 .cells #[.slice (some ⟨n,0,none⟩) 1 1,.slice (some ⟨n+1,0,none⟩) 2 2,.slice (some ⟨n+1+1,0,none⟩) 1 1,.slice (some ⟨n+1+1+1,0,none⟩) 3 3] 30]
theorem Zk7 (w:World):hidW w=ZcL w (hidL w.heap.size):=rfl
theorem Zhv (w:World):Below w.heap.size w (hidW w):=by rw[Zk7];exact ZeO _ _ (QD _ _) (QA _)
theorem Zgp (w:World)(j:Nat)(hj:j<5):(hidW w).heap[w.heap.size+j]?=some ((hidL w.heap.size)[j]'hj):=by rw[Zk7];exact Zho w (hidL w.heap.size) j hj
theorem Zqq (w:World):(hidW w).heap.size=w.heap.size+5:=by rw[Zk7,ZgU];rfl
theorem Zfi {b:Nat}{l:List ByteArray}{t:TypeId}{fr:Nat × Nat}(h:w.heap[b]?=some (.cells (l.map Value.string).toArray t fr))(hs:∀s∈l,s.size<=1000)(h0:0<l.length)(hl:l.length<=1000)(n:Nat)(hn:l.length=n):
  (Zaa sStr).R w [.slice (some ⟨b,0,none⟩) n n] l [b]:=by
 subst hn;refine⟨_,_,rfl,QA _,by unfold maxLen;omega,.inr ⟨h0,b,0,λ_=>[],rfl,by simp,(Qg h).1,λi hi=>⟨[.string l[i]],⟨rfl,λj hj=>?_⟩,rfl,?_,rfl⟩⟩⟩
 ·have hj0:j=0:=by simp[sStr,Zeo]at hj;omega
  subst hj0;have:=cell_of_row w b i _ _ _ h;simp only[sStr,Zeo,Nat.mul_one,QX,Q0]at *;rw[this];simp[QJ hi]
 ·have:=hs _ (QE hi);unfold ZaC maxLen;omega
variable {rb:Nat}
theorem hid_lits {w w3:World}{r:Int}(hr:rb<w.heap.size)(hK:Kept [rb] (hidW w) w3)(h0:0<=r)(h1:r<4):
  ∃b n l,w3.cell? ⟨w.heap.size+1+1+1+1,r.toNat,none⟩=some (.slice (some ⟨b,0,none⟩) n n)/\(Zaa sStr).R w3 [.slice (some ⟨b,0,none⟩) n n] l [b]/\l.length<=3/\w.heap.size<=b/\∃cur fr,w3.heap[b]?=some (.cells cur 9 fr):=by
 have gs:=Zqq w;have g0:=Zgp w 0 (by omega);have g1:=Zgp w 1 (by omega);have g2:=Zgp w 2 (by omega);have g3:=Zgp w 3 (by omega);have g4:=Zgp w 4 (by omega);have k0:=(hK.block _ (by omega) (by simp;omega)).trans g0;have k1:=(hK.block _ (by omega) (by simp;omega)).trans g1;have k2:=(hK.block _ (by omega) (by simp;omega)).trans g2;have k3:=(hK.block _ (by omega) (by simp;omega)).trans g3;have k4:=(hK.block _ (by omega) (by simp;omega)).trans g4;have hc:=λj=>cell_of_row w3 (w.heap.size+1+1+1+1) j _ _ _ k4;have hr4:r=0\/r=1\/r=2\/r=3:=by omega
 rcases hr4 with rfl | rfl | rfl | rfl
 ·exact⟨_,1,[⟨#[97]⟩],hc 0,Zfi (l:=[⟨#[97]⟩]) k0 (by decide) (by decide) (by decide) 1 rfl,by decide,by omega,_,_,k0⟩
 ·exact⟨_,2,[⟨#[97]⟩,⟨#[98]⟩],hc 1,Zfi (l:=[⟨#[97]⟩,⟨#[98]⟩]) k1 (by decide) (by decide) (by decide) 2 rfl,by decide,by omega,_,_,k1⟩
 ·exact⟨_,1,[⟨#[102]⟩],hc 2,Zfi (l:=[⟨#[102]⟩]) k2 (by decide) (by decide) (by decide) 1 rfl,by decide,by omega,_,_,k2⟩
 ·exact⟨_,3,[⟨#[97]⟩,⟨#[102]⟩,⟨#[103]⟩],hc 3,Zfi (l:=[⟨#[97]⟩,⟨#[102]⟩,⟨#[103]⟩]) k3 (by decide) (by decide) (by decide) 3 rfl,by decide,by omega,_,_,k3⟩
def tokE (k:Int)(s:ByteArray)(ao:Option Addr)(m:Nat)(l:List ByteArray)(fp:List Nat):Elem Tok:=⟨[.int .i64 k,.string s,.bool false,.slice ao m m],⟨k,s,false,l⟩,fp⟩
def badE (n:Nat):List (Elem Tok):=[tokE 0 ⟨#[]⟩ none 0 [] [],tokE 1 ⟨#[49,97]⟩ none 0 [] [],tokE 1 ⟨#[97,32,98]⟩ none 0 [] [],tokE 2 ⟨#[97]⟩ none 0 [] [],tokE 4 ⟨#[64]⟩ none 0 [] [],tokE 3 ⟨#[34,97]⟩ none 0 [] [],
 tokE 1 ⟨#[97]⟩ (some ⟨n,0,none⟩) 2 [⟨#[98]⟩,⟨#[97]⟩] [n],tokE 1 ⟨#[97]⟩ (some ⟨n+1,0,none⟩) 1 [⟨#[49]⟩] [n+1]]
def badL (n:Nat):List Obj:=[.cells #[.string ⟨#[98]⟩,.string ⟨#[97]⟩] 9,.cells #[.string ⟨#[49]⟩] 9,.cells ((badE n).flatMap (·.cells)).toArray 32]
abbrev badW (w:World):World:=
 ((
  w.alloc (.cells #[.string ⟨#[98]⟩,.string ⟨#[97]⟩] 9)).alloc (.cells #[.string ⟨#[49]⟩] 9)).alloc
  (.cells #[.int .i64 0,.string ⟨#[]⟩,.bool false,.slice none 0 0,.int .i64 1,.string ⟨#[49,97]⟩,.bool false,.slice none 0 0,.int .i64 1,.string ⟨#[97,32,98]⟩,.bool false,.slice none 0 0,.int .i64 2,.string ⟨#[97]⟩,.bool false,.slice none 0 0,
   .int .i64 4,.string ⟨#[64]⟩,.bool false,.slice none 0 0,.int .i64 3,.string ⟨#[34,97]⟩,.bool false,.slice none 0 0,.int .i64 1,.string ⟨#[97]⟩,.bool false,.slice (some ⟨w.heap.size,0,none⟩) 2 2,.int .i64 1,.string ⟨#[97]⟩,.bool false,.slice (some ⟨w.heap.size+1,0,none⟩) 1 1] 32)
theorem Zk8 (w:World):badW w=ZcL w (badL w.heap.size):=rfl
theorem ZfW (w:World):Below w.heap.size w (badW w):=by rw[Zk8];exact ZeO _ _ (QD _ _) (QA _)
theorem ZjB (w:World)(j:Nat)(hj:j<3):(badW w).heap[w.heap.size+j]?=some ((badL w.heap.size)[j]'hj):=by rw[Zk8];exact Zho w (badL w.heap.size) j hj
theorem Zqr (w:World):(badW w).heap.size=w.heap.size+3:=by rw[Zk8,ZgU];rfl
theorem badE_len (n:Nat):∀x∈badE n,x.cells.length=4:=by
 intro x hx;simp only[badE,Q7,Qz,or_false]at hx;rcases hx with rfl | rfl | rfl | rfl | rfl | rfl | rfl | rfl <;> rfl
theorem Zqs (n:Nat):∀x∈badE n,Zd8 x.d/\∃k s ao m l fp,x=tokE k s ao m l fp/\(fp=[]/\l=[]/\ao=none/\m=0\/fp=[n]/\l=[⟨#[98]⟩,⟨#[97]⟩]/\ao=some ⟨n,0,none⟩/\m=2\/fp=[n+1]/\l=[⟨#[49]⟩]/\ao=some ⟨n+1,0,none⟩/\m=1):=by
 intro x hx;simp only[badE,Q7,Qz,or_false]at hx;have ok:∀(k:Int) (s:ByteArray) (l:List ByteArray),s.size<=1000->0<=k->k<=4->l.length<=3->Zd8 ⟨k,s,false,l⟩:=λk s l a b c d=>⟨a,b,c,d⟩;rcases hx with rfl | rfl | rfl | rfl | rfl | rfl | rfl | rfl
 ·exact⟨ok _ _ _ (by decide) (by decide) (by decide) (by decide),_,_,_,_,_,_,rfl,.inl ⟨rfl,rfl,rfl,rfl⟩⟩
 ·exact⟨ok _ _ _ (by decide) (by decide) (by decide) (by decide),_,_,_,_,_,_,rfl,.inl ⟨rfl,rfl,rfl,rfl⟩⟩
 ·exact⟨ok _ _ _ (by decide) (by decide) (by decide) (by decide),_,_,_,_,_,_,rfl,.inl ⟨rfl,rfl,rfl,rfl⟩⟩
 ·exact⟨ok _ _ _ (by decide) (by decide) (by decide) (by decide),_,_,_,_,_,_,rfl,.inl ⟨rfl,rfl,rfl,rfl⟩⟩
 ·exact⟨ok _ _ _ (by decide) (by decide) (by decide) (by decide),_,_,_,_,_,_,rfl,.inl ⟨rfl,rfl,rfl,rfl⟩⟩
 ·exact⟨ok _ _ _ (by decide) (by decide) (by decide) (by decide),_,_,_,_,_,_,rfl,.inl ⟨rfl,rfl,rfl,rfl⟩⟩
 ·exact⟨ok _ _ _ (by decide) (by decide) (by decide) (by decide),_,_,_,_,_,_,rfl,.inr (.inl ⟨rfl,rfl,rfl,rfl⟩)⟩
 ·exact⟨ok _ _ _ (by decide) (by decide) (by decide) (by decide),_,_,_,_,_,_,rfl,.inr (.inr ⟨rfl,rfl,rfl,rfl⟩)⟩
def Zqt (B g:Nat)(i:Nat)(w:World):Prop:=
 ∃(k:Int) (s:ByteArray) (ao:Option Addr) (m:Nat) (l:List ByteArray) (fp:List Nat),
  w.cell? ⟨g,i*4,none⟩=some (.int .i64 k)/\w.cell? ⟨g,i*4+1,none⟩=some (.string s)/\w.cell? ⟨g,i*4+2,none⟩=some (.bool false)/\w.cell? ⟨g,i*4+3,none⟩=some (.slice ao m m) /\
  sTok.R w [.int .i64 k,.string s,.bool false,.slice ao m m] ⟨k,s,false,l⟩ fp/\Zd8 ⟨k,s,false,l⟩/\(∀b∈fp,B<=b)/\(∀b∈fp,∃cur t fr,w.heap[b]?=some (.cells cur t fr)/\t≠32)
theorem bad_pick {w w4:World}{r:Int}(hr:rb<w.heap.size)(hK:Kept [rb] (badW w) w4)(h0:0<=r)(h1:r<8):Zqt w.heap.size (w.heap.size+1+1) r.toNat w4:=by
 have gs:=Zqr w;have k0:=(hK.block _ (by omega) (by simp;omega)).trans (ZjB w 0 (by omega));have k1:=(hK.block _ (by omega) (by simp;omega)).trans (ZjB w 1 (by omega));have k2:=(hK.block _ (by omega) (by simp;omega)).trans (ZjB w 2 (by omega));have hr8:r.toNat<(badE w.heap.size).length:=by show _<8;omega
 have di:=QE hr8;obtain⟨bQ,k,s,ao,m,l,fp,hx,lz⟩:=Zqs _ _ di;have hc:∀j,j<4->w4.cell? ⟨w.heap.size+1+1,r.toNat*4+j,none⟩=(tokE k s ao m l fp).cells[j]?:=λj hj=>by
  rw[cell_of_row w4 (w.heap.size+1+1) (r.toNat*4+j) _ _ _ k2,List.getElem?_toArray,Zb4 (f:=Elem.cells) (badE_len _) hr8 hj,hx]
 rw[hx]at bQ;obtain⟨o1,o2,o3,o4⟩:=bQ;have b1:Zb3 k:=⟨by have:0<=k:=o2;omega,by have:k<=4:=o3;omega⟩;have b2:ZaC s:=by unfold ZaC maxLen;have:s.size<=1000:=o1;omega
 refine⟨k,s,ao,m,l,fp,hc 0 (by omega),hc 1 (by omega),hc 2 (by omega),hc 3 (by omega),?_,⟨o1,o2,o3,o4⟩,?_,?_⟩
 ·rcases lz with⟨rfl,rfl,rfl,rfl⟩ | ⟨rfl,rfl,rfl,rfl⟩ | ⟨rfl,rfl,rfl,rfl⟩
  ·exact⟨_,rfl,b1,b2,Zao sStr _ _ _ (by simp)⟩
  ·exact⟨_,rfl,b1,b2,Zfi (l:=[⟨#[98]⟩,⟨#[97]⟩]) k0 (by decide) (by decide) (by decide) 2 rfl⟩
  ·exact⟨_,rfl,b1,b2,Zfi (l:=[⟨#[49]⟩]) k1 (by decide) (by decide) (by decide) 1 rfl⟩
 ·intro b hb;rcases lz with⟨rfl,_⟩ | ⟨rfl,_⟩ | ⟨rfl,_⟩ <;> simp at hb <;> omega
 ·intro b hb;rcases lz with⟨rfl,_⟩ | ⟨rfl,_⟩ | ⟨rfl,_⟩ <;> simp at hb <;> subst hb
  ·exact⟨_,_,_,k0,by decide⟩
  ·exact⟨_,_,_,k1,by decide⟩
theorem Zcz {w:World}{ops:Array Oper}{rest:List Oper}{a:Act}{Q:Exit->Act->World->Prop}(hg:o.guard=none)(s y:Operand)
  (ho:o.op=.call { callee:=.builtin .append,args:=#[s,y],argTypes:=#[24,24] })
  (base:Nat) (v:Value) (L:List (Elem Tok)) (hs:a.eval s=v) (ag:RowE sTok base 32 v L w) (k:Int) (x:ByteArray) (b:Bool) (ao:Option Addr) (m c:Nat) (l:List ByteArray) (fp:List Nat)
  (hy:a.eval y=.slice (some ⟨w.heap.size,0,none⟩) 1 1) (hR:sTok.R w [.int .i64 k,.string x,.bool b,.slice ao m c] ⟨k,x,b,l⟩ fp) (cV:∀b∈fp,base<=b) (gD:∀b∈fp,∃cur t fr,w.heap[b]?=some (.cells cur t fr)/\t≠32)
  (dz:L.length<=2000000) (aK:base<=w.heap.size)
  (h:∀v' w',RowE sTok base 32 v' (L++[⟨[.int .i64 k,.string x,.bool b,.slice ao m c],⟨k,x,b,l⟩,fp⟩]) w'->w.grownBy w' v.ownBlock->wpList Tryz.prog ops Q rest (a.put o.dst v') w') :
  wpList Tryz.prog ops Q (o::rest) a (w.alloc (.cells #[.int .i64 k,.string x,.bool b,.slice ao m c] 32)):=by
 have hb:=Zab w (.cells #[.int .i64 k,.string x,.bool b,.slice ao m c] 32);refine Zg6 (S:=sTok) ti_tok rfl (by decide) _ (X:=[⟨[.int .i64 k,.string x,.bool b,.slice ao m c],⟨k,x,b,l⟩,fp⟩]) hg s y ho base v hs (ag.below hb) w.heap.size 1 1 hy rfl ?_ ?_ ?_ ?_ ?_ ?_ (by unfold maxLen;omega) (by omega) (by simp;omega) λv' w' a b=>h v' w' a (Zds (World.grownBy_alloc _ _ _) b)
 ·intro x hx;obtain rfl:=Qm hx;rfl
 ·intro x hx;obtain rfl:=Qm hx;simp[Value.oneCell']
 ·intro j u hj;rw[Qy _ _ _ _ rfl];simpa using hj
 ·intro x hx;obtain rfl:=Qm hx;exact sTok.below hR hb
 ·intro x hx;obtain rfl:=Qm hx;exact cV
 ·intro x hx b' aE;obtain rfl:=Qm hx;obtain⟨cur,t,fr,h1,h2⟩:=gD b' aE;exact⟨cur,t,fr,(hb.block b' (Qg h1).1).trans h1,h2⟩
theorem okApp {L:List (Elem Tok)}{x:Elem Tok}(h:∀x∈L,Zd8 x.d)(hx:Zd8 x.d):∀y∈L++[x],Zd8 y.d:=λy hy=>by
 rcases Qa hy with hy | hy
 ·exact h y hy
 ·obtain rfl:=Qm hy;exact hx
theorem Zdu {rb p B:Nat}{w w':World}{ob:Option Nat}(h:Rd w rb p)(hg:w.grownBy w' ob)(hr:rb<B)(ho:∀b,ob=some b->B<=b):Rd w' rb p:=by
 obtain⟨⟨a,l,cap,fp,h2,h3,h4,h5⟩,h6⟩:=h;have af:=(Qg h2).1;have dr:∀b,b<=rb->w'.heap[b]?=w.heap[b]?:=λb hb=>hg.block b (by omega) (by intro he;have:=ho b he.symm;omega);exact⟨⟨a,l,cap,fp,(dr rb (QA _)).trans h2,(Zaa Zdi).frame (λb hb=>dr b (Nat.le_of_lt (h4 b hb))) h3,h4,h5⟩,h6⟩
theorem Zcw {w0 w w':World}{ob:Option Nat}(h:Kept [rb] w0 w)(hg:w.grownBy w' ob)(ho:∀b,ob=some b->w0.heap.size<=b):Kept [rb] w0 w':=
 ⟨hg.os.trans h.os,hg.tape.trans h.tape,hg.output.trans h.output,QZ h.size hg.size,λk hk hn=>(hg.block k (QW hk h.size) (by intro he;have:=ho k he.symm;omega)).trans (h.block k hk hn)⟩
theorem Zeq {rb g p:Nat}(h:Rd w rb p)(hr:rb<g)(o:Nat)(u:Value):Rd (w.setCell ⟨g,o,none⟩ u) rb p:=
 h.kept ((Kept.refl [g] w).setCell (p:=⟨g,o,none⟩) (by simp) u) (λb hb=>by have e:b=g:=(by simpa using hb);omega)
theorem ZcA {rb g:Nat}{w w':World}(hk:Kept [rb] w w')(hg:w.heap.size<=g)(u:Value)(o:Nat):Kept [rb] w (w'.setCell ⟨g,o,none⟩ u):=
 ⟨hk.os,hk.tape,hk.output,by simp[World.setCell];exact hk.size,λk h1 h2=>(QV _ _ _ _ (by show k≠g;omega)).trans (hk.block k h1 h2)⟩
def ZlX (rb p n:Nat)(iQ:Nat)(w:World)(e:Ending)(w':World):Prop:=
 ∃(v:Value) (L:List (Elem Tok)) (q:Nat),e=.returned v/\RowE sTok w.heap.size 32 v L w'/\(∀x∈L,Zd8 x.d)/\iQ<=L.length/\L.length<=61/\q<=p+n/\Rd w' rb q/\Kept [rb] w w'
def OddT (rb p:Nat)(n:Int)(w:World)(e:Ending)(w':World):Prop:=∃b:Bool,∃q:Nat,e=.returned (.bool b)/\Hid (n=1->b=true)/\p<=q/\q<=p+1/\Rd w' rb q/\Kept [rb] w w'
theorem oddT (rb p:Nat)(n:Int)(w:World)(H:Rd w rb p)(hp:p<1000000)(hn:n<=1000000)(ke:0<=n):
  Calls Tryz.prog 31 #[.pointer (some ⟨rb,0,none⟩),.int .i64 n] w (OddT rb p n w):=by
 by_cases h0:0<n
 ·go_enter Tryz.func31,Tryz.ntmps31;go_wp2_with (go_at_call 53;refine(ZdO _ _ _ _ H hp hn (by omega)).mono ?_;rintro e w'⟨r,rfl,wl,wm,jE,tc⟩)
  go_ret;exact⟨_,p+1,rfl,(λh=>by simp;omega),by omega,by omega,jE,tc⟩
 ·have e0:n=0:=by omega
  subst e0;go_enter Tryz.func31,Tryz.ntmps31;go_wp2;go_ret;exact⟨_,p,rfl,(λh=>absurd h (by decide)),by omega,by omega,H,Kept.refl _ _⟩
theorem Zqu (rb p:Nat)(n:Int)(w:World)(H:Rd w rb p)(hp:p<=100000)(hn:n<=100)(ke:0<=n)(iQ:Nat)(hl:iQ<=1)(kG:0<iQ->n=1):
  Calls Tryz.prog 32 #[.pointer (some ⟨rb,0,none⟩),.int .i64 n] w (ZlX rb p 300 iQ w):=by
 have mC:=H.lt;go_enter Tryz.func32,Tryz.ntmps32;go_wp2_with fail
 refine(l20Line rb p _ _ H hp (by omega) (by omega)).mono ?_;rintro e w1⟨s,q1,rfl,hs,si,bR,iE⟩;go_wp2_with fail
 refine(Zeg s _ (by unfold maxLen;omega)).mono ?_;rintro e w2⟨v,rfl,ai,nP,aY⟩;have wt:=(Zhr s).1;obtain⟨ut,qj⟩:=ZlW ai nP hs;have bN:=bR.grow aY;have gk:=iE.trans (Kept.of_below (fp:=[rb]) aY);replace ut:=ut.lower iE.size;have HN:Hid (((Zau s).1.map Zd9).length<=60):=by show _<=_;rw[QH];exact wt
 generalize (Zau s).1.map Zd9=L0 at ut qj HN;generalize (Zau s).2=b0 at *;clear ai nP wt aY bR iE;obtain⟨a,cap,rfl,hc,hm,vU⟩:=ut.val;unfold maxLen at hm;have bE:=HN.out;go_wp2;go_loopw [7] (λi wr=>∃(k q:Nat) (L:List (Elem Tok)),k<=L0.length/\i=.int .i64 k/\q<=q1+2*k/\Hid (L.length=L0.length)/\RowE sTok w.heap.size 32 (.slice a L0.length cap) L wr/\(∀x∈L,Zd8 x.d)/\Rd wr rb q/\Kept [rb] w wr) (λi _=>L0.length-(intOf i).toNat)
 case atStart=>exact⟨0,q1,L0,by omega,rfl,by omega,rfl,ut,qj,bN,gk⟩
 case round =>
  obtain⟨k,q,L,hk,rfl,hq,HL,hE,bQ,hR,hK⟩:=hrel;clear ut qj bN gk;by_cases af:k<L0.length
  ·obtain⟨g,rfl,nU,kL⟩:=vU (by omega);go_wp2_with fail
   refine(ZdO rb q _ _ hR (by omega) (by omega) (by omega)).mono ?_;rintro e w3⟨r,rfl,h0,h1,gj,fY⟩;have fy:=hE.keptR fY mC;have iw:=hK.trans fY;by_cases hr:r=0
   ·have hr':(r==0)=true:=(by simp[hr]);clear hr;go_wp2_with fail
    refine(ZdO rb (q+1) _ _ (gj.grow (Zhv w3)) (by omega) (by omega) (by omega)).mono ?_;rintro e w4⟨r2,rfl,zM,h21,kK,fZ⟩;obtain⟨hb,pG,l,dK,zN,pH,hlb,gD⟩:=hid_lits gj.lt fZ zM (by omega);have uu:=(fy.below (Zhv w3)).keptR fZ mC;have oJ:=(iw.trans (Kept.of_below (fp:=[rb]) (Zhv w3))).trans fZ;have hkL:k<L.length:=(by rw[HL.out];exact af);have hkm:=QE hkL;obtain⟨hh,aS,hi,kh,_⟩:=uu.el _ hkm;have HCS:=Qh aS;have c3:w4.cell? ⟨g,k*4+3,none⟩=some hh:=uu.cellAt hkL (j:=3) (by decide) (by rw[aS];rfl);have f3:w4.frozen? ⟨g,k*4+3,none⟩=false:=uu.frozen _;have bC:=Qh (bQ _ hkm);have HI:=Qh (And.intro hi kh);obtain⟨cur,fr,zO⟩:=gD;have HS:Hid (RowE sTok w.heap.size 32 (.slice (some ⟨g,0,none⟩) L0.length cap) (L.set k ⟨[.int .i64 L[k].d.kind,.string L[k].d.text,.bool L[k].d.spaced,.slice (some ⟨hb,0,none⟩) pG pG],⟨L[k].d.kind,L[k].d.text,L[k].d.spaced,l⟩,[hb]⟩) (w4.setCell ⟨g,k*4+3,none⟩ (.slice (some ⟨hb,0,none⟩) pG pG))):=by
     refine uu.set hkL (j:=3) (by decide) _ _ (by rw[HCS.out];rfl) ⟨_,rfl,HI.out.1,HI.out.2,zN⟩ (λb aE=>?_) (λb aE=>?_)
     ·have e:b=hb:=(by simpa using aE);subst e;have:=iw.size;omega
     ·have e:b=hb:=(by simpa using aE);subst e;exact⟨cur,_,fr,zO,by decide⟩
    have HOKs:Hid (∀x∈L.set k ⟨[.int .i64 L[k].d.kind,.string L[k].d.text,.bool L[k].d.spaced,.slice (some ⟨hb,0,none⟩) pG pG],⟨L[k].d.kind,L[k].d.text,L[k].d.spaced,l⟩,[hb]⟩,Zd8 x.d):=by
     intro x hx;rcases List.mem_or_eq_of_mem_set hx with h | h
     ·exact bQ x h
     ·subst h;exact⟨bC.out.1,bC.out.2.1,bC.out.2.2.1,pH⟩
    have HLs:Hid ((L.set k ⟨[.int .i64 L[k].d.kind,.string L[k].d.text,.bool L[k].d.spaced,.slice (some ⟨hb,0,none⟩) pG pG],⟨L[k].d.kind,L[k].d.text,L[k].d.spaced,l⟩,[hb]⟩).length=L0.length):=(by show _=_;rw[List.length_set];exact HL.out);have cz:Hid (Rd (w4.setCell ⟨g,k*4+3,none⟩ (.slice (some ⟨hb,0,none⟩) pG pG)) rb (q+1+1)):=kK.kept ((Kept.refl [g] w4).setCell (p:=⟨g,k*4+3,none⟩) (by simp) _) (λb aE=>by have e:b=g:=(by simpa using aE);omega);have jL:Hid (Kept [rb] w (w4.setCell ⟨g,k*4+3,none⟩ (.slice (some ⟨hb,0,none⟩) pG pG))):=ZcA oJ nU _ _;clear aS bQ hE fy uu hi kh HCS HI zO gj hK fY iw fZ hR zN hkm kK oJ;go_wp2;go_roundw;case rel=>exact⟨k+1,q+1+1,_,by omega,by go_num,by omega,HLs.out,HS.out,HOKs.out,cz.out,jL.out⟩
    case measure=>simp[intOf];omega
   ·have hr':(r==0)=false:=(by simp[hr]);clear hr;go_wp2;go_roundw;case rel=>exact⟨k+1,q+1,L,by omega,by go_num,by omega,HL,fy,bQ,gj,iw⟩
    case measure=>simp[intOf];omega
  ·go_wp2_with fail
   refine(oddT rb q _ _ hR (by omega) (by omega) (by omega)).mono ?_;rintro e w3⟨b,q2,rfl,aG,tg,cU,gj,fY⟩;have fy:=hE.keptR fY mC;have iw:=hK.trans fY;have kj:=HL.out;clear hE hK hR;cases b
   ·have HZ:Hid (iQ=0):=by
     show _=_;by_cases h:0<iQ
     ·exact absurd (aG.out (kG h)) (by decide)
     ·omega
    go_wp2;go_ret;exact⟨_,L,q2,rfl,fy,bQ,by rw[HZ.out];omega,by omega,by omega,gj,iw⟩
   ·go_wp2_with fail
    refine(ZdO rb q2 _ _ (gj.grow (ZfW w3)) (by omega) (by omega) (by omega)).mono ?_;rintro e w4⟨r2,rfl,zM,h21,kK,fZ⟩;obtain⟨tk,ts,ao,tm,tl,tf,d0,d1,d2,d3,dR,dok,dlo,dty⟩:=bad_pick gj.lt fZ zM (by omega);have uu:=(fy.below (ZfW w3)).keptR fZ mC;have oJ:=(iw.trans (Kept.of_below (fp:=[rb]) (ZfW w3))).trans fZ;have hw4:w3.heap.size<=w4.heap.size:=QZ (ZfW w3).size fZ.size;have hw0:=oJ.size;have HT:=Qh (And.intro dR (And.intro (λb hb=>QZ (QZ iw.size (QA _)) (dlo b hb)) dty));have gl:=Qh kK;have uv:=Qh uu;have bC:=Qh bQ;have wu:=Qh dok;have HK4':=Qh oJ;clear fy fY iw fZ gj dR dlo dty uu kK bQ dok oJ HL HN;go_wp2_with (at_builtin;refine Zcz rfl (.tmp 51) (.tmp 59) rfl w.heap.size (.slice a L0.length cap) L rfl uv.out tk ts false ao tm tm tl tf rfl HT.out.1 HT.out.2.1 HT.out.2.2 (by omega) hw0 ?_;intro v5 w5 hE5 cG)
    go_ret;exact⟨v5,_,q2+1,rfl,hE5,okApp bC.out wu.out,by rw[QC];simp;omega,by rw[QC];simp;omega,by omega,Zdu gl.out cG mC uv.out.mine,Zcw HK4'.out cG uv.out.mine⟩
theorem Zea {rb g:Nat}{w w':World}{o:Obj}(h:w.heap[g]?=some o)(hk:Kept [rb] w w')(hn:g≠rb):w'.heap[g]?=some o:=
 (hk.block g (Qg h).1 (by simpa using hn)).trans h
theorem run_append_nil {P:Program}(base:Nat)(t ty e:TypeId)(i:TypeInfo)(size c:Nat)(ht:P.underlying t=some (.slice e))(hi:P.info? e=some i)
  (v:Value) (n:Nat) (xs:List Value) (ag:w.ownsRow base e size v n xs):(Builtin.append_ #[t,t] ty #[v,.slice none 0 c]).run P w=.ok v w:=by
 rcases ag.2 with⟨rfl,rfl⟩ | ⟨g,cap,cur,rfl,_,_,j7,_⟩
 ·simp[Builtin.append_,run_underlying ht,sizeOf,typeInfo,hi,Builtin.lenOf,Builtin.firstCells]
 ·simp[Builtin.append_,run_underlying ht,sizeOf,typeInfo,hi,Builtin.lenOf,Builtin.firstCells,j7,storeCells]
theorem ZbS {w:World}{ops:Array Oper}{rest:List Oper}{a:Act}{Q:Exit->Act->World->Prop}(hg:o.guard=none)(s y:Operand)
  (ho:o.op=.call { callee:=.builtin .append,args:=#[s,y],argTypes:=#[30,30] })
  (base:Nat) (v u:Value) (L M:List ByteArray) (fp:List Nat) (hs:a.eval s=v) (ag:w.ownsRow base 9 1 v L.length (L.map Value.string)) (hy:a.eval y=u) (HM:(Zaa sStr).R w [u] M fp)
  (dz:L.length+M.length<=4000000) (aK:base<=w.heap.size)
  (h:∀v' w',w'.ownsRow base 9 1 v' (L++M).length ((L++M).map Value.string)->w.grownBy w' v.ownBlock->wpList Tryz.prog ops Q rest (a.put o.dst v') w'):wpList Tryz.prog ops Q (o::rest) a w:=by
 obtain⟨i,hi,cI,dQ,dZ⟩:=info_parts ti27.2;obtain⟨ad,cap,rfl,hc,hm,aJ,cC⟩:=Zaf HM;have eg:∀(b off:Nat),(0<M.length->∀j,(hj:j<M.length)->w.cell? ⟨b,off+j,none⟩=some (.string M[j]))->a.eval y=.slice (some ⟨b,off,none⟩) M.length cap->wpList Tryz.prog ops Q (o::rest) a w:=by
  intro b off df hy';refine wpList_append_own _ hg s y 30 ho base 9 i _ 1 16 ti27.1 hi cI dQ dZ rfl (by decide) v L.length (L.map Value.string) hs ag ⟨b,off,none⟩ M.length cap (M.map Value.string) hy' (by simp) ?_ ?_ (by unfold maxLen;omega) (by omega) aK λv' w' h1 h2 _=>h v' w' ?_ h2
  ·intro j x hj;have le:j<M.length:=(by have:=(Qq.1 hj).1;simpa using this);rw[JN,df (by omega) j le,←hj];simp[QJ le]
  ·intro x hx;obtain⟨s,_,rfl⟩:=List.mem_map.1 hx;rfl
  ·simpa using h1
 by_cases h0:0<M.length
 ·obtain⟨b,off,rfl,_,_,dA⟩:=aJ h0;exact eg b off (λ_ j hj=>dA j hj) hy
 ·have hM:M=[]:=QU.1 (by omega);subst hM;cases ad with
  |
   none =>
   have gQ:=run_append_nil (P:=Tryz.prog) (w:=w) base 30 o.type 9 i 1 cap ti27.1 hi v L.length _ ag;have hK:=h v w (by simpa using ag) ⟨rfl,rfl,rfl,QA _,λ_ _ _=>rfl⟩;refine wpList_plain hg λK zP=>?_;unfold Oper.wp;simp only[JO]at hy;simp[execOp,ho,resolve,invoke,builtin,hs,hy,gQ,Result.andThen];exact zP _ _ hK
  |
   some ad =>
   refine wpList_append_own _ hg s y 30 ho base 9 i _ 1 16 ti27.1 hi cI dQ dZ rfl (by decide) v L.length (L.map Value.string) hs ag ad 0 cap [] hy rfl (by simp) (by simp) (by unfold maxLen;omega) (by omega) aK λv' w' h1 h2 _=>h v' w' (by simpa using h1) h2
def OwnTok (x:Tok)(w:World)(e:Ending)(w':World):Prop:=
 ∃(ao:Option Addr) (c:Nat) (fp:List Nat),e=.returned (.agg #[.int .i64 x.kind,.string x.text,.bool x.spaced,.slice ao x.hidden.length c])/\sTok.R w' [.int .i64 x.kind,.string x.text,.bool x.spaced,.slice ao x.hidden.length c] x fp /\
  (∀b∈fp,w.heap.size<=b)/\(∀b∈fp,∃cur t fr,w'.heap[b]?=some (.cells cur t fr)/\t=9)/\Below w.heap.size w w'
theorem ZeW (cs:List Value)(x:Tok)(fp:List Nat)(w:World)(hx:x.hidden.length<=2000000)(H:sTok.R w cs x fp):Calls Tryz.prog 66 #[.agg cs.toArray] w (OwnTok x w):=by
 obtain⟨h,rfl,hk,bQ,K⟩:=H;obtain⟨a0,cK,rfl,-,-,-,cC⟩:=Zaf K;have aC:=Zj3 w #[.int .i64 x.kind,.string x.text,.bool x.spaced,.slice a0 x.hidden.length cK] #[.int .i64 0,.string ⟨#[]⟩,.bool false,.slice none 0 0] #[.int .i64 x.kind,.string x.text,.bool x.spaced,.slice a0 x.hidden.length cK] 32 32 32;have g0:=Zfw w #[.int .i64 x.kind,.string x.text,.bool x.spaced,.slice a0 x.hidden.length cK] #[.int .i64 0,.string ⟨#[]⟩,.bool false,.slice none 0 0] #[.int .i64 x.kind,.string x.text,.bool x.spaced,.slice a0 x.hidden.length cK] 32 32 32;obtain⟨g1,g2,iR⟩:=ZfV w #[.int .i64 x.kind,.string x.text,.bool x.spaced,.slice a0 x.hidden.length cK] #[.int .i64 0,.string ⟨#[]⟩,.bool false,.slice none 0 0] #[.int .i64 x.kind,.string x.text,.bool x.spaced,.slice a0 x.hidden.length cK] 32 32 32;have HK:=Qh ((Zaa sStr).below K aC);have fL:=Qh cC;clear K cC;obtain⟨hv,HV⟩:∃hv:Value,Hid (hv=Value.slice a0 x.hidden.length cK):=⟨_,rfl⟩;go_enter Tryz.func66,Tryz.ntmps66;go_upto_region 2 with fail
 generalize (((w.alloc (.cells #[.int .i64 x.kind,.string x.text,.bool x.spaced,.slice a0 x.hidden.length cK] 32)).alloc (.cells #[.int .i64 0,.string ⟨#[]⟩,.bool false,.slice none 0 0] 32)).alloc (.cells #[.int .i64 x.kind,.string x.text,.bool x.spaced,.slice a0 x.hidden.length cK] 32))=W3 at *;have bH:=Zab W3 (.cells #[] 9);have c03:(W3.alloc (.cells #[] 9)).cell? ⟨w.heap.size,3,none⟩=some hv:=by
  rw[HV.out];exact(bH.cell (p:=⟨w.heap.size,3,none⟩) (by show w.heap.size<_;omega)).trans (Qc 3 g0)
 have bo:Hid ((W3.alloc (.cells #[] 9)).ownsRow W3.heap.size 9 1 (.slice (some ⟨W3.heap.size,0,none⟩) 0 0) ([]:List ByteArray).length (([]:List ByteArray).map Value.string)):=
  Q1 (base:=W3.heap.size) (e:=9) (size:=1) W3 #[] 0 (QA _) (by simp) rfl
 have uw:Hid ((Zaa sStr).R (W3.alloc (.cells #[] 9)) [hv] x.hidden fp):=by show(Zaa sStr).R _ _ _ _;rw[HV.out];exact(Zaa sStr).below HK.out bH
 have HG:=Qh (And.intro g1 (And.intro g2 iR));have aM:=Qh (aC.trans (bH.mono aC.size));clear g0 g1 g2 aC iR HK bH
 go_wp2_with (
  at_builtin;refine ZbS rfl (.tmp 5) (.tmp 7) rfl W3.heap.size (.slice (some ⟨W3.heap.size,0,none⟩) 0 0) hv [] x.hidden _ rfl bo.out rfl uw.out (by simp;omega) (by simp) ?_;intro v5 w1 ag aX;rw[Q3]at ag;obtain⟨de,R1,O1,eY⟩:=ZbM (ok:=ZaC) ag fL.out;have iR:=HG.out.2.2;have dr:∀k,k<W3.heap.size->w1.heap[k]?=W3.heap[k]?:=λk hk=>(aX.block k (by simp;omega) (by simp[Value.ownBlock];omega)).trans ((Zab W3 _).block k hk);have eo:Hid (w1.heap[w.heap.size+1]?=some (.cells #[.int .i64 0,.string ⟨#[]⟩,.bool false,.slice none 0 0] 32 (0,0))/\w1.heap[w.heap.size+1+1]?=some (.cells #[.int .i64 x.kind,.string x.text,.bool x.spaced,.slice a0 x.hidden.length cK] 32 (0,0))):=
   ⟨(dr _ (by omega)).trans HG.out.1,(dr _ (by omega)).trans HG.out.2.1⟩
  have hb:Below w.heap.size w w1:=aM.out.grown aX (by simp;omega) (λb hb=>by simp[Value.ownBlock]at hb;omega);have gD:∀b∈de,∃cur t fr,w1.heap[b]?=some (.cells cur t fr)/\t=9:=λb aE=>by
   have hv:=eY b aE;rcases ag.2 with⟨rfl,_⟩ | ⟨g,cap,cur,rfl,_,hg,_⟩
   ·simp[Value.ownBlock]at hv
   ·simp only[Value.ownBlock,Qi]at hv;subst hv;exact⟨_,_,_,hg,rfl⟩
  have cV:∀b∈de,w.heap.size+3<=b:=λb hb=>by have:=(O1.2 b hb).1;omega
  clear HG dr aX ag eY O1 c03 aM uw bo iR;obtain⟨a1,aN,rfl,hq⟩:=Zac R1;clear hq;have dg:=Qc 0 eo.out.1;have dL:=Qc 1 eo.out.1;have dh:=Qc 2 eo.out.1;have ew:=Qc 3 eo.out.1;have c20:=Qc 0 eo.out.2;have uq:=Qc 1 eo.out.2;have c22:=Qc 2 eo.out.2;have c23:=Qc 3 eo.out.2;have zI:=Qf 0 eo.out.1;have zJ:=Qf 1 eo.out.1;have zK:=Qf 2 eo.out.1;have zL:=Qf 3 eo.out.1;have f23:=Qf 3 eo.out.2;have d4:w.heap.size+1∉de:=λhx=>by have:=cV _ hx;omega
  have jB:w.heap.size+1+1∉de:=λhx=>by have:=cV _ hx;omega
  have HLO:Hid (∀b∈de,w.heap.size<=b):=λb hb=>by have:=cV b hb;omega
  have HR:=Qh ((Zaa sStr).setB ((Zaa sStr).setB ((Zaa sStr).setB ((Zaa sStr).setB ((Zaa sStr).setB R1 jB 3 (.slice a1 x.hidden.length aN)) d4 0 (.int .i64 x.kind)) d4 1 (.string x.text)) d4 2 (.bool x.spaced)) d4 3 (.slice a1 x.hidden.length aN));have HT:Hid (∀b∈de,∃cur t fr,(((((w1.setCell ⟨w.heap.size+1+1,3,none⟩ (.slice a1 x.hidden.length aN)).setCell ⟨w.heap.size+1,0,none⟩ (.int .i64 x.kind)).setCell ⟨w.heap.size+1,1,none⟩ (.string x.text)).setCell ⟨w.heap.size+1,2,none⟩ (.bool x.spaced)).setCell ⟨w.heap.size+1,3,none⟩ (.slice a1 x.hidden.length aN)).heap[b]?=some (.cells cur t fr)/\t=9):=λb hb=>by
   obtain⟨cur,t,fr,q1,q2⟩:=gD b hb;have e1:b≠w.heap.size+1:=λe=>d4 (e ▸ hb);have e2:b≠w.heap.size+1+1:=λe=>jB (e ▸ hb);exact⟨cur,t,fr,ZaK (ZaK (ZaK (ZaK (ZaK q1 e2 _ _) e1 _ _) e1 _ _) e1 _ _) e1 _ _,q2⟩
  have HB:=Qh (((((hb.setCell (p:=⟨w.heap.size+1+1,3,none⟩) (by simp;omega) (.slice a1 x.hidden.length aN)).setCell (p:=⟨w.heap.size+1,0,none⟩) (by simp) (.int .i64 x.kind)).setCell (p:=⟨w.heap.size+1,1,none⟩) (by simp) (.string x.text)).setCell (p:=⟨w.heap.size+1,2,none⟩) (by simp) (.bool x.spaced)).setCell (p:=⟨w.heap.size+1,3,none⟩) (by simp) (.slice a1 x.hidden.length aN));have HS:=Qh (Zai (Zai (Zai (Zai (ZaK eo.out.1 (by omega:w.heap.size+1≠w.heap.size+1+1) 3 (.slice a1 x.hidden.length aN)) 0 (.int .i64 x.kind)) 1 (.string x.text)) 2 (.bool x.spaced)) 3 (.slice a1 x.hidden.length aN))
  clear eo gD cV)
 refine JV (JX rfl _ _ (w.heap.size+1) _ _ _ _ rfl HS.out Tryz.underlying32 rfl (by kernel_rfl)) rfl ?_;exact⟨a1,aN,de,rfl,⟨_,rfl,hk,bQ,HR.out⟩,HLO.out,HT.out,HB.out⟩
def OwnToks (l:List Tok)(w:World)(e:Ending)(w':World):Prop:=∃v fp,e=.returned v/\(Zaa sTok).R w' [v] l fp/\Below w.heap.size w w'
def NoMac (w:World)(fp:List Nat):Prop:=∀b∈fp,∃cur t fr,w.heap[b]?=some (.cells cur t fr)/\t≠56
variable {fp:List Nat}
theorem NoMac.same {w w':World}(h:NoMac w fp)(hb:∀b∈fp,b<w.heap.size->w'.heap[b]?=w.heap[b]?):NoMac w' fp:=λb aE=>by
 obtain⟨cur,t,fr,h1,h2⟩:=h b aE;exact⟨cur,t,fr,(hb b aE (Qg h1).1).trans h1,h2⟩
theorem NoMac.below {w w':World}(h:NoMac w fp)(hb:Below w.heap.size w w'):NoMac w' fp:=h.same λb _ hl=>hb.block b hl
def TokTy (w:World)(fp:List Nat):Prop:=∀b∈fp,∃cur t fr,w.heap[b]?=some (.cells cur t fr)/\(t=32\/t=9)
theorem TokTy.same {w w':World}(h:TokTy w fp)(hb:∀b∈fp,b<w.heap.size->w'.heap[b]?=w.heap[b]?):TokTy w' fp:=λb aE=>by
 obtain⟨cur,t,fr,h1,h2⟩:=h b aE;exact⟨cur,t,fr,(hb b aE (Qg h1).1).trans h1,h2⟩
theorem TokTy.below {w w':World}(h:TokTy w fp)(hb:Below w.heap.size w w'):TokTy w' fp:=h.same λb _ hl=>hb.block b hl
theorem TokTy.mac (h:TokTy w fp):NoMac w fp:=λb hb=>by
 obtain⟨cur,t,fr,h1,h2⟩:=h b hb;refine⟨cur,t,fr,h1,?_⟩;rcases h2 with rfl | rfl <;> decide
def OwnToksS (l:List Tok)(w:World)(e:Ending)(w':World):Prop:=∃v fp,e=.returned v/\(Zaa sTok).R w' [v] l fp/\(∀b∈fp,w.heap.size<=b)/\TokTy w' fp/\Below w.heap.size w w'
theorem Zbd (v:Value)(l:List Tok)(fp:List Nat)(w:World)(hl:l.length<=1048576)(hx:∀k,(hk:k<l.length)->l[k].hidden.length<=2000000)(H:(Zaa sTok).R w [v] l fp):
  Calls Tryz.prog 42 #[v] w (OwnToksS l w):=by
 obtain⟨a,cap,rfl,hc,hm,ai⟩:=Zac H;unfold maxLen at hm;clear H;have HX:=Qh hx;clear hx;have bo:Hid (RowE sTok w.heap.size 32 (.slice (some ⟨w.heap.size,0,none⟩) 0 0) [] (w.alloc (.cells #[] 32))):=RowE.lit [] (by simp) (by simp) (by simp) (by simp) (QA _) (by simp);have bH:=Zab w (.cells #[] 32);go_enter Tryz.func42,Tryz.ntmps42;go_wp2;go_loopw [3,4] (λo i wr=>∃(k:Nat) (L:List (Elem Tok)),k<=l.length/\i=.int .i64 k/\Hid (RowE sTok w.heap.size 32 o L wr)/\Hid (L.map (·.d)=l.take k)/\Hid (∀x∈L,TokTy wr x.fp)/\Below w.heap.size w wr) (λ_ i _=>l.length-(intOf i).toNat)
 case atStart=>exact⟨0,[],by omega,rfl,bo,rfl,(show ∀x∈([]:List (Elem Tok)),TokTy _ x.fp from by simp),bH⟩
 case round =>
  clear bo bH;obtain⟨k,L,hk,rfl,HE,HD,HN,hb⟩:=hrel;by_cases af:k<l.length
  ·obtain⟨b1,ae,dt,rfl,aG,-,bj⟩:=ai (by omega);obtain⟨lA,bf,bR⟩:=bj k af;clear ai bj;have bN:=sTok.below bR hb;obtain⟨h1',rfl,_,_,_⟩:=bR;have HC:=Qh (ZeW _ _ _ wr (HX.out k af) bN);clear bN;replace bf:=bf.frame (hb.block b1 aG);have dg:wr.cell? ⟨b1,ae+k*4,none⟩=some _:=ZaB bf (by decide) rfl;have dL:wr.cell? ⟨b1,ae+k*4+1,none⟩=some _:=Zae (j:=1) bf (by decide) rfl;have dh:wr.cell? ⟨b1,ae+k*4+2,none⟩=some _:=Zae (j:=2) bf (by decide) rfl;have ew:wr.cell? ⟨b1,ae+k*4+3,none⟩=some _:=Zae (j:=3) bf (by decide) rfl;clear bf;have yA:Hid (L.length=k):=(by have:=JY List.length HD.out;simp at this;show _=_;omega);go_wp2_with fail
   refine HC.out.mono ?_;rintro e w2⟨ao,c,bv,rfl,bN,jM,oK,aF⟩;obtain⟨ar,th,rfl,-⟩:=HE.out.val;have cQ:=HE.out.below aF;have qk:∀b∈bv,∃cur t fr,w2.heap[b]?=some (.cells cur t fr)/\t≠32:=λb hb=>(by obtain⟨cur,t,fr,h1,h2⟩:=oK b hb;exact⟨cur,t,fr,h1,by rw[h2];decide⟩);have tj:Hid (∀x∈L++[(⟨[.int .i64 l[k].kind,.string l[k].text,.bool l[k].spaced,.slice ao l[k].hidden.length c],⟨l[k].kind,l[k].text,l[k].spaced,l[k].hidden⟩,bv⟩:Elem Tok)],TokTy w2 x.fp):=λx hx=>by
    rcases Qa hx with hx | hx
    ·exact(HN.out x hx).below aF
    ·obtain rfl:=Qm hx;intro b hb;obtain⟨cur,t,fr,h1,h2⟩:=oK b hb;exact⟨cur,t,fr,h1,.inr h2⟩
   have aD:=hb.trans (aF.mono hb.size);have ep:∀b∈bv,w.heap.size<=b:=λb hx=>QZ hb.size (jM b hx);clear dg dL dh ew HC HE;go_wp2_with (at_builtin;refine Zcz rfl (.tmp 12) (.tmp 18) rfl w.heap.size (.slice ar L.length th) L rfl cQ l[k].kind l[k].text l[k].spaced ao l[k].hidden.length c l[k].hidden bv rfl bN ep qk (by have:=yA.out;omega) aD.size ?_;intro v3 w3 fy cX)
   have aC:=aD.grown cX aD.size (λb hb=>(cQ.row.lt b hb).1);have m9:=Qh fy
   have HN3:Hid (∀x∈L++[(⟨[.int .i64 l[k].kind,.string l[k].text,.bool l[k].spaced,.slice ao l[k].hidden.length c],⟨l[k].kind,l[k].text,l[k].spaced,l[k].hidden⟩,bv⟩:Elem Tok)],TokTy w3 x.fp):=λx hx=>(tj.out x hx).same λb hb hl=>cX.block b hl (by
    rcases Qa hx with hx | hx
    ·exact λe=>cQ.ap hx hb e.symm
    ·obtain rfl:=Qm hx;intro e;obtain⟨cur,t,fr,h1,h2⟩:=qk b hb;obtain⟨g,oL,ql,q1,q2,q3,-⟩:∃g oL ql,Value.slice ar L.length th=.slice (some ⟨g,0,none⟩) L.length oL/\w.heap.size<=g/\w2.heap[g]?=some (.cells ql 32 (0,0))/\True:=by
      rcases cQ.row.2 with⟨h0,_⟩ | ⟨g,oL,ql,q1,q2,q3,-⟩
      ·rw[h0]at e;simp[Value.ownBlock]at e
      ·exact⟨g,oL,ql,q1,q2,q3,trivial⟩
     rw[q1]at e;simp only[Value.ownBlock,Qi]at e;subst e;rw[h1]at q3;simp only[Qi,Obj.cells.injEq]at q3
     exact h2 q3.2.1)
   have lC:Hid ((L++[(⟨[.int .i64 l[k].kind,.string l[k].text,.bool l[k].spaced,.slice ao l[k].hidden.length c],⟨l[k].kind,l[k].text,l[k].spaced,l[k].hidden⟩,bv⟩:Elem Tok)]).map (·.d)=l.take (k+1)):=by
    show _=_;rw[QG,HD.out,Qb af];rfl
   clear cQ fy cX bN oK qk jM ep aF tj HN;go_roundw;case rel=>exact⟨k+1,_,by omega,by go_num,m9,lC,HN3,aC⟩
   case measure=>simp[intOf];omega
  ·obtain⟨gm,hr,bO,-⟩:=Zbt HE.out.row λx hx=>⟨HE.out.len x hx,HE.out.el x hx⟩;have HLO:Hid (∀b∈gm,w.heap.size<=b):=λb hb=>by
    rcases bO b hb with h | h
    ·exact HE.out.mine b h
    ·obtain⟨x,hx,aE⟩:=QO.1 h;exact HE.out.lo x hx b aE
   have iS:Hid (TokTy wr gm):=λb hb=>by
    rcases bO b hb with h | h
    ·rcases HE.out.row.2 with⟨h0,_⟩ | ⟨g,oL,ql,q1,q2,q3,-⟩
     ·rw[h0]at h;simp[Value.ownBlock]at h
     ·rw[q1]at h;simp only[Value.ownBlock,Qi]at h;subst h;exact⟨_,_,_,q3,.inl rfl⟩
    ·obtain⟨x,hx,aE⟩:=QO.1 h;exact HN.out x hx b aE
   clear bO;have hd:=HD.out;rw[Qe (by omega)]at hd;rw[hd]at hr;have HR:=Qh hr;clear hr hd HE HD HN;go_wp2;go_ret;exact⟨_,gm,rfl,HR.out,HLO.out,iS.out,hb⟩
def OwnToksT (l:List Tok)(w:World)(e:Ending)(w':World):Prop:=∃v fp,e=.returned v/\(Zaa sTok).R w' [v] l fp/\(∀b∈fp,w.heap.size<=b)/\NoMac w' fp/\Below w.heap.size w w'
theorem ZeE (v:Value)(l:List Tok)(fp:List Nat)(w:World)(hl:l.length<=1048576)(hx:∀k,(hk:k<l.length)->l[k].hidden.length<=2000000)(H:(Zaa sTok).R w [v] l fp):
  Calls Tryz.prog 42 #[v] w (OwnToksT l w):=(Zbd v l fp w hl hx H).mono λ_ _ ⟨v,fp,h1,h2,h3,h4,h5⟩=>⟨v,fp,h1,h2,h3,h4.mac,h5⟩
theorem Zh5 (v:Value)(l:List Tok)(fp:List Nat)(w:World)(hl:l.length<=1048576)(hx:∀k,(hk:k<l.length)->l[k].hidden.length<=2000000)(H:(Zaa sTok).R w [v] l fp):
  Calls Tryz.prog 42 #[v] w (OwnToks l w):=(ZeE v l fp w hl hx H).mono λ_ _ ⟨v,fp,h1,h2,_,_,h3⟩=>⟨v,fp,h1,h2,h3⟩
structure RowG {α:Type}(S:Shape α)(base:Nat)(e:TypeId)(v:Value)(L:List (Elem α))(w:World):Prop where
 row:w.ownsRow base e S.m v L.length (L.flatMap (·.cells))
 len:∀x∈L,x.cells.length=S.m
 el:∀x∈L,S.R w x.cells x.d x.fp
 hi:∀x∈L,∀b∈x.fp,b<base
section
variable {α:Type}{S:Shape α}{base:Nat}{e:TypeId}{v v':Value}{L:List (Elem α)}{w w':World}
theorem RowG.ap (h:RowG S base e v L w):∀x∈L,∀b∈x.fp,v.ownBlock≠some b:=λx hx b hb hv=>by
 have h1:=h.hi x hx b hb;have h2:=(h.row.lt b hv).1;omega
theorem RowG.lit0 (S:Shape α)(e:TypeId)(w:World):RowG S w.heap.size e (.slice (some ⟨w.heap.size,0,none⟩) 0 0) [] (w.alloc (.cells #[] e)) where
 row:=Q1 (base:=w.heap.size) (e:=e) (size:=S.m) w #[] 0 (QA _) (by unfold maxLen;omega) (by simp)
 len:=by simp
 el:=by simp
 hi:=by simp
theorem RowG.same (h:RowG S base e v L w)(hv:∀g,v.ownBlock=some g->w'.heap[g]?=w.heap[g]?)(hb:∀x∈L,∀b∈x.fp,w'.heap[b]?=w.heap[b]?):RowG S base e v L w' where
 row:=ZbR h.row hv
 len:=h.len
 el:=λx hx=>S.frame (λb aE=>hb x hx b aE) (h.el x hx)
 hi:=h.hi
theorem RowG.below (h:RowG S base e v L w)(hb:Below w.heap.size w w'):RowG S base e v L w':=
 h.same (λg hg=>hb.block g (h.row.lt g hg).2) (λx hx b aE=>hb.block b (S.lt (h.el x hx) b aE))
theorem RowG.kept {K:List Nat}(h:RowG S base e v L w)(hk:Kept K w w')(hv:∀g,v.ownBlock=some g->g∉K)(hb:∀x∈L,∀b∈x.fp,b∉K):RowG S base e v L w':=
 h.same (λg hg=>hk.block g (h.row.lt g hg).2 (hv g hg)) (λx hx b aE=>hk.block b (S.lt (h.el x hx) b aE) (hb x hx b aE))
theorem RowG.val (h:RowG S base e v L w):∃a cap,v=.slice a L.length cap/\L.length<=cap/\cap<=maxLen/\(0<L.length->∃g,a=some ⟨g,0,none⟩/\base<=g/\g<w.heap.size):=by
 rcases h.row.2 with⟨rfl,h0⟩ | ⟨g,cap,cur,rfl,hb,hg,hn,hc,_⟩
 ·exact⟨none,0,by rw[h0],by omega,by simp,λh=>by omega⟩
 ·exact⟨_,cap,rfl,hn,hc,λ_=>⟨g,rfl,hb,(Qg hg).1⟩⟩
theorem RowG.mine (h:RowG S base e v L w):∀b,v.ownBlock=some b->base<=b:=λb hb=>(h.row.lt b hb).1
theorem RowG.read (h:RowG S base e v L w):∃fp,(Zaa S).R w [v] (L.map (·.d)) fp/\(∀b∈fp,v.ownBlock=some b\/∃x∈L,b∈x.fp)/\(Own w base (L.flatMap (·.fp))->Own w base fp):=by
 obtain⟨fp,h1,h2,h3⟩:=Zbt h.row λx hx=>⟨h.len x hx,h.el x hx⟩;refine⟨fp,h1,λb hb=>?_,λho=>h3 ho λg hg hm=>?_⟩
 ·rcases h2 b hb with h | h
  ·exact .inl h
  ·obtain⟨x,hx,aE⟩:=QO.1 h;exact .inr ⟨x,hx,aE⟩
 ·obtain⟨x,hx,aE⟩:=QO.1 hm;exact h.ap x hx g aE hg
theorem RowG.len_eq {g n cap:Nat}(h:RowG S base e (.slice (some ⟨g,0,none⟩) n cap) L w):L.length=n:=by
 rcases h.row.2 with⟨h',_⟩ | ⟨g',dF,cur,h',_⟩
 ·cases h'
 ·simp only[QT]at h';exact h'.2.1.symm
theorem RowG.frozen {g n cap:Nat}(h:RowG S base e (.slice (some ⟨g,0,none⟩) n cap) L w)(o:Nat):w.frozen? ⟨g,o,none⟩=false:=by
 rcases h.row.2 with⟨h',_⟩ | ⟨g',dF,cur,h',_,hg,_⟩
 ·cases h'
 ·simp only[QT,Qi,Addr.mk.injEq,and_true]at h';obtain⟨rfl,_⟩:=h';exact frozen_of_row w g o cur e hg
theorem RowG.cellAt {g n cap:Nat}(h:RowG S base e (.slice (some ⟨g,0,none⟩) n cap) L w){k:Nat}(hk:k<L.length){j:Nat}(hj:j<S.m){u:Value}(hu:L[k].cells[j]?=some u):w.cell? ⟨g,k*S.m+j,none⟩=some u:=by
 have hn:L.length=n:=h.len_eq;subst hn;rw[h.row.cellAt (k*S.m+j) (by have:(k+1)*S.m<=L.length*S.m:=Nat.mul_le_mul_right _ hk;rw[Nat.succ_mul]at this;omega)];exact(Zb4 (f:=Elem.cells) h.len hk hj).trans hu
theorem RowG.set {g n cap:Nat}(h:RowG S base e (.slice (some ⟨g,0,none⟩) n cap) L w){k:Nat}(hk:k<L.length){j:Nat}(hj:j<S.m)(u:Value)(x':Elem α)(hx:x'.cells=L[k].cells.set j u)
  (hR:S.R w x'.cells x'.d x'.fp) (hn:∀b∈x'.fp,b<base) :
  RowG S base e (.slice (some ⟨g,0,none⟩) n cap) (L.set k x') (w.setCell ⟨g,k*S.m+j,none⟩ u):=by
 have dr:∀b:Nat,b≠g->(w.setCell ⟨g,k*S.m+j,none⟩ u).heap[b]?=w.heap[b]?:=λb hb=>QV _ _ _ _ hb;have di:∀x∈L.set k x',x=x'\/x∈L:=λx hx=>by
  rcases List.mem_or_eq_of_mem_set hx with h | h
  ·exact .inr h
  ·exact .inl h
 have cD:∀x∈L,∀b∈x.fp,b≠g:=λx hx b hb e=>h.ap x hx b hb (by rw[e];rfl);refine⟨?_,λx bJ=>?_,λx bJ=>?_,λx bJ=>?_⟩
 ·have hn:=h.len_eq;have ai:=h.row;rw[hn]at ai;have:=(ai.stored (k*S.m+j) u).1;rw[Zfx h.len hk hj u x' hx]at this;rw[List.length_set,hn];exact this
 ·rcases di x bJ with rfl | bJ
  ·rw[hx,List.length_set];exact h.len _ (QE hk)
  ·exact h.len x bJ
 ·rcases di x bJ with rfl | bJ
  ·exact S.frame (λb hb=>dr b (λe=>by have h1:=hn b hb;have h2:=(h.row.lt g rfl).1;omega)) hR
  ·exact S.frame (λb hb=>dr b (cD x bJ b hb)) (h.el x bJ)
 ·rcases di x bJ with rfl | bJ
  ·exact hn
  ·exact h.hi x bJ
theorem RowG.appended (h:RowG S base e v L w){X:List (Elem α)}(ai:w'.ownsRow base e S.m v' (L++X).length ((L++X).flatMap (·.cells)))(hg:w.grownBy w' v.ownBlock)
  (hX:∀x∈X,x.cells.length=S.m/\S.R w x.cells x.d x.fp/\∀b∈x.fp,b<base) :
  RowG S base e v' (L++X) w':=by
 have az:∀x∈L++X,x.cells.length=S.m/\S.R w x.cells x.d x.fp/\∀b∈x.fp,b<base:=λx hx=>by
  rcases Qa hx with hx | hx
  ·exact⟨h.len x hx,h.el x hx,h.hi x hx⟩
  ·exact hX x hx
 refine⟨ai,λx hx=>(az x hx).1,λx hx=>?_,λx hx=>(az x hx).2.2⟩;refine S.frame (λb hb=>hg.block b (S.lt (az x hx).2.1 b hb) λhv=>?_) (az x hx).2.1;have h1:=(az x hx).2.2 b hb;have h2:=(h.row.lt b hv.symm).1;omega
end
variable {w:World}{α:Type}{S:Shape α}
theorem Zm2 {u:Value}{M:List α}{fp:List Nat}(H:(Zaa S).R w [u] M fp):
  ∃(X:List (Elem α)) (a:Option Addr) (cap:Nat),X.map (·.d)=M/\X.length=M.length/\u=.slice a M.length cap/\M.length<=maxLen/\(∀x∈X,x.cells.length=S.m/\S.R w x.cells x.d x.fp/\∀b∈x.fp,b∈fp) /\
   (0<M.length->∃b off,a=some ⟨b,off,none⟩/\b<w.heap.size/\∀k,(hk:k<X.length)->ElemAt w b off S.m k X[k].cells):=by
 obtain⟨a,cap,rfl,hc,hm,ai⟩:=Zac H;by_cases h0:0<M.length
 ·obtain⟨b,off,bA,rfl,hb,eY,he⟩:=ai h0;have eg:∀k:Fin M.length,∃x:Elem α,x.d=M[k.1]/\x.fp=bA k.1/\ElemAt w b off S.m k.1 x.cells/\S.R w x.cells x.d x.fp:=λk=>by
   obtain⟨es,hE,hR⟩:=he k.1 k.2;exact⟨⟨es,M[k.1],bA k.1⟩,rfl,rfl,hE,hR⟩
  let X:List (Elem α):=List.ofFn λk:Fin M.length=>(eg k).choose
  have eH:X.length=M.length:=by simp[X]
  have hX:∀k,(hk:k<X.length)->∃hk':k<M.length,X[k]=(eg ⟨k,hk'⟩).choose:=λk hk=>⟨by omega,by simp[X]⟩;refine⟨X,_,cap,?_,eH,rfl,by omega,λx hx=>?_,λ_=>⟨b,off,rfl,hb,λk hk=>?_⟩⟩
  ·apply List.ext_getElem
   ·simp[eH]
   ·intro k h1 h2;rw[JF];obtain⟨hk',e⟩:=hX k (by simpa using h1);rw[e];exact(eg ⟨k,hk'⟩).choose_spec.1
  ·obtain⟨k,hk,rfl⟩:=QY hx;obtain⟨hk',e⟩:=hX k hk;obtain⟨s1,s2,s3,s4⟩:=(eg ⟨k,hk'⟩).choose_spec;rw[e];refine⟨s3.1,s4,λc hc=>?_⟩;rw[s2]at hc;rw[eY];exact List.mem_cons_of_mem _ (QO.2 ⟨k,List.mem_range.2 hk',hc⟩)
  ·obtain⟨hk',e⟩:=hX k hk;rw[e];exact(eg ⟨k,hk'⟩).choose_spec.2.2.1
 ·have hM:M=[]:=QU.1 (by omega);subst hM;exact⟨[],a,cap,rfl,rfl,rfl,by unfold maxLen;simp,by simp,λh=>absurd h (by simp)⟩
variable {P:Program}
theorem Zg9 {t e:TypeId}{z:Value}{bytes:Nat}(ti:TI P t e z S.m bytes)(ev:z.cells.size=S.m)(h0:0<S.m)(w:World){L X:List (Elem α)}{ops:Array Oper}{rest:List Oper}{o:Oper}{a:Act}{Q:Exit->Act->World->Prop}
  (hg:o.guard=none) (s y:Operand) (ho:o.op=.call { callee:=.builtin .append,args:=#[s,y],argTypes:=#[t,t] })
  (base:Nat) (v:Value) (hs:a.eval s=v) (ag:RowG S base e v L w) (g off m c:Nat) (hy:a.eval y=.slice (some ⟨g,off,none⟩) m c) (hm:X.length=m)
  (hX:∀x∈X,x.cells.length=S.m/\S.R w x.cells x.d x.fp/\∀b∈x.fp,b<base) (h1:∀x∈X,∀u∈x.cells,u.oneCell'=true) (aJ:∀j u,(X.flatMap (·.cells))[j]?=some u->w.cell? ⟨g,off+j,none⟩=some u)
  (dz:L.length+m<=maxLen) (aO:(L.length+m)*bytes<=140737488355328) (aK:base<=w.heap.size)
  (h:∀v' w',RowG S base e v' (L++X) w'->w.grownBy w' v.ownBlock->wpList P ops Q rest (a.put o.dst v') w'):wpList P ops Q (o::rest) a w:=by
 obtain⟨i,hi,cI,dQ,dZ⟩:=info_parts ti.2;subst hm;refine wpList_append_own _ hg s y t ho base e i z S.m bytes ti.1 hi cI dQ dZ ev h0 v L.length _ hs ag.row ⟨g,off,none⟩ X.length c (X.flatMap (·.cells)) hy (ZaR (f:=Elem.cells) λx hx=>(hX x hx).1) ?_ ?_ dz aO aK λv' w' r1 r2 _=>h v' w' ?_ r2
 ·intro j u hj;rw[JN];exact aJ j u hj
 ·intro u hu;obtain⟨x,hx,hu⟩:=QO.1 hu;exact h1 x hx u hu
 ·refine ag.appended ?_ r2 hX;rw[QC,Qo];exact r1
theorem ZjC (base:Nat)(t ty e:TypeId)(i:TypeInfo)(size c:Nat)(ht:P.underlying t=some (.slice e))(hi:P.info? e=some i)
  (v:Value) (n:Nat) (xs:List Value) (ag:w.ownsRow base e size v n xs):(Builtin.append_ #[t,t] ty #[v,.slice none 0 c]).run P w=.ok v w:=by
 rcases ag.2 with⟨rfl,rfl⟩ | ⟨g,cap,cur,rfl,_,_,j7,_⟩
 ·simp[Builtin.append_,run_underlying ht,sizeOf,typeInfo,hi,Builtin.lenOf,Builtin.firstCells]
 ·simp[Builtin.append_,run_underlying ht,sizeOf,typeInfo,hi,Builtin.lenOf,Builtin.firstCells,j7,storeCells]
theorem Zk9 {t e:TypeId}{z:Value}{bytes:Nat}(ti:TI P t e z S.m bytes)(ev:z.cells.size=S.m)(h0:0<S.m)(cY:∀w cs x fp,S.R w cs x fp->∀u∈cs,u.oneCell'=true)(w:World){L:List (Elem α)}{ops:Array Oper}{rest:List Oper}{o:Oper}{a:Act}{Q:Exit->Act->World->Prop}
  (hg:o.guard=none) (s y:Operand) (ho:o.op=.call { callee:=.builtin .append,args:=#[s,y],argTypes:=#[t,t] })
  (base:Nat) (v u:Value) (M:List α) (fp:List Nat) (hs:a.eval s=v) (ag:RowG S base e v L w) (hy:a.eval y=u) (HM:(Zaa S).R w [u] M fp) (eY:∀b∈fp,b<base)
  (dz:L.length+M.length<=maxLen) (aO:(L.length+M.length)*bytes<=140737488355328) (aK:base<=w.heap.size)
  (h:∀v' X w',X.map (·.d)=M->(∀x∈X,∀b∈x.fp,b∈fp)->RowG S base e v' (L++X) w'->w.grownBy w' v.ownBlock->wpList P ops Q rest (a.put o.dst v') w'):wpList P ops Q (o::rest) a w:=by
 obtain⟨X,ad,cap,qm,eH,rfl,hmm,hX,df⟩:=Zm2 HM;rw[←eH]at dz aO;by_cases hM:0<M.length
 ·obtain⟨b,off,rfl,hb,hE⟩:=df hM;refine Zg9 ti ev h0 w (X:=X) hg s y ho base v hs ag b off M.length cap hy eH (λx hx=>⟨(hX x hx).1,(hX x hx).2.1,λc hc=>eY c ((hX x hx).2.2 c hc)⟩) (λx hx=>cY _ _ _ _ (hX x hx).2.1) ?_ (by rw[←eH];exact dz) (by rw[←eH];exact aO) aK λv' w' r1 r2=>h v' X w' qm (λx hx=>(hX x hx).2.2) r1 r2;intro j u hj;have lj:j<X.length*S.m:=by
   have:=(Qq.1 hj).1
   rwa [ZaR (f:=Elem.cells) λx hx=>(hX x hx).1]at this
  have hk:j / S.m<X.length:=Nat.div_lt_of_lt_mul (by rw[Nat.mul_comm];exact lj);have hr:j % S.m<S.m:=Nat.mod_lt _ h0;have iF:j / S.m*S.m+j % S.m=j:=Nat.div_add_mod' _ _;rw[←iF,Zb4 (f:=Elem.cells) (λx hx=>(hX x hx).1) hk hr]at hj;have:=(hE (j / S.m) hk).2 (j % S.m) hr;rw[Nat.add_assoc,iF]at this;rw[this];exact hj
 ·have qg:X=[]:=QU.1 (by omega);have zQ:M.length=0:=by omega
  subst qg;obtain⟨i,hi,cI,dQ,dZ⟩:=info_parts ti.2;have gn:wpList P ops Q rest (a.put o.dst v) w:=h v [] w (by simpa using qm) (by simp) (by simpa using ag) ⟨rfl,rfl,rfl,QA _,λ_ _ _=>rfl⟩;rw[zQ]at hy;cases ad with
  |
   none =>
   have gQ:=ZjC (P:=P) (w:=w) base _ o.type _ i S.m cap ti.1 hi v L.length _ ag.row;refine wpList_plain hg λK zP=>?_;unfold Oper.wp;simp[execOp,ho,resolve,invoke,builtin,hs,hy,gQ,Result.andThen];exact zP _ _ gn
  |
   some ad =>
   refine wpList_append_own _ hg s y t ho base e i z S.m bytes ti.1 hi cI dQ dZ ev h0 v L.length _ hs ag.row ad 0 cap [] hy (by simp) (by simp) (by simp) (by omega) (by simpa using aO) aK λv' w' r1 r2 _=>h v' [] w' (by simpa using qm) (by simp) ?_ r2;exact ag.appended (X:=[]) (by have h1':=r1;simp only[Q0,Q5]at h1' ⊢;exact h1') r2 (by simp)
def OwnMac (x:DMacro)(w:World)(e:Ending)(w':World):Prop:=
 ∃(a2 a3:Option Addr) (c2 c3:Nat) (fp:List Nat),e=.returned (.agg #[.string x.name,.bool x.function,.slice a2 x.params.length c2,.slice a3 x.body.length c3])/\sMacro.R w' [.string x.name,.bool x.function,.slice a2 x.params.length c2,.slice a3 x.body.length c3] x fp /\
  (∀b∈fp,w.heap.size<=b)/\NoMac w' fp/\Below w.heap.size w w'
def setM (w:World)(g:Nat)(v0 v1 v2 v3:Value):World:=(((w.setCell ⟨g,0,none⟩ v0).setCell ⟨g,1,none⟩ v1).setCell ⟨g,2,none⟩ v2).setCell ⟨g,3,none⟩ v3
theorem ZoW {g:Nat}{z0 z1 z2 z3:Value}{ty:TypeId}(h:w.heap[g]?=some (.cells #[z0,z1,z2,z3] ty (0,0)))(v0 v1 v2 v3:Value):
  (setM w g v0 v1 v2 v3).heap[g]?=some (.cells #[v0,v1,v2,v3] ty (0,0)):=Zai (Zai (Zai (Zai h 0 _) 1 _) 2 _) 3 _
theorem Zfj {g b:Nat}(h:b≠g)(v0 v1 v2 v3:Value):(setM w g v0 v1 v2 v3).heap[b]?=w.heap[b]?:=by
 unfold setM;rw[QV _ _ _ _ h,QV _ _ _ _ h,QV _ _ _ _ h,QV _ _ _ _ h]
theorem Zkn {B:Nat}{w0 w:World}(hB:Below B w0 w){g:Nat}(hg:B<=g)(v0 v1 v2 v3:Value):Below B w0 (setM w g v0 v1 v2 v3):=
 ((((hB).setCell (p:=⟨g,0,none⟩) hg v0).setCell (p:=⟨g,1,none⟩) hg v1).setCell (p:=⟨g,2,none⟩) hg v2).setCell (p:=⟨g,3,none⟩) hg v3
theorem NoMac.app {a b:List Nat}(h1:NoMac w a)(h2:NoMac w b):NoMac w (a++b):=λc hc=>by
 rcases Qa hc with h | h
 ·exact h1 c h
 ·exact h2 c h
theorem ZeX (cs:List Value)(x:DMacro)(fp:List Nat)(w:World)(hp:x.params.length<=2000000)(hl:x.body.length<=1048576)(hx:∀k,(hk:k<x.body.length)->x.body[k].hidden.length<=2000000)(H:sMacro.R w cs x fp):
  Calls Tryz.prog 65 #[.agg cs.toArray] w (OwnMac x w):=by
 obtain⟨h2,h3,p2,p3,rfl,bQ,K2,K3,rfl⟩:=H;obtain⟨a2,c2,rfl,-,-,-,cC⟩:=Zaf K2;obtain⟨a3,c3,rfl,-⟩:=Zac K3;have aC:=Zj3 w #[.string x.name,.bool x.function,.slice a2 x.params.length c2,.slice a3 x.body.length c3] #[.string ⟨#[]⟩,.bool false,.slice none 0 0,.slice none 0 0] #[.string x.name,.bool x.function,.slice a2 x.params.length c2,.slice a3 x.body.length c3] 56 56 56;have g0:=Zfw w #[.string x.name,.bool x.function,.slice a2 x.params.length c2,.slice a3 x.body.length c3] #[.string ⟨#[]⟩,.bool false,.slice none 0 0,.slice none 0 0] #[.string x.name,.bool x.function,.slice a2 x.params.length c2,.slice a3 x.body.length c3] 56 56 56;obtain⟨g1,g2,iR⟩:=ZfV w #[.string x.name,.bool x.function,.slice a2 x.params.length c2,.slice a3 x.body.length c3] #[.string ⟨#[]⟩,.bool false,.slice none 0 0,.slice none 0 0] #[.string x.name,.bool x.function,.slice a2 x.params.length c2,.slice a3 x.body.length c3] 56 56 56;have oM:=Qh ((Zaa sStr).below K2 aC);have jF:=Qh ((Zaa sTok).below K3 aC);have fL:=Qh cC;have HX:=Qh hx;have dD:Hid (∀b∈p3,b<w.heap.size):=λb hb=>(Zaa sTok).lt K3 b hb;clear K2 K3 cC hx;obtain⟨hv,HV⟩:∃hv:Value,Hid (hv=Value.slice a2 x.params.length c2):=⟨_,rfl⟩;go_enter Tryz.func65,Tryz.ntmps65;go_upto_region 2 with fail
 generalize (((w.alloc (.cells #[.string x.name,.bool x.function,.slice a2 x.params.length c2,.slice a3 x.body.length c3] 56)).alloc (.cells #[.string ⟨#[]⟩,.bool false,.slice none 0 0,.slice none 0 0] 56)).alloc (.cells #[.string x.name,.bool x.function,.slice a2 x.params.length c2,.slice a3 x.body.length c3] 56))=W3 at *;have bH:=Zab W3 (.cells #[] 9);have c02:(W3.alloc (.cells #[] 9)).cell? ⟨w.heap.size,2,none⟩=some hv:=by
  rw[HV.out];exact(bH.cell (p:=⟨w.heap.size,2,none⟩) (by show w.heap.size<_;omega)).trans (Qc 2 g0)
 have bo:Hid ((W3.alloc (.cells #[] 9)).ownsRow W3.heap.size 9 1 (.slice (some ⟨W3.heap.size,0,none⟩) 0 0) ([]:List ByteArray).length (([]:List ByteArray).map Value.string)):=
  Q1 (base:=W3.heap.size) (e:=9) (size:=1) W3 #[] 0 (QA _) (by simp) rfl
 have uw:Hid ((Zaa sStr).R (W3.alloc (.cells #[] 9)) [hv] x.params p2):=by show(Zaa sStr).R _ _ _ _;rw[HV.out];exact(Zaa sStr).below oM.out bH
 have HG:=Qh (And.intro g0 (And.intro g1 (And.intro g2 iR)));have aM:=Qh (aC.trans (bH.mono aC.size));clear g0 g1 g2 aC iR bH
 go_wp2_with (
  at_builtin;refine ZbS rfl (.tmp 5) (.tmp 7) rfl W3.heap.size (.slice (some ⟨W3.heap.size,0,none⟩) 0 0) hv [] x.params _ rfl bo.out rfl uw.out (by simp;omega) (by simp) ?_;intro v5 w1 ag aX;rw[Q3]at ag;obtain⟨de,R1,O1,eY⟩:=ZbM (ok:=ZaC) ag fL.out;have iR:=HG.out.2.2.2;have dr:∀k,k<W3.heap.size->w1.heap[k]?=W3.heap[k]?:=λk hk=>(aX.block k (by simp;omega) (by simp[Value.ownBlock];omega)).trans ((Zab W3 _).block k hk);have eo:Hid (w1.heap[w.heap.size]?=some (.cells #[.string x.name,.bool x.function,.slice a2 x.params.length c2,.slice a3 x.body.length c3] 56 (0,0))/\w1.heap[w.heap.size+1]?=some (.cells #[.string ⟨#[]⟩,.bool false,.slice none 0 0,.slice none 0 0] 56 (0,0))/\w1.heap[w.heap.size+1+1]?=some (.cells #[.string x.name,.bool x.function,.slice a2 x.params.length c2,.slice a3 x.body.length c3] 56 (0,0))):=
   ⟨(dr _ (by omega)).trans HG.out.1,(dr _ (by omega)).trans HG.out.2.1,(dr _ (by omega)).trans HG.out.2.2.1⟩
  have hb:Below w.heap.size w w1:=aM.out.grown aX (by simp;omega) (λb hb=>by simp[Value.ownBlock]at hb;omega);have hbW:Below W3.heap.size W3 w1:=((QD W3.heap.size W3).alloc (QA _) (.cells #[] 9)).grown aX (by simp) (λb hb=>by simp[Value.ownBlock]at hb;omega);have gD:NoMac w1 de:=λb aE=>by
   have hv:=eY b aE;rcases ag.2 with⟨rfl,_⟩ | ⟨g,cap,cur,rfl,_,hg,_⟩
   ·simp[Value.ownBlock]at hv
   ·simp only[Value.ownBlock,Qi]at hv;subst hv;exact⟨_,_,_,hg,by decide⟩
  have cV:∀b∈de,w.heap.size+3<=b:=λb hb=>by have:=(O1.2 b hb).1;omega
  have iw:=(Zaa sTok).below jF.out hbW;have hW1:w.heap.size+3<=w1.heap.size:=by have:=hbW.size;omega
  clear HG dr aX ag eY O1 c02 aM uw bo iR hbW;obtain⟨a1,aN,rfl,hq⟩:=Zac R1;clear hq;have c22:=Qc 2 eo.out.2.2;have f22:=Qf 2 eo.out.2.2;have e03:=Qc 3 eo.out.1;have oN:∀b,b≠w.heap.size+1+1->(w1.setCell ⟨w.heap.size+1+1,2,none⟩ (.slice a1 x.params.length aN)).heap[b]?=w1.heap[b]?:=λb hb=>QV _ _ _ _ hb;have e03':(w1.setCell ⟨w.heap.size+1+1,2,none⟩ (.slice a1 x.params.length aN)).cell? ⟨w.heap.size,3,none⟩=some (.slice a3 x.body.length c3):=Qc 3 ((oN _ (by omega)).trans eo.out.1);have zS:Hid ((w1.setCell ⟨w.heap.size+1+1,2,none⟩ (.slice a1 x.params.length aN)).heap[w.heap.size+1]?=some (.cells #[.string ⟨#[]⟩,.bool false,.slice none 0 0,.slice none 0 0] 56 (0,0))/\(w1.setCell ⟨w.heap.size+1+1,2,none⟩ (.slice a1 x.params.length aN)).heap[w.heap.size+1+1]?=some (.cells #[.string x.name,.bool x.function,.slice a1 x.params.length aN,.slice a3 x.body.length c3] 56 (0,0))):=
   ⟨(oN _ (by omega)).trans eo.out.2.1,Zai eo.out.2.2 2 _⟩
  have ij:Hid ((Zaa sStr).R (w1.setCell ⟨w.heap.size+1+1,2,none⟩ (.slice a1 x.params.length aN)) [.slice a1 x.params.length aN] x.params de):=(Zaa sStr).frame (λb hb=>oN b (by have:=cV b hb;omega)) R1;have zT:Hid (NoMac (w1.setCell ⟨w.heap.size+1+1,2,none⟩ (.slice a1 x.params.length aN)) de):=gD.same λb hb _=>oN b (by have:=cV b hb;omega);have ux:Hid (∀b∈p3,b≠w.heap.size+1+1):=λb hb=>by have:=dD.out b hb;omega
  have jN:Hid ((Zaa sTok).R (w1.setCell ⟨w.heap.size+1+1,2,none⟩ (.slice a1 x.params.length aN)) [.slice a3 x.body.length c3] x.body p3):=(Zaa sTok).frame (λb hb=>oN b (ux.out b hb)) iw;have jO:=Qh (hb.setCell (p:=⟨w.heap.size+1+1,2,none⟩) (by show w.heap.size<=w.heap.size+1+1;omega) (.slice a1 x.params.length aN));have oO:=Qh cV;have oP:Hid ((w1.setCell ⟨w.heap.size+1+1,2,none⟩ (.slice a1 x.params.length aN)).heap.size=w1.heap.size):=by show _=_;simp
  clear eo gD cV hb R1 oN iw jF)
 have bi:=oP.out;generalize (w1.setCell ⟨w.heap.size+1+1,2,none⟩ (.slice a1 x.params.length aN))=w2 at *;clear c22 f22 e03;refine(ZeE _ x.body p3 w2 hl HX.out jN.out).mono ?_;rintro e w3⟨v3,dI,rfl,R3,ep,tn,aC⟩;obtain⟨a4,c4,rfl,-⟩:=Zac R3;have iR:=aC.size;have nc:Hid (w3.heap[w.heap.size+1]?=some (.cells #[.string ⟨#[]⟩,.bool false,.slice none 0 0,.slice none 0 0] 56 (0,0))/\w3.heap[w.heap.size+1+1]?=some (.cells #[.string x.name,.bool x.function,.slice a1 x.params.length aN,.slice a3 x.body.length c3] 56 (0,0))):=
  ⟨(aC.block _ (by omega)).trans zS.out.1,(aC.block _ (by omega)).trans zS.out.2⟩
 have oN:∀b,b≠w.heap.size+1+1->(w3.setCell ⟨w.heap.size+1+1,3,none⟩ (.slice a4 x.body.length c4)).heap[b]?=w3.heap[b]?:=λb hb=>QV _ _ _ _ hb;have kl:Hid ((w3.setCell ⟨w.heap.size+1+1,3,none⟩ (.slice a4 x.body.length c4)).heap[w.heap.size+1]?=some (.cells #[.string ⟨#[]⟩,.bool false,.slice none 0 0,.slice none 0 0] 56 (0,0))/\(w3.setCell ⟨w.heap.size+1+1,3,none⟩ (.slice a4 x.body.length c4)).heap[w.heap.size+1+1]?=some (.cells #[.string x.name,.bool x.function,.slice a1 x.params.length aN,.slice a4 x.body.length c4] 56 (0,0))):=
  ⟨(oN _ (by omega)).trans nc.out.1,Zai nc.out.2 3 _⟩
 have fM:Hid (sMacro.R (setM (w3.setCell ⟨w.heap.size+1+1,3,none⟩ (.slice a4 x.body.length c4)) (w.heap.size+1) (.string x.name) (.bool x.function) (.slice a1 x.params.length aN) (.slice a4 x.body.length c4)) [.string x.name,.bool x.function,.slice a1 x.params.length aN,.slice a4 x.body.length c4] x (de++dI)):=
  ⟨_,_,de,dI,rfl,bQ,(Zaa sStr).frame (λb hb=>(Zfj (by have:=oO.out b hb;omega) _ _ _ _).trans (oN b (by have:=oO.out b hb;omega))) ((Zaa sStr).below ij.out aC),(Zaa sTok).frame (λb hb=>(Zfj (by have:=ep b hb;omega) _ _ _ _).trans (oN b (by have:=ep b hb;omega))) R3,rfl⟩
 have lD:Hid (NoMac (setM (w3.setCell ⟨w.heap.size+1+1,3,none⟩ (.slice a4 x.body.length c4)) (w.heap.size+1) (.string x.name) (.bool x.function) (.slice a1 x.params.length aN) (.slice a4 x.body.length c4)) (de++dI)):=
  NoMac.app ((zT.out.below aC).same λb hb _=>(Zfj (by have:=oO.out b hb;omega) _ _ _ _).trans (oN b (by have:=oO.out b hb;omega))) (tn.same λb hb _=>(Zfj (by have:=ep b hb;omega) _ _ _ _).trans (oN b (by have:=ep b hb;omega)))
 have nd:Hid (∀b∈de++dI,w.heap.size<=b):=λb hb=>by
  rcases Qa hb with h | h
  ·have:=oO.out b h;omega
  ·have:=ep b h;omega
 have dM:=Qh (Zkn (g:=w.heap.size+1) ((jO.out.trans (aC.mono jO.out.size)).setCell (p:=⟨w.heap.size+1+1,3,none⟩) (by show w.heap.size<=w.heap.size+1+1;omega) (.slice a4 x.body.length c4)) (by omega) (.string x.name) (.bool x.function) (.slice a1 x.params.length aN) (.slice a4 x.body.length c4));have yB:=Qh (ZoW kl.out.1 (.string x.name) (.bool x.function) (.slice a1 x.params.length aN) (.slice a4 x.body.length c4));have d3:=Qc 3 nc.out.2;have df3:=Qf 3 nc.out.2;clear oN zS nc ij zT jN jO oO aC tn ep R3 ux;have y0:(w3.setCell ⟨w.heap.size+1+1,3,none⟩ (.slice a4 x.body.length c4)).cell? ⟨w.heap.size+1+1,0,none⟩=some (.string x.name):=Qc 0 kl.out.2;have z0:(w3.setCell ⟨w.heap.size+1+1,3,none⟩ (.slice a4 x.body.length c4)).cell? ⟨w.heap.size+1,0,none⟩=some (.string ⟨#[]⟩):=Qc 0 kl.out.1;have dT:(w3.setCell ⟨w.heap.size+1+1,3,none⟩ (.slice a4 x.body.length c4)).frozen? ⟨w.heap.size+1,0,none⟩=false:=frozen_of_row _ _ 0 _ _ kl.out.1;have y1:(w3.setCell ⟨w.heap.size+1+1,3,none⟩ (.slice a4 x.body.length c4)).cell? ⟨w.heap.size+1+1,1,none⟩=some (.bool x.function):=Qc 1 kl.out.2;have z1:(w3.setCell ⟨w.heap.size+1+1,3,none⟩ (.slice a4 x.body.length c4)).cell? ⟨w.heap.size+1,1,none⟩=some (.bool false):=Qc 1 kl.out.1;have dU:(w3.setCell ⟨w.heap.size+1+1,3,none⟩ (.slice a4 x.body.length c4)).frozen? ⟨w.heap.size+1,1,none⟩=false:=frozen_of_row _ _ 1 _ _ kl.out.1;have y2:(w3.setCell ⟨w.heap.size+1+1,3,none⟩ (.slice a4 x.body.length c4)).cell? ⟨w.heap.size+1+1,2,none⟩=some (.slice a1 x.params.length aN):=Qc 2 kl.out.2;have z2:(w3.setCell ⟨w.heap.size+1+1,3,none⟩ (.slice a4 x.body.length c4)).cell? ⟨w.heap.size+1,2,none⟩=some (.slice none 0 0):=Qc 2 kl.out.1;have dV:(w3.setCell ⟨w.heap.size+1+1,3,none⟩ (.slice a4 x.body.length c4)).frozen? ⟨w.heap.size+1,2,none⟩=false:=frozen_of_row _ _ 2 _ _ kl.out.1;have y3:(w3.setCell ⟨w.heap.size+1+1,3,none⟩ (.slice a4 x.body.length c4)).cell? ⟨w.heap.size+1+1,3,none⟩=some (.slice a4 x.body.length c4):=Qc 3 kl.out.2;have z3:(w3.setCell ⟨w.heap.size+1+1,3,none⟩ (.slice a4 x.body.length c4)).cell? ⟨w.heap.size+1,3,none⟩=some (.slice none 0 0):=Qc 3 kl.out.1;have dW:(w3.setCell ⟨w.heap.size+1+1,3,none⟩ (.slice a4 x.body.length c4)).frozen? ⟨w.heap.size+1,3,none⟩=false:=frozen_of_row _ _ 3 _ _ kl.out.1;go_wp2;refine JV (JX rfl _ _ (w.heap.size+1) _ _ _ _ rfl yB.out Tryz.underlying56 rfl (by kernel_rfl)) rfl ?_;exact⟨a1,a4,aN,c4,de++dI,rfl,fM.out,nd.out,lD.out,dM.out⟩
theorem Zcm:TI Tryz.prog 23 56 (.agg #[.string ⟨#[]⟩,.bool false,.slice none 0 0,.slice none 0 0]) 4 72:=⟨by kernel_rfl,by kernel_rfl⟩
theorem Zdv (w:World)(cs:List Value)(x:DMacro)(fp:List Nat)(h:sMacro.R w cs x fp):∀u∈cs,u.oneCell'=true:=by
 obtain⟨h2,h3,p2,p3,rfl,-,K2,K3,-⟩:=h;obtain⟨a2,c2,rfl,-⟩:=Zaf K2;obtain⟨a3,c3,rfl,-⟩:=Zac K3;intro u hu;simp only[Q7,Qz,or_false]at hu;rcases hu with rfl | rfl | rfl | rfl <;> rfl
theorem Zla {w:World}{ops:Array Oper}{rest:List Oper}{o:Oper}{a:Act}{Q:Exit->Act->World->Prop}(hg:o.guard=none)(s y:Operand)
  (ho:o.op=.call { callee:=.builtin .append,args:=#[s,y],argTypes:=#[23,23] })
  (base:Nat) (v:Value) (L:List (Elem DMacro)) (hs:a.eval s=v) (ag:RowE sMacro base 56 v L w) (nm:ByteArray) (f:Bool) (a2 a3:Option Addr) (n2 c2 n3 c3:Nat) (d:DMacro) (fp:List Nat)
  (hy:a.eval y=.slice (some ⟨w.heap.size,0,none⟩) 1 1) (hR:sMacro.R w [.string nm,.bool f,.slice a2 n2 c2,.slice a3 n3 c3] d fp) (cV:∀b∈fp,base<=b) (gD:NoMac w fp)
  (dz:L.length<=1500000) (aK:base<=w.heap.size)
  (h:∀v' w',RowE sMacro base 56 v' (L++[⟨[.string nm,.bool f,.slice a2 n2 c2,.slice a3 n3 c3],d,fp⟩]) w'->w.grownBy w' v.ownBlock->wpList Tryz.prog ops Q rest (a.put o.dst v') w') :
  wpList Tryz.prog ops Q (o::rest) a (w.alloc (.cells #[.string nm,.bool f,.slice a2 n2 c2,.slice a3 n3 c3] 56)):=by
 have hb:=Zab w (.cells #[.string nm,.bool f,.slice a2 n2 c2,.slice a3 n3 c3] 56);refine Zg6 (S:=sMacro) Zcm rfl (by decide) _ (X:=[⟨[.string nm,.bool f,.slice a2 n2 c2,.slice a3 n3 c3],d,fp⟩]) hg s y ho base v hs (ag.below hb) w.heap.size 1 1 hy rfl ?_ ?_ ?_ ?_ ?_ ?_ (by unfold maxLen;omega) (by omega) (by simp;omega) λv' w' a b=>h v' w' a (Zds (World.grownBy_alloc _ _ _) b)
 ·intro x hx;obtain rfl:=Qm hx;rfl
 ·intro x hx;obtain rfl:=Qm hx;simp[Value.oneCell']
 ·intro j u hj;rw[Qy _ _ _ _ rfl];simpa using hj
 ·intro x hx;obtain rfl:=Qm hx;exact sMacro.below hR hb
 ·intro x hx;obtain rfl:=Qm hx;exact cV
 ·intro x hx b' aE;obtain rfl:=Qm hx;obtain⟨cur,t,fr,h1,h2⟩:=gD b' aE;exact⟨cur,t,fr,(hb.block b' (Qg h1).1).trans h1,h2⟩
def ZfX (x:DMacro):Prop:=x.params.length<=2000000/\x.body.length<=1048576/\∀k,(hk:k<x.body.length)->x.body[k].hidden.length<=2000000
def OwnTab (l:List DMacro)(w:World)(e:Ending)(w':World):Prop:=∃v fp,e=.returned v/\(Zaa sMacro).R w' [v] l fp/\(∀b∈fp,w.heap.size<=b)/\Below w.heap.size w w'
theorem Zdz (v:Value)(l:List DMacro)(fp:List Nat)(w:World)(hl:l.length<=1048576)(hx:∀k,(hk:k<l.length)->ZfX l[k])(H:(Zaa sMacro).R w [v] l fp):
  Calls Tryz.prog 41 #[v] w (OwnTab l w):=by
 obtain⟨a,cap,rfl,hc,hm,ai⟩:=Zac H;unfold maxLen at hm;clear H;have HX:=Qh hx;clear hx;have bo:Hid (RowE sMacro w.heap.size 56 (.slice (some ⟨w.heap.size,0,none⟩) 0 0) [] (w.alloc (.cells #[] 56))):=RowE.lit [] (by simp) (by simp) (by simp) (by simp) (QA _) (by simp);have bH:=Zab w (.cells #[] 56);go_enter Tryz.func41,Tryz.ntmps41;go_wp2;go_loopw [3,4] (λo i wr=>∃(k:Nat) (L:List (Elem DMacro)),k<=l.length/\i=.int .i64 k/\Hid (RowE sMacro w.heap.size 56 o L wr)/\Hid (L.map (·.d)=l.take k)/\Below w.heap.size w wr) (λ_ i _=>l.length-(intOf i).toNat)
 case atStart=>exact⟨0,[],by omega,rfl,bo,rfl,bH⟩
 case round =>
  clear bo bH;obtain⟨k,L,hk,rfl,HE,HD,hb⟩:=hrel;by_cases af:k<l.length
  ·obtain⟨b1,ae,dt,rfl,aG,-,bj⟩:=ai (by omega);obtain⟨lA,bf,bR⟩:=bj k af;clear ai bj;have HC:=Qh (ZeX _ _ _ wr (HX.out k af).1 (HX.out k af).2.1 (HX.out k af).2.2 (sMacro.below bR hb));obtain⟨h2,h3,p2,p3,rfl,_,_,_,_⟩:=bR;replace bf:=bf.frame (hb.block b1 aG);have dg:wr.cell? ⟨b1,ae+k*4,none⟩=some _:=ZaB bf (by decide) rfl;have dL:wr.cell? ⟨b1,ae+k*4+1,none⟩=some _:=Zae (j:=1) bf (by decide) rfl;have dh:wr.cell? ⟨b1,ae+k*4+2,none⟩=some _:=Zae (j:=2) bf (by decide) rfl;have ew:wr.cell? ⟨b1,ae+k*4+3,none⟩=some _:=Zae (j:=3) bf (by decide) rfl;clear bf;have yA:Hid (L.length=k):=(by have:=JY List.length HD.out;simp at this;show _=_;omega);go_wp2_with fail
   refine HC.out.mono ?_;rintro e w2⟨a2,a3,c2,c3,bv,rfl,bN,jM,oK,aF⟩;obtain⟨ar,th,rfl,-⟩:=HE.out.val;have cQ:=HE.out.below aF;have aD:=hb.trans (aF.mono hb.size);have ep:∀b∈bv,w.heap.size<=b:=λb hx=>QZ hb.size (jM b hx);clear dg dL dh ew HC HE;go_wp2_with (at_builtin;refine Zla rfl (.tmp 12) (.tmp 18) rfl w.heap.size (.slice ar L.length th) L rfl cQ l[k].name l[k].function a2 a3 l[k].params.length c2 l[k].body.length c3 l[k] bv rfl bN ep oK (by have:=yA.out;omega) aD.size ?_;intro v3 w3 fy cX)
   have aC:=aD.grown cX aD.size (λb hb=>(cQ.row.lt b hb).1);have m9:=Qh fy;have lC:Hid ((L++[(⟨[.string l[k].name,.bool l[k].function,.slice a2 l[k].params.length c2,.slice a3 l[k].body.length c3],l[k],bv⟩:Elem DMacro)]).map (·.d)=l.take (k+1)):=by
    show _=_;rw[QG,HD.out,Qb af];rfl
   clear cQ fy cX bN oK jM ep aF;go_roundw;case rel=>exact⟨k+1,_,by omega,by go_num,m9,lC,aC⟩
   case measure=>simp[intOf];omega
  ·obtain⟨gm,hr,cV⟩:=HE.out.read;have hd:=HD.out;rw[Qe (by omega)]at hd;rw[hd]at hr;have HR:=Qh hr;have HLO:=Qh cV;clear hr hd HE HD cV;go_wp2;go_ret;exact⟨_,gm,rfl,HR.out,HLO.out,hb⟩
end Go.Proofs.YtipfpppcbmpjiaaGreat
