/- Lemmas. -/
import Derived.Test.YtipfpppcbmpjiaaGreatZC10
set_option linter.unusedVariables false
set_option maxHeartbeats 16000000
set_option maxRecDepth 100000
set_option linter.unusedSimpArgs false
namespace Go.Proofs.YtipfpppcbmpjiaaGreat
open Go.RowKit
theorem con_pick {W:World}{g g2:Nat}{r:Int}(h0:0<=r)(h1:r<10)(hI:W.heap[g2]?=some (.cells #[.int .i64 0,.int .i64 0,.int .i64 1,.int .i64 1,.int .i64 2,.int .i64 2,.int .i64 3,.int .i64 4,.int .i64 5,.int .i64 6] 3 (0,0)))(hS:W.heap[g]?=some (.cells #[.string ⟨#[49]⟩,.string ⟨#[48]⟩,.string ⟨#[97]⟩,.string ⟨#[100,101,102,105,110,101,100]⟩,.string ⟨#[100,101,102,105,110,101,100,40]⟩,.string ⟨#[100,101,102,105,110,101,100,40,97,32,98,41]⟩,.string ⟨#[100,101,102,105,110,101,100,32,49]⟩] 9 (0,0))):
  ∃(n:Int) (s:ByteArray),W.cell? ⟨g2,r.toNat,none⟩=some (.int .i64 n)/\0<=n/\n<7/\W.cell? ⟨g,n.toNat,none⟩=some (.string s)/\s.size<=12:=by
 have hr:r=0\/r=1\/r=2\/r=3\/r=4\/r=5\/r=6\/r=7\/r=8\/r=9:=by omega
 rcases hr with rfl | rfl | rfl | rfl | rfl | rfl | rfl | rfl | rfl | rfl
 ·exact⟨0,⟨#[49]⟩,Qc 0 hI,by decide,by decide,Qc 0 hS,show(1:Nat)<=12 by decide⟩
 ·exact⟨0,⟨#[49]⟩,Qc 1 hI,by decide,by decide,Qc 0 hS,show(1:Nat)<=12 by decide⟩
 ·exact⟨1,⟨#[48]⟩,Qc 2 hI,by decide,by decide,Qc 1 hS,show(1:Nat)<=12 by decide⟩
 ·exact⟨1,⟨#[48]⟩,Qc 3 hI,by decide,by decide,Qc 1 hS,show(1:Nat)<=12 by decide⟩
 ·exact⟨2,⟨#[97]⟩,Qc 4 hI,by decide,by decide,Qc 2 hS,show(1:Nat)<=12 by decide⟩
 ·exact⟨2,⟨#[97]⟩,Qc 5 hI,by decide,by decide,Qc 2 hS,show(1:Nat)<=12 by decide⟩
 ·exact⟨3,⟨#[100,101,102,105,110,101,100]⟩,Qc 6 hI,by decide,by decide,Qc 3 hS,show(7:Nat)<=12 by decide⟩
 ·exact⟨4,⟨#[100,101,102,105,110,101,100,40]⟩,Qc 7 hI,by decide,by decide,Qc 4 hS,show(8:Nat)<=12 by decide⟩
 ·exact⟨5,⟨#[100,101,102,105,110,101,100,40,97,32,98,41]⟩,Qc 8 hI,by decide,by decide,Qc 5 hS,show(12:Nat)<=12 by decide⟩
 ·exact⟨6,⟨#[100,101,102,105,110,101,100,32,49]⟩,Qc 9 hI,by decide,by decide,Qc 6 hS,show(9:Nat)<=12 by decide⟩
theorem Y11A1 {g:Prop}(h:g:=by
 obtain⟨⟨p1,m6,bR⟩,iE⟩:=hJ;simp only[Zav,Qp,QL,QN]at hK ⊢;go_wp2_with (go_at_call 53;refine(ZdO rb p1 _ _ bR (by omega) (by omega) (by omega)).mono ?_;rintro e w2⟨rr,rfl,wl,wm,hRq,hkq⟩)
 exact hK _ _ (At.mk rfl ⟨rr,rfl,wl,by omega⟩) hkq ⟨⟨p1+1,by omega,hRq⟩,iE.trans hkq⟩):g:=h
theorem Y11A2 {g:Prop}(h:g:=by
 replace hm:m<14:=hm;obtain⟨x0,x1,x2,x3,x4,x5,x6,x7,x8,x9,aV,aU,aW,aZ,rfl⟩:=Zbo hl;clear aP;clear hf ho;simp only[Zav,Qp,QL,QN]at hK ⊢;go_wp2
 exact hK _ _ (At.mk rfl rfl) (Kept.refl _ _) hJ.same):g:=h
theorem Znj (rb p:Nat)(w:World)(H:Rd w rb p)(hp:p<=90000):
  Calls Tryz.prog 33 #[.pointer (some ⟨rb,0,none⟩)] w (ZlX rb p 60 0 w):=by
 have mC:=H.lt;go_enter Tryz.func33,Tryz.ntmps33;go_wp2_with fail
 refine(ZdO rb p _ _ H (by omega) (by omega) (by omega)).mono ?_;rintro e w2⟨r,rfl,h0,h1,bN,hK⟩;have gN:IntKind.i64.wrap (1+r)=((r.toNat+1:Nat):Int):=by rw[QF _ (by omega)];omega
 clear H;go_wp2_with fail
 go_loopw [3,4] (λo i wr=>∃(k q:Nat) (out:ByteArray),k<=3/\q+14*k<=p+50/\out.size+20*k<=80/\o=.string out/\i=.int .i64 k/\Rd wr rb q/\Kept [rb] w wr) (λ_ i _=>(intOf i).toNat)
 case atStart=>exact⟨r.toNat+1,p+1,_,by omega,by omega,by show 0+_<=_;omega,rfl,by go_num,bN,hK⟩
 case round =>
  obtain⟨k,q,out,hk,hq,ho,rfl,rfl,hR,hB⟩:=hrel;clear bN hK gN h0 h1;by_cases af:0<k
  ·go_wp2;refine ZgG (P:=Tryz.prog) (by kernel_rfl) (by kernel_rfl) (Kept [rb]) [Zfg (.string out),Zfy [rb] 7 12,Zfg (.pointer (some ⟨rb,0,none⟩)),pInt 7,pPtr [rb] 12,Zc2 12,Zc2 (out.size+12),Zfy [rb] 2 4,Zfg (.pointer (some ⟨rb,0,none⟩)),pInt 2,pPtr [rb] 4,Zc2 4,Zc2 ((out.size+12)+4),Zc2 ((out.size+12)+4)] (ZjA ⟨ZiR _,Zkl _ _,ZiR _,stInt _,stPtr _,Zfz _,Zfz _,Zkl _ _,ZiR _,stInt _,stPtr _,Zfz _,Zfz _,Zfz _,trivial⟩) (jRd rb q wr) ?start (ZlU ⟨?s0,?s1,?s2,?s3,?s4,?s5,?s6,?s7,?s8,?s9,?s10,?s11,?s12,?s13,trivial⟩) ?done;case start=>exact jRd.start hR
   case s0 =>
    intro xs w' m hl hm hJ aP hf ho K hK;replace hm:m<14:=hm;obtain⟨x0,x1,x2,x3,x4,x5,x6,x7,x8,x9,aV,aU,aW,aZ,rfl⟩:=Zbo hl;obtain rfl:aZ=.string out:=(by have:=ho 13 _ rfl (.inr ⟨⟨0,.phase⟩,by simp,rfl,rfl⟩);simpa[Zep]using this);clear aP;clear hf ho;simp only[Zav,Qp,QL,QN]at hK ⊢;go_wp2;exact hK _ _ (At.mk rfl rfl) (Kept.refl _ _) hJ.same
   case s1 =>
    intro xs w' m hl hm hJ aP hf ho K hK;replace hm:m<14:=hm;obtain⟨x0,x1,x2,x3,x4,x5,x6,x7,x8,x9,aV,aU,aW,aZ,rfl⟩:=Zbo hl;clear aP;clear hf ho;simp only[Zav,Qp,QL,QN]at hK ⊢;go_wp2;exact hK _ _ (At.mk rfl (ZgH [⟨#[100,101,102,105,110,101,100,32,97]⟩,⟨#[100,101,102,105,110,101,100,40,98,41]⟩,⟨#[97]⟩,⟨#[98,32,61,61,32,51]⟩,⟨#[33,100,101,102,105,110,101,100,40,65,66,41]⟩,⟨#[102,40,49,41,32,62,32,49]⟩,⟨#[49]⟩] 12 [rb] w' (by decide) hJ.lts 7 rfl)) (Kept.of_below ((QD _ _).alloc (QA _) _)) (hJ.alloc _)
   case s2 =>
    intro xs w' m hl hm hJ aP hf ho K hK;exact Y11A2
   case s3 =>
    intro xs w' m hl hm hJ aP hf ho K hK;replace hm:m<14:=hm;obtain⟨x0,x1,x2,x3,x4,x5,x6,x7,x8,x9,aV,aU,aW,aZ,rfl⟩:=Zbo hl;have f2:Zfg (.pointer (some ⟨rb,0,none⟩)) x2 w':=hf ⟨2,.data⟩ (by simp) rfl _ rfl _ rfl;clear aP;clear hf ho;obtain rfl:=f2;exact Y11A1
   case s4 =>
    intro xs w' m hl hm hJ aP hf ho K hK;replace hm:m<14:=hm;obtain⟨x0,x1,x2,x3,x4,x5,x6,x7,x8,x9,aV,aU,aW,aZ,rfl⟩:=Zbo hl;have f1:Zfy [rb] 7 12 x1 w':=hf ⟨1,.data⟩ (by simp) rfl _ rfl _ rfl;have f3:pInt 7 x3 w':=hf ⟨3,.data⟩ (by simp) rfl _ rfl _ rfl;clear aP;clear hf ho;obtain⟨ba,rfl,iP,bH,m7⟩:=f1;obtain⟨ri,rfl,hii,ws⟩:=f3;obtain⟨s,fJ,gP⟩:=m7 ri.toNat (by omega);simp only[Zav,Qp,QL,QN]at hK ⊢;go_wp2;exact hK _ _ (At.mk rfl ⟨ba,_,s,rfl,iP,bH,fJ,gP⟩) (Kept.refl _ _) hJ.same
   case s5 =>
    intro xs w' m hl hm hJ aP hf ho K hK;replace hm:m<14:=hm;obtain⟨x0,x1,x2,x3,x4,x5,x6,x7,x8,x9,aV,aU,aW,aZ,rfl⟩:=Zbo hl;have f4:pPtr [rb] 12 x4 w':=hf ⟨4,.data⟩ (by simp) rfl _ rfl _ rfl;clear aP;clear hf ho;obtain⟨ba,ja,sa,rfl,iP,bH,m7,m8⟩:=f4;simp only[Zav,Qp,QL,QN]at hK ⊢;go_wp2;exact hK _ _ (At.mk rfl ⟨_,rfl,m8⟩) (Kept.refl _ _) hJ.same
   case s6 =>
    intro xs w' m hl hm hJ aP hf ho K hK;replace hm:m<14:=hm;obtain⟨x0,x1,x2,x3,x4,x5,x6,x7,x8,x9,aV,aU,aW,aZ,rfl⟩:=Zbo hl;have f0:Zfg (.string out) x0 w':=hf ⟨0,.data⟩ (by simp) rfl _ rfl _ rfl;have f5:Zc2 12 x5 w':=hf ⟨5,.data⟩ (by simp) rfl _ rfl _ rfl;clear aP;clear hf ho;obtain rfl:=f0;obtain⟨sb,rfl,zH⟩:=f5;have oH:=λW=>run_string_add_sum (P:=Tryz.prog) W out sb (by omega);simp only[Zav,Qp,QL,QN]at hK ⊢;go_wp2;exact hK _ _ (At.mk rfl ⟨_,rfl,by rw[QK];omega⟩) (Kept.refl _ _) hJ.same
   case s7 =>
    intro xs w' m hl hm hJ aP hf ho K hK;replace hm:m<14:=hm;obtain⟨x0,x1,x2,x3,x4,x5,x6,x7,x8,x9,aV,aU,aW,aZ,rfl⟩:=Zbo hl;clear aP;clear hf ho;simp only[Zav,Qp,QL,QN]at hK ⊢;go_wp2;exact hK _ _ (At.mk rfl (ZgH [⟨#[32,38,38,32]⟩,⟨#[32,124,124,32]⟩] 4 [rb] w' (by decide) hJ.lts 2 rfl)) (Kept.of_below ((QD _ _).alloc (QA _) _)) (hJ.alloc _)
   case s8 =>
    intro xs w' m hl hm hJ aP hf ho K hK;exact Y11A2
   case s9 =>
    intro xs w' m hl hm hJ aP hf ho K hK;replace hm:m<14:=hm;obtain⟨x0,x1,x2,x3,x4,x5,x6,x7,x8,x9,aV,aU,aW,aZ,rfl⟩:=Zbo hl;have f8:Zfg (.pointer (some ⟨rb,0,none⟩)) x8 w':=hf ⟨8,.data⟩ (by simp) rfl _ rfl _ rfl;clear aP;clear hf ho;obtain rfl:=f8;exact Y11A1
   case s10 =>
    intro xs w' m hl hm hJ aP hf ho K hK;replace hm:m<14:=hm;obtain⟨x0,x1,x2,x3,x4,x5,x6,x7,x8,x9,aV,aU,aW,aZ,rfl⟩:=Zbo hl;have f7:Zfy [rb] 2 4 x7 w':=hf ⟨7,.data⟩ (by simp) rfl _ rfl _ rfl;have f9:pInt 2 x9 w':=hf ⟨9,.data⟩ (by simp) rfl _ rfl _ rfl;clear aP;clear hf ho;obtain⟨ba,rfl,iP,bH,m7⟩:=f7;obtain⟨ri,rfl,hii,ws⟩:=f9;obtain⟨s,fJ,gP⟩:=m7 ri.toNat (by omega);simp only[Zav,Qp,QL,QN]at hK ⊢;go_wp2;exact hK _ _ (At.mk rfl ⟨ba,_,s,rfl,iP,bH,fJ,gP⟩) (Kept.refl _ _) hJ.same
   case s11 =>
    intro xs w' m hl hm hJ aP hf ho K hK;replace hm:m<14:=hm;obtain⟨x0,x1,x2,x3,x4,x5,x6,x7,x8,x9,aV,aU,aW,aZ,rfl⟩:=Zbo hl;have zI:pPtr [rb] 4 aV w':=hf ⟨10,.data⟩ (by simp) rfl _ rfl _ rfl;clear aP;clear hf ho;obtain⟨ba,ja,sa,rfl,iP,bH,m7,m8⟩:=zI;simp only[Zav,Qp,QL,QN]at hK ⊢;go_wp2;exact hK _ _ (At.mk rfl ⟨_,rfl,m8⟩) (Kept.refl _ _) hJ.same
   case s12 =>
    intro xs w' m hl hm hJ aP hf ho K hK;replace hm:m<14:=hm;obtain⟨x0,x1,x2,x3,x4,x5,x6,x7,x8,x9,aV,aU,aW,aZ,rfl⟩:=Zbo hl;have f6:Zc2 (out.size+12) x6 w':=hf ⟨6,.data⟩ (by simp) rfl _ rfl _ rfl;have zJ:Zc2 4 aU w':=hf ⟨11,.data⟩ (by simp) rfl _ rfl _ rfl;clear aP;clear hf ho;obtain⟨sa,rfl,m8⟩:=f6;obtain⟨sb,rfl,zH⟩:=zJ;have oH:=λW=>run_string_add_sum (P:=Tryz.prog) W sa sb (by omega);simp only[Zav,Qp,QL,QN]at hK ⊢;go_wp2;exact hK _ _ (At.mk rfl ⟨_,rfl,by rw[QK];omega⟩) (Kept.refl _ _) hJ.same
   case s13 =>
    intro xs w' m hl hm hJ aP hf ho K hK;replace hm:m<14:=hm;obtain⟨x0,x1,x2,x3,x4,x5,x6,x7,x8,x9,aV,aU,aW,aZ,rfl⟩:=Zbo hl;have zK:Zc2 ((out.size+12)+4) aW w':=hf ⟨12,.data⟩ (by simp) rfl _ rfl _ rfl;clear aP;clear hf ho;obtain⟨sa,rfl,m8⟩:=zK;simp only[Zav,Qp,QL,QN]at hK ⊢;go_wp2;exact hK _ _ (At.mk rfl ⟨_,rfl,m8⟩) (Kept.refl _ _) hJ.same
   case done =>
    intro xs w' hl hf hJ;obtain⟨x0,x1,x2,x3,x4,x5,x6,x7,x8,x9,aV,aU,aW,aZ,rfl⟩:=Zbo hl;have zL:Zc2 ((out.size+12)+4) aZ w':=hf 13 _ rfl _ rfl;obtain⟨sz,rfl,cC⟩:=zL;clear hf;obtain⟨⟨p1,m6,bR⟩,iE⟩:=hJ;replace m6:p1<=q+14:=m6;simp only[Zav,Qp,QL,QN];go_wp2;go_roundw;case rel=>exact⟨k-1,p1,sz,by omega,by omega,by omega,rfl,by go_num,bR,hB.trans iE⟩
    case measure=>simp[intOf];omega
  have dQ:=Zab wr (.cells #[.string ⟨#[49]⟩,.string ⟨#[48]⟩,.string ⟨#[97]⟩,.string ⟨#[100,101,102,105,110,101,100]⟩,.string ⟨#[100,101,102,105,110,101,100,40]⟩,.string ⟨#[100,101,102,105,110,101,100,40,97,32,98,41]⟩,.string ⟨#[100,101,102,105,110,101,100,32,49]⟩] 9);have gP:(wr.alloc (.cells #[.string ⟨#[49]⟩,.string ⟨#[48]⟩,.string ⟨#[97]⟩,.string ⟨#[100,101,102,105,110,101,100]⟩,.string ⟨#[100,101,102,105,110,101,100,40]⟩,.string ⟨#[100,101,102,105,110,101,100,40,97,32,98,41]⟩,.string ⟨#[100,101,102,105,110,101,100,32,49]⟩] 9)).heap.size=wr.heap.size+1:=QR _;have dZ:=dQ.trans ((Zab (wr.alloc (.cells #[.string ⟨#[49]⟩,.string ⟨#[48]⟩,.string ⟨#[97]⟩,.string ⟨#[100,101,102,105,110,101,100]⟩,.string ⟨#[100,101,102,105,110,101,100,40]⟩,.string ⟨#[100,101,102,105,110,101,100,40,97,32,98,41]⟩,.string ⟨#[100,101,102,105,110,101,100,32,49]⟩] 9)) (.cells #[.int .i64 0,.int .i64 0,.int .i64 1,.int .i64 1,.int .i64 2,.int .i64 2,.int .i64 3,.int .i64 4,.int .i64 5,.int .i64 6] 3)).mono dQ.size);have hS2:=Qh (Zag (JS wr (.cells #[.string ⟨#[49]⟩,.string ⟨#[48]⟩,.string ⟨#[97]⟩,.string ⟨#[100,101,102,105,110,101,100]⟩,.string ⟨#[100,101,102,105,110,101,100,40]⟩,.string ⟨#[100,101,102,105,110,101,100,40,97,32,98,41]⟩,.string ⟨#[100,101,102,105,110,101,100,32,49]⟩] 9)) (Zab (wr.alloc (.cells #[.string ⟨#[49]⟩,.string ⟨#[48]⟩,.string ⟨#[97]⟩,.string ⟨#[100,101,102,105,110,101,100]⟩,.string ⟨#[100,101,102,105,110,101,100,40]⟩,.string ⟨#[100,101,102,105,110,101,100,40,97,32,98,41]⟩,.string ⟨#[100,101,102,105,110,101,100,32,49]⟩] 9)) (.cells #[.int .i64 0,.int .i64 0,.int .i64 1,.int .i64 1,.int .i64 2,.int .i64 2,.int .i64 3,.int .i64 4,.int .i64 5,.int .i64 6] 3)));have hI2:=Qh (JS (wr.alloc (.cells #[.string ⟨#[49]⟩,.string ⟨#[48]⟩,.string ⟨#[97]⟩,.string ⟨#[100,101,102,105,110,101,100]⟩,.string ⟨#[100,101,102,105,110,101,100,40]⟩,.string ⟨#[100,101,102,105,110,101,100,40,97,32,98,41]⟩,.string ⟨#[100,101,102,105,110,101,100,32,49]⟩] 9)) (.cells #[.int .i64 0,.int .i64 0,.int .i64 1,.int .i64 1,.int .i64 2,.int .i64 2,.int .i64 3,.int .i64 4,.int .i64 5,.int .i64 6] 3));rw[gP]at hI2;have bN:=Qh (hR.grow dZ);have bi:=dZ.size;have iR:wr.heap.size+1<((wr.alloc (.cells #[.string ⟨#[49]⟩,.string ⟨#[48]⟩,.string ⟨#[97]⟩,.string ⟨#[100,101,102,105,110,101,100]⟩,.string ⟨#[100,101,102,105,110,101,100,40]⟩,.string ⟨#[100,101,102,105,110,101,100,40,97,32,98,41]⟩,.string ⟨#[100,101,102,105,110,101,100,32,49]⟩] 9)).alloc (.cells #[.int .i64 0,.int .i64 0,.int .i64 1,.int .i64 1,.int .i64 2,.int .i64 2,.int .i64 3,.int .i64 4,.int .i64 5,.int .i64 6] 3)).heap.size:=by rw[show((wr.alloc (.cells #[.string ⟨#[49]⟩,.string ⟨#[48]⟩,.string ⟨#[97]⟩,.string ⟨#[100,101,102,105,110,101,100]⟩,.string ⟨#[100,101,102,105,110,101,100,40]⟩,.string ⟨#[100,101,102,105,110,101,100,40,97,32,98,41]⟩,.string ⟨#[100,101,102,105,110,101,100,32,49]⟩] 9)).alloc (.cells #[.int .i64 0,.int .i64 0,.int .i64 1,.int .i64 1,.int .i64 2,.int .i64 2,.int .i64 3,.int .i64 4,.int .i64 5,.int .i64 6] 3)).heap.size=(wr.alloc (.cells #[.string ⟨#[49]⟩,.string ⟨#[48]⟩,.string ⟨#[97]⟩,.string ⟨#[100,101,102,105,110,101,100]⟩,.string ⟨#[100,101,102,105,110,101,100,40]⟩,.string ⟨#[100,101,102,105,110,101,100,40,97,32,98,41]⟩,.string ⟨#[100,101,102,105,110,101,100,32,49]⟩] 9)).heap.size+1 from QR _,gP];omega
  have ky:=hR.lt;have tw:=hB.size;clear hR;go_wp2_with fail
  refine(ZdO rb q _ _ bN.out (by omega) (by omega) (by omega)).mono ?_;rintro e w5⟨r5,rfl,h50,h51,cz,jL⟩;have fg:Below wr.heap.size wr w5\/True:=.inr trivial;have bI:w5.heap[wr.heap.size+1]?=some (.cells #[.int .i64 0,.int .i64 0,.int .i64 1,.int .i64 1,.int .i64 2,.int .i64 2,.int .i64 3,.int .i64 4,.int .i64 5,.int .i64 6] 3 (0,0)):=(jL.block _ (by omega) (by simp;omega)).trans hI2.out;have bS:w5.heap[wr.heap.size]?=some (.cells #[.string ⟨#[49]⟩,.string ⟨#[48]⟩,.string ⟨#[97]⟩,.string ⟨#[100,101,102,105,110,101,100]⟩,.string ⟨#[100,101,102,105,110,101,100,40]⟩,.string ⟨#[100,101,102,105,110,101,100,40,97,32,98,41]⟩,.string ⟨#[100,101,102,105,110,101,100,32,49]⟩] 9 (0,0)):=(jL.block _ (by omega) (by simp;omega)).trans hS2.out;obtain⟨n,s,ci,n0,n7,cs,cC⟩:=con_pick h50 (by omega) bI bS;have oH:=λW=>run_string_add_sum (P:=Tryz.prog) W out s (by omega);have nk:=Qh (hB.trans (((Kept.of_below dZ:Kept [rb] wr _)).trans jL));clear fg bI bS hI2 hS2 bN dQ dZ;go_wp2_with fail
  refine(Zeg (out++s) _ (by unfold maxLen;rw[QK];omega)).mono ?_;rintro e w6⟨v4,rfl,ai,nP,bU⟩;have wt:=(Zhr (out++s)).1;obtain⟨ut,qj⟩:=ZlW ai nP (by rw[QK];omega);have hX:=nk.out.size;have kr:=Qh (cz.grow bU);have gt:=Qh (nk.out.trans (Kept.of_below bU));go_wp2;go_ret;exact⟨v4,_,q+1,rfl,ut.lower (by omega),qj,by omega,by rw[QH];omega,by omega,kr.out,gt.out⟩
def Znk (w:World)(e:Ending)(w':World):Prop:=
 ∃(v':Value) (t:List DMacro) (fp':List Nat) (v2:Value) (L:List (Elem Tok)),e=.returned (.tuple #[v',v2])/\(Zaa sMacro).R w' [v'] t fp'/\(∀m∈t,ZcF m)/\t.length<=9/\RowE sTok w.heap.size 32 v2 L w'/\(∀x∈L,Zd8 x.d)/\L.length<=61/\Below w.heap.size w w'
theorem Zin (v:Value)(l:List UInt8)(fp:List Nat)(w:World)(H:(Zaa Zdi).R w [v] l fp):
  Calls Tryz.prog 15 #[v] w (Znk w):=by
 go_enter Tryz.func15,Tryz.ntmps15;go_wp2_with fail
 refine(l20Open _ l fp _ H).mono ?_;rintro e w1⟨rb,rfl,mC,hR,hB⟩;go_wp2_with fail
 refine(l20Table rb 0 _ _ hR (by omega) (by omega) (by omega)).mono ?_;rintro e w4⟨v',t,fp',q,rfl,hT,cV,bQ,hl,hq,kK,hK⟩;have HT:=Qh hT;have HF:=Qh (ZeR hB hK mC hB.size);have bC:=Qh bQ;have HLO:=Qh cV;have af:=hR.lt;have dO:Hid (rb∉fp'):=λhx=>by have:=HLO.out rb hx;omega
 clear hT hK bQ cV hR hB;go_wp2_with fail
 refine(odd rb q _ _ kK (by omega) (by omega) (by omega)).mono ?_;rintro e w5⟨b,q5,rfl,si,cU,cz,jL⟩;have eA:=Qh ((Zaa sMacro).kept HT.out (λb hb hx=>dO.out (by have e:b=rb:=(by simpa using hx);rw[←e];exact hb)) jL);have sD:=Qh (ZeR HF.out jL mC HF.out.size);have cC:=sD.out.size;clear jL HT HF kK;cases b
 ·go_wp2_with fail
  refine(Znj rb q5 _ cz (by omega)).mono ?_;rintro e w6⟨v2,L,q6,rfl,hE,l8,-,hL,-,kr,gI⟩;have uN:=Qh ((Zaa sMacro).kept eA.out (λb hb hx=>dO.out (by have e:b=rb:=(by simpa using hx);rw[←e];exact hb)) gI);have wL:=Qh (ZeR sD.out gI mC sD.out.size);have HE:=Qh hE;have qZ:=Qh l8;clear gI eA cz kr hE l8;go_wp2;go_ret2;exact⟨v',t,fp',v2,L,rfl,uN.out,bC.out,hl,HE.out.lower cC,qZ.out,hL,wL.out⟩
 ·go_wp2_with fail
  refine(Zqu rb q5 1 _ cz (by omega) (by omega) (by omega) 0 (by omega) (by omega)).mono ?_;rintro e w6⟨v2,L,q6,rfl,hE,l8,-,hL,-,kr,gI⟩;have uN:=Qh ((Zaa sMacro).kept eA.out (λb hb hx=>dO.out (by have e:b=rb:=(by simpa using hx);rw[←e];exact hb)) gI);have wL:=Qh (ZeR sD.out gI mC sD.out.size);have HE:=Qh hE;have qZ:=Qh l8;clear gI eA cz kr hE l8;go_wp2;go_ret2;exact⟨v',t,fp',v2,L,rfl,uN.out,bC.out,hl,HE.out.lower cC,qZ.out,hL,wL.out⟩
theorem Zkq (v:Value)(l:List UInt8)(fp:List Nat)(w:World)(H:(Zaa Zdi).R w [v] l fp):
  Calls Tryz.prog 5 #[v] w (Znk w):=by
 go_enter Tryz.func5,Tryz.ntmps5;go_wp2_with fail
 refine(Zin v l fp _ H).mono ?_;rintro e w1⟨v',t,fp',v2,L,rfl,h1,h2,h3,h4,h5,h6,h7⟩;have HT:=Qh h1;have HK:=Qh h2;have HE:=Qh h4;have HO:=Qh h5;clear h1 h2 h4 h5;go_wp2;go_ret2;exact⟨v',t,fp',v2,L,rfl,HT.out,HK.out,h3,HE.out,HO.out,h6,h7⟩
def ZaS (t:Tok)(s:List UInt8):Bool:=decide (t.kind=4) && (t.text.toList==s)
def Zba (s:List UInt8):Nat:=
 if s=[124,124] then 1 else if s=[38,38] then 2 else if s=[61,61]\/s=[33,61] then 3
 else if s=[60]\/s=[62]\/s=[60,61]\/s=[62,61] then 4 else if s=[43]\/s=[45] then 5 else if s=[42]\/s=[47]\/s=[37] then 6 else 0
def Zbq (t:Tok):Nat:=if t.kind=4 then Zba t.text.toList else 0
def inR (n:Int):Bool:=decide (-1000000<=n) && decide (n<=1000000)
def ZaV (b:Bool):Int:=if b=true then 1 else 0
def opM (s:List UInt8)(a b:Int):Int:=
 if s=[43] then a+b else if s=[45] then a-b else if s=[42] then a*b else if s=[47] then a.tdiv b else if s=[37] then a.tmod b
 else if s=[61,61] then ZaV (decide (a=b)) else if s=[33,61] then ZaV (decide (a≠b)) else if s=[60] then ZaV (decide (a<b)) else if s=[62] then ZaV (decide (b<a))
 else if s=[60,61] then ZaV (decide (a<=b)) else if s=[62,61] then ZaV (decide (b<=a)) else if s=[38,38] then ZaV (decide (a≠0) && decide (b≠0)) else ZaV (decide (a≠0) || decide (b≠0))
def Zal (s:List UInt8)(a b:Int):Int × Int:=
 if Zba s=0\/inR a=false\/inR b=false then (0,1)
 else if (s=[47]\/s=[37])/\b=0 then (0,2)
 else if inR (opM s a b)=true then (opM s a b,0) else (0,3)
def Zev (s:List UInt8):Int:=s.foldl (λn c=>10*n+((c.toNat:Int)-48)) 0
def ZaM (s:List UInt8):Int:=
 if s=[]\/7<s.length\/s.all Za3=false then -1 else if 1000000<Zev s then -1 else Zev s
inductive Ask where
 | one (k:Nat)
 | marks (k rank:Nat)
 | more (rank:Nat) (n:Int) (e:Nat) (f:Int)
 | choice (k:Nat)
abbrev ZbV:=Int × Nat × Int
def Zan (l:List Tok)(k:Nat)(s:List UInt8):Bool:=if h:k<l.length then ZaS l[k] s else false
def pv (l:List Tok):Nat->Ask->Option ZbV
 | 0,_=>none
 |
  d+1,.one k =>
  if h:k<l.length then
   if ZaS l[k] [33]=true then (pv l d (.one (k+1))).bind λr=>some (ZaV (decide (r.1=0)),r.2.1,r.2.2)
   else if ZaS l[k] [45]=true then (pv l d (.one (k+1))).bind λr=>some (-r.1,r.2.1,r.2.2)
   else if ZaS l[k] [40]=true then (pv l d (.choice (k+1))).bind λr=>some (r.1,r.2.1+1,if r.2.2=0/\Zan l r.2.1 [41]=false then 1 else r.2.2)
   else if l[k].kind=1 then some (0,k+1,0)
   else if l[k].kind=2/\0<=ZaM l[k].text.toList then some (ZaM l[k].text.toList,k+1,0)
   else some (0,k,1)
  else some (0,k,1)
 | d+1,.marks k rank=>(pv l d (.one k)).bind λr=>pv l d (.more rank r.1 r.2.1 r.2.2)
 |
  d+1,.more rank n e f =>
  if h:f=0/\e<l.length then
   if Zbq l[e]<rank then some (n,e,f)
   else (pv l d (.marks (e+1) (Zbq l[e]+1))).bind λr =>
    if r.2.2≠0 then some (0,r.2.1,r.2.2) else pv l d (.more rank (Zal l[e].text.toList n r.1).1 r.2.1 (Zal l[e].text.toList n r.1).2)
  else some (n,e,f)
 |
  d+1,.choice k=>(pv l d (.marks k 1)).bind λr =>
  if r.2.2=0/\Zan l r.2.1 [63]=true then
   (pv l d (.choice (r.2.1+1))).bind λa =>
    if a.2.2≠0 then some (0,a.2.1,a.2.2)
    else if Zan l a.2.1 [58]=true then (pv l d (.choice (a.2.1+1))).bind λb=>some (if r.1≠0 then a.1 else b.1,b.2.1,b.2.2)
    else some (0,a.2.1,1)
  else some r
def Za1 (l:List Tok):Int × Int:=
 if Zam l=true then
  (
  match pv l (4*l.length+4) (.choice 0) with
  | some (n,e,f)=>if f≠0 then (0,f) else if e≠l.length then (0,1) else (n,0)
  | none=>(0,1))
 else (0,1)
theorem Zas {α β:Type}{o:Option α}{f:α->Option β}{r:β}(h:o.bind f=some r):∃a,o=some a/\f a=some r:=by
 cases o with
 | none=>simp at h
 | some a=>exact⟨a,rfl,h⟩
theorem Zo0 (l:List Tok):∀(d:Nat) (q:Ask) (r:ZbV),pv l d q=some r->∀d',d<=d'->pv l d' q=some r:=by
 intro d;induction d with
 | zero=>intro q r h;simp[pv]at h
 |
  succ d ih =>
  intro q r h d' hd;obtain⟨e,rfl⟩:∃e,d'=e+1:=⟨d'-1,by omega⟩;have sE:d<=e:=by omega
  cases q with
  |
   one k =>
   unfold pv at h ⊢;by_cases hk:k<l.length
   ·rw[dif_pos hk]at h ⊢;by_cases h1:ZaS l[k] [33]=true
    ·rw[if_pos h1]at h ⊢;obtain⟨a,h2,h3⟩:=Zas h;rw[ih _ _ h2 e sE];exact h3
    rw[if_neg h1]at h ⊢;by_cases h2:ZaS l[k] [45]=true
    ·rw[if_pos h2]at h ⊢;obtain⟨a,h4,h3⟩:=Zas h;rw[ih _ _ h4 e sE];exact h3
    rw[if_neg h2]at h ⊢;by_cases h3:ZaS l[k] [40]=true
    ·rw[if_pos h3]at h ⊢;obtain⟨a,h4,h5⟩:=Zas h;rw[ih _ _ h4 e sE];exact h5
    rw[if_neg h3]at h ⊢;exact h
   ·rw[dif_neg hk]at h ⊢;exact h
  |
   marks k rank =>
   unfold pv at h ⊢;obtain⟨a,h1,h2⟩:=Zas h;rw[ih _ _ h1 e sE];exact ih _ _ h2 e sE
  |
   more rank n p f =>
   unfold pv at h ⊢;by_cases hk:f=0/\p<l.length
   ·rw[dif_pos hk]at h ⊢;by_cases h1:Zbq (l[p]'hk.2)<rank
    ·rw[if_pos h1]at h ⊢;exact h
    rw[if_neg h1]at h ⊢;obtain⟨a,h2,h3⟩:=Zas h;rw[ih _ _ h2 e sE];simp only[Q2]at h3 ⊢;split at h3
    ·rename_i h4;rw[if_pos h4];exact h3
    ·rename_i h4;rw[if_neg h4];exact ih _ _ h3 e sE
   ·rw[dif_neg hk]at h ⊢;exact h
  |
   choice k =>
   unfold pv at h ⊢;obtain⟨a,h1,h2⟩:=Zas h;rw[ih _ _ h1 e sE];simp only[Q2]at h2 ⊢;split at h2
   ·rename_i h3;rw[if_pos h3];obtain⟨b,h4,h5⟩:=Zas h2;rw[ih _ _ h4 e sE];simp only[Q2]at h5 ⊢;split at h5
    ·rename_i h6;rw[if_pos h6];exact h5
    ·rename_i h6;rw[if_neg h6];split at h5
     ·rename_i h7;rw[if_pos h7];obtain⟨c,h8,h9⟩:=Zas h5;rw[ih _ _ h8 e sE];exact h9
     ·rename_i h7;rw[if_neg h7];exact h5
   ·rename_i h3;rw[if_neg h3];exact h2
def ZbJ (t:Tok):Bool:=decide (t.kind=1) && (t.text.toList==[100,101,102,105,110,101,100])
def Za5 (l:List Tok)(k:Nat):Bool:=if h:k<l.length then decide (l[k].kind=1) else false
def ZbW (l:List Tok)(k:Nat):ByteArray:=if h:k<l.length then l[k].text else ⟨#[]⟩
def Zbw (b sp:Bool):Tok:=⟨2,if b=true then ⟨#[49]⟩ else ⟨#[48]⟩,sp,[]⟩
def ZdA (T:List DMacro)(nm:ByteArray):Bool:=decide (0<=place T nm)
def ZaY (T:List DMacro)(l:List Tok)(k:Nat)(acc:List Tok):List Tok × Bool:=
 if h:k<l.length then
  (if ZbJ l[k]=true then
   (if Zan l (k+1) [40]=true then
    (if Zan l (k+3) [41]=true/\Za5 l (k+2)=true then ZaY T l (k+4) (acc++[Zbw (ZdA T (ZbW l (k+2))) l[k].spaced]) else ([],false))
   else if Za5 l (k+1)=true then ZaY T l (k+2) (acc++[Zbw (ZdA T (ZbW l (k+1))) l[k].spaced]) else ([],false))
  else ZaY T l (k+1) (acc++[l[k]]))
 else (acc,true)
termination_by l.length-k
def Za4 (T:List DMacro)(l:List Tok):List Tok × Bool:=if ZaU T=true/\Zam l=true then ZaY T l 0 [] else ([],false)
theorem ZfY {T:List DMacro}{l:List Tok}(h:¬(ZaU T=true/\Zam l=true)):Za4 T l=([],false):=by unfold Za4;rw[if_neg h]
section
variable {T:List DMacro}{l acc:List Tok}{k:Nat}
theorem Zdw (h:l.length<=k):ZaY T l k acc=(acc,true):=by rw[ZaY,dif_neg (by omega)]
theorem ZcB (h:k<l.length)(hd:ZbJ l[k]=false):ZaY T l k acc=ZaY T l (k+1) (acc++[l[k]]):=by rw[ZaY,dif_pos h,if_neg (by rw[hd];simp)]
theorem ZcT (h:k<l.length)(hd:ZbJ l[k]=true)(ho:Zan l (k+1) [40]=false)(hn:Za5 l (k+1)=true):ZaY T l k acc=ZaY T l (k+2) (acc++[Zbw (ZdA T (ZbW l (k+1))) l[k].spaced]):=by
 rw[ZaY,dif_pos h,if_pos hd,if_neg (by rw[ho];simp),if_pos hn]
theorem Zew (h:k<l.length)(hd:ZbJ l[k]=true)(ho:Zan l (k+1) [40]=false)(hn:Za5 l (k+1)=false):ZaY T l k acc=([],false):=by
 rw[ZaY,dif_pos h,if_pos hd,if_neg (by rw[ho];simp),if_neg (by rw[hn];simp)]
theorem Ze0 (h:k<l.length)(hd:ZbJ l[k]=true)(ho:Zan l (k+1) [40]=true)(hc:Zan l (k+3) [41]=true)(hn:Za5 l (k+2)=true):ZaY T l k acc=ZaY T l (k+4) (acc++[Zbw (ZdA T (ZbW l (k+2))) l[k].spaced]):=by
 rw[ZaY,dif_pos h,if_pos hd,if_pos ho,if_pos ⟨hc,hn⟩]
theorem ZdP (h:k<l.length)(hd:ZbJ l[k]=true)(ho:Zan l (k+1) [40]=true)(hc:¬(Zan l (k+3) [41]=true/\Za5 l (k+2)=true)):ZaY T l k acc=([],false):=by
 rw[ZaY,dif_pos h,if_pos hd,if_pos ho,if_neg hc]
theorem ZeF {s:List UInt8}(h:l.length<=k):Zan l k s=false:=by unfold Zan;rw[dif_neg (by omega)]
theorem Zeb {s:List UInt8}(h:k<l.length):Zan l k s=ZaS l[k] s:=by unfold Zan;rw[dif_pos h]
theorem Zhd (h:l.length<=k):Za5 l k=false:=by unfold Za5;rw[dif_neg (by omega)]
theorem Zdx (h:k<l.length):Za5 l k=decide (l[k].kind=1):=by unfold Za5;rw[dif_pos h]
theorem ZeG (h:k<l.length):ZbW l k=l[k].text:=by unfold ZbW;rw[dif_pos h]
theorem rep_len:(ZaY T l k acc).1.length<=acc.length+(l.length-k):=by
 induction hn:l.length-k using Nat.strongRecOn generalizing k acc with
 |
  _ n ih =>
  subst hn;by_cases h:k<l.length
  ·rw[ZaY,dif_pos h];split
   ·split
    ·split
     ·have:=ih (l.length-(k+4)) (by omega) (k:=k+4) (acc:=acc++[Zbw (ZdA T (ZbW l (k+2))) l[k].spaced]) rfl;simp only[QC,QQ,JO]at this;rename_i h1 h2 h3;have:k+3<l.length:=by
       by_cases h4:k+3<l.length
       ·exact h4
       ·rw[ZeF (by omega)]at h3;exact absurd h3.1 (by simp)
      omega
     ·simp
    ·split
     ·have:=ih (l.length-(k+2)) (by omega) (k:=k+2) (acc:=acc++[Zbw (ZdA T (ZbW l (k+1))) l[k].spaced]) rfl;simp only[QC,QQ,JO]at this;omega
     ·simp
   ·have:=ih (l.length-(k+1)) (by omega) (k:=k+1) (acc:=acc++[l[k]]) rfl;simp only[QC,QQ,JO]at this;omega
  ·rw[Zdw (by omega)];exact Nat.le_add_right _ _
theorem rep_all {P:Tok->Prop}(h0:∀t∈l,ZbJ t=false->P t)(h1:∀b sp,P (Zbw b sp))(ha:∀t∈acc,P t):∀t∈(ZaY T l k acc).1,P t:=by
 have put:∀{x:Tok},P x->∀t∈acc++[x],P t:=λhx t ht=>by
  rcases Qa ht with h | h
  ·exact ha t h
  ·obtain rfl:=Qm h;exact hx
 induction hn:l.length-k using Nat.strongRecOn generalizing k acc with
 |
  _ n ih =>
  subst hn;by_cases h:k<l.length
  ·have q8:∀j x,k<j->P x->∀t∈(ZaY T l j (acc++[x])).1,P t:=λj x hj hx =>
    ih (l.length-j) (by omega) (k:=j) (acc:=acc++[x]) (put hx) (λhy t ht=>by
     rcases Qa ht with h | h
     ·exact put hx t h
     ·obtain rfl:=Qm h;exact hy) rfl
   rw[ZaY,dif_pos h];split
   ·split
    ·split
     ·exact q8 _ _ (by omega) (h1 _ _)
     ·simp
    ·split
     ·exact q8 _ _ (by omega) (h1 _ _)
     ·simp
   ·rename_i hd;exact q8 _ _ (by omega) (h0 _ (QE h) (by simpa using hd))
  ·rw[Zdw (by omega)];exact ha
end
theorem tok_num (b sp:Bool):Zaj (Zbw b sp)=true:=by
 have:∀b sp,Zaj (Zbw b sp)=true:=by decide +kernel
 exact this b sp
variable {l:List Tok}
theorem ZqD {T:List DMacro}(hl:Zam l=true):Zam (ZaY T l 0 []).1=true:=by
 have h:=Zay hl;unfold Zam;rw[QI,JT,Qk];refine⟨?_,rep_all (P:=λt=>Zaj t=true) (λt ht _=>?_) tok_num (by simp)⟩
 ·have:=rep_len (T:=T) (l:=l) (k:=0) (acc:=[]);simp only[JO]at this;omega
 ·obtain⟨k,hk,rfl⟩:=QY ht;exact h.2 k hk
theorem inR_iff {n:Int}:inR n=true ↔ -1000000<=n/\n<=1000000:=by unfold inR;simp
theorem bit1_in (b:Bool):inR (ZaV b)=true:=by cases b <;> decide
theorem Zo1 {n:Int}(h:inR n=true):inR (-n)=true:=by rw[inR_iff]at h ⊢;omega
theorem ZfJ (s:List UInt8)(a b:Int):inR (Zal s a b).1=true/\0<=(Zal s a b).2/\(Zal s a b).2<=3:=by
 unfold Zal;split
 ·exact⟨by decide,by decide,by decide⟩
 ·split
  ·exact⟨by decide,by decide,by decide⟩
  ·split
   ·rename_i h;exact⟨h,(by decide:(0:Int)<=0),(by decide:(0:Int)<=3)⟩
   ·exact⟨by decide,by decide,by decide⟩
theorem Zl3 (s:List UInt8):-1<=ZaM s/\ZaM s<=1000000:=by
 unfold ZaM;split
 ·exact⟨by decide,by decide⟩
 ·split
  ·exact⟨by decide,by decide⟩
  ·rename_i h1 h2;have eg:∀(s:List UInt8) (n:Int),0<=n->s.all Za3=true->0<=s.foldl (λn c=>10*n+((c.toNat:Int)-48)) n:=by
    intro s;induction s with
    | nil=>intro n hn _;exact hn
    |
     cons c r ih =>
     intro n hn hd;rw[List.all_cons,QI]at hd;have hc:=hd.1;unfold Za3 at hc;rw[JT]at hc;exact ih _ (by show 0<=10*n+((c.toNat:Int)-48);omega) hd.2
   have h3:s.all Za3=true:=by
    cases h:s.all Za3
    ·exact absurd (.inr (.inr h)) h1
    ·rfl
   have:=eg s 0 (Int.le_refl _) h3;unfold Zev at h2 ⊢;omega
def posQ:Ask->Nat
 | .one k=>k
 | .marks k _=>k
 | .more _ _ e _=>e
 | .choice k=>k
def okQ (l:List Tok):Ask->Prop
 | .one k=>k<=l.length
 | .marks k _=>k<=l.length
 | .more _ n e f=>f=0/\e<=l.length/\inR n=true
 | .choice k=>k<=l.length
def isMore:Ask->Prop
 | .more _ _ _ _=>True
 | _=>False
theorem Zb0 {k:Nat}{s:List UInt8}(h:Zan l k s=true):∃hk:k<l.length,ZaS l[k] s=true:=by
 unfold Zan at h;split at h
 ·rename_i hk;exact⟨hk,h⟩
 ·simp at h
def Fine (l:List Tok)(d:Nat)(q:Ask)(r:ZbV):Prop:=
 inR r.1=true/\r.2.1<=l.length+d/\(r.2.2=0->r.2.1<=l.length/\posQ q<=r.2.1/\(isMore q\/posQ q<r.2.1))/\0<=r.2.2/\r.2.2<=3
theorem Zex {d rank e:Nat}{n f:Int}{r:ZbV}(h:pv l d (.more rank n e f)=some r)(hf:f≠0):r=(n,e,f):=by
 cases d with
 | zero=>simp[pv]at h
 |
  succ d =>
  unfold pv at h;rw[dif_neg (λh'=>hf h'.1)]at h;simpa using h.symm
theorem Zb1 (l:List Tok):∀(d:Nat) (q:Ask) (r:ZbV),okQ l q->pv l d q=some r->Fine l d q r:=by
 intro d;induction d with
 | zero=>intro q r _ h;simp[pv]at h
 |
  succ d ih =>
  intro q r hq h;cases q with
  |
   one k =>
   have hk':k<=l.length:=hq;unfold pv at h;by_cases hk:k<l.length
   ·rw[dif_pos hk]at h;by_cases h1:ZaS l[k] [33]=true
    ·rw[if_pos h1]at h;obtain⟨a,h2,h3⟩:=Zas h;obtain⟨g1,g2,g3,g4,g5⟩:=ih _ _ (show okQ l (.one (k+1)) from hk) h2;simp only[Qi]at h3;subst h3;refine⟨bit1_in _,by show a.2.1<=_;omega,λh0=>?_,g4,g5⟩;obtain⟨g6,g7,-⟩:=g3 h0;have g7':k+1<=a.2.1:=g7;exact⟨g6,by show k<=a.2.1;omega,.inr (by show k<a.2.1;omega)⟩
    rw[if_neg h1]at h;by_cases h2:ZaS l[k] [45]=true
    ·rw[if_pos h2]at h;obtain⟨a,h4,h3⟩:=Zas h;obtain⟨g1,g2,g3,g4,g5⟩:=ih _ _ (show okQ l (.one (k+1)) from hk) h4;simp only[Qi]at h3;subst h3;refine⟨Zo1 g1,by show a.2.1<=_;omega,λh0=>?_,g4,g5⟩;obtain⟨g6,g7,-⟩:=g3 h0;have g7':k+1<=a.2.1:=g7;exact⟨g6,by show k<=a.2.1;omega,.inr (by show k<a.2.1;omega)⟩
    rw[if_neg h2]at h;by_cases h3:ZaS l[k] [40]=true
    ·rw[if_pos h3]at h;obtain⟨a,h4,h5⟩:=Zas h;obtain⟨g1,g2,g3,g4,g5⟩:=ih _ _ (show okQ l (.choice (k+1)) from hk) h4;simp only[Qi]at h5;subst h5;refine⟨g1,by show a.2.1+1<=_;omega,λh0=>?_,?_,?_⟩
     ·have gM:(if a.2.2=0/\Zan l a.2.1 [41]=false then (1:Int) else a.2.2)=0:=h0;split at gM
      ·simp at gM
      ·rename_i h6;obtain⟨g6,g7,-⟩:=g3 gM;have g7':k+1<=a.2.1:=g7;have h7:Zan l a.2.1 [41]=true:=by
        cases hm:Zan l a.2.1 [41]
        ·exact absurd ⟨gM,hm⟩ h6
        ·rfl
       obtain⟨h8,-⟩:=Zb0 h7;exact⟨by show a.2.1+1<=_;omega,by show k<=a.2.1+1;omega,.inr (by show k<a.2.1+1;omega)⟩
     ·show 0<=(if a.2.2=0/\Zan l a.2.1 [41]=false then (1:Int) else a.2.2);split <;> omega
     ·show(if a.2.2=0/\Zan l a.2.1 [41]=false then (1:Int) else a.2.2)<=3;split <;> omega
    rw[if_neg h3]at h;by_cases h4:(l[k]).kind=1
    ·rw[if_pos h4]at h;simp only[Qi]at h;subst h;exact⟨rfl,by show k+1<=_;omega,λ_=>⟨hk,by show k<=k+1;omega,.inr (by show k<k+1;omega)⟩,(by decide:(0:Int)<=0),(by decide:(0:Int)<=3)⟩
    rw[if_neg h4]at h;by_cases h5:(l[k]).kind=2/\0<=ZaM (l[k]).text.toList
    ·rw[if_pos h5]at h;simp only[Qi]at h;subst h;have:=Zl3 (l[k]).text.toList;exact⟨by rw[inR_iff];show -1000000<=ZaM (l[k]).text.toList/\ZaM (l[k]).text.toList<=1000000;have:=h5.2;omega,by show k+1<=_;omega,λ_=>⟨hk,by show k<=k+1;omega,.inr (by show k<k+1;omega)⟩,(by decide:(0:Int)<=0),(by decide:(0:Int)<=3)⟩
    rw[if_neg h5]at h;simp only[Qi]at h;subst h;exact⟨rfl,by show k<=_;omega,λh0=>absurd (show(1:Int)=0 from h0) (by decide),(by decide:(0:Int)<=1),(by decide:(1:Int)<=3)⟩
   ·rw[dif_neg hk]at h;simp only[Qi]at h;subst h;exact⟨rfl,by show k<=_;omega,λh0=>absurd (show(1:Int)=0 from h0) (by decide),(by decide:(0:Int)<=1),(by decide:(1:Int)<=3)⟩
  |
   marks k rank =>
   unfold pv at h;obtain⟨a,h1,h2⟩:=Zas h;obtain⟨g1,g2,g3,g4,g5⟩:=ih _ _ (show okQ l (.one k) from hq) h1;by_cases hf:a.2.2=0
   ·obtain⟨g6,g7,g8⟩:=g3 hf;have g9:k<a.2.1:=g8.resolve_left (λh=>h);obtain⟨e1,e2,e3,e4,e5⟩:=ih _ _ (show okQ l (.more rank a.1 a.2.1 a.2.2) from⟨hf,g6,g1⟩) h2;refine⟨e1,by omega,λh0=>?_,e4,e5⟩;obtain⟨e6,e7,-⟩:=e3 h0;have e7':a.2.1<=r.2.1:=e7;exact⟨e6,by show k<=r.2.1;omega,.inr (by show k<r.2.1;omega)⟩
   ·have:=Zex h2 hf;subst this;exact⟨g1,by show a.2.1<=_;omega,λh0=>absurd h0 hf,g4,g5⟩
  |
   more rank n p f =>
   obtain⟨hf,hp,hn⟩:=hq;unfold pv at h;by_cases hk:f=0/\p<l.length
   ·rw[dif_pos hk]at h;by_cases h1:Zbq (l[p]'hk.2)<rank
    ·rw[if_pos h1]at h;simp only[Qi]at h;subst h;exact⟨hn,by show p<=_;omega,λ_=>⟨hp,QA _,.inl trivial⟩,by show 0<=f;omega,by show f<=3;omega⟩
    rw[if_neg h1]at h;obtain⟨a,h2,h3⟩:=Zas h;obtain⟨g1,g2,g3,g4,g5⟩:=ih _ _ (show okQ l (.marks (p+1) _) from hk.2) h2;by_cases h4:a.2.2≠0
    ·rw[if_pos h4]at h3;simp only[Qi]at h3;subst h3;exact⟨rfl,by show a.2.1<=_;omega,λh0=>absurd h0 h4,g4,g5⟩
    ·rw[if_neg h4]at h3;have q9:a.2.2=0:=(by omega);obtain⟨g6,g7,g8⟩:=g3 q9;have g9:p+1<a.2.1:=g8.resolve_left (λh=>h);obtain⟨m1,m2,m3⟩:=ZfJ (l[p]'hk.2).text.toList n a.1;by_cases hw:(Zal (l[p]'hk.2).text.toList n a.1).2=0
     ·obtain⟨e1,e2,e3,e4,e5⟩:=ih _ _ (show okQ l (.more rank _ a.2.1 _) from⟨hw,g6,m1⟩) h3;refine⟨e1,by omega,λh0=>?_,e4,e5⟩;obtain⟨e6,e7,-⟩:=e3 h0;have e7':a.2.1<=r.2.1:=e7;exact⟨e6,by show p<=r.2.1;omega,.inl trivial⟩
     ·have:=Zex h3 hw;subst this;exact⟨m1,by show a.2.1<=_;omega,λh0=>absurd h0 hw,m2,m3⟩
   ·rw[dif_neg hk]at h;simp only[Qi]at h;subst h;exact⟨hn,by show p<=_;omega,λ_=>⟨hp,QA _,.inl trivial⟩,by show 0<=f;omega,by show f<=3;omega⟩
  |
   choice k =>
   unfold pv at h;obtain⟨a,h1,h2⟩:=Zas h;obtain⟨g1,g2,g3,g4,g5⟩:=ih _ _ (show okQ l (.marks k 1) from hq) h1;by_cases h3:a.2.2=0/\Zan l a.2.1 [63]=true
   ·rw[if_pos h3]at h2;obtain⟨g6,g7,g8⟩:=g3 h3.1;have g9:k<a.2.1:=g8.resolve_left (λh=>h);obtain⟨q1,-⟩:=Zb0 h3.2;obtain⟨b,h4,h5⟩:=Zas h2;obtain⟨e1,e2,e3,e4,e5⟩:=ih _ _ (show okQ l (.choice (a.2.1+1)) from q1) h4;by_cases h6:b.2.2≠0
    ·rw[if_pos h6]at h5;simp only[Qi]at h5;subst h5;exact⟨rfl,by show b.2.1<=_;omega,λh0=>absurd h0 h6,e4,e5⟩
    rw[if_neg h6]at h5;have nS:b.2.2=0:=(by omega);obtain⟨e6,e7,-⟩:=e3 nS;have e7':a.2.1+1<=b.2.1:=e7;by_cases h7:Zan l b.2.1 [58]=true
    ·rw[if_pos h7]at h5;obtain⟨q2,-⟩:=Zb0 h7;obtain⟨c,h8,h9⟩:=Zas h5;obtain⟨c1,c2,c3,c4,c5⟩:=ih _ _ (show okQ l (.choice (b.2.1+1)) from q2) h8;simp only[Qi]at h9;subst h9;refine⟨?_,by show c.2.1<=_;omega,λh0=>?_,c4,c5⟩
     ·show inR (if a.1≠0 then b.1 else c.1)=true;split
      ·exact e1
      ·exact c1
     ·obtain⟨c6,c7,-⟩:=c3 h0;have c7':b.2.1+1<=c.2.1:=c7;exact⟨c6,by show k<=c.2.1;omega,.inr (by show k<c.2.1;omega)⟩
    ·rw[if_neg h7]at h5;simp only[Qi]at h5;subst h5;exact⟨rfl,by show b.2.1<=_;omega,λh0=>absurd (show(1:Int)=0 from h0) (by decide),(by decide:(0:Int)<=1),(by decide:(1:Int)<=3)⟩
   ·rw[if_neg h3]at h2;simp only[Qi]at h2;subst h2;refine⟨g1,by omega,λh0=>?_,g4,g5⟩;obtain⟨g6,g7,g8⟩:=g3 h0;exact⟨g6,g7,.inr (g8.resolve_left (λh=>h))⟩
def needQ (l:List Tok):Ask->Nat
 | .one k=>4*(l.length-k)+1
 | .more _ _ e _=>4*(l.length-e)+2
 | .marks k _=>4*(l.length-k)+3
 | .choice k=>4*(l.length-k)+4
theorem Zhz (l:List Tok):∀(d:Nat) (q:Ask),okQ l q->needQ l q<=d->∃r,pv l d q=some r:=by
 intro d;induction d with
 | zero=>intro q _ h;cases q <;> simp[needQ]at h
 |
  succ d ih =>
  intro q hq h;cases q with
  |
   one k =>
   have h':4*(l.length-k)+1<=d+1:=h;unfold pv;by_cases hk:k<l.length
   ·rw[dif_pos hk];obtain⟨a,ha⟩:=ih (.one (k+1)) hk (by show 4*(l.length-(k+1))+1<=d;omega);obtain⟨b,hb⟩:=ih (.choice (k+1)) hk (by show 4*(l.length-(k+1))+4<=d;omega);rw[ha,hb];simp only[Q2];split
    ·exact⟨_,rfl⟩
    ·split
     ·exact⟨_,rfl⟩
     ·split
      ·exact⟨_,rfl⟩
      ·split
       ·exact⟨_,rfl⟩
       ·split <;> exact⟨_,rfl⟩
   ·rw[dif_neg hk];exact⟨_,rfl⟩
  |
   marks k rank =>
   have h':4*(l.length-k)+3<=d+1:=h;have hk:k<=l.length:=hq;unfold pv;obtain⟨a,ha⟩:=ih (.one k) hk (by show 4*(l.length-k)+1<=d;omega);rw[ha];simp only[Q2];obtain⟨g1,g2,g3,g4,g5⟩:=Zb1 l d _ _ (show okQ l (.one k) from hk) ha;by_cases hf:a.2.2=0
   ·obtain⟨g6,g7,-⟩:=g3 hf;have g7':k<=a.2.1:=g7;exact ih _ ⟨hf,g6,g1⟩ (by show 4*(l.length-a.2.1)+2<=d;omega)
   ·obtain⟨e,rfl⟩:∃e,d=e+1:=⟨d-1,by omega⟩;unfold pv;rw[dif_neg (λh=>hf h.1)];exact⟨_,rfl⟩
  |
   more rank n p f =>
   obtain⟨hf,hp,hn⟩:=hq;have h':4*(l.length-p)+2<=d+1:=h;unfold pv;by_cases hk:f=0/\p<l.length
   ·rw[dif_pos hk];by_cases h1:Zbq (l[p]'hk.2)<rank
    ·rw[if_pos h1];exact⟨_,rfl⟩
    rw[if_neg h1];have hpl:=hk.2;obtain⟨a,ha⟩:=ih (.marks (p+1) (Zbq (l[p]'hk.2)+1)) hk.2 (by show 4*(l.length-(p+1))+3<=d;omega);rw[ha];simp only[Q2];obtain⟨g1,g2,g3,g4,g5⟩:=Zb1 l d _ _ (show okQ l (.marks (p+1) _) from hk.2) ha;by_cases h4:a.2.2≠0
    ·rw[if_pos h4];exact⟨_,rfl⟩
    rw[if_neg h4];obtain⟨g6,g7,-⟩:=g3 (by omega);have g7':p+1<=a.2.1:=g7;obtain⟨m1,m2,m3⟩:=ZfJ (l[p]'hk.2).text.toList n a.1;by_cases hw:(Zal (l[p]'hk.2).text.toList n a.1).2=0
    ·exact ih _ ⟨hw,g6,m1⟩ (by show 4*(l.length-a.2.1)+2<=d;omega)
    ·obtain⟨e,rfl⟩:∃e,d=e+1:=⟨d-1,by omega⟩;unfold pv;rw[dif_neg (λh=>hw h.1)];exact⟨_,rfl⟩
   ·rw[dif_neg hk];exact⟨_,rfl⟩
  |
   choice k =>
   have h':4*(l.length-k)+4<=d+1:=h;have hk:k<=l.length:=hq;unfold pv;obtain⟨a,ha⟩:=ih (.marks k 1) hk (by show 4*(l.length-k)+3<=d;omega);rw[ha];simp only[Q2];obtain⟨g1,g2,g3,g4,g5⟩:=Zb1 l d _ _ (show okQ l (.marks k 1) from hk) ha;by_cases h3:a.2.2=0/\Zan l a.2.1 [63]=true
   ·rw[if_pos h3];obtain⟨g6,g7,g8⟩:=g3 h3.1;have g9:k<a.2.1:=g8.resolve_left (λh=>h);obtain⟨q1,-⟩:=Zb0 h3.2;obtain⟨b,hb⟩:=ih (.choice (a.2.1+1)) q1 (by show 4*(l.length-(a.2.1+1))+4<=d;omega);rw[hb];simp only[Q2];obtain⟨e1,e2,e3,e4,e5⟩:=Zb1 l d _ _ (show okQ l (.choice (a.2.1+1)) from q1) hb;by_cases h6:b.2.2≠0
    ·rw[if_pos h6];exact⟨_,rfl⟩
    rw[if_neg h6];obtain⟨e6,e7,-⟩:=e3 (by omega);have e7':a.2.1+1<=b.2.1:=e7;by_cases h7:Zan l b.2.1 [58]=true
    ·rw[if_pos h7];obtain⟨q2,-⟩:=Zb0 h7;obtain⟨c,hc⟩:=ih (.choice (b.2.1+1)) q2 (by show 4*(l.length-(b.2.1+1))+4<=d;omega);rw[hc];exact⟨_,rfl⟩
    ·rw[if_neg h7];exact⟨_,rfl⟩
   ·rw[if_neg h3];exact⟨_,rfl⟩
theorem ZqE {t:Tok}(h:Zaj t=true){c:UInt8}{l:List UInt8}(e:t.text=⟨(c::l).toArray⟩):t.kind=cutKind c:=by
 obtain⟨h0,hk⟩:=(Za9 h).1;obtain⟨k,x,s,hd⟩:=t;obtain rfl:x=⟨(c::l).toArray⟩:=e;exact hk
theorem txt_eq {x:ByteArray}{l:List UInt8}(h:(x.toList==l)=true):x=⟨l.toArray⟩:=by rw[Zfd]at h;exact JW h
end Go.Proofs.YtipfpppcbmpjiaaGreat
