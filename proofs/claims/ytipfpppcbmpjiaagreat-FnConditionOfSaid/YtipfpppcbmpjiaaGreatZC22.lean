/- Lemmas. -/
import Derived.Test.YtipfpppcbmpjiaaGreatZC21
set_option linter.unusedVariables false
set_option maxHeartbeats 16000000
set_option maxRecDepth 100000
set_option linter.unusedSimpArgs false
namespace Go.Proofs.YtipfpppcbmpjiaaGreat
open Go.RowKit
def ZlH (rb:Nat)(w:World):Nat:=
 match w.heap[rb]? with
 | some (.cells cs _ _)=>(intOf (cs.getD 1 undef)).toNat
 | _=>0
variable {w:World}
theorem ReadBox.place {rb:Nat}{vL:Value}{k:Nat}(h:ReadBox rb vL k w):ZlH rb w=k:=by
 unfold ZlH;rw[show w.heap[rb]?=some (.cells #[vL,.int .i64 (k:Nat)] 77 (0,0)) from h];simp[intOf]
structure ParsC (l:List Tok)(d:Nat):Prop where
 one:∀(k:Nat) (r:ZbV),k<=l.length->pv l d (.one k)=some r->∀(rb:Nat) (vL:Value) (fp:List Nat) (w:World),ReadBox rb vL k w->(Zaa sTok).R w [vL] l fp->rb∉fp->Calls Tryz.prog 91 #[.pointer (some ⟨rb,0,none⟩)] w (ZcD rb vL l r w)
 marks:∀(k rank:Nat) (r:ZbV),k<=l.length->1<=rank->rank<=7->pv l d (.marks k rank)=some r->∀(rb:Nat) (vL:Value) (fp:List Nat) (w:World),ReadBox rb vL k w->(Zaa sTok).R w [vL] l fp->rb∉fp->Calls Tryz.prog 63 #[.pointer (some ⟨rb,0,none⟩),.int .i64 rank] w (ZcD rb vL l r w)
 choice:∀(k:Nat) (r:ZbV),k<=l.length->pv l d (.choice k)=some r->∀(rb:Nat) (vL:Value) (fp:List Nat) (w:World),ReadBox rb vL k w->(Zaa sTok).R w [vL] l fp->rb∉fp->Calls Tryz.prog 40 #[.pointer (some ⟨rb,0,none⟩)] w (ZcD rb vL l r w)
variable {l:List Tok}
theorem ZiI {vL:Value}{fp:List Nat}{rb:Nat}(H:(Zaa sTok).R w [vL] l fp)(hn:rb∉fp){Q:World}(hQ:Kept [rb] w Q):(Zaa sTok).R Q [vL] l fp:=
 (Zaa sTok).kept H (λb hb=>by simp only[JA];rintro rfl;exact hn hb) hQ
variable {d k:Nat}{r:ZbV}
theorem ZpX (h:pv l (d+1) (.one k)=some r)(hk:¬k<l.length):r=(0,k,1):=by
 unfold pv at h;rw[dif_neg hk]at h;simpa using h.symm
theorem ZpY (h:pv l (d+1) (.one k)=some r)(hm:Zan l k [33]=true):∃a,pv l d (.one (k+1))=some a/\r=(ZaV (decide (a.1=0)),a.2.1,a.2.2)/\k<l.length:=by
 obtain⟨hk,hm⟩:=Zb0 hm;unfold pv at h;rw[dif_pos hk,if_pos hm]at h;obtain⟨a,h1,h2⟩:=Zas h;exact⟨a,h1,by simpa using h2.symm,hk⟩
theorem ZpZ (h:pv l (d+1) (.one k)=some r)(h1:Zan l k [33]=false)(hm:Zan l k [45]=true):∃a,pv l d (.one (k+1))=some a/\r=(-a.1,a.2.1,a.2.2)/\k<l.length:=by
 obtain⟨hk,hm⟩:=Zb0 hm;rw[Zft hk]at h1;unfold pv at h;rw[dif_pos hk,if_neg (by rw[h1];simp),if_pos hm]at h;obtain⟨a,h1,h2⟩:=Zas h;exact⟨a,h1,by simpa using h2.symm,hk⟩
theorem Zp0 (h:pv l (d+1) (.one k)=some r)(h1:Zan l k [33]=false)(h2:Zan l k [45]=false)(hm:Zan l k [40]=true):∃a,pv l d (.choice (k+1))=some a/\r=(a.1,a.2.1+1,if a.2.2=0/\Zan l a.2.1 [41]=false then 1 else a.2.2)/\k<l.length:=by
 obtain⟨hk,hm⟩:=Zb0 hm;rw[Zft hk]at h1 h2;unfold pv at h;rw[dif_pos hk,if_neg (by rw[h1];simp),if_neg (by rw[h2];simp),if_pos hm]at h;obtain⟨a,h1,h2⟩:=Zas h;exact⟨a,h1,(JL h2).symm,hk⟩
theorem ZoF (h:pv l (d+1) (.one k)=some r)(h1:Zan l k [33]=false)(h2:Zan l k [45]=false)(h3:Zan l k [40]=false):r=ZcK l k:=by
 by_cases hk:k<l.length
 ·rw[Zft hk]at h1 h2 h3;unfold pv at h;rw[dif_pos hk,if_neg (by rw[h1];simp),if_neg (by rw[h2];simp),if_neg (by rw[h3];simp)]at h;unfold ZcK;rw[dif_pos hk];split at h
  ·rename_i h4;rw[if_pos h4];exact(JL h).symm
  ·rename_i h4;rw[if_neg h4];split at h
   ·rename_i h5;rw[if_pos h5];exact(JL h).symm
   ·rename_i h5;rw[if_neg h5];exact(JL h).symm
 ·rw[ZpX h hk];unfold ZcK;rw[dif_neg hk]
theorem ZoG {d:Nat}(hl:l.length<=60)(ht:∀t∈l,Zaj t=true)(IH:∀d',d'<d->ParsC l d')(k:Nat)(r:ZbV)(hk:k<=l.length)(h:pv l d (.one k)=some r)(rb:Nat)(vL:Value)(fp:List Nat)(w:World)(HB:ReadBox rb vL k w)(H:(Zaa sTok).R w [vL] l fp)(dO:rb∉fp):
  Calls Tryz.prog 91 #[.pointer (some ⟨rb,0,none⟩)] w (ZcD rb vL l r w):=by
 have HL:=Qh (λ(Q:World) (hQ:Kept [rb] w Q)=>ZiI H dO hQ);have mS:=Qh ht;have fs:=Qh HB;clear H HB ht;cases d with
 | zero=>simp[pv]at h
 | succ d =>
 have HH:=Qh h;clear h;have sI:Hid (∀(c:UInt8) (j:Nat) (Q:World),cutKind c=4->j<=l.length->ReadBox rb vL j Q->Kept [rb] w Q->Calls Tryz.prog 64 #[.pointer (some ⟨rb,0,none⟩),.string ⟨#[c]⟩] Q λe w'=>e=.returned (.bool (Zan l j [c]))/\ReadBox rb vL (if Zan l j [c]=true then j+1 else j) w'/\Kept [rb] Q w'):=
  λc j Q hc hj hB hQ=>Zmw rb vL l fp j c Q hl mS.out hc hj hB (HL.out Q hQ)
 have HWD:Hid (∀(Q:World),ReadBox rb vL k Q->Kept [rb] w Q->Calls Tryz.prog 125 #[.pointer (some ⟨rb,0,none⟩)] Q (ZcD rb vL l (ZcK l k) Q)):=λQ hB hQ=>Zri rb vL l fp k Q hl mS.out hk hB (HL.out Q hQ);go_enter Tryz.func91,Tryz.ntmps91;have S1:=Qh (sI.out 33 k w (by decide) hk fs.out (Kept.refl _ _));cases h1:Zan l k [33];rotate_left
 ·obtain⟨a,ha,hr,af⟩:=ZpY HH.out h1;have HR:=Qh hr;have HC:Hid (∀Q:World,ReadBox rb vL (k+1) Q->Kept [rb] w Q->Calls Tryz.prog 91 #[.pointer (some ⟨rb,0,none⟩)] Q (ZcD rb vL l a Q)):=λQ hB hQ=>(IH d (by omega)).one (k+1) a af ha rb vL fp Q hB (HL.out Q hQ) dO;rw[h1]at S1;clear h1 ha hr HH;go_wp2_with fail
  refine S1.out.mono ?_;rintro e w2⟨rfl,aY,gk⟩;replace aY:ReadBox rb vL (k+1) w2:=aY;have C2:=Qh (HC.out w2 aY gk);have K2:=Qh gk;clear aY gk S1;go_wp2_with fail
  refine C2.out.mono ?_;rintro e w3⟨n,k3,rfl,hv,hn,ka,aQ,fY⟩;have HV:=Qh hv;have B3:=Qh aQ;have K3:=Qh (K2.out.trans fY);clear hv aQ fY C2;obtain⟨a1,a2,f⟩:=a;by_cases h0:n=0
  ·have e0:(n==0)=true:=(by simp[h0]);have HE:Hid (f=0->ZaV true=r.1/\k3=r.2.1):=λhf=>(by rw[HR.out];have:=HV.out hf;refine⟨?_,this.2⟩;show ZaV true=ZaV (decide (a1=0));rw[←(show n=a1 from this.1),h0];rfl);go_wp2_with fail
   refine(Zb9 true _).mono ?_;rintro e w4⟨rfl,rfl⟩;go_wp2;go_ret2;exact Zdp (by rw[HR.out]) HE.out (by decide) ka B3.out K3.out
  ·have e0:(n==0)=false:=(by simp[h0]);have HE:Hid (f=0->ZaV false=r.1/\k3=r.2.1):=λhf=>(by rw[HR.out];have:=HV.out hf;refine⟨?_,this.2⟩;show ZaV false=ZaV (decide (a1=0));rw[←(show n=a1 from this.1),JQ h0]);go_wp2_with fail
   refine(Zb9 false _).mono ?_;rintro e w4⟨rfl,rfl⟩;go_wp2;go_ret2;exact Zdp (by rw[HR.out]) HE.out (by decide) ka B3.out K3.out
 have H1:=Qh h1;rw[h1]at S1;clear h1;go_wp2_with fail
 refine S1.out.mono ?_;rintro e w2⟨rfl,aY,gk⟩;replace aY:ReadBox rb vL k w2:=aY;have B2:=Qh aY;have K2:=Qh gk;clear aY gk S1;have S2:=Qh (sI.out 45 k w2 (by decide) hk B2.out K2.out);cases h2:Zan l k [45];rotate_left
 ·obtain⟨a,ha,hr,af⟩:=ZpZ HH.out H1.out h2;have HR:=Qh hr;have HC:Hid (∀Q:World,ReadBox rb vL (k+1) Q->Kept [rb] w Q->Calls Tryz.prog 91 #[.pointer (some ⟨rb,0,none⟩)] Q (ZcD rb vL l a Q)):=λQ hB hQ=>(IH d (by omega)).one (k+1) a af ha rb vL fp Q hB (HL.out Q hQ) dO;rw[h2]at S2;clear h2 ha hr HH;go_wp2_with fail
  refine S2.out.mono ?_;rintro e w3⟨rfl,aQ,fY⟩;replace aQ:ReadBox rb vL (k+1) w3:=aQ;have K3:=Qh (K2.out.trans fY);have C3:=Qh (HC.out w3 aQ K3.out);clear aQ fY S2;go_wp2_with fail
  refine C3.out.mono ?_;rintro e w4⟨n,k3,rfl,hv,hn,ka,aQ,fY⟩;have HV:=Qh hv;have B3:=Qh aQ;have K4:=Qh (K3.out.trans fY);clear hv aQ fY C3;obtain⟨a1,a2,f⟩:=a;have hni:=inR_iff.1 hn;have HN:=Qh (Zo1 hn);have HE:Hid (f=0->-n=r.1/\k3=r.2.1):=λhf=>by rw[HR.out];have:=HV.out hf;refine⟨?_,this.2⟩;show -n=-a1;rw[←(show n=a1 from this.1)]
  have hwn:IntKind.i64.wrap (-n)=-n:=QF _ (by omega);clear hn;go_wp2;go_ret2;exact Zdp (by rw[HR.out]) HE.out HN.out ka B3.out K4.out
 have H2:=Qh h2;rw[h2]at S2;clear h2;go_wp2_with fail
 refine S2.out.mono ?_;rintro e w3⟨rfl,aQ,fY⟩;replace aQ:ReadBox rb vL k w3:=aQ;have B3:=Qh aQ;have K3:=Qh (K2.out.trans fY);clear aQ fY S2;have S3:=Qh (sI.out 40 k w3 (by decide) hk B3.out K3.out);cases h3:Zan l k [40];rotate_left
 ·obtain⟨a,ha,hr,af⟩:=Zp0 HH.out H1.out H2.out h3;have HR:=Qh hr;have HC:Hid (∀Q:World,ReadBox rb vL (k+1) Q->Kept [rb] w Q->Calls Tryz.prog 40 #[.pointer (some ⟨rb,0,none⟩)] Q (ZcD rb vL l a Q)):=λQ hB hQ=>(IH d (by omega)).choice (k+1) a af ha rb vL fp Q hB (HL.out Q hQ) dO;rw[h3]at S3;clear h3 ha hr HH;go_wp2_with fail
  refine S3.out.mono ?_;rintro e w4⟨rfl,hB4,fZ⟩;replace hB4:ReadBox rb vL (k+1) w4:=hB4;have K4:=Qh (K3.out.trans fZ);have C4:=Qh (HC.out w4 hB4 K4.out);clear hB4 fZ S3;go_wp2_with fail
  refine C4.out.mono ?_;rintro e w5⟨n,k5,rfl,hv,hn,fg,cg,jL⟩;have HV:=Qh hv;have B5:=Qh cg;have K5:=Qh (K4.out.trans jL);have HN:=Qh hn;clear hv cg jL C4 hn;obtain⟨a1,a2,f⟩:=a;by_cases hf:f=0;rotate_left
  ·have HE:Hid (r.2.2=f):=(by show _=_;rw[HR.out];show(if f=0/\_ then _ else _)=_;rw[if_neg (λh=>hf h.1)]);have lD:=Qh hf;have e0:(f==0)=false:=(by simp[hf]);clear hf;go_wp2;go_ret2;exact Zdp HE.out (λh=>absurd h lD.out) HN.out fg B5.out K5.out
  subst hf;obtain⟨mU,jo⟩:=HV.out rfl;have S5:=Qh (sI.out 41 k5 w5 (by decide) fg B5.out K5.out);have Bw:=Qh mU;have vF:=Qh jo;clear mU jo HV;cases h4:Zan l k5 [41]
  ·have HE:Hid (r.2.2=1):=(by show _=_;rw[HR.out];show(if (0:Int)=0/\Zan l a2 [41]=false then _ else _)=_;rw[←(show k5=a2 from vF.out),if_pos ⟨rfl,h4⟩]);rw[h4]at S5;clear h4;go_wp2_with fail
   refine S5.out.mono ?_;rintro e w6⟨rfl,bU,gI⟩;replace bU:ReadBox rb vL k5 w6:=bU;have B6:=Qh bU;have K6:=Qh (K5.out.trans gI);clear bU gI;go_wp2;go_ret2;exact Zdp HE.out (λh=>absurd h (by decide)) HN.out fg B6.out K6.out
  ·have HE:Hid (r=(n,k5+1,0)):=(by show _=_;rw[HR.out];show(a1,a2+1,if (0:Int)=0/\Zan l a2 [41]=false then _ else _)=_;rw[←(show k5=a2 from vF.out),if_neg (by rw[h4];simp),←(show n=a1 from Bw.out)]);obtain⟨pa,-⟩:=Zb0 h4;rw[h4]at S5;clear h4;go_wp2_with fail
   refine S5.out.mono ?_;rintro e w6⟨rfl,bU,gI⟩;replace bU:ReadBox rb vL (k5+1) w6:=bU;have B6:=Qh bU;have K6:=Qh (K5.out.trans gI);clear bU gI;go_wp2;go_ret2;exact Zdp (by rw[HE.out]) (λ_=>by rw[HE.out];exact⟨rfl,rfl⟩) HN.out pa B6.out K6.out
 have HR:=Qh (ZoF HH.out H1.out H2.out h3);rw[h3]at S3;clear h3;go_wp2_with fail
 refine S3.out.mono ?_;rintro e w4⟨rfl,hB4,fZ⟩;replace hB4:ReadBox rb vL k w4:=hB4;have K4:=Qh (K3.out.trans fZ);have W4:=Qh (HWD.out w4 hB4 K4.out);rw[←HR.out]at W4;clear hB4 fZ S3;go_wp2_with fail
 refine W4.out.mono ?_;rintro e w5⟨n,k5,rfl,hv,hn,fg,cg,jL⟩;have HV:=Qh hv;have B5:=Qh cg;have K5:=Qh (K4.out.trans jL);have HN:=Qh hn;clear hv cg jL W4 hn;go_wp2;go_ret2;exact Zdp rfl HV.out HN.out fg B5.out K5.out
theorem next_ok {k:Nat}{v:Value}{fp:List Nat}(H:(Zaa sTok).R w [v] l fp):ZaC (ZbX l k):=by
 by_cases h:k<l.length
 ·rw[Zf9 h];obtain⟨al,cl,rfl,dK,iu,ai⟩:=Zac H;obtain⟨b1,o1,-,rfl,-,-,-⟩:=ai (by omega);obtain⟨xa,xc,xf,x0,x1,x2,x3,xR,-,-⟩:=ZaO H h;exact xR.choose_spec.2.2.1
 ·rw[ZhV h];exact JI _
theorem Zrj {d rank e:Nat}{n:Int}(h:pv l d (.more rank n e 0)=some r)(he:e<=l.length)(ht:∀t∈l,Zaj t=true)(hr:Zba (ZbX l e).toList<rank):r=(n,e,0):=by
 by_cases af:e<l.length
 ·cases d with
  | zero=>simp[pv]at h
  |
   succ d =>
   unfold pv at h;rw[dif_pos ⟨rfl,af⟩,if_pos (by rw[Zn3 (ht _ (QE af)),←Zf9 af];exact hr)]at h;exact(JL h).symm
 ·exact ZnR h (λh=>af h.2)
theorem more_go {d rank e:Nat}{n:Int}(h:pv l (d+1) (.more rank n e 0)=some r)(ht:∀t∈l,Zaj t=true)(h1:1<=rank)(hr:¬Zba (ZbX l e).toList<rank):
  e<l.length/\∃a,pv l d (.marks (e+1) (Zba (ZbX l e).toList+1))=some a/\(a.2.2≠0->r=(0,a.2.1,a.2.2))/\(a.2.2=0->pv l d (.more rank (Zal (ZbX l e).toList n a.1).1 a.2.1 (Zal (ZbX l e).toList n a.1).2)=some r):=by
 have af:e<l.length:=by
  refine Nat.lt_of_not_le λh'=>hr ?_;rw[ZhV (by omega),QB];exact h1
 refine⟨af,?_⟩;have hk:Zbq l[e]=Zba (ZbX l e).toList:=by rw[Zn3 (ht _ (QE af)),←Zf9 af]
 have hx:l[e].text=ZbX l e:=(Zf9 af).symm;unfold pv at h;rw[dif_pos ⟨rfl,af⟩,if_neg (by rw[hk];exact hr),hk,hx]at h;obtain⟨a,h2,h3⟩:=Zas h;refine⟨a,h2,λhf=>?_,λhf=>?_⟩
 ·simp only[if_pos hf]at h3;exact(JL h3).symm
 ·simp only[hf,ne_eq,not_true_eq_false,if_false]at h3;exact h3
theorem rankT_le (s:List UInt8):Zba s<=6:=by
 unfold Zba
 repeat' split
 all_goals omega
theorem row_walk {d:Nat}(hl:l.length<=60)(ht:∀t∈l,Zaj t=true)(IH:∀d',d'<d->ParsC l d')(k rank:Nat)(r:ZbV)(hk:k<=l.length)(h1:1<=rank)(h7:rank<=7)(h:pv l d (.marks k rank)=some r)(rb:Nat)(vL:Value)(fp:List Nat)(w:World)(HB:ReadBox rb vL k w)(H:(Zaa sTok).R w [vL] l fp)(dO:rb∉fp):
  Calls Tryz.prog 63 #[.pointer (some ⟨rb,0,none⟩),.int .i64 rank] w (ZcD rb vL l r w):=by
 have HL:=Qh (λ(Q:World) (hQ:Kept [rb] w Q)=>ZiI H dO hQ);have mS:=Qh ht;have fs:=Qh HB;clear H HB ht;cases d with
 | zero=>simp[pv]at h
 | succ d =>
 unfold pv at h;obtain⟨a,eu,ir⟩:=Zas h;have C0:=Qh ((IH d (by omega)).one k a hk eu rb vL fp w fs.out (HL.out w (Kept.refl _ _)) dO);have HM:=Qh ir;clear h eu ir;go_enter Tryz.func63,Tryz.ntmps63;go_wp2_with fail
 refine C0.out.mono ?_;rintro e w1⟨n0,k0,rfl,hv,ke,ek,cq,iE⟩
 have HI:Hid ((a.2.2=0->pv l d (.more rank n0 k0 0)=some r)/\(a.2.2≠0->r.2.2=a.2.2)):=⟨λhf=>by
   have h9:=HM.out;rw[hf,←(hv hf).1,←(hv hf).2]at h9
   exact h9,λhf=>by rw[Zex HM.out hf]⟩
 have dy:=Qh cq;have tJ:=Qh iE;obtain⟨f0,sR⟩:∃f0:Int,Hid (f0=a.2.2):=⟨_,Qh rfl⟩;rw[show a.2.2=f0 from sR.out.symm]at HI ⊢;clear hv cq iE C0 HM;go_wp2;go_loopw [6,7] (λvn vf wr=>∃(d' e:Nat) (n f:Int),d'<=d/\e<=l.length/\inR n=true/\vn=.int .i64 n/\vf=.int .i64 f/\Hid ((f=0->pv l d' (.more rank n e 0)=some r)/\(f≠0->r.2.2=f))/\Hid (ReadBox rb vL e wr)/\Hid (Kept [rb] w wr)) (λ_ vf wr=>if intOf vf=0 then l.length-ZlH rb wr+1 else 0)
 case atStart=>exact⟨d,k0,n0,f0,QA _,ek,ke,rfl,rfl,HI,dy,tJ⟩
 case round =>
  clear HI dy tJ ek ke sR;obtain⟨d',e,n,f,hd',he,hn,rfl,rfl,HI,HB,HK⟩:=hrel;by_cases hf:f=0;rotate_left
  ·have HE:=Qh (HI.out.2 hf);have lD:=Qh hf;have g1:(f==0)=false:=(by simp[hf]);clear hf;go_wp2;go_ret2;exact Zdp HE.out (λh=>absurd h lD.out) (by decide) he HB.out HK.out
  subst hf;have HP:=Qh (HI.out.1 rfl);have cZ:=Qh hn;clear HI hn;have mN:=Qh (Zmv rb vL l fp e wr he HB.out (HL.out wr HK.out));have bC:=Qh (next_ok (k:=e) (HL.out wr HK.out));obtain⟨tx,kC⟩:∃tx:ByteArray,Hid (tx=ZbX l e):=⟨_,Qh rfl⟩;rw[show ZbX l e=tx from kC.out.symm]at mN bC;have hr6:=rankT_le tx.toList;have iC:Hid (∀Q,Calls Tryz.prog 93 #[.string tx] Q λe w'=>e=.returned (.int .i64 (Zba tx.toList:Nat))/\w'=Q):=λQ=>ZgQ tx Q;obtain⟨rk,uM⟩:∃rk:Nat,Hid (rk=Zba tx.toList):=⟨_,Qh rfl⟩;rw[show Zba tx.toList=rk from uM.out.symm]at iC hr6;go_wp2_with fail
  refine mN.out.mono ?_;rintro ee w2⟨rfl,aF⟩;go_wp2_with fail
  refine(iC.out _).mono ?_;rintro ee w3⟨rfl,rfl⟩;have eZ:=Qh (HB.out.below aF);have jF:=Qh (HK.out.trans (Kept.of_below aF));clear mN iC aF HK;by_cases rI:rk<rank
  ·have HE:=Qh (Zrj HP.out he mS.out (by rw[←kC.out,←uM.out];exact rI));have g1:(rk:Int)<(rank:Int):=(by omega);clear rI;go_wp2;go_ret2;exact Zdp (by rw[HE.out]) (λ_=>by rw[HE.out];exact⟨rfl,rfl⟩) cZ.out he eZ.out jF.out
  have g1:¬(rk:Int)<(rank:Int):=by omega
  cases d' with
  | zero=>have:=HP.out;simp[pv]at this
  | succ d' =>
  obtain⟨af,a,eu,se,hgo⟩:=more_go HP.out mS.out h1 (by rw[←kC.out,←uM.out];exact rI);rw[←kC.out]at eu hgo;rw[←uM.out]at eu;have dY:=Zb1 l d' _ _ (show okQ l (.marks (e+1) (rk+1)) from af) eu;obtain⟨-,-,f3,-,-⟩:=dY;have mN:Hid (a.2.2=0->a.2.1<=l.length/\e+1<a.2.1):=λh=>⟨(f3 h).1,((f3 h).2.2).resolve_left (λh=>h)⟩;have HC:Hid (∀Q:World,ReadBox rb vL (e+1) Q->Kept [rb] w Q->Calls Tryz.prog 63 #[.pointer (some ⟨rb,0,none⟩),.int .i64 (rk+1:Nat)] Q (ZcD rb vL l a Q)):=λQ hB hQ=>(IH d' (by omega)).marks (e+1) (rk+1) a af (by omega) (by omega) eu rb vL fp Q hB (HL.out Q hQ) dO;have nO:=Qh se;have dP:=Qh hgo;clear eu se hgo f3 HP rI;have p1:=Qc 1 eZ.out;have fz:=Qf 1 eZ.out;have gN:IntKind.i64.wrap ((e:Int)+1)=(e:Int)+1:=QF _ (by omega);have hwk:IntKind.i64.wrap ((rk:Int)+1)=((rk+1:Nat):Int):=by rw[QF _ (by omega)];omega
  have kq:Hid (ReadBox rb vL (e+1) (w3.setCell ⟨rb,1,none⟩ (.int .i64 ((e:Int)+1)))):=Zai eZ.out 1 (.int .i64 ((e:Int)+1));have jN:Hid (Kept [rb] w (w3.setCell ⟨rb,1,none⟩ (.int .i64 ((e:Int)+1)))):=jF.out.setCell (p:=⟨rb,1,none⟩) (by simp) _;have dD:=Qh HB.out.place;go_upto_region 8 with fail
  clear p1 fz gN eZ jF;generalize (w3.setCell ⟨rb,1,none⟩ (.int .i64 ((e:Int)+1)))=w4 at *;have C4:=Qh (HC.out w4 kq.out jN.out);go_wp2_with fail
  refine C4.out.mono ?_;rintro ee w5⟨m,k5,rfl,hv,hm,fg,cg,jL⟩;have HV:=Qh hv;have B5:=Qh cg;have K5:=Qh (jN.out.trans jL);clear hv cg jL C4 HC hwk;obtain⟨a1,a2,o⟩:=a;try dsimp only at nO dP mN HV
  by_cases ho:o=0;rotate_left
  ·have HE:Hid ((o=0->pv l d' (.more rank n k5 0)=some r)/\(o≠0->r.2.2=o)):=⟨λh=>absurd h ho,λh=>by rw[nO.out h]⟩;have g2:(o==0)=false:=(by simp[ho]);have fI:=Qh ho;clear ho;go_wp2;go_roundw;case rel=>exact⟨d',k5,n,o,by omega,fg,cZ.out,rfl,rfl,HE,B5,K5⟩
   case measure=>rw[dD.out];simp[intOf,fI.out]
  subst ho;obtain⟨mU,jo⟩:=HV.out rfl;obtain⟨d4,jB⟩:=mN.out rfl;have ug:=Qh (dP.out rfl);rw[←mU,←jo]at ug;rw[←jo]at d4 jB;have nn:=Qh (Zrf tx n m w5);have p7:=Qh (ZfJ tx.toList n m);unfold ZkN at nn;rcases lg:Zal tx.toList n m with⟨x,wf⟩;rw[lg]at nn ug p7;try dsimp only at nn ug p7
  clear lg HV mN dP nO mU jo;go_wp2_with fail
  refine nn.out.mono ?_;rintro ee w6⟨rfl,bq⟩;have HE:Hid ((wf=0->pv l d' (.more rank x k5 0)=some r)/\(wf≠0->r.2.2=wf)):=⟨λh=>by have h9:=ug.out;rw[h]at h9;exact h9,λh=>by rw[Zex ug.out h]⟩;have B6:=Qh (B5.out.below bq);have K6:=Qh (K5.out.trans (Kept.of_below bq));have Az:=Qh B6.out.place;clear nn ug bq B5 K5;go_wp2;go_roundw;case rel=>exact⟨d',k5,x,wf,by omega,fg,p7.out.1,rfl,rfl,HE,B6,K6⟩
  case measure =>
   rw[dD.out,Az.out];by_cases hz:wf=0
   ·simp[intOf,hz];omega
   ·simp[intOf,hz]
theorem ZiJ {r a:ZbV}(h:pv l (d+1) (.choice k)=some r)(ha:pv l d (.marks k 1)=some a)(hn:¬(a.2.2=0/\Zan l a.2.1 [63]=true)):r=a:=by
 unfold pv at h;rw[ha,Q2,if_neg hn]at h;exact(JL h).symm
theorem ZoH {r a:ZbV}(h:pv l (d+1) (.choice k)=some r)(ha:pv l d (.marks k 1)=some a)(hy:a.2.2=0/\Zan l a.2.1 [63]=true):
  ∃b,pv l d (.choice (a.2.1+1))=some b/\(b.2.2≠0->r=(0,b.2.1,b.2.2))/\(b.2.2=0->Zan l b.2.1 [58]=false->r=(0,b.2.1,1))/\(b.2.2=0->Zan l b.2.1 [58]=true->∃c,pv l d (.choice (b.2.1+1))=some c/\r=(if a.1≠0 then b.1 else c.1,c.2.1,c.2.2)):=by
 unfold pv at h;rw[ha,Q2,if_pos hy]at h;obtain⟨b,h2,h3⟩:=Zas h;refine⟨b,h2,λhf=>?_,λhf hm=>?_,λhf hm=>?_⟩
 ·rw[if_pos hf]at h3;exact(JL h3).symm
 ·rw[if_neg (by simp[hf]),if_neg (by rw[hm];simp)]at h3;exact(JL h3).symm
 ·rw[if_neg (by simp[hf]),if_pos hm]at h3;obtain⟨c,h4,h5⟩:=Zas h3;exact⟨c,h4,(JL h5).symm⟩
theorem Zn4 {d:Nat}(hl:l.length<=60)(ht:∀t∈l,Zaj t=true)(IH:∀d',d'<d->ParsC l d')(k:Nat)(r:ZbV)(hk:k<=l.length)(h:pv l d (.choice k)=some r)(rb:Nat)(vL:Value)(fp:List Nat)(w:World)(HB:ReadBox rb vL k w)(H:(Zaa sTok).R w [vL] l fp)(dO:rb∉fp):
  Calls Tryz.prog 40 #[.pointer (some ⟨rb,0,none⟩)] w (ZcD rb vL l r w):=by
 have HL:=Qh (λ(Q:World) (hQ:Kept [rb] w Q)=>ZiI H dO hQ);have mS:=Qh ht;have fs:=Qh HB;clear H HB ht;cases d with
 | zero=>simp[pv]at h
 | succ d =>
 have HH:=Qh h;unfold pv at h;obtain⟨a,eu,-⟩:=Zas h;have HA:=Qh eu;have sI:Hid (∀(c:UInt8) (j:Nat) (Q:World),cutKind c=4->j<=l.length->ReadBox rb vL j Q->Kept [rb] w Q->Calls Tryz.prog 64 #[.pointer (some ⟨rb,0,none⟩),.string ⟨#[c]⟩] Q λe w'=>e=.returned (.bool (Zan l j [c]))/\ReadBox rb vL (if Zan l j [c]=true then j+1 else j) w'/\Kept [rb] Q w'):=
  λc j Q hc hj hB hQ=>Zmw rb vL l fp j c Q hl mS.out hc hj hB (HL.out Q hQ)
 have HCH:Hid (∀(j:Nat) (b:ZbV) (Q:World),j<=l.length->pv l d (.choice j)=some b->ReadBox rb vL j Q->Kept [rb] w Q->Calls Tryz.prog 40 #[.pointer (some ⟨rb,0,none⟩)] Q (ZcD rb vL l b Q)):=λj b Q hj hb hB hQ=>(IH d (by omega)).choice j b hj hb rb vL fp Q hB (HL.out Q hQ) dO;have C0:=Qh ((IH d (by omega)).marks k 1 a hk (by omega) (by omega) eu rb vL fp w fs.out (HL.out w (Kept.refl _ _)) dO);rw[show((1:Nat):Int)=1 from rfl]at C0;clear h eu;go_enter Tryz.func40,Tryz.ntmps40;go_wp2_with fail
 refine C0.out.mono ?_;rintro e w1⟨n,k1,rfl,hv,hn,bG,cq,iE⟩;have HV:=Qh hv;have B1:=Qh cq;have K1:=Qh iE;have HN:=Qh hn;clear hv cq iE C0 hn;obtain⟨a1,a2,f⟩:=a;try dsimp only at HV
 by_cases hf:f=0;rotate_left
 ·have HE:=Qh (ZiJ HH.out HA.out (λh=>hf h.1));have lD:=Qh hf;have g1:(f != 0)=true:=by simp[hf]
  clear hf;go_wp2;go_ret2;exact Zdp (by rw[HE.out]) (λh=>absurd h lD.out) HN.out bG B1.out K1.out
 subst hf;obtain⟨mU,jo⟩:=HV.out rfl;subst mU jo;have S1:=Qh (sI.out 63 k1 w1 (by decide) bG B1.out K1.out);cases hq:Zan l k1 [63]
 ·have HE:=Qh (ZiJ HH.out HA.out (λh=>by rw[show Zan l k1 [63]=false from hq]at h;exact absurd h.2 (by simp)));rw[hq]at S1;clear hq;go_wp2_with fail
  refine S1.out.mono ?_;rintro e w2⟨rfl,aY,gk⟩;replace aY:ReadBox rb vL k1 w2:=aY;have B2:=Qh aY;have K2:=Qh (K1.out.trans gk);clear aY gk S1;go_wp2;go_ret2;exact Zdp (by rw[HE.out]) (λ_=>by rw[HE.out];exact⟨rfl,rfl⟩) HN.out bG B2.out K2.out
 obtain⟨b,aG,se,yv,Ct⟩:=ZoH HH.out HA.out ⟨rfl,hq⟩;obtain⟨af,-⟩:=Zb0 hq;have Cu:=Qh aG;have nO:=Qh se;have fI:=Qh yv;have yq:=Qh Ct;rw[hq]at S1;clear hq aG se yv Ct;go_wp2_with fail
 refine S1.out.mono ?_;rintro e w2⟨rfl,aY,gk⟩;replace aY:ReadBox rb vL (k1+1) w2:=aY;have K2:=Qh (K1.out.trans gk);have C2:=Qh (HCH.out (k1+1) b w2 af Cu.out aY K2.out);clear aY gk S1;go_wp2_with fail
 refine C2.out.mono ?_;rintro e w3⟨m,k3,rfl,hv,hm,ka,aQ,fY⟩;have vF:=Qh hv;have B3:=Qh aQ;have K3:=Qh (K2.out.trans fY);have HM:=Qh hm;clear hv aQ fY C2 hm Cu;obtain⟨b1,b2,f⟩:=b;try dsimp only at vF nO fI yq
 by_cases hf:f=0;rotate_left
 ·have HE:=Qh (nO.out hf);have lD:=Qh hf;have g1:(f != 0)=true:=by simp[hf]
  clear hf;go_wp2;go_ret2;exact Zdp (by rw[HE.out]) (λh=>absurd h lD.out) (by decide) ka B3.out K3.out
 subst hf;obtain⟨mU,jo⟩:=vF.out rfl;subst mU jo;have S3:=Qh (sI.out 58 k3 w3 (by decide) ka B3.out K3.out);cases hq:Zan l k3 [58]
 ·have HE:=Qh (fI.out rfl hq);rw[hq]at S3;clear hq;go_wp2_with fail
  refine S3.out.mono ?_;rintro e w4⟨rfl,hB4,fZ⟩;replace hB4:ReadBox rb vL k3 w4:=hB4;have B4:=Qh hB4;have K4:=Qh (K3.out.trans fZ);clear hB4 fZ S3;go_wp2;go_ret2;exact Zdp (by rw[HE.out]) (λh=>absurd h (by decide)) (by decide) ka B4.out K4.out
 obtain⟨c,fJ,hr⟩:=yq.out rfl hq;obtain⟨hlt3,-⟩:=Zb0 hq;have mj:=Qh fJ;have HR:=Qh hr;rw[hq]at S3;clear hq fJ hr yq fI nO HV vF;go_wp2_with fail
 refine S3.out.mono ?_;rintro e w4⟨rfl,hB4,fZ⟩;replace hB4:ReadBox rb vL (k3+1) w4:=hB4;have K4:=Qh (K3.out.trans fZ);have C4:=Qh (HCH.out (k3+1) c w4 hlt3 mj.out hB4 K4.out);clear hB4 fZ S3;go_wp2_with fail
 refine C4.out.mono ?_;rintro e w5⟨q,k5,rfl,hv,hq,fg,cg,jL⟩;have HV:=Qh hv;have B5:=Qh cg;have K5:=Qh (K4.out.trans jL);have HQ:=Qh hq;clear hv cg jL C4 hq mj;obtain⟨c1,c2,f⟩:=c;try dsimp only at HV HR
 by_cases h0:n=0
 ·have HE:Hid (r=(c1,c2,f)):=by show _=_;rw[HR.out,if_neg (by simp[h0])]
  have g1:(n != 0)=false:=by simp[h0]
  clear h0;go_wp2;go_ret2;exact Zdp (by rw[HE.out]) (λh=>by rw[HE.out];exact HV.out h) HQ.out fg B5.out K5.out
 ·have HE:Hid (r=(m,c2,f)):=by show _=_;rw[HR.out,if_pos h0]
  have g1:(n != 0)=true:=by simp[h0]
  clear h0;go_wp2;go_ret2;exact Zdp (by rw[HE.out]) (λh=>by rw[HE.out];exact⟨rfl,(HV.out h).2⟩) HM.out fg B5.out K5.out
theorem impl_PC (hl:l.length<=60)(ht:∀t∈l,Zaj t=true):∀d,ParsC l d:=by
 intro d;induction d using Nat.strongRecOn with
 | ind d ih=>exact⟨λk r hk h rb vL fp w HB H hn=>ZoG hl ht ih k r hk h rb vL fp w HB H hn,λk rank r hk h1 h7 h rb vL fp w HB H hn=>row_walk hl ht ih k rank r hk h1 h7 h rb vL fp w HB H hn,λk r hk h rb vL fp w HB H hn=>Zn4 hl ht ih k r hk h rb vL fp w HB H hn⟩
theorem Zn5 (v:Value)(l:List Tok)(fp:List Nat)(w:World)(H:(Zaa sTok).R w [v] l fp):Calls Tryz.prog 18 #[v] w (ZkO (Za1 l) w):=by
 have H0:=Qh H;have HV:=Qh (ZbZ v l fp w H);obtain⟨al,cl,rfl,dK,iu,-⟩:=Zac H;unfold maxLen at iu;clear H;go_enter Tryz.func18,Tryz.ntmps18;cases hv:Zam l
 ·have HF:=Qh (Zpj hv);rw[hv]at HV;clear hv;go_wp2_with fail
  refine HV.out.mono ?_;rintro e w2⟨rfl,aF⟩;go_wp2;go_ret2;exact ZeL HF.out aF
 have je:=(Zay hv).1;have mS:Hid (∀t∈l,Zaj t=true):=λt ht=>by obtain⟨k,hk,rfl⟩:=QY ht;exact(Zay hv).2 k hk
 obtain⟨⟨n,e,f⟩,hp⟩:=Zhz l (4*l.length+4) (.choice 0) (JI _) (by show 4*(l.length-0)+4<=_;omega);have dP:=Qh (val_go hv hp);have d7:=Qh ((Zaa sTok).lt H0.out);have HC:Hid (∀(rb:Nat) (Q:World),Below w.heap.size w Q->w.heap.size<=rb->ReadBox rb (.slice al l.length cl) 0 Q->Calls Tryz.prog 40 #[.pointer (some ⟨rb,0,none⟩)] Q (ZcD rb (.slice al l.length cl) l (n,e,f) Q)):=λrb Q hQ eD hB=>(impl_PC je mS.out (4*l.length+4)).choice 0 _ (JI _) hp rb _ fp Q hB ((Zaa sTok).below H0.out hQ) (λh=>by have:=d7.out _ h;omega);rw[hv]at HV;clear hv hp;go_wp2_with fail
 refine HV.out.mono ?_;rintro ee w2⟨rfl,aF⟩;have ba:=Zab w2 (.cells #[.slice al l.length cl,.int .i64 0] 77);have HX:Hid (ReadBox w2.heap.size (.slice al l.length cl) 0 (w2.alloc (.cells #[.slice al l.length cl,.int .i64 0] 77))):=JS w2 (.cells #[.slice al l.length cl,.int .i64 0] 77);have aC:=aF.trans (ba.mono aF.size);have eD:=aF.size;go_upto_region 4 with fail
 generalize (w2.alloc (.cells #[.slice al l.length cl,.int .i64 0] 77))=w3 at *;obtain⟨rb,dH⟩:∃rb:Nat,Hid (rb=w2.heap.size):=⟨_,Qh rfl⟩;rw[show w2.heap.size=rb from dH.out.symm]at HX eD ⊢;have C3:=Qh (HC.out rb w3 aC eD HX.out);clear HV HC ba;go_wp2_with fail
 refine C3.out.mono ?_;rintro ee w4⟨m,k,rfl,hv,hm,hk,hB,hK⟩;have hB4:=aC.trans (hK.below (λb hb=>by obtain rfl:=Qm hb;exact eD) aC.size);have p1:=Qc 1 hB;clear C3 hB hK;try dsimp only at hv
 by_cases hf:f=0;rotate_left
 ·have HF:Hid (Za1 l=(0,f)):=by show _=_;rw[dP.out,if_pos hf]
  have g1:(f==0)=false:=by simp[hf]
  have g2:(f != 0)=true:=by simp[hf]
  clear hf;go_wp2;go_ret2;exact ZeL HF.out hB4
 subst hf;obtain⟨rfl,rfl⟩:=hv rfl;by_cases he:k=l.length
 ·have HF:Hid (Za1 l=(m,0)):=by show _=_;rw[dP.out,if_neg (by simp),if_neg (by simp[he])]
  have g0:¬(k:Int)<(l.length:Int):=by omega
  have g1:¬k<l.length:=by omega
  have g2:decide (k<l.length)=false:=JQ g1;clear he;go_wp2;go_ret2;exact ZeL HF.out hB4
 ·have HF:Hid (Za1 l=(0,1)):=by show _=_;rw[dP.out,if_neg (by simp),if_pos he]
  have g0:(k:Int)<(l.length:Int):=by omega
  have g1:k<l.length:=by omega
  have g2:decide (k<l.length)=true:=JR g1;clear he;go_wp2;go_ret2;exact ZeL HF.out hB4
theorem val_bad0 {n f:Int}(h:Za1 l=(n,f))(hf:f≠0):n=0:=by
 unfold Za1 at h;split at h
 ·split at h
  ·split at h
   ·simp only[QS]at h;exact h.1.symm
   ·split at h
    ·simp only[QS]at h;exact h.1.symm
    ·simp only[QS]at h;exact absurd h.2.symm hf
  ·simp only[QS]at h;exact h.1.symm
 ·simp only[QS]at h;exact h.1.symm
theorem ZjZ (vT:Value)(T:List DMacro)(cE:List Nat)(v:Value)(l:List Tok)(fp:List Nat)(w:World)(HT:(Zaa sMacro).R w [vT] T cE)(H:(Zaa sTok).R w [v] l fp):
  Calls Tryz.prog 6 #[vT,v] w (Zhh T l w):=by
 have HC:=Qh (Zh7 vT T cE v l fp w HT H);rcases hq:Za4 T l with⟨x,ok⟩;unfold Zlm at HC;rw[hq]at HC;try dsimp only at HC
 have HQ:=Qh hq;clear hq H;go_enter Tryz.func6,Tryz.ntmps6;go_wp2_with fail
 refine HC.out.mono ?_;rintro e w1⟨v1,f1,rfl,bR,-,cq⟩;clear HC;cases ok
 ·have HF:=Qh (Zel HQ.out);go_wp2;go_ret2;exact ZeA HF.out cq
 have HE:=Qh (ZoD vT T cE v1 x f1 w1 ((Zaa sMacro).below HT cq) bR);rcases sk:Zbv T x with⟨y,c⟩;unfold ZlE at HE;rw[sk]at HE;try dsimp only at HE
 have HX:=Qh sk;clear sk bR HT;go_wp2_with fail
 refine HE.out.mono ?_;rintro e w2⟨v2,f2,rfl,bN,-,aF⟩;have aY:=cq.trans (aF.mono cq.size);clear HE;by_cases dm:c=0;rotate_left
 ·have HF:=Qh (Zem HQ.out HX.out dm);have e2:(c != 0)=true:=by simp[dm]
  clear dm;go_wp2;go_ret2;exact ZeA HF.out aY
 subst dm;rcases hp:Za1 y with⟨n,f⟩;have HF:=Qh (Zen HQ.out HX.out hp);have HN:=Qh (val_bad0 hp);have HP:=Qh (Zn5 v2 y f2 w2 bN);unfold ZkO at HP;rw[hp]at HP;try dsimp only at HP
 clear hp bN;go_wp2_with fail
 refine HP.out.mono ?_;rintro e w3⟨rfl,aC⟩;have aQ:=aY.trans (aC.mono aY.size);by_cases hf:f=0;rotate_left
 ·have h0:=HN.out hf;have e2:(f != 0)=true:=by simp[hf]
  have HG:Hid (Zb2 T l=(false,false)):=by show _=_;rw[HF.out,h0];simp[hf]
  clear hf HN h0;go_wp2;go_ret2;exact ZeA HG.out aQ
 subst hf;clear HN;go_wp2;go_ret2;exact ZeA (by rw[HF.out];by_cases h1:n=0 <;> simp[h1]) aQ
theorem Zn6 {s:ByteArray}(h:s.size<=1000000):s.size<=maxLen:=by unfold maxLen;omega
theorem line_ab (w:World):Calls Tryz.prog 22 #[.string ⟨#[97,32,98]⟩] w λe w'=>e=.returned (.bool true)/\w=w':=by
 have:=Zd2 ⟨#[97,32,98]⟩ w (Zn6 (by decide))
 rwa [show Za8 ⟨#[97,32,98]⟩=true from by decide]at this
theorem line_nl (w:World):Calls Tryz.prog 22 #[.string ⟨#[10]⟩] w λe w'=>e=.returned (.bool false)/\w=w':=by
 have:=Zd2 ⟨#[10]⟩ w (Zn6 (by decide))
 rwa [show Za8 ⟨#[10]⟩=false from by decide]at this
theorem alive (w:World):Calls Tryz.prog 8 #[] w λe w'=>e=.returned (.bool true)/\w=w':=by
 go_enter Tryz.func8,Tryz.ntmps8;go_wp2_with fail
 refine(line_ab _).mono ?_;rintro e w'⟨rfl,rfl⟩;go_wp2_with fail
 refine(line_nl _).mono ?_;rintro e w'⟨rfl,rfl⟩;go_wp2;go_ret;exact⟨rfl,rfl⟩
end Go.Proofs.YtipfpppcbmpjiaaGreat
