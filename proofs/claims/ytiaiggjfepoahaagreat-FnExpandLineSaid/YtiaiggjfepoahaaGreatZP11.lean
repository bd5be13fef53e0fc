/- Texts that the proof of P stands on, in one file. -/
import Derived.Test.YtiaiggjfepoahaaGreatZP10
import Derived.Deep.RegionLaw
import Derived.Lib.SliceRun
set_option linter.unusedVariables false
set_option maxHeartbeats 16000000
set_option maxRecDepth 100000
set_option linter.unusedSimpArgs false
/- Tables are drawn. -/
namespace Go.Proofs.YtiaiggjfepoahaaGreat
open Go.RowKit
theorem Zhk {m:DMacro} (h:okMac m):MacSm m:=⟨by have:=h.2.1;omega,by have:=h.2.2.1;omega,λ k hk=>by have:=h.2.2.2 _ (List.getElem_mem hk);omega⟩
theorem defM_mem {l:List DMacro} {m:DMacro}:∀ x∈(defM l m).1,x∈l\/x=m:=by
 intro x hx
 unfold defM at hx
 split at hx
 ·split at hx
  ·split at hx
   ·exact .inl hx
   ·split at hx
    ·exact .inl hx
    ·unfold putAt at hx
     simp only [List.mem_append,List.mem_singleton] at hx
     rcases hx with(h | h) | h
     ·exact .inl (List.mem_of_mem_take h)
     ·exact .inr h
     ·exact .inl (List.mem_of_mem_drop h)
  ·exact .inl hx
 ·simp at hx
theorem defM_len (l:List DMacro) (m:DMacro):(defM l m).1.length<=l.length+1:=by
 unfold defM
 split
 ·split
  ·split
   ·simp
   ·split
    ·simp
    ·unfold putAt
     simp only [List.length_append,List.length_take,List.length_drop,List.length_singleton]
     omega
  ·simp
 ·simp
def DrawnTab (rb p n:Nat) (w:World) (e:Ending) (w':World):Prop:=
 ∃ (v:Value) (l:List DMacro) (fp:List Nat) (q:Nat),e=.returned v/\(Zaa sMacro).R w' [v] l fp/\(∀ b∈fp,w.heap.size<=b)/\(∀ m∈l,okMac m)/\l.length<=9/\q<=p+n/\Rd w' rb q/\Kept [rb] w w'
theorem Ze6 {α:Type} {S:Shape α} {P:Program} {t e:TypeId} {z:Value} {bytes:Nat} (ti:TI P t e z S.m bytes) (hzs:z.cells.size=S.m) (h0:0<S.m) (w:World) {L X:List (Elem α)} {ops:Array Oper} {rest:List Oper} {o:Oper} {a:Act} {Q:Exit->Act->World->Prop}
  (hg:o.guard=none) (s y:Operand) (ho:o.op=.call { callee:=.builtin .append,args:=#[s,y],argTypes:=#[t,t] })
  (base:Nat) (v:Value) (hs:a.eval s=v) (hown:RowG S base e v L w) (g off m c:Nat) (hy:a.eval y=.slice (some ⟨g,off,none⟩) m c) (hm:X.length=m)
  (hX:∀ x∈X,x.cells.length=S.m/\S.R w x.cells x.d x.fp/\∀ b∈x.fp,v.ownBlock≠some b) (h1:∀ x∈X,∀ u∈x.cells,u.oneCell'=true) (hcell:∀ j u,(X.flatMap (·.cells))[j]?=some u->w.cell? ⟨g,off+j,none⟩=some u)
  (h63:L.length+m<=maxLen) (hbytes:(L.length+m) * bytes<=140737488355328) (hbase:base<=w.heap.size)
  (h:∀ v' fp w',(Zaa S).R w' [v'] ((L++X).map (·.d)) fp->(∀ b∈fp,base<=b\/∃ x∈L++X,b∈x.fp)->w.grownBy w' v.ownBlock->wpList P ops Q rest (a.put o.dst v') w'):wpList P ops Q (o::rest) a w:=by
 obtain⟨i,hi,hz0,hz1,hz2⟩:=info_parts ti.2
 subst hm
 refine wpList_append_own _ hg s y t ho base e i z S.m bytes ti.1 hi hz0 hz1 hz2 hzs h0 v L.length _ hs hown.row ⟨g,off,none⟩ X.length c (X.flatMap (·.cells)) hy (ZaB (f:=Elem.cells) λ x hx=>(hX x hx).1) ?_ ?_ h63 hbytes hbase λ v' w' r1 r2 _=>?_
 ·intro j u hj
  rw [Addr.add_lit]
  exact hcell j u hj
 ·intro u hu
  obtain⟨x,hx,hu⟩:=List.mem_flatMap.1 hu
  exact h1 x hx u hu
 ·have hall:∀ x∈L++X,x.cells.length=S.m/\S.R w' x.cells x.d x.fp:=λ x hx=>by
   have hb:x.cells.length=S.m/\S.R w x.cells x.d x.fp/\∀ b∈x.fp,v.ownBlock≠some b:=by
    rcases Qa hx with hx | hx
    ·exact⟨hown.len x hx,hown.el x hx,hown.ap x hx⟩
    ·exact hX x hx
   exact⟨hb.1,S.frame (λ b hb'=>r2.block b (S.lt hb.2.1 b hb') λ e=>hb.2.2 b hb' e.symm) hb.2.1⟩
  have hrow:w'.ownsRow base e S.m v' (L++X).length ((L++X).flatMap (·.cells)):=by
   rw [List.length_append,List.flatMap_append];exact r1
  obtain⟨fp,q1,q2,_⟩:=ZaM hrow hall
  refine h v' fp w' q1 (λ b hb=>?_) r2
  rcases q2 b hb with h0 | h0
  ·exact .inl (hrow.lt b h0).1
  ·obtain⟨x,hx,hb'⟩:=List.mem_flatMap.1 h0
   exact .inr ⟨x,hx,hb'⟩
theorem l20Table (rb p:Nat) (n:Int) (w:World) (H:Rd w rb p) (hp:p<=1000) (hn:n<=100) (hn0:0<=n) :
  Calls Tryz.prog 25 #[.pointer (some ⟨rb,0,none⟩),.int .i64 n] w (DrawnTab rb p 200 w):=by
 have hrb:=H.lt
 have hlit:=Qh (RowG.lit0 sMacro 70 w)
 have hba:=Zab w (.cells #[] 70)
 have HR0:=Qh (H.grow hba)
 have HK0:=Qh (Kept.of_below (fp:=[rb]) hba)
 have hs0:=hba.size
 go_enter Tryz.func25,Tryz.ntmps25
 go_wp2_with fail
 refine (pick rb p _ _ HR0.out (by omega) (by omega) (by omega)).mono ?_
 rintro e w1 ⟨r,rfl,hr0,hr1,hR1,hK1⟩
 have HE1:=Qh (hlit.out.kept hK1 (λ g hg hx=>by have h1:=hlit.out.mine g hg;have h2:g=rb:=(by simpa using hx);omega) (by simp))
 have HK01:=Qh (HK0.out.trans hK1)
 obtain⟨c,rfl⟩:∃ c:Nat,r=c:=⟨r.toNat,by omega⟩
 clear hlit hba HR0 HK0 hK1
 go_wp2
 go_loopw [5,6] (λ o i wr=>∃ (k q top:Nat) (L:List (Elem DMacro)),k<=c/\i=.int .i64 k/\q<=p+1+10 * (c-k)/\w.heap.size<=top/\top<=wr.heap.size/\Hid (RowG sMacro top 70 o L wr)/\L.length+k<=c/\Hid (∀ x∈L,okMac x.d/\∀ b∈x.fp,w.heap.size<=b)/\Rd wr rb q/\Kept [rb] w wr) (λ _ i _=>(intOf i).toNat)
 case atStart=>exact⟨c,p+1,w.heap.size,[],by omega,rfl,by omega,by omega,by have:=HK01.out.size;omega,HE1,by simp,(show ∀ x∈([]:List (Elem DMacro)),okMac x.d/\∀ b∈x.fp,w.heap.size<=b from by simp),hR1,HK01.out⟩
 case round =>
  clear HE1 HK01 hR1
  obtain⟨k,q,top,L,hk,rfl,hq,ht1,ht2,HE,hLk,HO,hR,hK⟩:=hrel
  by_cases hk0:0<k
  ·have hk0':(0:Int)<(k:Int):=by omega
   go_wp2_with fail
   refine (ZkM rb q _ _ hR (by omega) (by omega) (by omega)).mono ?_
   rintro e w2 ⟨nm,f,a2,a3,n2,c2,n3,c3,ps,bd,fp,q2,rfl,hT,hok,hlo,hq2,hR2,hK2⟩
   have HE2:=Qh (HE.out.kept hK2 (λ g hg hx=>by have h1:=HE.out.mine g hg;have h2:g=rb:=(by simpa using hx);omega) (λ x hx b hb hy=>by have h1:=(HO.out x hx).2 b hb;have h2:b=rb:=(by simpa using hy);omega))
   have hKK:=hK.trans hK2
   obtain⟨fpl,hRL,-,-⟩:=HE2.out.read
   have hsz:=hKK.size
   have HOKM:=Qh hok
   have HLO:=Qh hlo
   go_wp2_with fail
   refine (ZlE _ (L.map (·.d)) fpl [.string nm,.bool f,.slice a2 n2 c2,.slice a3 n3 c3] ⟨nm,f,ps,bd⟩ fp _ (by rw [List.length_map];omega) (λ k hk=>by rw [List.getElem_map];exact Zhk (HO.out _ (List.getElem_mem _)).1) (Zhk hok) hRL hT).mono ?_
   rintro e w3 ⟨v3,L3,top3,rfl,hG3,hD3,ht3,ht3',hlo3,hb3⟩
   have HE3:=Qh hG3
   have hl3:L3.length+(k-1)<=c:=by
    have h1:=defM_len (L.map (·.d)) ⟨nm,f,ps,bd⟩
    rw [← hD3,List.length_map,List.length_map] at h1
    omega
   have HO3:Hid (∀ x∈L3,okMac x.d/\∀ b∈x.fp,w.heap.size<=b):=λ x hx=>by
    refine ⟨?_,λ b hb=>by have:=hlo3 x hx b hb;omega⟩
    have hm:x.d∈(defM (L.map (·.d)) ⟨nm,f,ps,bd⟩).1:=by rw [← hD3];exact List.mem_map_of_mem hx
    rcases defM_mem _ hm with h | h
    ·obtain⟨y,hy,e⟩:=List.mem_map.1 h
     rw [← e]
     exact(HO.out y hy).1
    ·rw [h];exact HOKM.out
   have HR3:=Qh (hR2.grow hb3)
   have HK3:=Qh (hKK.trans (Kept.of_below (fp:=[rb]) hb3))
   clear hT hok hlo hK2 hRL HE hD3 hlo3 hb3 hG3 hR2 hKK hK hR HO HE2 HOKM HLO
   obtain⟨av,cv,rfl,-⟩:=HE3.out.val
   go_wp2
   go_roundw
   case rel=>exact⟨k-1,q2,top3,L3,by omega,by first | rfl | (congr 1;omega) | go_num,by omega,by omega,ht3',HE3,by omega,HO3,HR3.out,HK3.out⟩
   case measure=>simp [intOf];omega
  ·have hk0':¬ (0:Int)<(k:Int):=by omega
   go_wp2_with fail
   refine (odd rb q n _ hR (by omega) (by omega) hn0).mono ?_
   rintro e w2 ⟨b,q2,rfl,hq1,hq2,hR2,hK2⟩
   have HE2:=Qh (HE.out.kept hK2 (λ g hg hx=>by have h1:=HE.out.mine g hg;have h2:g=rb:=(by simpa using hx);omega) (λ x hx b hb hy=>by have h1:=(HO.out x hx).2 b hb;have h2:b=rb:=(by simpa using hy);omega))
   have HKK:=Qh (hK.trans hK2)
   have HOK:Hid (∀ m∈L.map (·.d),okMac m):=λ m hm=>by
    obtain⟨y,hy,e⟩:=List.mem_map.1 hm
    rw [← e]
    exact(HO.out y hy).1
   have hs2:=hK2.size
   have hl7:L.length<=7:=by omega
   clear HE hK hK2 hR
   cases b
   ·obtain⟨fpl,hRL,hin,-⟩:=HE2.out.read
    have HRL:=Qh hRL
    have HIN:Hid (∀ b∈fpl,w.heap.size<=b):=λ b hb=>by
     rcases hin b hb with h | ⟨x,hx,h⟩
     ·have:=HE2.out.mine b h;omega
     ·exact(HO.out x hx).2 b h
    clear hRL hin
    go_wp2
    go_ret
    exact⟨_,_,fpl,q2,rfl,HRL.out,HIN.out,HOK.out,by rw [List.length_map];omega,by omega,hR2,HKK.out⟩
   ·go_wp2_with fail
    refine (pick rb q2 _ _ hR2 (by omega) (by omega) (by omega)).mono ?_
    rintro e w3 ⟨r3,rfl,h30,h31,hR3,hK3⟩
    have HE3:=Qh (HE2.out.kept hK3 (λ g hg hx=>by have h1:=HE2.out.mine g hg;have h2:g=rb:=(by simpa using hx);omega) (λ x hx b hb hy=>by have h1:=(HO.out x hx).2 b hb;have h2:b=rb:=(by simpa using hy);omega))
    have HK3:=Qh (HKK.out.trans hK3)
    have hs3:=hK3.size
    clear HE2 HKK hR2 hK3
    by_cases h3:r3=0
    ·have h3':(r3==0)=true:=by simp [h3]
     clear h3
     go_wp2_with fail
     refine (ZkM rb (q2+1) _ _ hR3 (by omega) (by omega) (by omega)).mono ?_
     rintro e w4 ⟨nm,f,a2,a3,n2,c2,n3,c3,ps,bd,fp,q4,rfl,hT,hok,hlo,hq4,hR4,hK4⟩
     have HE4:=Qh (HE3.out.kept hK4 (λ g hg hx=>by have h1:=HE3.out.mine g hg;have h2:g=rb:=(by simpa using hx);omega) (λ x hx b hb hy=>by have h1:=(HO.out x hx).2 b hb;have h2:b=rb:=(by simpa using hy);omega))
     have HK4:=Qh (HK3.out.trans hK4)
     have HAP:=Qh (λ g hg=>(HE3.out.row.lt g hg).2)
     have hs4:=hK4.size
     have HT:=Qh hT
     have HOM:=Qh hok
     have HLO:=Qh hlo
     have HR4:=Qh hR4
     obtain⟨av,cv,rfl,-⟩:=HE4.out.val
     have hba:=Zab w4 (.cells #[.string nm,.bool f,.slice a2 n2 c2,.slice a3 n3 c3] 70)
     have HBA:=Qh hba
     clear hT hok hlo HE3 HK3 hR3 hK4 hR4 hba
     go_wp2_with (at_builtin;refine Ze6 Zbt rfl (by decide) _ (X:=[(⟨[.string nm,.bool f,.slice a2 n2 c2,.slice a3 n3 c3],⟨nm,f,ps,bd⟩,fp⟩:Elem DMacro)]) rfl (.tmp 36) (.tmp 39) rfl top (.slice av L.length cv) rfl (HE4.out.below HBA.out) w4.heap.size 0 1 1 rfl rfl (λ x hx=>by obtain rfl:=Qm hx;exact⟨rfl,sMacro.below HT.out HBA.out,λ b hb e=>by have h1:=HAP.out b e;have h2:=HLO.out b hb;omega⟩) (λ x hx=>by obtain rfl:=Qm hx;simp [Value.oneCell']) (λ j u hj=>by rw [Nat.zero_add,World.cell?_alloc_at _ _ _ _ rfl];simpa using hj) (by unfold maxLen;omega) (by omega) (by have:=HBA.out.size;omega) ?_;intro v5 fp5 w5 hR5 hin5 hg5;have HIN5:=Qh hin5;have HR5:=Qh hR5;have HRF:=Qh (ZcA (HR4.out.grow HBA.out) hg5 (by omega) (λ b hb=>HE4.out.mine b hb));have HKF:=Qh (ZbP (HK4.out.trans (Kept.of_below HBA.out)) hg5 (λ b hb=>by have:=HE4.out.mine b hb;omega));clear hR5 hg5 hin5)
     go_wp2
     go_ret
     exact⟨_,_,fp5,q4,rfl,HR5.out,λ b hb=>by
      rcases HIN5.out b hb with h | ⟨x,hx,h⟩
      ·omega
      ·rcases Qa hx with hx | hx
       ·exact(HO.out x hx).2 b h
       ·obtain rfl:=Qm hx
        have:=HLO.out b h
        omega,λ m hm=>by
      rw [List.map_append,List.mem_append] at hm
      rcases hm with h | h
      ·exact HOK.out m h
      ·obtain rfl:=Qm h;exact HOM.out,by rw [List.length_map,List.length_append];simp;omega,by omega,HRF.out,HKF.out⟩
    ·have h3':(r3==0)=false:=by simp [h3]
     clear h3
     have hAA:∀ W:World,sMacro.R W [.string ⟨#[65]⟩,.bool false,.slice none 0 0,.slice none 0 0] ⟨⟨#[65]⟩,false,[],[]⟩ []:=λ W=>⟨_,_,[],[],rfl,(by show okStr _;unfold okStr;decide),Zan sStr W none 0 (by simp),Zan sTok W none 0 (by simp),rfl⟩
     obtain⟨av,cv,rfl,-⟩:=HE3.out.val
     have hba:=Zab w3 (.cells #[.string ⟨#[65]⟩,.bool false,.slice none 0 0,.slice none 0 0,.string ⟨#[65]⟩,.bool false,.slice none 0 0,.slice none 0 0] 70)
     have HBA:=Qh hba
     have HAA:=Qh hAA
     have HR3:=Qh hR3
     clear hba hAA hR3
     go_wp2_with (at_builtin;refine Ze6 Zbt rfl (by decide) _ (X:=[(⟨[.string ⟨#[65]⟩,.bool false,.slice none 0 0,.slice none 0 0],⟨⟨#[65]⟩,false,[],[]⟩,[]⟩:Elem DMacro),(⟨[.string ⟨#[65]⟩,.bool false,.slice none 0 0,.slice none 0 0],⟨⟨#[65]⟩,false,[],[]⟩,[]⟩:Elem DMacro)]) rfl (.tmp 29) (.tmp 32) rfl top (.slice av L.length cv) rfl (HE3.out.below HBA.out) w3.heap.size 0 2 2 rfl rfl (λ x hx=>by have e:x=(⟨[.string ⟨#[65]⟩,.bool false,.slice none 0 0,.slice none 0 0],⟨⟨#[65]⟩,false,[],[]⟩,[]⟩:Elem DMacro):=(by simpa using hx);subst e;exact⟨rfl,HAA.out _,by simp⟩) (λ x hx=>by have e:x=(⟨[.string ⟨#[65]⟩,.bool false,.slice none 0 0,.slice none 0 0],⟨⟨#[65]⟩,false,[],[]⟩,[]⟩:Elem DMacro):=(by simpa using hx);subst e;simp [Value.oneCell']) (λ j u hj=>by rw [Nat.zero_add,World.cell?_alloc_at _ _ _ _ rfl];simpa using hj) (by unfold maxLen;omega) (by omega) (by have:=HBA.out.size;omega) ?_;intro v5 fp5 w5 hR5 hin5 hg5;have HIN5:=Qh hin5;have HR5:=Qh hR5;have HRF:=Qh (ZcA (HR3.out.grow HBA.out) hg5 (by omega) (λ b hb=>HE3.out.mine b hb));have HKF:=Qh (ZbP (HK3.out.trans (Kept.of_below HBA.out)) hg5 (λ b hb=>by have:=HE3.out.mine b hb;omega));clear hR5 hg5 hin5)
     go_wp2
     go_ret
     exact⟨_,_,fp5,q2+1,rfl,HR5.out,λ b hb=>by
      rcases HIN5.out b hb with h | ⟨x,hx,h⟩
      ·omega
      ·rcases Qa hx with hx | hx
       ·exact(HO.out x hx).2 b h
       ·have e:x=(⟨[.string ⟨#[65]⟩,.bool false,.slice none 0 0,.slice none 0 0],⟨⟨#[65]⟩,false,[],[]⟩,[]⟩:Elem DMacro):=(by simpa using hx)
        subst e
        simp at h,λ m hm=>by
      rw [List.map_append,List.mem_append] at hm
      rcases hm with h | h
      ·exact HOK.out m h
      ·have e:m=⟨⟨#[65]⟩,false,[],[]⟩:=(by simpa using h)
       subst e
       exact⟨by show (1:Nat)<=_;omega,by show (0:Nat)<=_;omega,by show (0:Nat)<=_;omega,by simp⟩,by rw [List.length_map,List.length_append];simp;omega,by omega,HRF.out,HKF.out⟩
theorem Zbm (b:Nat):∀ (vs:List Value) (w:World) (o:Nat),Zeb w b o vs=w.setCells b o vs
 | [],_,_=>rfl
 | v::vs,w,o=>Zbm b vs _ (o+1)
theorem ZnC {base e g n cap size:Nat} {xs:List Value} {w:World} (h:w.ownsRow base e size (.slice (some ⟨g,0,none⟩) n cap) n xs) (hn:n+1<=cap) :
  ∃ Z,Z.length=size/\w.ownsRow base e size (.slice (some ⟨g,0,none⟩) (n+1) cap) (n+1) (xs++Z):=by
 rcases h.2 with⟨h',_⟩ | ⟨g',cap',cur,h',q2,q3,q4,q5,q6,q7⟩
 ·cases h'
 ·simp only [Value.slice.injEq,Qi,Addr.mk.injEq,and_true,true_and] at h'
  obtain⟨rfl,rfl⟩:=h'
  have hsz:(n+1) * size<=cap * size:=Nat.mul_le_mul_right _ hn
  have hsn:(n+1) * size=n * size+size:=Nat.succ_mul _ _
  refine ⟨(cur.toList.drop (n * size)).take size,?_,?_,.inr ⟨g,cap,cur,rfl,q2,q3,hn,q5,q6,?_⟩⟩
  ·rw [List.length_take,List.length_drop,Array.length_toList,q6];omega
  ·rw [List.length_append,h.1,List.length_take,List.length_drop,Array.length_toList,q6];omega
  ·rw [hsn,List.take_add,q7]
theorem ZlH {A D X Z:List Value} (hz:Z.length=X.length) (hy:(A++D++Z).length=A.length+X.length+D.length):Zbo (Zbo (A++D++Z) (A.length+X.length) D) A.length X=A++(X++D):=by
 have h1:A++D++Z=A++((D++Z).take X.length++(D++Z).drop X.length):=by rw [List.take_append_drop,List.append_assoc]
 have ht:((D++Z).take X.length).length=X.length:=by rw [List.length_take,List.length_append];omega
 have hd:((D++Z).drop X.length).length=D.length:=by rw [List.length_drop,List.length_append];omega
 have h2:A++D++Z=(A++(D++Z).take X.length)++((D++Z).drop X.length++[]):=by rw [h1,List.append_nil,List.append_assoc]
 have h3:(A++(D++Z).take X.length).length=A.length+X.length:=by rw [List.length_append,ht]
 rw [h2,← h3,Zbz _ _ _ _ hd,List.append_nil,List.append_assoc]
 exact Zbz X A _ D ht
theorem ZlI {A X D Z1 Z2:List Value} (h1:Z1.length=X.length) (h2:Z2.length=D.length):Zbo (Zbo (A++(Z1++Z2)) A.length X) (A.length+X.length) D=A++(X++D):=by
 rw [Zbz X A Z1 Z2 h1,← List.append_assoc,← List.length_append]
 have:=Zbz D (A++X) Z2 [] h2
 rw [List.append_nil,List.append_nil] at this
 rw [this,List.append_assoc]
/-! ### As the exact law calls them -/
theorem ZiQ (v:Value) (l:List UInt8) (fp:List Nat) (w:World) (H:(Zaa sByte).R w [v] l fp) :
  Calls Tryz.prog 6 #[v] w λ e w'=>∃ (v':Value) (t:List DMacro) (fp':List Nat) (s:ByteArray),e=.returned (.tuple #[v',.string s])/\(Zaa sMacro).R w' [v'] t fp'/\(∀ m∈t,okMac m)/\t.length<=9/\s.size<=1000/\Below w.heap.size w w':=by
 go_enter Tryz.func6,Tryz.ntmps6
 go_wp2_with fail
 refine (l20Open _ l fp _ H).mono ?_
 rintro e w1 ⟨rb,rfl,hrb,hR,hB⟩
 go_wp2_with fail
 refine (l20Table rb 0 _ _ hR (by omega) (by omega) (by omega)).mono ?_
 rintro e w4 ⟨v',t,fp',q,rfl,hT,hlo,hok,hl,hq,hR4,hK⟩
 have HT:=Qh hT
 have HF:=Qh (Zfn hB hK hrb hB.size)
 have HOK:=Qh hok
 have HLO:=Qh hlo
 have hlt:=hR.lt
 clear hT hK hok hlo
 go_wp2_with fail
 refine (l20Line rb q _ _ hR4 (by omega) (by omega) (by omega)).mono ?_
 rintro e w5 ⟨s,q5,rfl,hs,-,-,hK5⟩
 have hsz:=HF.out.size
 have hnr:Hid (rb∉fp'):=λ hx=>by have:=HLO.out rb hx;omega
 have HT5:=Qh ((Zaa sMacro).kept HT.out (λ b hb hx=>hnr.out (by have e:b=rb:=(by simpa using hx);rw [← e];exact hb)) hK5)
 have HF5:=Qh (Zfn HF.out hK5 hrb HF.out.size)
 clear hK5 HT HF hR4
 go_wp2
 go_ret2
 exact⟨v',t,fp',s,rfl,HT5.out,HOK.out,hl,hs,HF5.out⟩
end Go.Proofs.YtiaiggjfepoahaaGreat
