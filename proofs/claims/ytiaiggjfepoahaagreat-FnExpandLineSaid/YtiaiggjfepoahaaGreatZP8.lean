/- Texts that the proof of P stands on, in one file. -/
import Derived.Lib.AppendStr
import Derived.Laws.IdiomStrings
import Derived.Test.YtiaiggjfepoahaaGreatZP7
import Derived.Deep.Cut
set_option linter.unusedVariables false
set_option maxHeartbeats 16000000
set_option maxRecDepth 100000
set_option linter.unusedSimpArgs false
/- Rows of bytes of the call's own. -/
namespace Go.Proofs.YtiaiggjfepoahaaGreat
open Go.RowKit
theorem ti_bytes:TI Tryz.prog 22 5 (.int .u8 0) 1 1:=⟨by kernel_rfl,by kernel_rfl⟩
def Bytes (base:Nat) (v:Value) (s:ByteArray) (w:World):Prop:=w.ownsRow base 5 1 v s.size (Lib.strCells s)
theorem Zh1 (a b:ByteArray):Lib.strCells (a++b)=Lib.strCells a++Lib.strCells b:=by
 simp [Lib.strCells,ByteArray.data_append]
theorem Bytes.none (base:Nat) (w:World):Bytes base (.slice Option.none 0 0) ⟨#[]⟩ w:=World.ownsRow_nil _ _ _ _
theorem Zdr {w0:World} {ops:Array Oper} {rest:List Oper} {o:Oper} {a:Act} {Q:Exit->Act->World->Prop} (hg:o.guard=Option.none) (s y:Operand)
  (ho:o.op=.call { callee:=.builtin .append,args:=#[s,y],argTypes:=#[22,22] })
  (base:Nat) (v:Value) (x b:ByteArray) (c:Int) (hs:a.eval s=v) (hown:Bytes base v x w0) (hy:a.eval y=.slice (some ⟨w0.heap.size,0,Option.none⟩) 1 1) (hb:Lib.strCells b=[.int .u8 c]) (h63:x.size<=1000000) (hbase:base<=w0.heap.size)
  (h:∀ v' w',Bytes base v' (x++b) w'->w0.grownBy w' v.ownBlock->wpList Tryz.prog ops Q rest (a.put o.dst v') w'):wpList Tryz.prog ops Q (o::rest) a (w0.alloc (.cells #[.int .u8 c] 5)):=by
 have hb1:b.size=1:=by have:=congrArg List.length hb;rwa [Lib.strCells_length] at this
 refine Zbq ti_bytes rfl w0 (.int .u8 c) rfl hg s y ho base v x.size (Lib.strCells x) hs hown hy (by unfold maxLen;omega) (by omega) hbase λ v' w' h1 h2=>h v' w' ?_ h2
 unfold Bytes
 rw [Zh1,ByteArray.size_append,hb,hb1]
 exact h1
theorem Zlz (s:ByteArray) (k:Nat) (h:k<s.size):Lib.strCells (s.extract k (k+1))=[.int .u8 (s[k].toNat:Int)]:=by
 have e:s.data.toList.length=s.size:=Array.length_toList
 unfold Lib.strCells
 rw [ByteArray.data_extract,Array.toList_extract,List.extract_eq_take_drop,List.drop_eq_getElem_cons (by omega),show k+1-k=1 from by omega]
 simp [ByteArray.getElem_eq_getElem_data]
theorem ZiG {base:Nat} {v:Value} {s:ByteArray} {w:World} (h:Bytes base v s w):(convert 22 9 v).run Tryz.prog w=.ok (.string s) w:=by
 rcases h.2 with⟨rfl,h0⟩ | ⟨g,cap,cur,rfl,hb,hg,hnc,hcm,hcs,htake⟩
 ·rw [run_convert_bytes_string _ _ _ 5 _ 0 0 Tryz.underlying22 Tryz.underlying5 Tryz.underlying9]
  have:s=⟨#[]⟩:=by apply Go.WideShapes.bytes_inj;rw [← List.length_eq_zero_iff,Array.length_toList];exact h0
  subst this
  simp [Conv.bytesToString,loadCells]
  rfl
 ·have hl:s.data.toList.length=s.size:=Array.length_toList
  have:=run_convert_bytes_back (P:=Tryz.prog) w 22 9 5 ⟨g,0,Option.none⟩ cap s.data.toList Tryz.underlying22 Tryz.underlying5 Tryz.underlying9 (λ j hj=>by
   have h1:=h.cellAt j (by omega)
   have h2:(Lib.strCells s)[j]?=some (.int .u8 (s.data.toList[j].toNat:Int)):=by simp [Lib.strCells,List.getElem?_eq_getElem hj]
   rw [Addr.add_lit,Nat.zero_add]
   exact h1.trans h2)
  rw [hl] at this
  simpa using this
def Drawn (rb p n M:Nat) (w:World) (e:Ending) (w':World):Prop:=∃ (s:ByteArray) (q:Nat),e=.returned (.string s)/\s.size<=M/\q<=p+n/\Rd w' rb q/\Kept [rb] w w'
def Zjr:List ByteArray:=[⟨#[10]⟩,⟨#[127]⟩,⟨#[64]⟩,⟨#[34,115]⟩,⟨#[97,98,99,100,101,102,103,104,105,106,107,108,109]⟩,⟨#[92]⟩]
theorem ZiH:∀ s∈Zjr,s.size<=13:=by decide
theorem Y8A1 {g:Prop} (h:g:=by
 obtain⟨⟨p1,hp1,hR1⟩,hK1⟩:=hJ
 simp only [fill,Qp,List.map_cons,List.map_nil] at hK ⊢
 go_wp2_with (go_at_call 48;refine (pick rb p1 _ _ hR1 (by omega) (by omega) (by omega)).mono ?_;rintro e w2 ⟨rr,rfl,hr0,hr1,hRq,hkq⟩)
 exact hK _ _ (At.mk rfl ⟨rr,rfl,hr0,by omega⟩) hkq ⟨⟨p1+1,by omega,hRq⟩,hK1.trans hkq⟩):g:=h
theorem Y8A2 {g:Prop} (h:g:=by
 replace hm:m<14:=hm
 obtain⟨x0,x1,x2,x3,x4,x5,x6,x7,x8,x9,x10,x11,x12,x13,rfl⟩:=len14 hl
 clear hlast
 clear hf ho
 simp only [fill,Qp,List.map_cons,List.map_nil] at hK ⊢
 go_wp2
 exact hK _ _ (At.mk rfl rfl) (Kept.refl _ _) hJ.same):g:=h
theorem l20Line (rb p:Nat) (n:Int) (w:World) (H:Rd w rb p) (hp:p<=100000) (hn:n<=100) (hn0:0<=n) :
  Calls Tryz.prog 26 #[.pointer (some ⟨rb,0,none⟩),.int .i64 n] w (Drawn rb p 110 1000 w):=by
 go_enter Tryz.func26,Tryz.ntmps26
 go_wp2_with (go_at_call 48;refine (pick rb p _ _ H (by omega) (by omega) (by omega)).mono ?_;rintro e w2 ⟨r,rfl,h0,h1,hR2,hK⟩)
 go_loopw [5,6] (λ o i wr=>∃ (k q:Nat) (out:ByteArray),k<=6/\q+14 * k<=p+100/\out.size+20 * k<=500/\o=.string out/\i=.int .i64 k/\Rd wr rb q/\Kept [rb] w wr) (λ _ i _=>(intOf i).toNat)
 case atStart=>exact⟨r.toNat,p+1,_,by omega,by omega,by show 0+_<=_;omega,rfl,by go_num,hR2,hK⟩
 case round =>
  obtain⟨k,q,out,hk,hq,ho,rfl,rfl,hR,hB⟩:=hrel
  clear hR2 hK
  by_cases hlt:0<k
  ·go_wp2
   refine Zh0 (P:=Tryz.prog) (by kernel_rfl) (by kernel_rfl) (Kept [rb]) [pVal (.string out),pLits [rb] 20 6,pVal (.pointer (some ⟨rb,0,none⟩)),pInt 20,pPtr [rb] 6,pStr 6,pStr (out.size+6),pLits [rb] 2 1,pVal (.pointer (some ⟨rb,0,none⟩)),pInt 2,pPtr [rb] 1,pStr 1,pStr ((out.size+6)+1),pStr ((out.size+6)+1)] (Zkv ⟨stVal _,stLits _ _,stVal _,stInt _,stPtr _,stStr _,stStr _,stLits _ _,stVal _,stInt _,stPtr _,stStr _,stStr _,stStr _,trivial⟩) (jRd rb q wr) ?start (Znv ⟨?s0,?s1,?s2,?s3,?s4,?s5,?s6,?s7,?s8,?s9,?s10,?s11,?s12,?s13,trivial⟩) ?done
   case start=>exact jRd.start hR
   case s0 =>
    intro xs w' m hl hm hJ hlast hf ho K hK
    replace hm:m<14:=hm
    obtain⟨x0,x1,x2,x3,x4,x5,x6,x7,x8,x9,x10,x11,x12,x13,rfl⟩:=len14 hl
    obtain rfl:x13=.string out:=by have:=ho 13 _ rfl (.inr ⟨⟨0,.phase⟩,by simp,rfl,rfl⟩);simpa [origs] using this
    clear hlast
    clear hf ho
    simp only [fill,Qp,List.map_cons,List.map_nil] at hK ⊢
    go_wp2
    exact hK _ _ (At.mk rfl rfl) (Kept.refl _ _) hJ.same
   case s1 =>
    intro xs w' m hl hm hJ hlast hf ho K hK
    replace hm:m<14:=hm
    obtain⟨x0,x1,x2,x3,x4,x5,x6,x7,x8,x9,x10,x11,x12,x13,rfl⟩:=len14 hl
    clear hlast
    clear hf ho
    simp only [fill,Qp,List.map_cons,List.map_nil] at hK ⊢
    go_wp2
    exact hK _ _ (At.mk rfl (Zjq [⟨#[97]⟩,⟨#[98]⟩,⟨#[102,40]⟩,⟨#[120]⟩,⟨#[41]⟩,⟨#[32]⟩,⟨#[44]⟩,⟨#[43]⟩,⟨#[49]⟩,⟨#[49,50]⟩,⟨#[34,115,34]⟩,⟨#[103,40,49,44,50,41]⟩,⟨#[102,40,97,41]⟩,⟨#[40]⟩,⟨#[65,66]⟩,⟨#[32,45,32]⟩,⟨#[61,61]⟩,⟨#[104,40,98,32,99,41]⟩,⟨#[101,40,41]⟩,⟨#[38,38]⟩] 6 [rb] w' (by decide) hJ.lts 20 rfl)) (Kept.of_below ((Below.refl _ _).alloc (Nat.le_refl _) _)) (hJ.alloc _)
   case s2 =>
    intro xs w' m hl hm hJ hlast hf ho K hK
    exact Y8A2
   case s3 =>
    intro xs w' m hl hm hJ hlast hf ho K hK
    replace hm:m<14:=hm
    obtain⟨x0,x1,x2,x3,x4,x5,x6,x7,x8,x9,x10,x11,x12,x13,rfl⟩:=len14 hl
    have f2:pVal (.pointer (some ⟨rb,0,none⟩)) x2 w':=hf ⟨2,.data⟩ (by simp) rfl _ rfl _ rfl
    clear hlast
    clear hf ho
    obtain rfl:=f2
    exact Y8A1
   case s4 =>
    intro xs w' m hl hm hJ hlast hf ho K hK
    replace hm:m<14:=hm
    obtain⟨x0,x1,x2,x3,x4,x5,x6,x7,x8,x9,x10,x11,x12,x13,rfl⟩:=len14 hl
    have f1:pLits [rb] 20 6 x1 w':=hf ⟨1,.data⟩ (by simp) rfl _ rfl _ rfl
    have f3:pInt 20 x3 w':=hf ⟨3,.data⟩ (by simp) rfl _ rfl _ rfl
    clear hlast
    clear hf ho
    obtain⟨ba,rfl,hnea,hba,hca⟩:=f1
    obtain⟨ri,rfl,hii,hji⟩:=f3
    obtain⟨s,hc1,hs1⟩:=hca ri.toNat (by omega)
    simp only [fill,Qp,List.map_cons,List.map_nil] at hK ⊢
    go_wp2
    exact hK _ _ (At.mk rfl ⟨ba,_,s,rfl,hnea,hba,hc1,hs1⟩) (Kept.refl _ _) hJ.same
   case s5 =>
    intro xs w' m hl hm hJ hlast hf ho K hK
    replace hm:m<14:=hm
    obtain⟨x0,x1,x2,x3,x4,x5,x6,x7,x8,x9,x10,x11,x12,x13,rfl⟩:=len14 hl
    have f4:pPtr [rb] 6 x4 w':=hf ⟨4,.data⟩ (by simp) rfl _ rfl _ rfl
    clear hlast
    clear hf ho
    obtain⟨ba,ja,sa,rfl,hnea,hba,hca,hsa⟩:=f4
    simp only [fill,Qp,List.map_cons,List.map_nil] at hK ⊢
    go_wp2
    exact hK _ _ (At.mk rfl ⟨_,rfl,hsa⟩) (Kept.refl _ _) hJ.same
   case s6 =>
    intro xs w' m hl hm hJ hlast hf ho K hK
    replace hm:m<14:=hm
    obtain⟨x0,x1,x2,x3,x4,x5,x6,x7,x8,x9,x10,x11,x12,x13,rfl⟩:=len14 hl
    have f0:pVal (.string out) x0 w':=hf ⟨0,.data⟩ (by simp) rfl _ rfl _ rfl
    have f5:pStr 6 x5 w':=hf ⟨5,.data⟩ (by simp) rfl _ rfl _ rfl
    clear hlast
    clear hf ho
    obtain rfl:=f0
    obtain⟨sb,rfl,hsb⟩:=f5
    have hadd:=λ W=>run_string_add_sum (P:=Tryz.prog) W out sb (by omega)
    simp only [fill,Qp,List.map_cons,List.map_nil] at hK ⊢
    go_wp2
    exact hK _ _ (At.mk rfl ⟨_,rfl,by rw [ByteArray.size_append];omega⟩) (Kept.refl _ _) hJ.same
   case s7 =>
    intro xs w' m hl hm hJ hlast hf ho K hK
    replace hm:m<14:=hm
    obtain⟨x0,x1,x2,x3,x4,x5,x6,x7,x8,x9,x10,x11,x12,x13,rfl⟩:=len14 hl
    clear hlast
    clear hf ho
    simp only [fill,Qp,List.map_cons,List.map_nil] at hK ⊢
    go_wp2
    exact hK _ _ (At.mk rfl (Zjq [⟨#[]⟩,⟨#[32]⟩] 1 [rb] w' (by decide) hJ.lts 2 rfl)) (Kept.of_below ((Below.refl _ _).alloc (Nat.le_refl _) _)) (hJ.alloc _)
   case s8 =>
    intro xs w' m hl hm hJ hlast hf ho K hK
    exact Y8A2
   case s9 =>
    intro xs w' m hl hm hJ hlast hf ho K hK
    replace hm:m<14:=hm
    obtain⟨x0,x1,x2,x3,x4,x5,x6,x7,x8,x9,x10,x11,x12,x13,rfl⟩:=len14 hl
    have f8:pVal (.pointer (some ⟨rb,0,none⟩)) x8 w':=hf ⟨8,.data⟩ (by simp) rfl _ rfl _ rfl
    clear hlast
    clear hf ho
    obtain rfl:=f8
    exact Y8A1
   case s10 =>
    intro xs w' m hl hm hJ hlast hf ho K hK
    replace hm:m<14:=hm
    obtain⟨x0,x1,x2,x3,x4,x5,x6,x7,x8,x9,x10,x11,x12,x13,rfl⟩:=len14 hl
    have f7:pLits [rb] 2 1 x7 w':=hf ⟨7,.data⟩ (by simp) rfl _ rfl _ rfl
    have f9:pInt 2 x9 w':=hf ⟨9,.data⟩ (by simp) rfl _ rfl _ rfl
    clear hlast
    clear hf ho
    obtain⟨ba,rfl,hnea,hba,hca⟩:=f7
    obtain⟨ri,rfl,hii,hji⟩:=f9
    obtain⟨s,hc1,hs1⟩:=hca ri.toNat (by omega)
    simp only [fill,Qp,List.map_cons,List.map_nil] at hK ⊢
    go_wp2
    exact hK _ _ (At.mk rfl ⟨ba,_,s,rfl,hnea,hba,hc1,hs1⟩) (Kept.refl _ _) hJ.same
   case s11 =>
    intro xs w' m hl hm hJ hlast hf ho K hK
    replace hm:m<14:=hm
    obtain⟨x0,x1,x2,x3,x4,x5,x6,x7,x8,x9,x10,x11,x12,x13,rfl⟩:=len14 hl
    have f10:pPtr [rb] 1 x10 w':=hf ⟨10,.data⟩ (by simp) rfl _ rfl _ rfl
    clear hlast
    clear hf ho
    obtain⟨ba,ja,sa,rfl,hnea,hba,hca,hsa⟩:=f10
    simp only [fill,Qp,List.map_cons,List.map_nil] at hK ⊢
    go_wp2
    exact hK _ _ (At.mk rfl ⟨_,rfl,hsa⟩) (Kept.refl _ _) hJ.same
   case s12 =>
    intro xs w' m hl hm hJ hlast hf ho K hK
    replace hm:m<14:=hm
    obtain⟨x0,x1,x2,x3,x4,x5,x6,x7,x8,x9,x10,x11,x12,x13,rfl⟩:=len14 hl
    have f6:pStr (out.size+6) x6 w':=hf ⟨6,.data⟩ (by simp) rfl _ rfl _ rfl
    have f11:pStr 1 x11 w':=hf ⟨11,.data⟩ (by simp) rfl _ rfl _ rfl
    clear hlast
    clear hf ho
    obtain⟨sa,rfl,hsa⟩:=f6
    obtain⟨sb,rfl,hsb⟩:=f11
    have hadd:=λ W=>run_string_add_sum (P:=Tryz.prog) W sa sb (by omega)
    simp only [fill,Qp,List.map_cons,List.map_nil] at hK ⊢
    go_wp2
    exact hK _ _ (At.mk rfl ⟨_,rfl,by rw [ByteArray.size_append];omega⟩) (Kept.refl _ _) hJ.same
   case s13 =>
    intro xs w' m hl hm hJ hlast hf ho K hK
    replace hm:m<14:=hm
    obtain⟨x0,x1,x2,x3,x4,x5,x6,x7,x8,x9,x10,x11,x12,x13,rfl⟩:=len14 hl
    have f12:pStr ((out.size+6)+1) x12 w':=hf ⟨12,.data⟩ (by simp) rfl _ rfl _ rfl
    clear hlast
    clear hf ho
    obtain⟨sa,rfl,hsa⟩:=f12
    simp only [fill,Qp,List.map_cons,List.map_nil] at hK ⊢
    go_wp2
    exact hK _ _ (At.mk rfl ⟨_,rfl,hsa⟩) (Kept.refl _ _) hJ.same
   case done =>
    intro xs w' hl hf hJ
    obtain⟨x0,x1,x2,x3,x4,x5,x6,x7,x8,x9,x10,x11,x12,x13,rfl⟩:=len14 hl
    have f13:pStr ((out.size+6)+1) x13 w':=hf 13 _ rfl _ rfl
    obtain⟨sz,rfl,hsz⟩:=f13
    clear hf
    obtain⟨⟨p1,hp1,hR1⟩,hK1⟩:=hJ
    replace hp1:p1<=q+14:=hp1
    simp only [fill,Qp,List.map_cons,List.map_nil]
    go_wp2
    go_roundw
    case rel=>exact⟨k-1,p1,sz,by omega,by omega,by omega,rfl,by go_num,hR1,hB.trans hK1⟩
    case measure=>simp [intOf];omega
  ·go_wp2_with fail
   refine (odd rb q _ _ hR (by omega) (by omega) (by omega)).mono ?_
   rintro e w3 ⟨b,q2,rfl,hq1,hq2,hR3,hK3⟩
   cases b
   ·go_wp2
    go_ret
    exact⟨out,q2,rfl,by omega,by omega,hR3,hB.trans hK3⟩
   ·go_wp2_with (go_at_call 48;refine (pick rb q2 _ _ (hR3.grow ((Below.refl _ _).alloc (Nat.le_refl _) _)) (by omega) (by omega) (by omega)).mono ?_;rintro e w4 ⟨r2,rfl,h20,h21,hR4,hK4⟩;obtain⟨s,hs,hc⟩:=Zfo Zjr 13 ZiH h20 (by show r2<6;omega) hR3.lt hK4;have hadd:=λ W=>run_string_add_sum (P:=Tryz.prog) W out s (by omega))
    go_ret
    exact⟨out++s,q2+1,rfl,by rw [ByteArray.size_append];omega,by omega,hR4,(hB.trans hK3).trans ((Kept.of_below ((Below.refl _ _).alloc (Nat.le_refl _) _)).trans hK4)⟩
theorem Zb2 {w:World} {ops:Array Oper} {rest:List Oper} {o:Oper} {a:Act} {Q:Exit->Act->World->Prop} (hg:o.guard=none) (s y:Operand)
  (ho:o.op=.call { callee:=.builtin .append,args:=#[s,y],argTypes:=#[28,28] })
  (base:Nat) (v:Value) (L:List (Elem Tok)) (hs:a.eval s=v) (hown:RowE sTok base 57 v L w) (k:Int) (x:ByteArray) (b:Bool) (ao:Option Addr) (m c:Nat) (l:List ByteArray) (fp:List Nat)
  (hy:a.eval y=.slice (some ⟨w.heap.size,0,none⟩) 1 1) (hR:sTok.R w [.int .i64 k,.string x,.bool b,.slice ao m c] ⟨k,x,b,l⟩ fp) (hlo:∀ b∈fp,base<=b) (hty:∀ b∈fp,∃ cur t fr,w.heap[b]?=some (.cells cur t fr)/\t≠57)
  (h63:L.length<=2000000) (hbase:base<=w.heap.size)
  (h:∀ v' w',RowE sTok base 57 v' (L++[⟨[.int .i64 k,.string x,.bool b,.slice ao m c],⟨k,x,b,l⟩,fp⟩]) w'->w.grownBy w' v.ownBlock->wpList Tryz.prog ops Q rest (a.put o.dst v') w') :
  wpList Tryz.prog ops Q (o::rest) a (w.alloc (.cells #[.int .i64 k,.string x,.bool b,.slice ao m c] 57)):=by
 have hb:=Zab w (.cells #[.int .i64 k,.string x,.bool b,.slice ao m c] 57)
 refine Ze1 (S:=sTok) ti_tok rfl (by decide) _ (X:=[⟨[.int .i64 k,.string x,.bool b,.slice ao m c],⟨k,x,b,l⟩,fp⟩]) hg s y ho base v hs (hown.below hb) w.heap.size 1 1 hy rfl ?_ ?_ ?_ ?_ ?_ ?_ (by unfold maxLen;omega) (by omega) (by simp;omega) λ v' w' a b=>h v' w' a (ZdF (World.grownBy_alloc _ _ _) b)
 ·intro x hx;obtain rfl:=Qm hx;rfl
 ·intro x hx;obtain rfl:=Qm hx;simp [Value.oneCell']
 ·intro j u hj
  rw [World.cell?_alloc_at _ _ _ _ rfl]
  simpa using hj
 ·intro x hx;obtain rfl:=Qm hx;exact sTok.below hR hb
 ·intro x hx;obtain rfl:=Qm hx;exact hlo
 ·intro x hx b' hb'
  obtain rfl:=Qm hx
  obtain⟨cur,t,fr,h1,h2⟩:=hty b' hb'
  exact⟨cur,t,fr,(hb.block b' (Qg h1).1).trans h1,h2⟩
theorem ZcA {rb p B:Nat} {w w':World} {ob:Option Nat} (h:Rd w rb p) (hg:w.grownBy w' ob) (hr:rb<B) (ho:∀ b,ob=some b->B<=b):Rd w' rb p:=by
 obtain⟨⟨a,l,cap,fp,h2,h3,h4,h5⟩,h6⟩:=h
 have hlt:=(Qg h2).1
 have hblk:∀ b,b<=rb->w'.heap[b]?=w.heap[b]?:=λ b hb=>hg.block b (by omega) (by intro he;have:=ho b he.symm;omega)
 exact⟨⟨a,l,cap,fp,(hblk rb (Nat.le_refl _)).trans h2,(Zaa sByte).frame (λ b hb=>hblk b (Nat.le_of_lt (h4 b hb))) h3,h4,h5⟩,h6⟩
theorem ZbP {rb:Nat} {w0 w w':World} {ob:Option Nat} (h:Kept [rb] w0 w) (hg:w.grownBy w' ob) (ho:∀ b,ob=some b->w0.heap.size<=b):Kept [rb] w0 w':=
 ⟨hg.os.trans h.os,hg.tape.trans h.tape,hg.output.trans h.output,Nat.le_trans h.size hg.size,λ k hk hn=>(hg.block k (Nat.lt_of_lt_of_le hk h.size) (by intro he;have:=ho k he.symm;omega)).trans (h.block k hk hn)⟩
theorem rdSet {rb g p:Nat} {w:World} (h:Rd w rb p) (hr:rb<g) (o:Nat) (u:Value):Rd (w.setCell ⟨g,o,none⟩ u) rb p:=
 h.kept ((Kept.refl [g] w).setCell (p:=⟨g,o,none⟩) (by simp) u) (λ b hb=>by have e:b=g:=(by simpa using hb);omega)
theorem ZbG {rb g:Nat} {w w':World} (hk:Kept [rb] w w') (hg:w.heap.size<=g) (u:Value) (o:Nat):Kept [rb] w (w'.setCell ⟨g,o,none⟩ u):=
 ⟨hk.os,hk.tape,hk.output,by simp [World.setCell];exact hk.size,λ k h1 h2=>(Below.heap_setCell _ _ _ _ (by show k≠g;omega)).trans (hk.block k h1 h2)⟩
theorem ZcB {rb g:Nat} {w w':World} {o:Obj} (h:w.heap[g]?=some o) (hk:Kept [rb] w w') (hn:g≠rb):w'.heap[g]?=some o:=
 (hk.block g (Qg h).1 (by simpa using hn)).trans h
theorem run_append_nil {P:Program} {w:World} (base:Nat) (t ty e:TypeId) (i:TypeInfo) (size c:Nat) (ht:P.underlying t=some (.slice e)) (hi:P.info? e=some i)
  (v:Value) (n:Nat) (xs:List Value) (hown:w.ownsRow base e size v n xs):(Builtin.append_ #[t,t] ty #[v,.slice none 0 c]).run P w=.ok v w:=by
 rcases hown.2 with⟨rfl,rfl⟩ | ⟨g,cap,cur,rfl,_,_,hnc,_⟩
 ·simp [Builtin.append_,run_underlying ht,sizeOf,typeInfo,hi,Builtin.lenOf,Builtin.firstCells]
 ·simp [Builtin.append_,run_underlying ht,sizeOf,typeInfo,hi,Builtin.lenOf,Builtin.firstCells,hnc,storeCells]
theorem Zbb {w:World} {ops:Array Oper} {rest:List Oper} {o:Oper} {a:Act} {Q:Exit->Act->World->Prop} (hg:o.guard=none) (s y:Operand)
  (ho:o.op=.call { callee:=.builtin .append,args:=#[s,y],argTypes:=#[55,55] })
  (base:Nat) (v u:Value) (L M:List ByteArray) (fp:List Nat) (hs:a.eval s=v) (hown:w.ownsRow base 9 1 v L.length (L.map Value.string)) (hy:a.eval y=u) (HM:(Zaa sStr).R w [u] M fp)
  (h63:L.length+M.length<=4000000) (hbase:base<=w.heap.size)
  (h:∀ v' w',w'.ownsRow base 9 1 v' (L++M).length ((L++M).map Value.string)->w.grownBy w' v.ownBlock->wpList Tryz.prog ops Q rest (a.put o.dst v') w'):wpList Tryz.prog ops Q (o::rest) a w:=by
 obtain⟨i,hi,hz0,hz1,hz2⟩:=info_parts ti27.2
 obtain⟨ad,cap,rfl,hc,hm,hcell,hsz⟩:=Zaf HM
 have key:∀ (b off:Nat),(0<M.length->∀ j,(hj:j<M.length)->w.cell? ⟨b,off+j,none⟩=some (.string M[j]))->a.eval y=.slice (some ⟨b,off,none⟩) M.length cap->wpList Tryz.prog ops Q (o::rest) a w:=by
  intro b off hat hy'
  refine wpList_append_own _ hg s y 55 ho base 9 i _ 1 16 ti27.1 hi hz0 hz1 hz2 rfl (by decide) v L.length (L.map Value.string) hs hown ⟨b,off,none⟩ M.length cap (M.map Value.string) hy' (by simp) ?_ ?_ (by unfold maxLen;omega) (by omega) hbase λ v' w' h1 h2 _=>h v' w' ?_ h2
  ·intro j x hj
   have hj':j<M.length:=by have:=(List.getElem?_eq_some_iff.1 hj).1;simpa using this
   rw [Addr.add_lit,hat (by omega) j hj',← hj]
   simp [List.getElem?_eq_getElem hj']
  ·intro x hx
   obtain⟨s,_,rfl⟩:=List.mem_map.1 hx
   rfl
  ·simpa using h1
 by_cases h0:0<M.length
 ·obtain⟨b,off,rfl,_,_,hc2⟩:=hcell h0
  exact key b off (λ _ j hj=>hc2 j hj) hy
 ·have hM:M=[]:=List.length_eq_zero_iff.1 (by omega)
  subst hM
  cases ad with
  |
   none =>
   have hrun:=run_append_nil (P:=Tryz.prog) (w:=w) base 55 o.type 9 i 1 cap ti27.1 hi v L.length _ hown
   have hK:=h v w (by simpa using hown) ⟨rfl,rfl,rfl,Nat.le_refl _,λ _ _ _=>rfl⟩
   refine wpList_plain hg λ K hK'=>?_
   unfold Oper.wp
   simp only [List.length_nil] at hy
   simp [execOp,ho,resolve,invoke,builtin,hs,hy,hrun,Result.andThen]
   exact hK' _ _ hK
  |
   some ad =>
   refine wpList_append_own _ hg s y 55 ho base 9 i _ 1 16 ti27.1 hi hz0 hz1 hz2 rfl (by decide) v L.length (L.map Value.string) hs hown ad 0 cap [] hy rfl (by simp) (by simp) (by unfold maxLen;omega) (by omega) hbase λ v' w' h1 h2 _=>h v' w' (by simpa using h1) h2
def OwnTok (x:Tok) (w:World) (e:Ending) (w':World):Prop:=
 ∃ (ao:Option Addr) (c:Nat) (fp:List Nat),e=.returned (.agg #[.int .i64 x.kind,.string x.text,.bool x.spaced,.slice ao x.hidden.length c])/\sTok.R w' [.int .i64 x.kind,.string x.text,.bool x.spaced,.slice ao x.hidden.length c] x fp /\
  (∀ b∈fp,w.heap.size<=b)/\(∀ b∈fp,∃ cur t fr,w'.heap[b]?=some (.cells cur t fr)/\t=9)/\Below w.heap.size w w'
theorem Zc4 (cs:List Value) (x:Tok) (fp:List Nat) (w:World) (hx:x.hidden.length<=2000000) (H:sTok.R w cs x fp):Calls Tryz.prog 67 #[.agg cs.toArray] w (OwnTok x w):=by
 obtain⟨h,rfl,hk,hok,K⟩:=H
 obtain⟨a0,cap0,rfl,-,-,-,hsz⟩:=Zaf K
 have hb3:=ZhF w #[.int .i64 x.kind,.string x.text,.bool x.spaced,.slice a0 x.hidden.length cap0] #[.int .i64 0,.string ⟨#[]⟩,.bool false,.slice none 0 0] #[.int .i64 x.kind,.string x.text,.bool x.spaced,.slice a0 x.hidden.length cap0] 57 57 57
 have g0:=ZdI w #[.int .i64 x.kind,.string x.text,.bool x.spaced,.slice a0 x.hidden.length cap0] #[.int .i64 0,.string ⟨#[]⟩,.bool false,.slice none 0 0] #[.int .i64 x.kind,.string x.text,.bool x.spaced,.slice a0 x.hidden.length cap0] 57 57 57
 obtain⟨g1,g2,hs3⟩:=ZdX w #[.int .i64 x.kind,.string x.text,.bool x.spaced,.slice a0 x.hidden.length cap0] #[.int .i64 0,.string ⟨#[]⟩,.bool false,.slice none 0 0] #[.int .i64 x.kind,.string x.text,.bool x.spaced,.slice a0 x.hidden.length cap0] 57 57 57
 have HK:=Qh ((Zaa sStr).below K hb3)
 have HSZ:=Qh hsz
 clear K hsz
 obtain⟨hv,HV⟩:∃ hv:Value,Hid (hv=Value.slice a0 x.hidden.length cap0):=⟨_,rfl⟩
 go_enter Tryz.func67,Tryz.ntmps67
 go_upto_region 2 with fail
 generalize (((w.alloc (.cells #[.int .i64 x.kind,.string x.text,.bool x.spaced,.slice a0 x.hidden.length cap0] 57)).alloc (.cells #[.int .i64 0,.string ⟨#[]⟩,.bool false,.slice none 0 0] 57)).alloc (.cells #[.int .i64 x.kind,.string x.text,.bool x.spaced,.slice a0 x.hidden.length cap0] 57))=W3 at *
 have hba:=Zab W3 (.cells #[] 9)
 have c03:(W3.alloc (.cells #[] 9)).cell? ⟨w.heap.size,3,none⟩=some hv:=by
  rw [HV.out]
  exact(hba.cell (p:=⟨w.heap.size,3,none⟩) (by show w.heap.size<_;omega)).trans (Qc 3 g0)
 have hlit:Hid ((W3.alloc (.cells #[] 9)).ownsRow W3.heap.size 9 1 (.slice (some ⟨W3.heap.size,0,none⟩) 0 0) ([]:List ByteArray).length (([]:List ByteArray).map Value.string)):=
  World.ownsRow_lit (base:=W3.heap.size) (e:=9) (size:=1) W3 #[] 0 (Nat.le_refl _) (by simp) rfl
 have HKV:Hid ((Zaa sStr).R (W3.alloc (.cells #[] 9)) [hv] x.hidden fp):=by show (Zaa sStr).R _ _ _ _;rw [HV.out];exact(Zaa sStr).below HK.out hba
 have HG:=Qh (And.intro g1 (And.intro g2 hs3))
 have hb4:=Qh (hb3.trans (hba.mono hb3.size))
 clear g0 g1 g2 hb3 hs3 HK hba
 go_wp2_with (
  at_builtin
  refine Zbb rfl (.tmp 5) (.tmp 7) rfl W3.heap.size (.slice (some ⟨W3.heap.size,0,none⟩) 0 0) hv [] x.hidden _ rfl hlit.out rfl HKV.out (by simp;omega) (by simp) ?_
  intro v5 w1 hown hgrow
  rw [List.nil_append] at hown
  obtain⟨fp1,R1,O1,hfp⟩:=Za6 (ok:=okStr) hown HSZ.out
  have hs3:=HG.out.2.2
  have hblk:∀ k,k<W3.heap.size->w1.heap[k]?=W3.heap[k]?:=λ k hk=>(hgrow.block k (by simp;omega) (by simp [Value.ownBlock];omega)).trans ((Zab W3 _).block k hk)
  have HG1:Hid (w1.heap[w.heap.size+1]?=some (.cells #[.int .i64 0,.string ⟨#[]⟩,.bool false,.slice none 0 0] 57 (0,0))/\w1.heap[w.heap.size+1+1]?=some (.cells #[.int .i64 x.kind,.string x.text,.bool x.spaced,.slice a0 x.hidden.length cap0] 57 (0,0))):=
   ⟨(hblk _ (by omega)).trans HG.out.1,(hblk _ (by omega)).trans HG.out.2.1⟩
  have hb:Below w.heap.size w w1:=hb4.out.grown hgrow (by simp;omega) (λ b hb=>by simp [Value.ownBlock] at hb;omega)
  have hty:∀ b∈fp1,∃ cur t fr,w1.heap[b]?=some (.cells cur t fr)/\t=9:=λ b hb'=>by
   have hv:=hfp b hb'
   rcases hown.2 with⟨rfl,_⟩ | ⟨g,cap,cur,rfl,_,hg,_⟩
   ·simp [Value.ownBlock] at hv
   ·simp only [Value.ownBlock,Qi] at hv
    subst hv
    exact⟨_,_,_,hg,rfl⟩
  have hlo:∀ b∈fp1,w.heap.size+3<=b:=λ b hb=>by have:=(O1.2 b hb).1;omega
  clear HG hblk hgrow hown hfp O1 c03 hb4 HKV hlit hs3
  obtain⟨a1,cap1,rfl,hq⟩:=Zac R1
  clear hq
  have c10:=Qc 0 HG1.out.1
  have c11:=Qc 1 HG1.out.1
  have c12:=Qc 2 HG1.out.1
  have c13:=Qc 3 HG1.out.1
  have c20:=Qc 0 HG1.out.2
  have c21:=Qc 1 HG1.out.2
  have c22:=Qc 2 HG1.out.2
  have c23:=Qc 3 HG1.out.2
  have f10:=Qf 0 HG1.out.1
  have f11:=Qf 1 HG1.out.1
  have f12:=Qf 2 HG1.out.1
  have f13:=Qf 3 HG1.out.1
  have f23:=Qf 3 HG1.out.2
  have hn1:w.heap.size+1∉fp1:=λ hx=>by have:=hlo _ hx;omega
  have hn2:w.heap.size+1+1∉fp1:=λ hx=>by have:=hlo _ hx;omega
  have HLO:Hid (∀ b∈fp1,w.heap.size<=b):=λ b hb=>by have:=hlo b hb;omega
  have HR:=Qh ((Zaa sStr).setB ((Zaa sStr).setB ((Zaa sStr).setB ((Zaa sStr).setB ((Zaa sStr).setB R1 hn2 3 (.slice a1 x.hidden.length cap1)) hn1 0 (.int .i64 x.kind)) hn1 1 (.string x.text)) hn1 2 (.bool x.spaced)) hn1 3 (.slice a1 x.hidden.length cap1))
  have HT:Hid (∀ b∈fp1,∃ cur t fr,(((((w1.setCell ⟨w.heap.size+1+1,3,none⟩ (.slice a1 x.hidden.length cap1)).setCell ⟨w.heap.size+1,0,none⟩ (.int .i64 x.kind)).setCell ⟨w.heap.size+1,1,none⟩ (.string x.text)).setCell ⟨w.heap.size+1,2,none⟩ (.bool x.spaced)).setCell ⟨w.heap.size+1,3,none⟩ (.slice a1 x.hidden.length cap1)).heap[b]?=some (.cells cur t fr)/\t=9):=λ b hb=>by
   obtain⟨cur,t,fr,q1,q2⟩:=hty b hb
   have e1:b≠w.heap.size+1:=λ e=>hn1 (e ▸ hb)
   have e2:b≠w.heap.size+1+1:=λ e=>hn2 (e ▸ hb)
   exact⟨cur,t,fr,Zaw (Zaw (Zaw (Zaw (Zaw q1 e2 _ _) e1 _ _) e1 _ _) e1 _ _) e1 _ _,q2⟩
  have HB:=Qh (((((hb.setCell (p:=⟨w.heap.size+1+1,3,none⟩) (by simp;omega) (.slice a1 x.hidden.length cap1)).setCell (p:=⟨w.heap.size+1,0,none⟩) (by simp) (.int .i64 x.kind)).setCell (p:=⟨w.heap.size+1,1,none⟩) (by simp) (.string x.text)).setCell (p:=⟨w.heap.size+1,2,none⟩) (by simp) (.bool x.spaced)).setCell (p:=⟨w.heap.size+1,3,none⟩) (by simp) (.slice a1 x.hidden.length cap1))
  have HS:=Qh (Zah (Zah (Zah (Zah (Zaw HG1.out.1 (by omega:w.heap.size+1≠w.heap.size+1+1) 3 (.slice a1 x.hidden.length cap1)) 0 (.int .i64 x.kind)) 1 (.string x.text)) 2 (.bool x.spaced)) 3 (.slice a1 x.hidden.length cap1))
  clear HG1 hty hlo)
 refine bodyPost_ret (results_cell_row rfl _ _ (w.heap.size+1) _ _ _ _ rfl HS.out Tryz.underlying57 rfl (by kernel_rfl)) rfl ?_
 exact⟨a1,cap1,fp1,rfl,⟨_,rfl,hk,hok,HR.out⟩,HLO.out,HT.out,HB.out⟩
def OwnToks (l:List Tok) (w:World) (e:Ending) (w':World):Prop:=∃ v fp,e=.returned v/\(Zaa sTok).R w' [v] l fp/\Below w.heap.size w w'
def NoMac (w:World) (fp:List Nat):Prop:=∀ b∈fp,∃ cur t fr,w.heap[b]?=some (.cells cur t fr)/\t≠70
theorem NoMac.same {w w':World} {fp:List Nat} (h:NoMac w fp) (hb:∀ b∈fp,b<w.heap.size->w'.heap[b]?=w.heap[b]?):NoMac w' fp:=λ b hb'=>by
 obtain⟨cur,t,fr,h1,h2⟩:=h b hb'
 exact⟨cur,t,fr,(hb b hb' (Qg h1).1).trans h1,h2⟩
theorem NoMac.below {w w':World} {fp:List Nat} (h:NoMac w fp) (hb:Below w.heap.size w w'):NoMac w' fp:=h.same λ b _ hl=>hb.block b hl
def TokTy (w:World) (fp:List Nat):Prop:=∀ b∈fp,∃ cur t fr,w.heap[b]?=some (.cells cur t fr)/\(t=57\/t=9)
theorem TokTy.same {w w':World} {fp:List Nat} (h:TokTy w fp) (hb:∀ b∈fp,b<w.heap.size->w'.heap[b]?=w.heap[b]?):TokTy w' fp:=λ b hb'=>by
 obtain⟨cur,t,fr,h1,h2⟩:=h b hb'
 exact⟨cur,t,fr,(hb b hb' (Qg h1).1).trans h1,h2⟩
theorem TokTy.below {w w':World} {fp:List Nat} (h:TokTy w fp) (hb:Below w.heap.size w w'):TokTy w' fp:=h.same λ b _ hl=>hb.block b hl
theorem TokTy.mac {w:World} {fp:List Nat} (h:TokTy w fp):NoMac w fp:=λ b hb=>by
 obtain⟨cur,t,fr,h1,h2⟩:=h b hb
 refine ⟨cur,t,fr,h1,?_⟩
 rcases h2 with rfl | rfl <;> decide
def OwnToksS (l:List Tok) (w:World) (e:Ending) (w':World):Prop:=∃ v fp,e=.returned v/\(Zaa sTok).R w' [v] l fp/\(∀ b∈fp,w.heap.size<=b)/\TokTy w' fp/\Below w.heap.size w w'
theorem ZaS (v:Value) (l:List Tok) (fp:List Nat) (w:World) (hl:l.length<=1048576) (hx:∀ k,(hk:k<l.length)->l[k].hidden.length<=2000000) (H:(Zaa sTok).R w [v] l fp) :
  Calls Tryz.prog 34 #[v] w (OwnToksS l w):=by
 obtain⟨a,cap,rfl,hc,hm,hrow⟩:=Zac H
 unfold maxLen at hm
 clear H
 have HX:=Qh hx
 clear hx
 have hlit:Hid (RowE sTok w.heap.size 57 (.slice (some ⟨w.heap.size,0,none⟩) 0 0) [] (w.alloc (.cells #[] 57))):=RowE.lit [] (by simp) (by simp) (by simp) (by simp) (Nat.le_refl _) (by simp)
 have hba:=Zab w (.cells #[] 57)
 go_enter Tryz.func34,Tryz.ntmps34
 go_wp2
 go_loopw [3,4] (λ o i wr=>∃ (k:Nat) (L:List (Elem Tok)),k<=l.length/\i=.int .i64 k/\Hid (RowE sTok w.heap.size 57 o L wr)/\Hid (L.map (·.d)=l.take k)/\Hid (∀ x∈L,TokTy wr x.fp)/\Below w.heap.size w wr) (λ _ i _=>l.length-(intOf i).toNat)
 case atStart=>exact⟨0,[],by omega,rfl,hlit,rfl,(show ∀ x∈([]:List (Elem Tok)),TokTy _ x.fp from by simp),hba⟩
 case round =>
  clear hlit hba
  obtain⟨k,L,hk,rfl,HE,HD,HN,hb⟩:=hrel
  by_cases hlt:k<l.length
  ·obtain⟨b1,off1,fps1,rfl,hb1,-,he1⟩:=hrow (by omega)
   obtain⟨es1,hE1,hR1⟩:=he1 k hlt
   clear hrow he1
   have hR2:=sTok.below hR1 hb
   obtain⟨h1',rfl,_,_,_⟩:=hR1
   have HC:=Qh (Zc4 _ _ _ wr (HX.out k hlt) hR2)
   clear hR2
   replace hE1:=hE1.frame (hb.block b1 hb1)
   have c10:wr.cell? ⟨b1,off1+k * 4,none⟩=some _:=Zao hE1 (by decide) rfl
   have c11:wr.cell? ⟨b1,off1+k * 4+1,none⟩=some _:=Zae (j:=1) hE1 (by decide) rfl
   have c12:wr.cell? ⟨b1,off1+k * 4+2,none⟩=some _:=Zae (j:=2) hE1 (by decide) rfl
   have c13:wr.cell? ⟨b1,off1+k * 4+3,none⟩=some _:=Zae (j:=3) hE1 (by decide) rfl
   clear hE1
   have HLl:Hid (L.length=k):=by have:=congrArg List.length HD.out;simp at this;show _=_;omega
   go_wp2_with fail
   refine HC.out.mono ?_
   rintro e w2 ⟨ao,c,fp2,rfl,hR2,hlo2,hty2,hb2⟩
   obtain⟨ar,capr,rfl,-⟩:=HE.out.val
   have hE2:=HE.out.below hb2
   have hty2':∀ b∈fp2,∃ cur t fr,w2.heap[b]?=some (.cells cur t fr)/\t≠57:=λ b hb=>by obtain⟨cur,t,fr,h1,h2⟩:=hty2 b hb;exact⟨cur,t,fr,h1,by rw [h2];decide⟩
   have HN2:Hid (∀ x∈L++[(⟨[.int .i64 l[k].kind,.string l[k].text,.bool l[k].spaced,.slice ao l[k].hidden.length c],⟨l[k].kind,l[k].text,l[k].spaced,l[k].hidden⟩,fp2⟩:Elem Tok)],TokTy w2 x.fp):=λ x hx=>by
    rcases Qa hx with hx | hx
    ·exact(HN.out x hx).below hb2
    ·obtain rfl:=Qm hx
     intro b hb
     obtain⟨cur,t,fr,h1,h2⟩:=hty2 b hb
     exact⟨cur,t,fr,h1,.inr h2⟩
   have hbw:=hb.trans (hb2.mono hb.size)
   have hlo3:∀ b∈fp2,w.heap.size<=b:=λ b hx=>Nat.le_trans hb.size (hlo2 b hx)
   clear c10 c11 c12 c13 HC HE
   go_wp2_with (at_builtin;refine Zb2 rfl (.tmp 12) (.tmp 18) rfl w.heap.size (.slice ar L.length capr) L rfl hE2 l[k].kind l[k].text l[k].spaced ao l[k].hidden.length c l[k].hidden fp2 rfl hR2 hlo3 hty2' (by have:=HLl.out;omega) hbw.size ?_;intro v3 w3 hE3 hg3)
   have hb3:Below w.heap.size w w3:=hbw.grown hg3 hbw.size (λ b hb=>(hE2.row.lt b hb).1)
   have HE3:=Qh hE3
   have HN3:Hid (∀ x∈L++[(⟨[.int .i64 l[k].kind,.string l[k].text,.bool l[k].spaced,.slice ao l[k].hidden.length c],⟨l[k].kind,l[k].text,l[k].spaced,l[k].hidden⟩,fp2⟩:Elem Tok)],TokTy w3 x.fp):=λ x hx=>(HN2.out x hx).same λ b hb hl=>hg3.block b hl (by
    rcases Qa hx with hx | hx
    ·exact λ e=>hE2.ap hx hb e.symm
    ·obtain rfl:=Qm hx
     intro e
     obtain⟨cur,t,fr,h1,h2⟩:=hty2' b hb
     obtain⟨g,capg,curg,q1,q2,q3,-⟩:∃ g capg curg,Value.slice ar L.length capr=.slice (some ⟨g,0,none⟩) L.length capg/\w.heap.size<=g/\w2.heap[g]?=some (.cells curg 57 (0,0))/\True:=by
      rcases hE2.row.2 with⟨h0,_⟩ | ⟨g,capg,curg,q1,q2,q3,-⟩
      ·rw [h0] at e;simp [Value.ownBlock] at e
      ·exact⟨g,capg,curg,q1,q2,q3,trivial⟩
     rw [q1] at e
     simp only [Value.ownBlock,Qi] at e
     subst e
     rw [h1] at q3
     simp only [Qi,Obj.cells.injEq] at q3
     exact h2 q3.2.1)
   have HD3:Hid ((L++[(⟨[.int .i64 l[k].kind,.string l[k].text,.bool l[k].spaced,.slice ao l[k].hidden.length c],⟨l[k].kind,l[k].text,l[k].spaced,l[k].hidden⟩,fp2⟩:Elem Tok)]).map (·.d)=l.take (k+1)):=by
    show _=_
    rw [List.map_append,HD.out,List.take_succ_eq_append_getElem hlt];rfl
   clear hE2 hE3 hg3 hR2 hty2 hty2' hlo2 hlo3 hb2 HN2 HN
   go_roundw
   case rel=>exact⟨k+1,_,by omega,by go_num,HE3,HD3,HN3,hb3⟩
   case measure=>simp [intOf];omega
  ·obtain⟨fpr,hr,hin,-⟩:=ZaM HE.out.row λ x hx=>⟨HE.out.len x hx,HE.out.el x hx⟩
   have HLO:Hid (∀ b∈fpr,w.heap.size<=b):=λ b hb=>by
    rcases hin b hb with h | h
    ·exact HE.out.mine b h
    ·obtain⟨x,hx,hb'⟩:=List.mem_flatMap.1 h
     exact HE.out.lo x hx b hb'
   have HNM:Hid (TokTy wr fpr):=λ b hb=>by
    rcases hin b hb with h | h
    ·rcases HE.out.row.2 with⟨h0,_⟩ | ⟨g,capg,curg,q1,q2,q3,-⟩
     ·rw [h0] at h;simp [Value.ownBlock] at h
     ·rw [q1] at h
      simp only [Value.ownBlock,Qi] at h
      subst h
      exact⟨_,_,_,q3,.inl rfl⟩
    ·obtain⟨x,hx,hb'⟩:=List.mem_flatMap.1 h
     exact HN.out x hx b hb'
   clear hin
   have hd:=HD.out
   rw [List.take_of_length_le (by omega)] at hd
   rw [hd] at hr
   have HR:=Qh hr
   clear hr hd HE HD HN
   go_wp2
   go_ret
   exact⟨_,fpr,rfl,HR.out,HLO.out,HNM.out,hb⟩
def OwnToksT (l:List Tok) (w:World) (e:Ending) (w':World):Prop:=∃ v fp,e=.returned v/\(Zaa sTok).R w' [v] l fp/\(∀ b∈fp,w.heap.size<=b)/\NoMac w' fp/\Below w.heap.size w w'
theorem ZcR (v:Value) (l:List Tok) (fp:List Nat) (w:World) (hl:l.length<=1048576) (hx:∀ k,(hk:k<l.length)->l[k].hidden.length<=2000000) (H:(Zaa sTok).R w [v] l fp) :
  Calls Tryz.prog 34 #[v] w (OwnToksT l w):=(ZaS v l fp w hl hx H).mono λ _ _ ⟨v,fp,h1,h2,h3,h4,h5⟩=>⟨v,fp,h1,h2,h3,h4.mac,h5⟩
theorem ZfR (v:Value) (l:List Tok) (fp:List Nat) (w:World) (hl:l.length<=1048576) (hx:∀ k,(hk:k<l.length)->l[k].hidden.length<=2000000) (H:(Zaa sTok).R w [v] l fp) :
  Calls Tryz.prog 34 #[v] w (OwnToks l w):=(ZcR v l fp w hl hx H).mono λ _ _ ⟨v,fp,h1,h2,_,_,h3⟩=>⟨v,fp,h1,h2,h3⟩
structure RowG {α:Type} (S:Shape α) (base:Nat) (e:TypeId) (v:Value) (L:List (Elem α)) (w:World):Prop where
 row:w.ownsRow base e S.m v L.length (L.flatMap (·.cells))
 len:∀ x∈L,x.cells.length=S.m
 el:∀ x∈L,S.R w x.cells x.d x.fp
 hi:∀ x∈L,∀ b∈x.fp,b<base
section
variable {α:Type} {S:Shape α} {base:Nat} {e:TypeId} {v v':Value} {L:List (Elem α)} {w w':World}
theorem RowG.ap (h:RowG S base e v L w):∀ x∈L,∀ b∈x.fp,v.ownBlock≠some b:=λ x hx b hb hv=>by
 have h1:=h.hi x hx b hb
 have h2:=(h.row.lt b hv).1
 omega
theorem RowG.lit0 (S:Shape α) (e:TypeId) (w:World):RowG S w.heap.size e (.slice (some ⟨w.heap.size,0,none⟩) 0 0) [] (w.alloc (.cells #[] e)) where
 row:=World.ownsRow_lit (base:=w.heap.size) (e:=e) (size:=S.m) w #[] 0 (Nat.le_refl _) (by unfold maxLen;omega) (by simp)
 len:=by simp
 el:=by simp
 hi:=by simp
theorem RowG.same (h:RowG S base e v L w) (hv:∀ g,v.ownBlock=some g->w'.heap[g]?=w.heap[g]?) (hb:∀ x∈L,∀ b∈x.fp,w'.heap[b]?=w.heap[b]?):RowG S base e v L w' where
 row:=Zba h.row hv
 len:=h.len
 el:=λ x hx=>S.frame (λ b hb'=>hb x hx b hb') (h.el x hx)
 hi:=h.hi
theorem RowG.below (h:RowG S base e v L w) (hb:Below w.heap.size w w'):RowG S base e v L w':=
 h.same (λ g hg=>hb.block g (h.row.lt g hg).2) (λ x hx b hb'=>hb.block b (S.lt (h.el x hx) b hb'))
theorem RowG.kept {K:List Nat} (h:RowG S base e v L w) (hk:Kept K w w') (hv:∀ g,v.ownBlock=some g->g∉K) (hb:∀ x∈L,∀ b∈x.fp,b∉K):RowG S base e v L w':=
 h.same (λ g hg=>hk.block g (h.row.lt g hg).2 (hv g hg)) (λ x hx b hb'=>hk.block b (S.lt (h.el x hx) b hb') (hb x hx b hb'))
theorem RowG.val (h:RowG S base e v L w):∃ a cap,v=.slice a L.length cap/\L.length<=cap/\cap<=maxLen/\(0<L.length->∃ g,a=some ⟨g,0,none⟩/\base<=g/\g<w.heap.size):=by
 rcases h.row.2 with⟨rfl,h0⟩ | ⟨g,cap,cur,rfl,hb,hg,hn,hc,_⟩
 ·exact⟨none,0,by rw [h0],by omega,by simp,λ h=>by omega⟩
 ·exact⟨_,cap,rfl,hn,hc,λ _=>⟨g,rfl,hb,(Qg hg).1⟩⟩
theorem RowG.mine (h:RowG S base e v L w):∀ b,v.ownBlock=some b->base<=b:=λ b hb=>(h.row.lt b hb).1
theorem RowG.read (h:RowG S base e v L w):∃ fp,(Zaa S).R w [v] (L.map (·.d)) fp/\(∀ b∈fp,v.ownBlock=some b\/∃ x∈L,b∈x.fp)/\(Own w base (L.flatMap (·.fp))->Own w base fp):=by
 obtain⟨fp,h1,h2,h3⟩:=ZaM h.row λ x hx=>⟨h.len x hx,h.el x hx⟩
 refine ⟨fp,h1,λ b hb=>?_,λ ho=>h3 ho λ g hg hm=>?_⟩
 ·rcases h2 b hb with h | h
  ·exact .inl h
  ·obtain⟨x,hx,hb'⟩:=List.mem_flatMap.1 h
   exact .inr ⟨x,hx,hb'⟩
 ·obtain⟨x,hx,hb'⟩:=List.mem_flatMap.1 hm
  exact h.ap x hx g hb' hg
theorem RowG.len_eq {g n cap:Nat} (h:RowG S base e (.slice (some ⟨g,0,none⟩) n cap) L w):L.length=n:=by
 rcases h.row.2 with⟨h',_⟩ | ⟨g',cap',cur,h',_⟩
 ·cases h'
 ·simp only [Value.slice.injEq] at h';exact h'.2.1.symm
theorem RowG.frozen {g n cap:Nat} (h:RowG S base e (.slice (some ⟨g,0,none⟩) n cap) L w) (o:Nat):w.frozen? ⟨g,o,none⟩=false:=by
 rcases h.row.2 with⟨h',_⟩ | ⟨g',cap',cur,h',_,hg,_⟩
 ·cases h'
 ·simp only [Value.slice.injEq,Qi,Addr.mk.injEq,and_true] at h'
  obtain⟨rfl,_⟩:=h'
  exact frozen_of_row w g o cur e hg
theorem RowG.cellAt {g n cap:Nat} (h:RowG S base e (.slice (some ⟨g,0,none⟩) n cap) L w) {k:Nat} (hk:k<L.length) {j:Nat} (hj:j<S.m) {u:Value} (hu:L[k].cells[j]?=some u):w.cell? ⟨g,k * S.m+j,none⟩=some u:=by
 have hn:L.length=n:=h.len_eq
 subst hn
 rw [h.row.cellAt (k * S.m+j) (by have:(k+1) * S.m<=L.length * S.m:=Nat.mul_le_mul_right _ hk;rw [Nat.succ_mul] at this;omega)]
 exact(Zbu (f:=Elem.cells) h.len hk hj).trans hu
theorem RowG.set {g n cap:Nat} (h:RowG S base e (.slice (some ⟨g,0,none⟩) n cap) L w) {k:Nat} (hk:k<L.length) {j:Nat} (hj:j<S.m) (u:Value) (x':Elem α) (hx:x'.cells=L[k].cells.set j u)
  (hR:S.R w x'.cells x'.d x'.fp) (hn:∀ b∈x'.fp,b<base) :
  RowG S base e (.slice (some ⟨g,0,none⟩) n cap) (L.set k x') (w.setCell ⟨g,k * S.m+j,none⟩ u):=by
 have hblk:∀ b:Nat,b≠g->(w.setCell ⟨g,k * S.m+j,none⟩ u).heap[b]?=w.heap[b]?:=λ b hb=>Below.heap_setCell _ _ _ _ hb
 have hmem:∀ x∈L.set k x',x=x'\/x∈L:=λ x hx=>by
  rcases List.mem_or_eq_of_mem_set hx with h | h
  ·exact .inr h
  ·exact .inl h
 have hne:∀ x∈L,∀ b∈x.fp,b≠g:=λ x hx b hb e=>h.ap x hx b hb (by rw [e];rfl)
 refine ⟨?_,λ x hx'=>?_,λ x hx'=>?_,λ x hx'=>?_⟩
 ·have hn:=h.len_eq
  have hrow:=h.row
  rw [hn] at hrow
  have:=(hrow.stored (k * S.m+j) u).1
  rw [ZdJ h.len hk hj u x' hx] at this
  rw [List.length_set,hn]
  exact this
 ·rcases hmem x hx' with rfl | hx'
  ·rw [hx,List.length_set];exact h.len _ (List.getElem_mem hk)
  ·exact h.len x hx'
 ·rcases hmem x hx' with rfl | hx'
  ·exact S.frame (λ b hb=>hblk b (λ e=>by have h1:=hn b hb;have h2:=(h.row.lt g rfl).1;omega)) hR
  ·exact S.frame (λ b hb=>hblk b (hne x hx' b hb)) (h.el x hx')
 ·rcases hmem x hx' with rfl | hx'
  ·exact hn
  ·exact h.hi x hx'
theorem RowG.appended (h:RowG S base e v L w) {X:List (Elem α)} (hrow:w'.ownsRow base e S.m v' (L++X).length ((L++X).flatMap (·.cells))) (hg:w.grownBy w' v.ownBlock)
  (hX:∀ x∈X,x.cells.length=S.m/\S.R w x.cells x.d x.fp/\∀ b∈x.fp,b<base) :
  RowG S base e v' (L++X) w':=by
 have hall:∀ x∈L++X,x.cells.length=S.m/\S.R w x.cells x.d x.fp/\∀ b∈x.fp,b<base:=λ x hx=>by
  rcases Qa hx with hx | hx
  ·exact⟨h.len x hx,h.el x hx,h.hi x hx⟩
  ·exact hX x hx
 refine ⟨hrow,λ x hx=>(hall x hx).1,λ x hx=>?_,λ x hx=>(hall x hx).2.2⟩
 refine S.frame (λ b hb=>hg.block b (S.lt (hall x hx).2.1 b hb) λ hv=>?_) (hall x hx).2.1
 have h1:=(hall x hx).2.2 b hb
 have h2:=(h.row.lt b hv.symm).1
 omega
end
theorem Zkw {α:Type} {S:Shape α} {w:World} {u:Value} {M:List α} {fp:List Nat} (H:(Zaa S).R w [u] M fp) :
  ∃ (X:List (Elem α)) (a:Option Addr) (cap:Nat),X.map (·.d)=M/\X.length=M.length/\u=.slice a M.length cap/\M.length<=maxLen/\(∀ x∈X,x.cells.length=S.m/\S.R w x.cells x.d x.fp/\∀ b∈x.fp,b∈fp) /\
   (0<M.length->∃ b off,a=some ⟨b,off,none⟩/\b<w.heap.size/\∀ k,(hk:k<X.length)->ElemAt w b off S.m k X[k].cells):=by
 obtain⟨a,cap,rfl,hc,hm,hrow⟩:=Zac H
 by_cases h0:0<M.length
 ·obtain⟨b,off,fps,rfl,hb,hfp,he⟩:=hrow h0
  have key:∀ k:Fin M.length,∃ x:Elem α,x.d=M[k.1]/\x.fp=fps k.1/\ElemAt w b off S.m k.1 x.cells/\S.R w x.cells x.d x.fp:=λ k=>by
   obtain⟨es,hE,hR⟩:=he k.1 k.2
   exact⟨⟨es,M[k.1],fps k.1⟩,rfl,rfl,hE,hR⟩
  let X:List (Elem α):=List.ofFn λ k:Fin M.length=>(key k).choose
  have hXl:X.length=M.length:=by simp [X]
  have hX:∀ k,(hk:k<X.length)->∃ hk':k<M.length,X[k]=(key ⟨k,hk'⟩).choose:=λ k hk=>⟨by omega,by simp [X]⟩
  refine ⟨X,_,cap,?_,hXl,rfl,by omega,λ x hx=>?_,λ _=>⟨b,off,rfl,hb,λ k hk=>?_⟩⟩
  ·apply List.ext_getElem
   ·simp [hXl]
   ·intro k h1 h2
    rw [List.getElem_map]
    obtain⟨hk',e⟩:=hX k (by simpa using h1)
    rw [e]
    exact(key ⟨k,hk'⟩).choose_spec.1
  ·obtain⟨k,hk,rfl⟩:=List.getElem_of_mem hx
   obtain⟨hk',e⟩:=hX k hk
   obtain⟨s1,s2,s3,s4⟩:=(key ⟨k,hk'⟩).choose_spec
   rw [e]
   refine ⟨s3.1,s4,λ c hc=>?_⟩
   rw [s2] at hc
   rw [hfp]
   exact List.mem_cons_of_mem _ (List.mem_flatMap.2 ⟨k,List.mem_range.2 hk',hc⟩)
  ·obtain⟨hk',e⟩:=hX k hk
   rw [e]
   exact(key ⟨k,hk'⟩).choose_spec.2.2.1
 ·have hM:M=[]:=List.length_eq_zero_iff.1 (by omega)
  subst hM
  exact⟨[],a,cap,rfl,rfl,rfl,by unfold maxLen;simp,by simp,λ h=>absurd h (by simp)⟩
theorem ZiI {α:Type} {S:Shape α} {P:Program} {t e:TypeId} {z:Value} {bytes:Nat} (ti:TI P t e z S.m bytes) (hzs:z.cells.size=S.m) (h0:0<S.m) (w:World) {L X:List (Elem α)} {ops:Array Oper} {rest:List Oper} {o:Oper} {a:Act} {Q:Exit->Act->World->Prop}
  (hg:o.guard=none) (s y:Operand) (ho:o.op=.call { callee:=.builtin .append,args:=#[s,y],argTypes:=#[t,t] })
  (base:Nat) (v:Value) (hs:a.eval s=v) (hown:RowG S base e v L w) (g off m c:Nat) (hy:a.eval y=.slice (some ⟨g,off,none⟩) m c) (hm:X.length=m)
  (hX:∀ x∈X,x.cells.length=S.m/\S.R w x.cells x.d x.fp/\∀ b∈x.fp,b<base) (h1:∀ x∈X,∀ u∈x.cells,u.oneCell'=true) (hcell:∀ j u,(X.flatMap (·.cells))[j]?=some u->w.cell? ⟨g,off+j,none⟩=some u)
  (h63:L.length+m<=maxLen) (hbytes:(L.length+m) * bytes<=140737488355328) (hbase:base<=w.heap.size)
  (h:∀ v' w',RowG S base e v' (L++X) w'->w.grownBy w' v.ownBlock->wpList P ops Q rest (a.put o.dst v') w'):wpList P ops Q (o::rest) a w:=by
 obtain⟨i,hi,hz0,hz1,hz2⟩:=info_parts ti.2
 subst hm
 refine wpList_append_own _ hg s y t ho base e i z S.m bytes ti.1 hi hz0 hz1 hz2 hzs h0 v L.length _ hs hown.row ⟨g,off,none⟩ X.length c (X.flatMap (·.cells)) hy (ZaB (f:=Elem.cells) λ x hx=>(hX x hx).1) ?_ ?_ h63 hbytes hbase λ v' w' r1 r2 _=>h v' w' ?_ r2
 ·intro j u hj
  rw [Addr.add_lit]
  exact hcell j u hj
 ·intro u hu
  obtain⟨x,hx,hu⟩:=List.mem_flatMap.1 hu
  exact h1 x hx u hu
 ·refine hown.appended ?_ r2 hX
  rw [List.length_append,List.flatMap_append]
  exact r1
theorem Zhg {P:Program} {w:World} (base:Nat) (t ty e:TypeId) (i:TypeInfo) (size c:Nat) (ht:P.underlying t=some (.slice e)) (hi:P.info? e=some i)
  (v:Value) (n:Nat) (xs:List Value) (hown:w.ownsRow base e size v n xs):(Builtin.append_ #[t,t] ty #[v,.slice none 0 c]).run P w=.ok v w:=by
 rcases hown.2 with⟨rfl,rfl⟩ | ⟨g,cap,cur,rfl,_,_,hnc,_⟩
 ·simp [Builtin.append_,run_underlying ht,sizeOf,typeInfo,hi,Builtin.lenOf,Builtin.firstCells]
 ·simp [Builtin.append_,run_underlying ht,sizeOf,typeInfo,hi,Builtin.lenOf,Builtin.firstCells,hnc,storeCells]
theorem ZiJ {α:Type} {S:Shape α} {P:Program} {t e:TypeId} {z:Value} {bytes:Nat} (ti:TI P t e z S.m bytes) (hzs:z.cells.size=S.m) (h0:0<S.m) (hone:∀ w cs x fp,S.R w cs x fp->∀ u∈cs,u.oneCell'=true) (w:World) {L:List (Elem α)} {ops:Array Oper} {rest:List Oper} {o:Oper} {a:Act} {Q:Exit->Act->World->Prop}
  (hg:o.guard=none) (s y:Operand) (ho:o.op=.call { callee:=.builtin .append,args:=#[s,y],argTypes:=#[t,t] })
  (base:Nat) (v u:Value) (M:List α) (fp:List Nat) (hs:a.eval s=v) (hown:RowG S base e v L w) (hy:a.eval y=u) (HM:(Zaa S).R w [u] M fp) (hfp:∀ b∈fp,b<base)
  (h63:L.length+M.length<=maxLen) (hbytes:(L.length+M.length) * bytes<=140737488355328) (hbase:base<=w.heap.size)
  (h:∀ v' X w',X.map (·.d)=M->(∀ x∈X,∀ b∈x.fp,b∈fp)->RowG S base e v' (L++X) w'->w.grownBy w' v.ownBlock->wpList P ops Q rest (a.put o.dst v') w'):wpList P ops Q (o::rest) a w:=by
 obtain⟨X,ad,cap,hXM,hXl,rfl,hmm,hX,hat⟩:=Zkw HM
 rw [← hXl] at h63 hbytes
 by_cases hM:0<M.length
 ·obtain⟨b,off,rfl,hb,hE⟩:=hat hM
  refine ZiI ti hzs h0 w (X:=X) hg s y ho base v hs hown b off M.length cap hy hXl (λ x hx=>⟨(hX x hx).1,(hX x hx).2.1,λ c hc=>hfp c ((hX x hx).2.2 c hc)⟩) (λ x hx=>hone _ _ _ _ (hX x hx).2.1) ?_ (by rw [← hXl];exact h63) (by rw [← hXl];exact hbytes) hbase λ v' w' r1 r2=>h v' X w' hXM (λ x hx=>(hX x hx).2.2) r1 r2
  intro j u hj
  have hjl:j<X.length * S.m:=by
   have:=(List.getElem?_eq_some_iff.1 hj).1
   rwa [ZaB (f:=Elem.cells) λ x hx=>(hX x hx).1] at this
  have hk:j / S.m<X.length:=Nat.div_lt_of_lt_mul (by rw [Nat.mul_comm];exact hjl)
  have hr:j % S.m<S.m:=Nat.mod_lt _ h0
  have hj2:j / S.m * S.m+j % S.m=j:=Nat.div_add_mod' _ _
  rw [← hj2,Zbu (f:=Elem.cells) (λ x hx=>(hX x hx).1) hk hr] at hj
  have:=(hE (j / S.m) hk).2 (j % S.m) hr
  rw [Nat.add_assoc,hj2] at this
  rw [this]
  exact hj
 ·have hX0:X=[]:=List.length_eq_zero_iff.1 (by omega)
  have hM0:M.length=0:=by omega
  subst hX0
  obtain⟨i,hi,hz0,hz1,hz2⟩:=info_parts ti.2
  have hdone:wpList P ops Q rest (a.put o.dst v) w:=h v [] w (by simpa using hXM) (by simp) (by simpa using hown) ⟨rfl,rfl,rfl,Nat.le_refl _,λ _ _ _=>rfl⟩
  rw [hM0] at hy
  cases ad with
  |
   none =>
   have hrun:=Zhg (P:=P) (w:=w) base _ o.type _ i S.m cap ti.1 hi v L.length _ hown.row
   refine wpList_plain hg λ K hK'=>?_
   unfold Oper.wp
   simp [execOp,ho,resolve,invoke,builtin,hs,hy,hrun,Result.andThen]
   exact hK' _ _ hdone
  |
   some ad =>
   refine wpList_append_own _ hg s y t ho base e i z S.m bytes ti.1 hi hz0 hz1 hz2 hzs h0 v L.length _ hs hown.row ad 0 cap [] hy (by simp) (by simp) (by simp) (by omega) (by simpa using hbytes) hbase λ v' w' r1 r2 _=>h v' [] w' (by simpa using hXM) (by simp) ?_ r2
   exact hown.appended (X:=[]) (by have h1':=r1;simp only [Nat.add_zero,List.append_nil] at h1' ⊢;exact h1') r2 (by simp)
def OwnMac (x:DMacro) (w:World) (e:Ending) (w':World):Prop:=
 ∃ (a2 a3:Option Addr) (c2 c3:Nat) (fp:List Nat),e=.returned (.agg #[.string x.name,.bool x.function,.slice a2 x.params.length c2,.slice a3 x.body.length c3])/\sMacro.R w' [.string x.name,.bool x.function,.slice a2 x.params.length c2,.slice a3 x.body.length c3] x fp /\
  (∀ b∈fp,w.heap.size<=b)/\NoMac w' fp/\Below w.heap.size w w'
def setM (w:World) (g:Nat) (v0 v1 v2 v3:Value):World:=(((w.setCell ⟨g,0,none⟩ v0).setCell ⟨g,1,none⟩ v1).setCell ⟨g,2,none⟩ v2).setCell ⟨g,3,none⟩ v3
theorem Zl8 {w:World} {g:Nat} {z0 z1 z2 z3:Value} {ty:TypeId} (h:w.heap[g]?=some (.cells #[z0,z1,z2,z3] ty (0,0))) (v0 v1 v2 v3:Value) :
  (setM w g v0 v1 v2 v3).heap[g]?=some (.cells #[v0,v1,v2,v3] ty (0,0)):=Zah (Zah (Zah (Zah h 0 _) 1 _) 2 _) 3 _
theorem Zds {w:World} {g b:Nat} (h:b≠g) (v0 v1 v2 v3:Value):(setM w g v0 v1 v2 v3).heap[b]?=w.heap[b]?:=by
 unfold setM
 rw [Below.heap_setCell _ _ _ _ h,Below.heap_setCell _ _ _ _ h,Below.heap_setCell _ _ _ _ h,Below.heap_setCell _ _ _ _ h]
theorem Zh2 {B:Nat} {w0 w:World} (hB:Below B w0 w) {g:Nat} (hg:B<=g) (v0 v1 v2 v3:Value):Below B w0 (setM w g v0 v1 v2 v3):=
 ((((hB).setCell (p:=⟨g,0,none⟩) hg v0).setCell (p:=⟨g,1,none⟩) hg v1).setCell (p:=⟨g,2,none⟩) hg v2).setCell (p:=⟨g,3,none⟩) hg v3
theorem NoMac.app {w:World} {a b:List Nat} (h1:NoMac w a) (h2:NoMac w b):NoMac w (a++b):=λ c hc=>by
 rcases Qa hc with h | h
 ·exact h1 c h
 ·exact h2 c h
theorem Zc5 (cs:List Value) (x:DMacro) (fp:List Nat) (w:World) (hp:x.params.length<=2000000) (hl:x.body.length<=1048576) (hx:∀ k,(hk:k<x.body.length)->x.body[k].hidden.length<=2000000) (H:sMacro.R w cs x fp) :
  Calls Tryz.prog 66 #[.agg cs.toArray] w (OwnMac x w):=by
 obtain⟨h2,h3,p2,p3,rfl,hok,K2,K3,rfl⟩:=H
 obtain⟨a2,c2,rfl,-,-,-,hsz⟩:=Zaf K2
 obtain⟨a3,c3,rfl,-⟩:=Zac K3
 have hb3:=ZhF w #[.string x.name,.bool x.function,.slice a2 x.params.length c2,.slice a3 x.body.length c3] #[.string ⟨#[]⟩,.bool false,.slice none 0 0,.slice none 0 0] #[.string x.name,.bool x.function,.slice a2 x.params.length c2,.slice a3 x.body.length c3] 70 70 70
 have g0:=ZdI w #[.string x.name,.bool x.function,.slice a2 x.params.length c2,.slice a3 x.body.length c3] #[.string ⟨#[]⟩,.bool false,.slice none 0 0,.slice none 0 0] #[.string x.name,.bool x.function,.slice a2 x.params.length c2,.slice a3 x.body.length c3] 70 70 70
 obtain⟨g1,g2,hs3⟩:=ZdX w #[.string x.name,.bool x.function,.slice a2 x.params.length c2,.slice a3 x.body.length c3] #[.string ⟨#[]⟩,.bool false,.slice none 0 0,.slice none 0 0] #[.string x.name,.bool x.function,.slice a2 x.params.length c2,.slice a3 x.body.length c3] 70 70 70
 have HK2:=Qh ((Zaa sStr).below K2 hb3)
 have HK3:=Qh ((Zaa sTok).below K3 hb3)
 have HSZ:=Qh hsz
 have HX:=Qh hx
 have HPL:Hid (∀ b∈p3,b<w.heap.size):=λ b hb=>(Zaa sTok).lt K3 b hb
 clear K2 K3 hsz hx
 obtain⟨hv,HV⟩:∃ hv:Value,Hid (hv=Value.slice a2 x.params.length c2):=⟨_,rfl⟩
 go_enter Tryz.func66,Tryz.ntmps66
 go_upto_region 2 with fail
 generalize (((w.alloc (.cells #[.string x.name,.bool x.function,.slice a2 x.params.length c2,.slice a3 x.body.length c3] 70)).alloc (.cells #[.string ⟨#[]⟩,.bool false,.slice none 0 0,.slice none 0 0] 70)).alloc (.cells #[.string x.name,.bool x.function,.slice a2 x.params.length c2,.slice a3 x.body.length c3] 70))=W3 at *
 have hba:=Zab W3 (.cells #[] 9)
 have c02:(W3.alloc (.cells #[] 9)).cell? ⟨w.heap.size,2,none⟩=some hv:=by
  rw [HV.out]
  exact(hba.cell (p:=⟨w.heap.size,2,none⟩) (by show w.heap.size<_;omega)).trans (Qc 2 g0)
 have hlit:Hid ((W3.alloc (.cells #[] 9)).ownsRow W3.heap.size 9 1 (.slice (some ⟨W3.heap.size,0,none⟩) 0 0) ([]:List ByteArray).length (([]:List ByteArray).map Value.string)):=
  World.ownsRow_lit (base:=W3.heap.size) (e:=9) (size:=1) W3 #[] 0 (Nat.le_refl _) (by simp) rfl
 have HKV:Hid ((Zaa sStr).R (W3.alloc (.cells #[] 9)) [hv] x.params p2):=by show (Zaa sStr).R _ _ _ _;rw [HV.out];exact(Zaa sStr).below HK2.out hba
 have HG:=Qh (And.intro g0 (And.intro g1 (And.intro g2 hs3)))
 have hb4:=Qh (hb3.trans (hba.mono hb3.size))
 clear g0 g1 g2 hb3 hs3 hba
 go_wp2_with (
  at_builtin
  refine Zbb rfl (.tmp 5) (.tmp 7) rfl W3.heap.size (.slice (some ⟨W3.heap.size,0,none⟩) 0 0) hv [] x.params _ rfl hlit.out rfl HKV.out (by simp;omega) (by simp) ?_
  intro v5 w1 hown hgrow
  rw [List.nil_append] at hown
  obtain⟨fp1,R1,O1,hfp⟩:=Za6 (ok:=okStr) hown HSZ.out
  have hs3:=HG.out.2.2.2
  have hblk:∀ k,k<W3.heap.size->w1.heap[k]?=W3.heap[k]?:=λ k hk=>(hgrow.block k (by simp;omega) (by simp [Value.ownBlock];omega)).trans ((Zab W3 _).block k hk)
  have HG1:Hid (w1.heap[w.heap.size]?=some (.cells #[.string x.name,.bool x.function,.slice a2 x.params.length c2,.slice a3 x.body.length c3] 70 (0,0))/\w1.heap[w.heap.size+1]?=some (.cells #[.string ⟨#[]⟩,.bool false,.slice none 0 0,.slice none 0 0] 70 (0,0))/\w1.heap[w.heap.size+1+1]?=some (.cells #[.string x.name,.bool x.function,.slice a2 x.params.length c2,.slice a3 x.body.length c3] 70 (0,0))):=
   ⟨(hblk _ (by omega)).trans HG.out.1,(hblk _ (by omega)).trans HG.out.2.1,(hblk _ (by omega)).trans HG.out.2.2.1⟩
  have hb:Below w.heap.size w w1:=hb4.out.grown hgrow (by simp;omega) (λ b hb=>by simp [Value.ownBlock] at hb;omega)
  have hbW:Below W3.heap.size W3 w1:=((Below.refl W3.heap.size W3).alloc (Nat.le_refl _) (.cells #[] 9)).grown hgrow (by simp) (λ b hb=>by simp [Value.ownBlock] at hb;omega)
  have hty:NoMac w1 fp1:=λ b hb'=>by
   have hv:=hfp b hb'
   rcases hown.2 with⟨rfl,_⟩ | ⟨g,cap,cur,rfl,_,hg,_⟩
   ·simp [Value.ownBlock] at hv
   ·simp only [Value.ownBlock,Qi] at hv
    subst hv
    exact⟨_,_,_,hg,by decide⟩
  have hlo:∀ b∈fp1,w.heap.size+3<=b:=λ b hb=>by have:=(O1.2 b hb).1;omega
  have hK3':=(Zaa sTok).below HK3.out hbW
  have hW1:w.heap.size+3<=w1.heap.size:=by have:=hbW.size;omega
  clear HG hblk hgrow hown hfp O1 c02 hb4 HKV hlit hs3 hbW
  obtain⟨a1,cap1,rfl,hq⟩:=Zac R1
  clear hq
  have c22:=Qc 2 HG1.out.2.2
  have f22:=Qf 2 HG1.out.2.2
  have e03:=Qc 3 HG1.out.1
  have far:∀ b,b≠w.heap.size+1+1->(w1.setCell ⟨w.heap.size+1+1,2,none⟩ (.slice a1 x.params.length cap1)).heap[b]?=w1.heap[b]?:=λ b hb=>Below.heap_setCell _ _ _ _ hb
  have e03':(w1.setCell ⟨w.heap.size+1+1,2,none⟩ (.slice a1 x.params.length cap1)).cell? ⟨w.heap.size,3,none⟩=some (.slice a3 x.body.length c3):=Qc 3 ((far _ (by omega)).trans HG1.out.1)
  have HG2:Hid ((w1.setCell ⟨w.heap.size+1+1,2,none⟩ (.slice a1 x.params.length cap1)).heap[w.heap.size+1]?=some (.cells #[.string ⟨#[]⟩,.bool false,.slice none 0 0,.slice none 0 0] 70 (0,0))/\(w1.setCell ⟨w.heap.size+1+1,2,none⟩ (.slice a1 x.params.length cap1)).heap[w.heap.size+1+1]?=some (.cells #[.string x.name,.bool x.function,.slice a1 x.params.length cap1,.slice a3 x.body.length c3] 70 (0,0))):=
   ⟨(far _ (by omega)).trans HG1.out.2.1,Zah HG1.out.2.2 2 _⟩
  have HR2:Hid ((Zaa sStr).R (w1.setCell ⟨w.heap.size+1+1,2,none⟩ (.slice a1 x.params.length cap1)) [.slice a1 x.params.length cap1] x.params fp1):=(Zaa sStr).frame (λ b hb=>far b (by have:=hlo b hb;omega)) R1
  have HNM2:Hid (NoMac (w1.setCell ⟨w.heap.size+1+1,2,none⟩ (.slice a1 x.params.length cap1)) fp1):=hty.same λ b hb _=>far b (by have:=hlo b hb;omega)
  have HP3:Hid (∀ b∈p3,b≠w.heap.size+1+1):=λ b hb=>by have:=HPL.out b hb;omega
  have HK4:Hid ((Zaa sTok).R (w1.setCell ⟨w.heap.size+1+1,2,none⟩ (.slice a1 x.params.length cap1)) [.slice a3 x.body.length c3] x.body p3):=(Zaa sTok).frame (λ b hb=>far b (HP3.out b hb)) hK3'
  have HB2:=Qh (hb.setCell (p:=⟨w.heap.size+1+1,2,none⟩) (by show w.heap.size<=w.heap.size+1+1;omega) (.slice a1 x.params.length cap1))
  have HLO1:=Qh hlo
  have HS2:Hid ((w1.setCell ⟨w.heap.size+1+1,2,none⟩ (.slice a1 x.params.length cap1)).heap.size=w1.heap.size):=by show _=_;simp
  clear HG1 hty hlo hb R1 far hK3' HK3)
 have hs2:=HS2.out
 generalize (w1.setCell ⟨w.heap.size+1+1,2,none⟩ (.slice a1 x.params.length cap1))=w2 at *
 clear c22 f22 e03
 refine (ZcR _ x.body p3 w2 hl HX.out HK4.out).mono ?_
 rintro e w3 ⟨v3,fp3,rfl,R3,hlo3,hn3,hb3⟩
 obtain⟨a4,c4,rfl,-⟩:=Zac R3
 have hs3:=hb3.size
 have HG3:Hid (w3.heap[w.heap.size+1]?=some (.cells #[.string ⟨#[]⟩,.bool false,.slice none 0 0,.slice none 0 0] 70 (0,0))/\w3.heap[w.heap.size+1+1]?=some (.cells #[.string x.name,.bool x.function,.slice a1 x.params.length cap1,.slice a3 x.body.length c3] 70 (0,0))):=
  ⟨(hb3.block _ (by omega)).trans HG2.out.1,(hb3.block _ (by omega)).trans HG2.out.2⟩
 have far:∀ b,b≠w.heap.size+1+1->(w3.setCell ⟨w.heap.size+1+1,3,none⟩ (.slice a4 x.body.length c4)).heap[b]?=w3.heap[b]?:=λ b hb=>Below.heap_setCell _ _ _ _ hb
 have HG4:Hid ((w3.setCell ⟨w.heap.size+1+1,3,none⟩ (.slice a4 x.body.length c4)).heap[w.heap.size+1]?=some (.cells #[.string ⟨#[]⟩,.bool false,.slice none 0 0,.slice none 0 0] 70 (0,0))/\(w3.setCell ⟨w.heap.size+1+1,3,none⟩ (.slice a4 x.body.length c4)).heap[w.heap.size+1+1]?=some (.cells #[.string x.name,.bool x.function,.slice a1 x.params.length cap1,.slice a4 x.body.length c4] 70 (0,0))):=
  ⟨(far _ (by omega)).trans HG3.out.1,Zah HG3.out.2 3 _⟩
 have HRF:Hid (sMacro.R (setM (w3.setCell ⟨w.heap.size+1+1,3,none⟩ (.slice a4 x.body.length c4)) (w.heap.size+1) (.string x.name) (.bool x.function) (.slice a1 x.params.length cap1) (.slice a4 x.body.length c4)) [.string x.name,.bool x.function,.slice a1 x.params.length cap1,.slice a4 x.body.length c4] x (fp1++fp3)):=
  ⟨_,_,fp1,fp3,rfl,hok,(Zaa sStr).frame (λ b hb=>(Zds (by have:=HLO1.out b hb;omega) _ _ _ _).trans (far b (by have:=HLO1.out b hb;omega))) ((Zaa sStr).below HR2.out hb3),(Zaa sTok).frame (λ b hb=>(Zds (by have:=hlo3 b hb;omega) _ _ _ _).trans (far b (by have:=hlo3 b hb;omega))) R3,rfl⟩
 have HNF:Hid (NoMac (setM (w3.setCell ⟨w.heap.size+1+1,3,none⟩ (.slice a4 x.body.length c4)) (w.heap.size+1) (.string x.name) (.bool x.function) (.slice a1 x.params.length cap1) (.slice a4 x.body.length c4)) (fp1++fp3)):=
  NoMac.app ((HNM2.out.below hb3).same λ b hb _=>(Zds (by have:=HLO1.out b hb;omega) _ _ _ _).trans (far b (by have:=HLO1.out b hb;omega))) (hn3.same λ b hb _=>(Zds (by have:=hlo3 b hb;omega) _ _ _ _).trans (far b (by have:=hlo3 b hb;omega)))
 have HLF:Hid (∀ b∈fp1++fp3,w.heap.size<=b):=λ b hb=>by
  rcases Qa hb with h | h
  ·have:=HLO1.out b h;omega
  ·have:=hlo3 b h;omega
 have HBF:=Qh (Zh2 (g:=w.heap.size+1) ((HB2.out.trans (hb3.mono HB2.out.size)).setCell (p:=⟨w.heap.size+1+1,3,none⟩) (by show w.heap.size<=w.heap.size+1+1;omega) (.slice a4 x.body.length c4)) (by omega) (.string x.name) (.bool x.function) (.slice a1 x.params.length cap1) (.slice a4 x.body.length c4))
 have HSF:=Qh (Zl8 HG4.out.1 (.string x.name) (.bool x.function) (.slice a1 x.params.length cap1) (.slice a4 x.body.length c4))
 have d3:=Qc 3 HG3.out.2
 have df3:=Qf 3 HG3.out.2
 clear far HG2 HG3 HR2 HNM2 HK4 HB2 HLO1 hb3 hn3 hlo3 R3 HP3
 have y0:(w3.setCell ⟨w.heap.size+1+1,3,none⟩ (.slice a4 x.body.length c4)).cell? ⟨w.heap.size+1+1,0,none⟩=some (.string x.name):=Qc 0 HG4.out.2
 have z0:(w3.setCell ⟨w.heap.size+1+1,3,none⟩ (.slice a4 x.body.length c4)).cell? ⟨w.heap.size+1,0,none⟩=some (.string ⟨#[]⟩):=Qc 0 HG4.out.1
 have zf0:(w3.setCell ⟨w.heap.size+1+1,3,none⟩ (.slice a4 x.body.length c4)).frozen? ⟨w.heap.size+1,0,none⟩=false:=frozen_of_row _ _ 0 _ _ HG4.out.1
 have y1:(w3.setCell ⟨w.heap.size+1+1,3,none⟩ (.slice a4 x.body.length c4)).cell? ⟨w.heap.size+1+1,1,none⟩=some (.bool x.function):=Qc 1 HG4.out.2
 have z1:(w3.setCell ⟨w.heap.size+1+1,3,none⟩ (.slice a4 x.body.length c4)).cell? ⟨w.heap.size+1,1,none⟩=some (.bool false):=Qc 1 HG4.out.1
 have zf1:(w3.setCell ⟨w.heap.size+1+1,3,none⟩ (.slice a4 x.body.length c4)).frozen? ⟨w.heap.size+1,1,none⟩=false:=frozen_of_row _ _ 1 _ _ HG4.out.1
 have y2:(w3.setCell ⟨w.heap.size+1+1,3,none⟩ (.slice a4 x.body.length c4)).cell? ⟨w.heap.size+1+1,2,none⟩=some (.slice a1 x.params.length cap1):=Qc 2 HG4.out.2
 have z2:(w3.setCell ⟨w.heap.size+1+1,3,none⟩ (.slice a4 x.body.length c4)).cell? ⟨w.heap.size+1,2,none⟩=some (.slice none 0 0):=Qc 2 HG4.out.1
 have zf2:(w3.setCell ⟨w.heap.size+1+1,3,none⟩ (.slice a4 x.body.length c4)).frozen? ⟨w.heap.size+1,2,none⟩=false:=frozen_of_row _ _ 2 _ _ HG4.out.1
 have y3:(w3.setCell ⟨w.heap.size+1+1,3,none⟩ (.slice a4 x.body.length c4)).cell? ⟨w.heap.size+1+1,3,none⟩=some (.slice a4 x.body.length c4):=Qc 3 HG4.out.2
 have z3:(w3.setCell ⟨w.heap.size+1+1,3,none⟩ (.slice a4 x.body.length c4)).cell? ⟨w.heap.size+1,3,none⟩=some (.slice none 0 0):=Qc 3 HG4.out.1
 have zf3:(w3.setCell ⟨w.heap.size+1+1,3,none⟩ (.slice a4 x.body.length c4)).frozen? ⟨w.heap.size+1,3,none⟩=false:=frozen_of_row _ _ 3 _ _ HG4.out.1
 go_wp2
 refine bodyPost_ret (results_cell_row rfl _ _ (w.heap.size+1) _ _ _ _ rfl HSF.out Tryz.underlying70 rfl (by kernel_rfl)) rfl ?_
 exact⟨a1,a4,cap1,c4,fp1++fp3,rfl,HRF.out,HLF.out,HNF.out,HBF.out⟩
theorem Zbt:TI Tryz.prog 23 70 (.agg #[.string ⟨#[]⟩,.bool false,.slice none 0 0,.slice none 0 0]) 4 72:=⟨by kernel_rfl,by kernel_rfl⟩
theorem Zch (w:World) (cs:List Value) (x:DMacro) (fp:List Nat) (h:sMacro.R w cs x fp):∀ u∈cs,u.oneCell'=true:=by
 obtain⟨h2,h3,p2,p3,rfl,-,K2,K3,-⟩:=h
 obtain⟨a2,c2,rfl,-⟩:=Zaf K2
 obtain⟨a3,c3,rfl,-⟩:=Zac K3
 intro u hu
 simp only [List.mem_cons,List.not_mem_nil,or_false] at hu
 rcases hu with rfl | rfl | rfl | rfl <;> rfl
theorem ZiK {w:World} {ops:Array Oper} {rest:List Oper} {o:Oper} {a:Act} {Q:Exit->Act->World->Prop} (hg:o.guard=none) (s y:Operand)
  (ho:o.op=.call { callee:=.builtin .append,args:=#[s,y],argTypes:=#[23,23] })
  (base:Nat) (v:Value) (L:List (Elem DMacro)) (hs:a.eval s=v) (hown:RowE sMacro base 70 v L w) (nm:ByteArray) (f:Bool) (a2 a3:Option Addr) (n2 c2 n3 c3:Nat) (d:DMacro) (fp:List Nat)
  (hy:a.eval y=.slice (some ⟨w.heap.size,0,none⟩) 1 1) (hR:sMacro.R w [.string nm,.bool f,.slice a2 n2 c2,.slice a3 n3 c3] d fp) (hlo:∀ b∈fp,base<=b) (hty:NoMac w fp)
  (h63:L.length<=1500000) (hbase:base<=w.heap.size)
  (h:∀ v' w',RowE sMacro base 70 v' (L++[⟨[.string nm,.bool f,.slice a2 n2 c2,.slice a3 n3 c3],d,fp⟩]) w'->w.grownBy w' v.ownBlock->wpList Tryz.prog ops Q rest (a.put o.dst v') w') :
  wpList Tryz.prog ops Q (o::rest) a (w.alloc (.cells #[.string nm,.bool f,.slice a2 n2 c2,.slice a3 n3 c3] 70)):=by
 have hb:=Zab w (.cells #[.string nm,.bool f,.slice a2 n2 c2,.slice a3 n3 c3] 70)
 refine Ze1 (S:=sMacro) Zbt rfl (by decide) _ (X:=[⟨[.string nm,.bool f,.slice a2 n2 c2,.slice a3 n3 c3],d,fp⟩]) hg s y ho base v hs (hown.below hb) w.heap.size 1 1 hy rfl ?_ ?_ ?_ ?_ ?_ ?_ (by unfold maxLen;omega) (by omega) (by simp;omega) λ v' w' a b=>h v' w' a (ZdF (World.grownBy_alloc _ _ _) b)
 ·intro x hx;obtain rfl:=Qm hx;rfl
 ·intro x hx;obtain rfl:=Qm hx;simp [Value.oneCell']
 ·intro j u hj
  rw [World.cell?_alloc_at _ _ _ _ rfl]
  simpa using hj
 ·intro x hx;obtain rfl:=Qm hx;exact sMacro.below hR hb
 ·intro x hx;obtain rfl:=Qm hx;exact hlo
 ·intro x hx b' hb'
  obtain rfl:=Qm hx
  obtain⟨cur,t,fr,h1,h2⟩:=hty b' hb'
  exact⟨cur,t,fr,(hb.block b' (Qg h1).1).trans h1,h2⟩
def MacSm (x:DMacro):Prop:=x.params.length<=2000000/\x.body.length<=1048576/\∀ k,(hk:k<x.body.length)->x.body[k].hidden.length<=2000000
def OwnTab (l:List DMacro) (w:World) (e:Ending) (w':World):Prop:=∃ v fp,e=.returned v/\(Zaa sMacro).R w' [v] l fp/\(∀ b∈fp,w.heap.size<=b)/\Below w.heap.size w w'
theorem Zde (v:Value) (l:List DMacro) (fp:List Nat) (w:World) (hl:l.length<=1048576) (hx:∀ k,(hk:k<l.length)->MacSm l[k]) (H:(Zaa sMacro).R w [v] l fp) :
  Calls Tryz.prog 33 #[v] w (OwnTab l w):=by
 obtain⟨a,cap,rfl,hc,hm,hrow⟩:=Zac H
 unfold maxLen at hm
 clear H
 have HX:=Qh hx
 clear hx
 have hlit:Hid (RowE sMacro w.heap.size 70 (.slice (some ⟨w.heap.size,0,none⟩) 0 0) [] (w.alloc (.cells #[] 70))):=RowE.lit [] (by simp) (by simp) (by simp) (by simp) (Nat.le_refl _) (by simp)
 have hba:=Zab w (.cells #[] 70)
 go_enter Tryz.func33,Tryz.ntmps33
 go_wp2
 go_loopw [3,4] (λ o i wr=>∃ (k:Nat) (L:List (Elem DMacro)),k<=l.length/\i=.int .i64 k/\Hid (RowE sMacro w.heap.size 70 o L wr)/\Hid (L.map (·.d)=l.take k)/\Below w.heap.size w wr) (λ _ i _=>l.length-(intOf i).toNat)
 case atStart=>exact⟨0,[],by omega,rfl,hlit,rfl,hba⟩
 case round =>
  clear hlit hba
  obtain⟨k,L,hk,rfl,HE,HD,hb⟩:=hrel
  by_cases hlt:k<l.length
  ·obtain⟨b1,off1,fps1,rfl,hb1,-,he1⟩:=hrow (by omega)
   obtain⟨es1,hE1,hR1⟩:=he1 k hlt
   clear hrow he1
   have HC:=Qh (Zc5 _ _ _ wr (HX.out k hlt).1 (HX.out k hlt).2.1 (HX.out k hlt).2.2 (sMacro.below hR1 hb))
   obtain⟨h2,h3,p2,p3,rfl,_,_,_,_⟩:=hR1
   replace hE1:=hE1.frame (hb.block b1 hb1)
   have c10:wr.cell? ⟨b1,off1+k * 4,none⟩=some _:=Zao hE1 (by decide) rfl
   have c11:wr.cell? ⟨b1,off1+k * 4+1,none⟩=some _:=Zae (j:=1) hE1 (by decide) rfl
   have c12:wr.cell? ⟨b1,off1+k * 4+2,none⟩=some _:=Zae (j:=2) hE1 (by decide) rfl
   have c13:wr.cell? ⟨b1,off1+k * 4+3,none⟩=some _:=Zae (j:=3) hE1 (by decide) rfl
   clear hE1
   have HLl:Hid (L.length=k):=by have:=congrArg List.length HD.out;simp at this;show _=_;omega
   go_wp2_with fail
   refine HC.out.mono ?_
   rintro e w2 ⟨a2,a3,c2,c3,fp2,rfl,hR2,hlo2,hty2,hb2⟩
   obtain⟨ar,capr,rfl,-⟩:=HE.out.val
   have hE2:=HE.out.below hb2
   have hbw:=hb.trans (hb2.mono hb.size)
   have hlo3:∀ b∈fp2,w.heap.size<=b:=λ b hx=>Nat.le_trans hb.size (hlo2 b hx)
   clear c10 c11 c12 c13 HC HE
   go_wp2_with (at_builtin;refine ZiK rfl (.tmp 12) (.tmp 18) rfl w.heap.size (.slice ar L.length capr) L rfl hE2 l[k].name l[k].function a2 a3 l[k].params.length c2 l[k].body.length c3 l[k] fp2 rfl hR2 hlo3 hty2 (by have:=HLl.out;omega) hbw.size ?_;intro v3 w3 hE3 hg3)
   have hb3:Below w.heap.size w w3:=hbw.grown hg3 hbw.size (λ b hb=>(hE2.row.lt b hb).1)
   have HE3:=Qh hE3
   have HD3:Hid ((L++[(⟨[.string l[k].name,.bool l[k].function,.slice a2 l[k].params.length c2,.slice a3 l[k].body.length c3],l[k],fp2⟩:Elem DMacro)]).map (·.d)=l.take (k+1)):=by
    show _=_
    rw [List.map_append,HD.out,List.take_succ_eq_append_getElem hlt];rfl
   clear hE2 hE3 hg3 hR2 hty2 hlo2 hlo3 hb2
   go_roundw
   case rel=>exact⟨k+1,_,by omega,by go_num,HE3,HD3,hb3⟩
   case measure=>simp [intOf];omega
  ·obtain⟨fpr,hr,hlo⟩:=HE.out.read
   have hd:=HD.out
   rw [List.take_of_length_le (by omega)] at hd
   rw [hd] at hr
   have HR:=Qh hr
   have HLO:=Qh hlo
   clear hr hd HE HD hlo
   go_wp2
   go_ret
   exact⟨_,fpr,rfl,HR.out,HLO.out,hb⟩
end Go.Proofs.YtiaiggjfepoahaaGreat
