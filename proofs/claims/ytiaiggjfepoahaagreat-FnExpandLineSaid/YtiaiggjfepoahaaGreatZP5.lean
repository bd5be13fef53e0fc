/- Texts that the proof of P stands on, in one file. -/
import Derived.Test.YtiaiggjfepoahaaGreatZP4
import Derived.Deep.RegionHeld3
import Derived.Deep.QuietTactic
import Derived.BigQuiet
import Derived.Outline
import Derived.StillTailTactics
import Derived.Deep.Fields
import Derived.ChangeSame
set_option linter.unusedVariables false
set_option maxHeartbeats 16000000
set_option maxRecDepth 100000
set_option linter.unusedSimpArgs false
/- Macro: its shape, and the law's own helpers. (Made by rec.py.) -/
namespace Go.Proofs.YtiaiggjfepoahaaGreat
open Go.RowKit Go.ChangeShapes Go.WideShapes Go.Deep
def sMacro:Shape DMacro where
 m:=4
 R w cs d fp:=∃ (h2:Value) (h3:Value) (fp2:List Nat) (fp3:List Nat),cs=[.string d.name,.bool d.function,h2,h3]/\okStr d.name/\(Zaa sStr).R w [h2] d.params fp2/\(Zaa sTok).R w [h3] d.body fp3/\fp=fp2++fp3
 frame:=by
  rintro w w' cs d fp hf ⟨h2,h3,fp2,fp3,rfl,k0,K2,K3,rfl⟩
  exact⟨h2,h3,fp2,fp3,rfl,k0,(Zaa sStr).frame (λ b hb=>hf b (by simp [hb])) K2,(Zaa sTok).frame (λ b hb=>hf b (by simp [hb])) K3,rfl⟩
 lt:=by
  rintro w cs d fp ⟨h2,h3,fp2,fp3,rfl,k0,K2,K3,rfl⟩ b hb
  rcases Qa hb with hb | hb
  ·exact(Zaa sStr).lt K2 b hb
  ·exact(Zaa sTok).lt K3 b hb
section
variable {H:Type} {enc:TypeId × Value->H} {P:Program} {w:World} {base:Nat} {spare:Nat->Bool} {held:Bool}
end
section
variable {H:Type} {enc:TypeId × Value->H} {w:World} {base:Nat} {spare:Nat->Bool} {held:Bool}
end
open Go.RowKit
def ZbO (x y:UInt8):Bool:=decide (x.toNat=47) && (decide (y.toNat=47) || decide (y.toNat=42))
theorem Zf4 {a b:ByteArray} (ha:0<a.size) (hb:0<b.size):meets a b=ZbO (a[a.size-1]'(by omega)) b[0]:=by
 unfold meets;rw [dif_pos ⟨ha,hb⟩];rfl
theorem Zf5 (x y:UInt8) (w:World) :
  Calls Tryz.prog 86 #[.int .u8 x.toNat,.int .u8 y.toNat] w λ e w'=>e=.returned (.bool (ZbO x y))/\w'=w:=by
 by_cases hx:x.toNat=47
 ·have q1:((x.toNat:Int)==47)=true:=by simp;omega
  by_cases hy:y.toNat=47
  ·have q2:((y.toNat:Int)==47)=true:=by simp;omega
   have HF:Hid (ZbO x y=true):=by simp [Hid,ZbO,hx,hy]
   clear hx hy
   go_enter Tryz.func86,Tryz.ntmps86
   go_wp2
   go_ret
   exact⟨Zad HF.out.symm,rfl⟩
  ·have q2:((y.toNat:Int)==47)=false:=by simp;omega
   by_cases hz:y.toNat=42
   ·have q3:((y.toNat:Int)==42)=true:=by simp;omega
    have HF:Hid (ZbO x y=true):=by simp [Hid,ZbO,hx,hz]
    clear hx hy hz
    go_enter Tryz.func86,Tryz.ntmps86
    go_wp2
    go_ret
    exact⟨Zad HF.out.symm,rfl⟩
   ·have q3:((y.toNat:Int)==42)=false:=by simp;omega
    have HF:Hid (ZbO x y=false):=by simp [Hid,ZbO,hy,hz]
    clear hx hy hz
    go_enter Tryz.func86,Tryz.ntmps86
    go_wp2
    go_ret
    exact⟨Zad HF.out.symm,rfl⟩
 ·have q1:((x.toNat:Int)==47)=false:=by simp;omega
  have HF:Hid (ZbO x y=false):=by simp [Hid,ZbO,hx]
  clear hx
  go_enter Tryz.func86,Tryz.ntmps86
  go_wp2
  go_ret
  exact⟨Zad HF.out.symm,rfl⟩
theorem Znh (P:Program) (t:TypeId) (s:ByteArray) (h:P.underlying t=some .string) (h0:0<s.size) (W:World) :
  (Instr.index t (.string s) (.int .i64 ((s.size:Int)-1))).run P W=.ok (.int .u8 ((s[s.size-1]'(by omega)).toNat:Int)) W:=by
 rw [run_index_string W t s .i64 _ h,dif_pos (by omega)]
 congr 4
 congr 1
 omega
theorem lit_row {α:Type} {S:Shape α} {w:World} {e:TypeId} (L:List (Elem α)) (hlen:∀ x∈L,x.cells.length=S.m) (hR:∀ x∈L,S.R w x.cells x.d x.fp) (hn:L.length<=maxLen) :
  ∃ fp,(Zaa S).R (w.alloc (.cells (L.flatMap (·.cells)).toArray e)) [.slice (some ⟨w.heap.size,0,none⟩) L.length L.length] (L.map (·.d)) fp:=by
 have h:=World.ownsRow_lit (base:=w.heap.size) (e:=e) (size:=S.m) w (L.flatMap (·.cells)).toArray L.length (Nat.le_refl _) hn (by simpa using ZaB hlen)
 obtain⟨fp,h1,_⟩:=ZaM h λ x hx=>⟨hlen x hx,S.below (hR x hx) (Zab _ _)⟩
 exact⟨fp,h1⟩
theorem ZmC {a b:Tok} (h:meets a.text b.text=true):glued a.text b.text=true:=by unfold glued;rw [h,Bool.or_true]
theorem need_no {a b:Tok} (ha:tokOk a=true) (hb:tokOk b=true) {l:List Tok} (h:meets a.text b.text=false) (hr:Zai (a.text++b.text)=(l,false)):glued a.text b.text=true:=by
 have:=ZhP ha hb
 rw [hr] at this
 unfold glued
 rw [← this,h];rfl
theorem need_yes {a b:Tok} (ha:tokOk a=true) (hb:tokOk b=true) {l:List Tok} (h:meets a.text b.text=false) (hr:Zai (a.text++b.text)=(l,true)):glued a.text b.text=!ZaZ l [a,b]:=by
 have:=ZhP ha hb
 rw [hr] at this
 unfold glued
 rw [← this,h];simp
theorem Ziy (cs1 cs2:List Value) (a b:Tok) (fp1 fp2:List Nat) (w:World) (H1:sTok.R w cs1 a fp1) (H2:sTok.R w cs2 b fp2) (ha:tokOk a=true) (hb:tokOk b=true) :
  Calls Tryz.prog 52 #[.agg cs1.toArray,.agg cs2.toArray] w (Says (glued a.text b.text) w):=by
 obtain⟨⟨ha0,-⟩,ha2⟩:=Zaz ha
 obtain⟨⟨hb0,-⟩,hb2⟩:=Zaz hb
 have HM:=Zf4 ha0 hb0
 have hwl:IntKind.i64.wrap ((a.text.size:Int)-1)=(a.text.size:Int)-1:=IntWalk.i64_in _ (by omega)
 have hix:=Znh Tryz.prog 9 a.text Tryz.underlying9 ha0
 have hi1:(0:Int)<=(a.text.size:Int)-1:=by omega
 have hi2:(0:Int)<(b.text.size:Int):=by omega
 have HC:=λ W=>Zf5 (a.text[a.text.size-1]'(by omega)) b.text[0] W
 rw [← HM] at HC
 have HT:Hid (∀ W,Calls Tryz.prog 9 #[.string (a.text++b.text)] W (Zbd (Zai (a.text++b.text)) W)):=λ W=>Zbr (a.text++b.text) W (by rw [ByteArray.size_append];unfold maxLen;omega)
 have hadd:=λ W=>run_string_add_sum (P:=Tryz.prog) W a.text b.text (by omega)
 have R1:=H1
 have R2:=H2
 obtain⟨h1,rfl,-,-,K1⟩:=H1
 obtain⟨h2,rfl,-,-,K2⟩:=H2
 obtain⟨a1,cap1,rfl,-⟩:=Zac K1
 obtain⟨a2,cap2,rfl,-⟩:=Zac K2
 clear K1 K2 HM
 have b1:=Zab w (.cells #[.int .i64 a.kind,.string a.text,.bool a.spaced,.slice a1 a.hidden.length cap1] 57)
 have b2:=b1.trans ((Zab (w.alloc (.cells #[.int .i64 a.kind,.string a.text,.bool a.spaced,.slice a1 a.hidden.length cap1] 57)) (.cells #[.int .i64 b.kind,.string b.text,.bool b.spaced,.slice a2 b.hidden.length cap2] 57)).mono b1.size)
 cases hm:meets a.text b.text
 ·rw [hm] at HC
  rcases hr:Zai (a.text++b.text) with⟨l,ok⟩
  rw [hr] at HT
  cases ok
  ·have HF:=Qh (need_no ha hb hm hr)
   clear hm hr ha hb R1 R2
   go_enter Tryz.func52,Tryz.ntmps52
   go_wp2
   go_quiet (first | (go_at_call 86;refine Calls.quiet_of_same (HC _)))
   go_wp2_with (go_at_call 9;refine (HT.out _).mono ?_;rintro e w' ⟨v,fp,rfl,hR,hO,hB⟩)
   go_ret
   exact⟨Zad HF.out.symm,(Zag b2 nq).trans (hB.mono (Zag b2 nq).size)⟩
  ·have HF:=Qh (need_yes ha hb hm hr)
   clear hm hr ha hb
   have HX:=Qh (ZbI w #[.int .i64 a.kind,.string a.text,.bool a.spaced,.slice a1 a.hidden.length cap1] #[.int .i64 b.kind,.string b.text,.bool b.spaced,.slice a2 b.hidden.length cap2] 57 57)
   go_enter Tryz.func52,Tryz.ntmps52
   go_wp2
   go_quiet (first | (go_at_call 86;refine Calls.quiet_of_same (HC _)))
   go_wp2_with fail
   refine (HT.out _).mono ?_
   rintro e w3 ⟨v,fp,rfl,hR,hO,hB⟩
   have hbel:=(Zag b2 nq).trans (hB.mono (Zag b2 nq).size)
   have HY:=Qh (And.intro ((hB.block _ (Qg HX.out.1).1).trans HX.out.1) ((hB.block _ (Qg HX.out.2).1).trans HX.out.2))
   have q0:=Qc 0 HY.out.1
   have q1:=Qc 1 HY.out.1
   have q2:=Qc 2 HY.out.1
   have q3:=Qc 3 HY.out.1
   have p0:=Qc 0 HY.out.2
   have p1:=Qc 1 HY.out.2
   have p2:=Qc 2 HY.out.2
   have p3:=Qc 3 HY.out.2
   obtain⟨fpl,HL⟩:=lit_row (S:=sTok) (w:=w3) (e:=57) [⟨[.int .i64 a.kind,.string a.text,.bool a.spaced,.slice a1 a.hidden.length cap1],a,fp1⟩,⟨[.int .i64 b.kind,.string b.text,.bool b.spaced,.slice a2 b.hidden.length cap2],b,fp2⟩] (by simp [sTok]) (by
    intro x hx
    rcases List.mem_cons.1 hx with rfl | hx
    ·exact sTok.below R1 hbel
    ·obtain rfl:=Qm hx
     exact sTok.below R2 hbel) (by simp [maxLen])
   have HC2:Hid (Calls Tryz.prog 10 #[v,.slice (some ⟨w3.heap.size,0,none⟩) 2 2] (w3.alloc (.cells #[.int .i64 a.kind,.string a.text,.bool a.spaced,.slice a1 a.hidden.length cap1,.int .i64 b.kind,.string b.text,.bool b.spaced,.slice a2 b.hidden.length cap2] 57)) (Says (ZaZ l [a,b]) (w3.alloc (.cells #[.int .i64 a.kind,.string a.text,.bool a.spaced,.slice a1 a.hidden.length cap1,.int .i64 b.kind,.string b.text,.bool b.spaced,.slice a2 b.hidden.length cap2] 57)))):=
    Zdk _ _ _ _ _ _ _ ((Zaa sTok).below hR (Zab _ _)) HL
   have b4:=hbel.trans ((Zab w3 (.cells #[.int .i64 a.kind,.string a.text,.bool a.spaced,.slice a1 a.hidden.length cap1,.int .i64 b.kind,.string b.text,.bool b.spaced,.slice a2 b.hidden.length cap2] 57)).mono hbel.size)
   clear hR hO hB R1 R2 HL HT HC hadd hix
   go_wp2_with fail
   refine (HC2.out).mono ?_
   rintro e w5 ⟨rfl,b5⟩
   go_wp2
   go_ret
   exact⟨Zad (by rw [HF.out]),b4.trans (b5.mono b4.size)⟩
 ·have HF:=Qh (ZmC hm)
  rw [hm] at HC
  clear hm R1 R2 HT ha hb
  go_enter Tryz.func52,Tryz.ntmps52
  go_wp2
  go_quiet (first | (go_at_call 86;refine Calls.quiet_of_same (HC _)))
  go_wp2
  go_ret
  exact⟨Zad HF.out.symm,Zag b2 nq⟩
theorem Zg8 {w:World} {v:Value} {t1 t2:Tok} {fp:List Nat} (H:(Zaa sTok).R w [v] [t1,t2] fp) :
  ∃ b off cap,v=.slice (some ⟨b,off,none⟩) 2 cap/\cap<=maxLen/\2<=cap/\b<w.heap.size/\w.cell? ⟨b,off+1,none⟩=some (.string t1.text)/\w.cell? ⟨b,off+4+1,none⟩=some (.string t2.text):=by
 obtain⟨a,cap,rfl,hc,hm,h⟩:=Zac H
 obtain⟨b,off,fps,rfl,hb,_,he⟩:=h (by simp)
 obtain⟨es,⟨h1,h2⟩,hh,rfl,_,_,_⟩:=he 0 (by simp)
 obtain⟨es',⟨h1',h2'⟩,hh',rfl,_,_,_⟩:=he 1 (by simp)
 refine ⟨b,off,cap,rfl,hm,by simpa using hc,hb,?_,?_⟩
 ·simpa [sTok] using h2 1 (by decide)
 ·simpa [sTok,Nat.add_assoc] using h2' 1 (by decide)
theorem Zni {a b:ByteArray} (ha:0<a.size) (hb:0<b.size):(a.extract (a.size-1) a.size++b.extract 0 1).toList=[a[a.size-1]'(by omega),b[0]]:=by
 rw [ByteArray.toList_eq,ByteArray.data_append,Array.toList_append,Zd8,Zd8]
 have h1:a.data.toList.drop (a.size-1)=[a[a.size-1]'(by omega)]:=by
  rw [List.drop_eq_getElem_cons (by show a.size-1<a.size;omega)]
  have:a.data.toList.drop (a.size-1+1)=[]:=List.drop_eq_nil_iff.2 (by show a.size<=_;omega)
  rw [this]
  simp [ByteArray.getElem_eq_getElem_data]
 have h2:(b.data.toList.drop 0).take (1-0)=[b[0]]:=by
  rw [List.drop_zero]
  obtain⟨c,l,hl⟩:∃ c l,b.data.toList=c::l:=by
   cases h:b.data.toList with
   |
    nil =>
    have:b.size=0:=by show b.data.toList.length=0;rw [h];rfl
    omega
   | cons c l=>exact⟨c,l,rfl⟩
  have h3:b[0]=c:=by
   have h4:b.data.toList[0]?=some c:=by rw [hl];rfl
   rw [ByteArray.getElem_eq_getElem_data]
   rw [List.getElem?_eq_getElem (by rw [hl];simp)] at h4
   simpa using h4
  rw [hl,h3];rfl
 rw [h1,h2,List.take_of_length_le (by simp;omega)];rfl
theorem Znj {a b:ByteArray} (ha:0<a.size) (hb:0<b.size) :
  (((a.extract (a.size-1) a.size++b.extract 0 1).toList==[47,47])=true/\Hid (meets a b=true)) \/
  (((a.extract (a.size-1) a.size++b.extract 0 1).toList==[47,47])=false/\((a.extract (a.size-1) a.size++b.extract 0 1).toList==[47,42])=true/\Hid (meets a b=true)) \/
  (((a.extract (a.size-1) a.size++b.extract 0 1).toList==[47,47])=false/\((a.extract (a.size-1) a.size++b.extract 0 1).toList==[47,42])=false/\Hid (meets a b=false)):=by
 rw [Zni ha hb,Zf4 ha hb]
 generalize a[a.size-1]'(by omega)=x
 generalize b[0]=y
 have e47:∀ z:UInt8,z=47 ↔ z.toNat=47:=λ z=>by rw [← UInt8.toNat_inj];rfl
 have e42:∀ z:UInt8,z=42 ↔ z.toNat=42:=λ z=>by rw [← UInt8.toNat_inj];rfl
 by_cases h1:x.toNat=47
 ·by_cases h2:y.toNat=47
  ·exact .inl ⟨by simp [e47,h1,h2],by simp [Hid,ZbO,h1,h2]⟩
  ·by_cases h3:y.toNat=42
   ·exact .inr (.inl ⟨by simp [e47,h2],by simp [e47,e42,h1,h3],by simp [Hid,ZbO,h1,h3]⟩)
   ·exact .inr (.inr ⟨by simp [e47,h2],by simp [e42,h3],by simp [Hid,ZbO,h2,h3]⟩)
 ·exact .inr (.inr ⟨by simp [e47,h1],by simp [e47,h1],by simp [Hid,ZbO,h1]⟩)
theorem Zkg (a b:ByteArray) (w:World) (ha:a.size<=1000) (hb:b.size<=1000) :
  Calls Tryz.prog 59 #[.string a,.string b] w (Says (glued a b) w):=by
 have HT:Hid (∀ W,Calls Tryz.prog 28 #[.string (a++b)] W (Zbd (Zai (a++b)) W)):=λ W=>Zbe (a++b) W (by rw [ByteArray.size_append];unfold maxLen;omega)
 have hadd:=λ W=>run_string_add_sum (P:=Tryz.prog) W a b (by omega)
 rcases two_ways a b with⟨hr,HF⟩ | ⟨l,hr,hl,HF⟩ | ⟨t1,t2,hr,hx,HF⟩ | ⟨t1,t2,hr,hx,hy,HF⟩ | ⟨t1,t2,hr,hx,hy,ha0,hb0,HF⟩
 ·rw [hr] at HT
  clear hr
  go_enter Tryz.func59,Tryz.ntmps59
  go_wp2_with (go_at_call 28;refine (HT.out _).mono ?_;rintro e w' ⟨v,fp,rfl,hR,hO,hB⟩)
  go_ret
  exact⟨Zad HF.out.symm,hB⟩
 ·rw [hr] at HT
  have hl':((l.length:Int) != 2)=true:=by simp;omega
  clear hr hl
  go_enter Tryz.func59,Tryz.ntmps59
  go_wp2_with (go_at_call 28;refine (HT.out _).mono ?_;rintro e w' ⟨v,fp,rfl,hR,hO,hB⟩;obtain⟨a1,cap,rfl,-⟩:=Zac hR)
  go_ret
  exact⟨Zad HF.out.symm,hB⟩
 ·rw [hr] at HT
  have hx':(t1.text.toList==a.toList)=false:=ZaU hx
  clear hr hx
  go_enter Tryz.func59,Tryz.ntmps59
  go_wp2_with (go_at_call 28;refine (HT.out _).mono ?_;rintro e w' ⟨v,fp,rfl,hR,hO,hB⟩;obtain⟨b1,off,cap,rfl,hc1,hc2,hbb,h1,h2⟩:=Zg8 hR)
  go_ret
  exact⟨Zad HF.out.symm,hB⟩
 ·rw [hr] at HT
  have hx':(t1.text.toList==a.toList)=true:=ZaP hx
  have hy':(t2.text.toList==b.toList)=false:=ZaU hy
  clear hr hx hy
  go_enter Tryz.func59,Tryz.ntmps59
  go_wp2_with (go_at_call 28;refine (HT.out _).mono ?_;rintro e w' ⟨v,fp,rfl,hR,hO,hB⟩;obtain⟨b1,off,cap,rfl,hc1,hc2,hbb,h1,h2⟩:=Zg8 hR)
  go_ret
  exact⟨Zad HF.out.symm,hB⟩
 ·rw [hr] at HT
  have hx':(t1.text.toList==a.toList)=true:=ZaP hx
  have hy':(t2.text.toList==b.toList)=true:=ZaP hy
  clear hr hx hy
  go_enter Tryz.func59,Tryz.ntmps59
  go_wp2_with (go_at_call 28;refine (HT.out _).mono ?_;rintro e w' ⟨v,fp,rfl,hR,hO,hB⟩;obtain⟨b1,off,cap,rfl,hc1,hc2,hbb,h1,h2⟩:=Zg8 hR)
  have HW:=Qh (Znj ha0 hb0)
  go_quiet (fail)
  rcases HW.out with⟨m1,HM⟩ | ⟨m1,m2,HM⟩ | ⟨m1,m2,HM⟩ <;>
  ·go_wp2
   go_ret
   exact⟨Zad (by rw [HF.out,HM.out]),Zag hB nq⟩
def Ze0 (l:List Tok) (w:World) (e:Ending) (w':World):Prop:=e=.returned (.tuple #[.string (ZaQ l).1,.bool (ZaQ l).2])/\Below w.heap.size w w'
theorem Zcg {l:List Tok} {s:ByteArray} {b:Bool} {w w':World} (h:ZaQ l=(s,b)) (hb:Below w.heap.size w w'):Ze0 l w (.returned (.tuple #[.string s,.bool b])) w':=⟨by rw [h],hb⟩
theorem Zg9 (v:Value) (l:List Tok) (fp:List Nat) (w:World) (H:(Zaa sTok).R w [v] l fp) :
  Calls Tryz.prog 29 #[v] w (Ze0 l w):=by
 have HV:=Qh (Zbg v l fp w H)
 obtain⟨a,cap,rfl,hc,hm,hrow⟩:=Zac H
 unfold maxLen at hm
 clear H
 cases hv:Zaj l
 ·have HF:=Qh (ZeN hv)
  rw [hv] at HV
  clear hv
  go_enter Tryz.func29,Tryz.ntmps29
  go_wp2_with (go_at_call 36;refine (HV.out).mono ?_;rintro e w1 ⟨rfl,hb1⟩)
  go_ret2
  exact Zcg HF.out hb1
 ·rw [hv] at HV
  have HOK:=Qh (Zam hv)
  have hlen:=HOK.out.1
  have HSZ:=Qh (Zf1 hv)
  have HVD:=Qh hv
  clear hv
  go_enter Tryz.func29,Tryz.ntmps29
  go_wp2_with (go_at_call 36;refine (HV.out).mono ?_;rintro e w1 ⟨rfl,hb1⟩)
  go_loopw [4,5] (λ o i wr=>∃ (k:Nat) (out:ByteArray),k<=l.length/\i=.int .i64 k/\o=.string out/\Hid (out=prTo l k)/\Below w.heap.size w wr) (λ _ i _=>l.length-(intOf i).toNat)
  case atStart=>exact⟨0,_,by omega,rfl,rfl,rfl,hb1⟩
  case round =>
   obtain⟨k,out,hk,rfl,rfl,HO,hb⟩:=hrel
   by_cases hlt:k<l.length
   ·obtain⟨b1,off1,fps1,rfl,hb1',-,he1⟩:=hrow (by omega)
    obtain⟨es1,hE1,hR1⟩:=he1 k hlt
    obtain⟨h1,rfl,-,-,-⟩:=hR1
    replace hE1:=hE1.frame (hb.block b1 hb1')
    have c11:wr.cell? ⟨b1,off1+k * 4+1,none⟩=some _:=Zae (j:=1) hE1 (by decide) rfl
    have c12:wr.cell? ⟨b1,off1+k * 4+2,none⟩=some _:=Zae (j:=2) hE1 (by decide) rfl
    have hsz1:=(Zaz (HOK.out.2 k hlt)).2
    have hso:out.size<=201 * k:=by rw [HO.out];exact HSZ.out k hk
    have hadd1:=λ W=>run_string_add_sum (P:=Tryz.prog) W out (⟨#[32]⟩:ByteArray) (by have:(⟨#[32]⟩:ByteArray).size=1:=rfl;omega)
    have hadd2:=λ W=>run_string_add_sum (P:=Tryz.prog) W (out++(⟨#[32]⟩:ByteArray)) l[k].text (by rw [ByteArray.size_append];have:(⟨#[32]⟩:ByteArray).size=1:=rfl;omega)
    have hadd3:=λ W=>run_string_add_sum (P:=Tryz.prog) W out l[k].text (by omega)
    by_cases h0:k=0
    ·have h00:¬ (0:Int)<(k:Int):=by omega
     have h01:decide ((0:Int)<(k:Int))=false:=by simp;omega
     have h02:decide (0<k)=false:=by simp;omega
     have HN:Hid (out++l[k].text=prTo l (k+1)):=by show _=_;rw [ZcP hlt (by subst h0;exact Zke l),HO.out]
     clear h0 he1 hrow hE1
     go_wp2
     go_quiet (fail)
     go_wp2
     go_roundw
     case rel=>exact⟨k+1,_,by omega,by go_num,rfl,HN.out,Zag hb _⟩
     case measure=>simp [intOf];omega
    ·have h00:(0:Int)<(k:Int):=by omega
     have h01:decide ((0:Int)<(k:Int))=true:=by simp;omega
     have h02:decide (0<k)=true:=by simp;omega
     cases hsp:l[k].spaced
     ·obtain⟨es2,hE2,hR2⟩:=he1 (k-1) (by omega)
      obtain⟨h2,rfl,-,-,-⟩:=hR2
      replace hE2:=hE2.frame (hb.block b1 hb1')
      have c21:wr.cell? ⟨b1,off1+(k-1) * 4+1,none⟩=some _:=Zae (j:=1) hE2 (by decide) rfl
      have h6:((k:Int)-1).toNat=k-1:=by omega
      have hwl:IntKind.i64.wrap ((k:Int)-1)=(k:Int)-1:=IntWalk.i64_in _ (by omega)
      have hi1:(0:Int)<=(k:Int)-1:=by omega
      have hi0:(1:Int)<=(k:Int):=by omega
      have hi2:(k:Int)-1<(l.length:Int):=by omega
      have hbr:b1<wr.heap.size:=Nat.lt_of_lt_of_le hb1' hb.size
      have hsz2:=(Zaz (HOK.out.2 (k-1) (by omega))).2
      have HC:Hid (∀ W,Calls Tryz.prog 59 #[.string (l[k-1]'(by omega)).text,.string l[k].text] W (Says (glued (l[k-1]'(by omega)).text l[k].text) W)):=λ W=>Zkg _ _ W (by omega) (by omega)
      have HG:=Zjg (by omega) hlt hsp
      rw [hsp] at c12
      clear hE1 hE2
      go_wp2_with fail
      go_still_tail 20,(by kernel_rfl)
      change wpList _ _ _ _ _ wr.drew
      have hd:Below wr.heap.size wr wr.drew:=Zag (Below.refl _ _) 1
      generalize wr.drew=w2 at *
      cases hg:glued (l[k-1]'(by omega)).text l[k].text
      ·rw [hg] at HC HG
       have HN:Hid (out++l[k].text=prTo l (k+1)):=by show _=_;rw [ZcP hlt HG,HO.out]
       clear hg HG
       go_wp2_with fail
       refine (HC.out _).mono ?_
       rintro e w3 ⟨rfl,hb3⟩
       have hb4:=hd.trans (hb3.mono hd.size)
       have d11:=(hb4.cell (p:=⟨b1,off1+k * 4+1,none⟩) hbr).trans c11
       clear c11 c12 c21 hd hb3
       go_wp2
       go_roundw
       case rel=>exact⟨k+1,_,by omega,by go_num,rfl,HN.out,hb.trans (hb4.mono hb.size)⟩
       case measure=>simp [intOf];omega
      ·rw [hg] at HC HG
       have HN:Hid (out++⟨#[32]⟩++l[k].text=prTo l (k+1)):=by show _=_;rw [Zb9 hlt HG,HO.out]
       clear hg HG
       go_wp2_with fail
       refine (HC.out _).mono ?_
       rintro e w3 ⟨rfl,hb3⟩
       have hb4:=hd.trans (hb3.mono hd.size)
       have d11:=(hb4.cell (p:=⟨b1,off1+k * 4+1,none⟩) hbr).trans c11
       clear c11 c12 c21 hd hb3
       go_wp2
       go_roundw
       case rel=>exact⟨k+1,_,by omega,by go_num,rfl,HN.out,hb.trans (hb4.mono hb.size)⟩
       case measure=>simp [intOf];omega
     ·have HN:Hid (out++⟨#[32]⟩++l[k].text=prTo l (k+1)):=by show _=_;rw [Zb9 hlt (ZhQ (by omega) hlt hsp),HO.out]
      rw [hsp] at c12
      clear h0 he1 hrow hE1
      go_wp2
      go_quiet (fail)
      go_wp2
      go_roundw
      case rel=>exact⟨k+1,_,by omega,by go_num,rfl,HN.out,Zag hb _⟩
      case measure=>simp [intOf];omega
   ·have hkl:l.length=k:=by omega
    by_cases hbig:200<out.size
    ·have HF:=Qh (ZdU HVD.out hkl (by rw [← HO.out];exact hbig))
     clear hkl
     go_wp2
     go_ret2
     exact Zcg HF.out hb
    ·have HF:=Qh (Zeg HVD.out hkl (by rw [← HO.out];exact hbig))
     rw [← HO.out] at HF
     clear hkl
     go_wp2
     go_ret2
     exact Zcg HF.out hb
theorem ZeO (x:ByteArray) (w:World) (hs:x.size<=maxLen) :
  Calls Tryz.prog 95 #[.string x] w (Says (Zak x 1) w):=by
 have HT:Hid (∀ W,Calls Tryz.prog 28 #[.string x] W (Zbd (Zai x) W)):=λ W=>Zbe x W hs
 go_enter Tryz.func95,Tryz.ntmps95
 rcases ZcJ x 1 with⟨hr,HF⟩ | ⟨l,hr,hl,HF⟩ | ⟨t,hr,hk,HF⟩ | ⟨t,hr,hk,hx,HF⟩ | ⟨t,hr,hk,hx,_,HF⟩
 ·rw [hr] at HT
  clear hr
  go_wp2_with (go_at_call 28;refine (HT.out _).mono ?_;rintro e w' ⟨v,fp,rfl,hR,hO,hB⟩)
  go_ret
  exact⟨Zad HF.out.symm,hB⟩
 ·rw [hr] at HT
  have hl':((l.length:Int)==1)=false:=by simp;omega
  clear hr hl
  go_wp2_with (go_at_call 28;refine (HT.out _).mono ?_;rintro e w' ⟨v,fp,rfl,hR,hO,hB⟩;obtain⟨a,cap,rfl,_,_,_⟩:=Zac hR)
  go_ret
  exact⟨Zad HF.out.symm,hB⟩
 ·rw [hr] at HT
  have hk':(t.kind==1)=false:=by simp [hk]
  clear hr hk
  go_wp2_with (go_at_call 28;refine (HT.out _).mono ?_;rintro e w' ⟨v,fp,rfl,hR,hO,hB⟩;obtain⟨b,off,cap,h,rfl,hc1,hc2,hb,h0,h1,h2,h3,_,_⟩:=Za8 hR)
  go_ret
  exact⟨Zad HF.out.symm,hB⟩
 ·rw [hr] at HT
  have hk':(t.kind==1)=true:=by simp [hk]
  have hx':(t.text.toList==x.toList)=false:=ZaU hx
  clear hr hk hx
  go_wp2_with (go_at_call 28;refine (HT.out _).mono ?_;rintro e w' ⟨v,fp,rfl,hR,hO,hB⟩;obtain⟨b,off,cap,h,rfl,hc1,hc2,hb,h0,h1,h2,h3,_,_⟩:=Za8 hR)
  go_ret
  exact⟨Zad HF.out.symm,hB⟩
 ·rw [hr] at HT
  have hk':(t.kind==1)=true:=by simp [hk]
  have hx':(t.text.toList==x.toList)=true:=ZaP hx
  clear hr hk hx
  go_wp2_with (go_at_call 28;refine (HT.out _).mono ?_;rintro e w' ⟨v,fp,rfl,hR,hO,hB⟩;obtain⟨b,off,cap,h,rfl,hc1,hc2,hb,h0,h1,h2,h3,_,_⟩:=Za8 hR)
  go_ret
  exact⟨Zad HF.out.symm,hB⟩
theorem Zl1 {ps:List ByteArray} {t:Tok} {k:Nat} (h:ps.length<=k):parFrom ps t k=-1:=by rw [parFrom,dif_neg (by omega)]
theorem Zl2 {ps:List ByteArray} {t:Tok} {k:Nat} (h:k<ps.length) (h1:t.kind=1) (h2:ps[k]=t.text):parFrom ps t k=k:=by rw [parFrom,dif_pos h,if_pos ⟨h1,h2⟩]
theorem Zha {ps:List ByteArray} {t:Tok} {k:Nat} (h:k<ps.length) (h1:¬ (t.kind=1/\ps[k]=t.text)):parFrom ps t k=parFrom ps t (k+1):=by rw [parFrom,dif_pos h,if_neg h1]
theorem Zeh (csM csT:List Value) (m:DMacro) (t:Tok) (fpM fpT:List Nat) (w:World) (HM:sMacro.R w csM m fpM) (HT:sTok.R w csT t fpT) :
  Calls Tryz.prog 96 #[.agg csM.toArray,.agg csT.toArray] w λ e w'=>e=.returned (.int .i64 (parOf m.params t))/\Below w.heap.size w w':=by
 obtain⟨h2,h3,fp2,fp3,rfl,-,K2,K3,rfl⟩:=HM
 obtain⟨hh,rfl,-,-,-⟩:=HT
 obtain⟨a,cap,rfl,hc,hm,hcell,hsz⟩:=Zaf K2
 unfold maxLen at hm
 clear K2 K3
 have b0:=Zab w (.cells #[.string m.name,.bool m.function,.slice a m.params.length cap,h3] 70)
 have b1:=b0.trans ((Zab (w.alloc (.cells #[.string m.name,.bool m.function,.slice a m.params.length cap,h3] 70)) (.cells #[.int .i64 t.kind,.string t.text,.bool t.spaced,hh] 57)).mono b0.size)
 have HX:=Qh (ZbI w #[.string m.name,.bool m.function,.slice a m.params.length cap,h3] #[.int .i64 t.kind,.string t.text,.bool t.spaced,hh] 70 57)
 go_enter Tryz.func96,Tryz.ntmps96
 go_wp2
 generalize (w.alloc (.cells #[.string m.name,.bool m.function,.slice a m.params.length cap,h3] 70)).alloc (.cells #[.int .i64 t.kind,.string t.text,.bool t.spaced,hh] 57)=W at *
 clear b0
 go_loopw [5] (λ i wr=>∃ k:Nat,k<=m.params.length/\i=.int .i64 k/\Hid (parOf m.params t=parFrom m.params t k)/\Below W.heap.size W wr) (λ i _=>m.params.length-(intOf i).toNat)
 case atStart=>exact⟨0,by omega,rfl,rfl,Below.refl _ _⟩
 case round =>
  obtain⟨k,hk,rfl,HP,hb⟩:=hrel
  have HX1:=Qh (And.intro ((hb.block _ (Qg HX.out.1).1).trans HX.out.1) ((hb.block _ (Qg HX.out.2).1).trans HX.out.2))
  have q2:=Qc 2 HX1.out.1
  have p0:=Qc 0 HX1.out.2
  have p1:=Qc 1 HX1.out.2
  by_cases hlt:k<m.params.length
  ·obtain⟨b,off,rfl,hbl,_,hc2⟩:=hcell (by omega)
   have hck:=((b1.trans (hb.mono b1.size)).cell (p:=⟨b,off+k,none⟩) hbl).trans (hc2 k hlt)
   clear hcell hc2
   by_cases e1:t.kind=1
   ·have g1:(t.kind==1)=true:=by simp [e1]
    by_cases e2:m.params[k]=t.text
    ·have g2:=ZaP e2
     have HF:=Qh (Zl2 hlt e1 e2)
     clear e1 e2
     go_wp2
     go_quiet (fail)
     go_wp2
     go_ret
     exact⟨Za3 (by rw [HP.out,HF.out]),b1.trans ((Zag hb _).mono b1.size)⟩
    ·have g2:(m.params[k].toList==t.text.toList)=false:=ZaU e2
     have HF:=Qh (Zha hlt (λ h=>e2 h.2))
     clear e1 e2
     go_wp2
     go_quiet (fail)
     go_wp2
     go_roundw
     case rel=>exact⟨k+1,by omega,by go_num,by show _=_;rw [HP.out,HF.out],Zag hb _⟩
     case measure=>simp [intOf];omega
   ·have g1:(t.kind==1)=false:=by simp [e1]
    have HF:=Qh (Zha hlt (λ h=>e1 h.1))
    clear e1
    go_wp2
    go_quiet (fail)
    go_wp2
    go_roundw
    case rel=>exact⟨k+1,by omega,by go_num,by show _=_;rw [HP.out,HF.out],Zag hb _⟩
    case measure=>simp [intOf];omega
  ·have HF:=Qh (Zl1 (t:=t) (by omega:m.params.length<=k))
   go_wp2
   go_ret
   exact⟨Za3 (by rw [HP.out,HF.out]),b1.trans (hb.mono b1.size)⟩
/-! ### Tokens that need no space between them -/
def markT (c:UInt8):Tok:=⟨4,⟨#[c]⟩,false,[]⟩
def nameT (s:ByteArray):Tok:=⟨1,s,false,[]⟩
theorem Zkh {s:ByteArray} (h:Zak s 1=true):tokOk (nameT s)=true:=by
 unfold tokOk nameT
 rw [Bool.and_eq_true]
 exact⟨h,by show hidOk []=true;decide⟩
theorem ZmD (s:ByteArray) (k:Nat):∀ j,(h:j<s.size)->k<=j->j<wEnd s k->Zal s[j]=true:=by
 induction k using wEnd.induct (s:=s) with
 |
  case1 k h hc ih =>
  intro j hj hkj hje
  rw [Zbf h hc] at hje
  by_cases e:j=k
  ·subst e;exact hc
  ·exact ih j hj (by omega) hje
 | case2 k h hc=>intro j hj hkj hje;rw [Zbw h (by simpa using hc)] at hje;omega
 | case3 k h=>intro j hj hkj hje;rw [Zcm (by omega)] at hje;omega
theorem ZmE {s:ByteArray} (h:Zak s 1=true):0<s.size/\s.size<=12/\∀ j,(hj:j<s.size)->Zal s[j]=true:=by
 obtain⟨h0,_,hc,_⟩:=ZbM (Zkh h)
 obtain⟨_,hk⟩:=(Zaz (Zkh h)).1
 have h0':0<s.size:=h0
 have hc':Zav s 0=(s.size:Nat):=hc
 have hk':(1:Int)=cutKind s[0]:=hk
 have hw:Zal s[0]=true:=by
  unfold cutKind at hk'
  unfold Zal
  split at hk'
  ·omega
  ·split at hk'
   ·rename_i h;rw [h];rfl
   ·split at hk' <;> omega
 rw [Zby h0' hw] at hc'
 split at hc'
 ·omega
 ·exact⟨h0',by omega,λ j hj=>ZmD s 0 j hj (by omega) (by omega)⟩
/-! ### Printing token by token -/
/-! ### The tokens of a macro's text -/
def hL (m:DMacro):Nat->List Tok
 | 0=>[nameT m.name,markT 40]
 | k+1=>(if 0<k then hL m k++[markT 44] else hL m k)++[nameT (if h:k<m.params.length then m.params[k] else ⟨#[]⟩)]
/-! ### Reading it -/
theorem Zcp (l:List Tok) (k:Nat):(ZaK l k).length=l.length-k:=by simp [ZaK]
theorem Zki (l:List Tok) (k i:Nat) (h:i<(ZaK l k).length):(ZaK l k)[i]=⟨(l[k+i]'(by rw [Zcp] at h;omega)).kind,(l[k+i]'(by rw [Zcp] at h;omega)).text,(l[k+i]'(by rw [Zcp] at h;omega)).spaced && decide (0<i),[]⟩:=by simp [ZaK]
/-! ### What the other promises ask -/
theorem macOf_ok {l:List Tok} {m:DMacro} (h:macOf l=(m,true)):macOk m=true:=by
 have hc:∀ x:DMacro,Zb1 x=(m,true)->macOk m=true:=λ x hx=>by
  unfold Zb1 at hx
  split at hx
  ·rename_i h1
   simp only [Prod.mk.injEq,and_true] at hx
   rw [← hx];exact h1
  ·simp at hx
 unfold macOf at h
 split at h
 ·split at h
  ·split at h
   ·exact hc _ h
   ·simp at h
  ·exact hc _ h
 ·simp at h
theorem macOf_no {l:List Tok} {m:DMacro} (h:macOf l=(m,false)):m=Zb0:=by
 have hc:∀ x:DMacro,Zb1 x=(m,false)->m=Zb0:=λ x hx=>by
  unfold Zb1 at hx
  split at hx
  ·simp at hx
  ·simp only [Prod.mk.injEq,and_true] at hx;exact hx.symm
 unfold macOf at h
 split at h
 ·split at h
  ·split at h
   ·exact hc _ h
   ·simp only [Prod.mk.injEq,and_true] at h;exact h.symm
  ·exact hc _ h
 ·simp only [Prod.mk.injEq,and_true] at h;exact h.symm
theorem Zdo (x:ByteArray) (l:List UInt8):(x.toList==l)=decide (x=⟨l.toArray⟩):=by
 rw [ByteArray.toList_eq]
 by_cases h:x=⟨l.toArray⟩
 ·subst h;simp
 ·rw [decide_eq_false h,beq_eq_false_iff_ne]
  intro e
  apply h
  rw [← e]
theorem txt_t {x:ByteArray} {l:List UInt8} (h:x=⟨l.toArray⟩):(x.toList==l)=true:=by rw [Zdo,decide_eq_true h]
theorem txt_f {x:ByteArray} {l:List UInt8} (h:x≠⟨l.toArray⟩):(x.toList==l)=false:=by rw [Zdo,decide_eq_false h]
/-! ### Parameters -/
def ParUpto (ps:List ByteArray) (k:Nat):Prop:=∀ j,j<k->parOk ps j=true
theorem ParUpto.zero (ps:List ByteArray):ParUpto ps 0:=by intro j h;omega
theorem ParUpto.succ {ps:List ByteArray} {k:Nat} (h:ParUpto ps k) (h1:parOk ps k=true):ParUpto ps (k+1):=by
 intro j hj
 by_cases e:j=k
 ·subst e;exact h1
 ·exact h j (by omega)
def NotUpto (ps:List ByteArray) (x:ByteArray) (j:Nat):Prop:=∀ i,i<j->ps[i]?≠some x
theorem NotUpto.zero (ps:List ByteArray) (x:ByteArray):NotUpto ps x 0:=by intro i h;omega
theorem NotUpto.succ {ps:List ByteArray} {x:ByteArray} {j:Nat} (h:NotUpto ps x j) (hj:j<ps.length) (hn:ps[j]≠x):NotUpto ps x (j+1):=by
 intro i hi
 by_cases e:i=j
 ·subst e;rw [List.getElem?_eq_getElem hj];intro h';exact hn (Option.some.inj h')
 ·exact h i (by omega)
theorem par_name {ps:List ByteArray} {k:Nat} (hk:k<ps.length) (h:Zak ps[k] 1=false):parOk ps k=false:=by unfold parOk;rw [dif_pos hk,h];rfl
theorem Znk {ps:List ByteArray} {k j:Nat} (hk:k<ps.length) (hj:j<k) (h:ps[j]'(by omega)=ps[k]):parOk ps k=false:=by
 unfold parOk
 rw [dif_pos hk]
 have:(List.range k).all (λ j=>!decide (ps[j]?=some ps[k]))=false:=by
  rw [List.all_eq_false]
  exact⟨j,by simpa using hj,by simp [List.getElem?_eq_getElem (show j<ps.length by omega),h]⟩
 rw [this,Bool.and_false]
theorem par_yes {ps:List ByteArray} {k:Nat} (hk:k<ps.length) (h:Zak ps[k] 1=true) (hn:NotUpto ps ps[k] k):parOk ps k=true:=by
 unfold parOk
 rw [dif_pos hk,h,Bool.true_and,List.all_eq_true]
 intro j hj
 have:=hn j (by simpa using hj)
 simp [this]
/-! ### The body -/
def bodI (b:List Tok) (k:Nat):Bool:=
 if h:k<b.length then
  decide (b[k].hidden.length=0) && !(decide (k=0) && b[k].spaced) && !(decide (b[k].text=hash2) && (decide (k=0) || decide (k+1=b.length) || decide ((b[k-1]'(by omega)).text=hash2)))
 else true
def hasTx (ps:List ByteArray) (x:ByteArray):Bool:=ps.any λ p=>decide (p=x)
theorem hasTx_iff {ps:List ByteArray} {x:ByteArray}:hasTx ps x=true ↔ x∈ps:=by
 unfold hasTx
 rw [List.any_eq_true]
 exact⟨λ ⟨p,h1,h2⟩=>by rw [← of_decide_eq_true h2];exact h1,λ h=>⟨x,h,by simp⟩⟩
def signS (m:DMacro) (k:Nat):Bool:=if h:k<m.body.length then !(decide (m.body[k].text=hash1) && (if h2:k+1<m.body.length then decide (parOf m.params m.body[k+1]<0) else true)) else true
def signI (m:DMacro) (k:Nat):Bool:=if h:k<m.body.length then !(decide (m.body[k].text=hash1) && (if h2:k+1<m.body.length then !hasTx m.params m.body[k+1].text else true)) else true
theorem ZcF (m:DMacro) (k:Nat) (hk:k<m.body.length):bodOk m k=(tokOk m.body[k] && bodI m.body k && (!m.function || signS m k)):=by
 unfold bodOk bodI signS
 rw [dif_pos hk,dif_pos hk,dif_pos hk]
 cases tokOk m.body[k] <;> cases decide (m.body[k].hidden.length=0) <;> cases (decide (k=0) && m.body[k].spaced) <;> cases m.function <;> simp
theorem Zf6 {b:List Tok} {k:Nat} (hk:k<b.length) :
  (b[k].hidden.length≠0/\Hid (bodI b k=false)) \/
  (b[k].hidden.length=0/\k=0/\b[k].spaced=true/\Hid (bodI b k=false)) \/
  (b[k].hidden.length=0/\k=0/\b[k].spaced=false/\b[k].text=hash2/\Hid (bodI b k=false)) \/
  (b[k].hidden.length=0/\k=0/\b[k].spaced=false/\b[k].text≠hash2/\Hid (bodI b k=true)) \/
  (b[k].hidden.length=0/\k≠0/\b[k].text=hash2/\k+1=b.length/\Hid (bodI b k=false)) \/
  (b[k].hidden.length=0/\k≠0/\b[k].text=hash2/\k+1≠b.length/\(b[k-1]'(by omega)).text=hash2/\Hid (bodI b k=false)) \/
  (b[k].hidden.length=0/\k≠0/\b[k].text=hash2/\k+1≠b.length/\(b[k-1]'(by omega)).text≠hash2/\Hid (bodI b k=true)) \/
  (b[k].hidden.length=0/\k≠0/\b[k].text≠hash2/\Hid (bodI b k=true)):=by
 have e:bodI b k=(decide (b[k].hidden.length=0) && !(decide (k=0) && b[k].spaced) && !(decide (b[k].text=hash2) && (decide (k=0) || decide (k+1=b.length) || decide ((b[k-1]'(by omega)).text=hash2)))):=by
  unfold bodI;rw [dif_pos hk]
 by_cases h1:b[k].hidden.length=0
 ·by_cases h2:k=0
  ·subst h2
   cases h3:b[0].spaced
   ·by_cases h4:b[0].text=hash2
    ·exact .inr (.inr (.inl ⟨h1,rfl,rfl,h4,by show _=_;rw [e,h3,decide_eq_true h4];simp⟩))
    ·exact .inr (.inr (.inr (.inl ⟨h1,rfl,rfl,h4,by show _=_;rw [e,h3,decide_eq_true h1,decide_eq_false h4];simp⟩)))
   ·exact .inr (.inl ⟨h1,rfl,rfl,by show _=_;rw [e,h3];simp⟩)
  ·by_cases h4:b[k].text=hash2
   ·by_cases h5:k+1=b.length
    ·exact .inr (.inr (.inr (.inr (.inl ⟨h1,h2,h4,h5,by show _=_;rw [e];simp [h4,h5]⟩))))
    ·by_cases h6:(b[k-1]'(by omega)).text=hash2
     ·exact .inr (.inr (.inr (.inr (.inr (.inl ⟨h1,h2,h4,h5,h6,by show _=_;rw [e];simp [h4,h6]⟩)))))
     ·exact .inr (.inr (.inr (.inr (.inr (.inr (.inl ⟨h1,h2,h4,h5,h6,by show _=_;rw [e];simp [h1,h2,h5,h6]⟩))))))
   ·exact .inr (.inr (.inr (.inr (.inr (.inr (.inr ⟨h1,h2,h4,by show _=_;rw [e];simp [h1,h2,h4]⟩))))))
 ·exact .inl ⟨h1,by show _=_;rw [e];simp [h1]⟩
def BodUpto (p:Nat->Bool) (k:Nat):Prop:=∀ j,j<k->p j=true
theorem BodUpto.zero (p:Nat->Bool):BodUpto p 0:=by intro j h;omega
theorem BodUpto.succ {p:Nat->Bool} {k:Nat} (h:BodUpto p k) (h1:p k=true):BodUpto p (k+1):=by
 intro j hj
 by_cases e:j=k
 ·subst e;exact h1
 ·exact h j (by omega)
theorem Zdp {p:Nat->Bool} {n k:Nat} (hk:k<n) (h:p k=false):(List.range n).all p=false:=by
 rw [List.all_eq_false];exact⟨k,by simpa using hk,by simp [h]⟩
theorem Zcq {p:Nat->Bool} {n:Nat} (h:∀ j,j<n->p j=true):(List.range n).all p=true:=by
 rw [List.all_eq_true];intro j hj;exact h j (by simpa using hj)
theorem ZgR {m:DMacro} {k:Nat} (hk:k<m.body.length) (h:m.body[k].text≠hash1):signS m k=true:=by unfold signS;rw [dif_pos hk,decide_eq_false h];rfl
theorem ZmF {m:DMacro} {k:Nat} (hk:k<m.body.length) (h:m.body[k].text=hash1) (hl:k+1=m.body.length):signS m k=false:=by unfold signS;rw [dif_pos hk,decide_eq_true h,dif_neg (by omega)];rfl
theorem signS_no {m:DMacro} {k:Nat} (hk:k+1<m.body.length) (h:(m.body[k]'(by omega)).text=hash1) (hp:parOf m.params m.body[k+1]<0):signS m k=false:=by unfold signS;rw [dif_pos (by omega),decide_eq_true h,dif_pos hk,decide_eq_true hp];rfl
theorem Znl {m:DMacro} {k:Nat} (hk:k+1<m.body.length) (h:(m.body[k]'(by omega)).text=hash1) (hp:¬ parOf m.params m.body[k+1]<0):signS m k=true:=by unfold signS;rw [dif_pos (by omega),decide_eq_true h,dif_pos hk,decide_eq_false hp];rfl
/-! ### Macros of the model -/
theorem Zcy {m:DMacro} (h:Zdn m=false):macOk m=false:=by unfold macOk;rw [h];rfl
theorem Zjk {m:DMacro} {k:Nat} (hk:k<m.params.length) (h:parOk m.params k=false):macOk m=false:=by unfold macOk;rw [Zdp hk h];simp
theorem ZaV {m:DMacro} {k:Nat} (hk:k<m.body.length) (h:bodOk m k=false):macOk m=false:=by unfold macOk;rw [Zdp hk h];simp
theorem Zjl {m:DMacro} (h:Zdn m=true) (h1:ParUpto m.params m.params.length) (h2:BodUpto (bodOk m) m.body.length):macOk m=true:=by unfold macOk;rw [h,Zcq h1,Zcq h2];rfl
theorem Zjm (m:DMacro) :
  (Zak m.name 1=false/\Hid (macOk m=false)) \/
  (Zak m.name 1=true/\m.name=Za2/\Hid (macOk m=false)) \/
  (Zak m.name 1=true/\m.name≠Za2/\4<m.params.length/\Hid (macOk m=false)) \/
  (Zak m.name 1=true/\m.name≠Za2/\m.params.length<=4/\m.function=false/\0<m.params.length/\Hid (macOk m=false)) \/
  (Zak m.name 1=true/\m.name≠Za2/\m.params.length<=4/\(m.function=true\/m.params.length=0)/\20<m.body.length/\Hid (macOk m=false)) \/
  (Zak m.name 1=true/\m.name≠Za2/\m.params.length<=4/\(m.function=true\/m.params.length=0)/\m.body.length<=20/\Hid (Zdn m=true)):=by
 have hd:Zdn m=(Zak m.name 1 && !decide (m.name=Za2) && decide (m.params.length<=4) && (m.function || decide (m.params.length=0)) && decide (m.body.length<=20)):=rfl
 cases h1:Zak m.name 1
 ·exact .inl ⟨rfl,Zcy (by rw [hd,h1];rfl)⟩
 by_cases h2:m.name=Za2
 ·exact .inr (.inl ⟨rfl,h2,Zcy (by rw [hd,h1];simp [h2])⟩)
 by_cases h3:m.params.length<=4
 ·cases h4:m.function
  ·by_cases h5:m.params.length=0
   ·by_cases h6:m.body.length<=20
    ·exact .inr (.inr (.inr (.inr (.inr ⟨rfl,h2,h3,.inr h5,h6,by show _=_;rw [hd,h1];simp [h2,h5,h6]⟩))))
    ·exact .inr (.inr (.inr (.inr (.inl ⟨rfl,h2,h3,.inr h5,by omega,Zcy (by rw [hd];simp [h6])⟩))))
   ·exact .inr (.inr (.inr (.inl ⟨rfl,h2,h3,rfl,by omega,Zcy (by rw [hd,h4];simp [h5])⟩)))
  ·by_cases h6:m.body.length<=20
   ·exact .inr (.inr (.inr (.inr (.inr ⟨rfl,h2,h3,.inl rfl,h6,by show _=_;rw [hd,h1,h4];simp [h2,h3,h6]⟩))))
   ·exact .inr (.inr (.inr (.inr (.inl ⟨rfl,h2,h3,.inl rfl,by omega,Zcy (by rw [hd];simp [h6])⟩))))
 ·exact .inr (.inr (.inl ⟨rfl,h2,by omega,Zcy (by rw [hd];simp [h3])⟩))
/-! ### Macros of the program -/
def Zcr (ps:List ByteArray):Bool:=decide (ps.length<=4) && (List.range ps.length).all (parOk ps)
def ZaR (b:List Tok):Bool:=decide (b.length<=20) && Zaj b && (List.range b.length).all (bodI b)
def Zd1 (m:DMacro):Bool:=(List.range m.body.length).all (signI m)
theorem Zhb {x:ByteArray} {k k':Int} (h:Zak x k=true) (h':Zak x k'=true):k=k':=by
 rcases ZcJ x k with⟨_,H⟩ | ⟨_,_,_,H⟩ | ⟨_,_,_,H⟩ | ⟨_,_,_,_,H⟩ | ⟨t,hr,hk,_,_,_⟩
 ·exact absurd (H.out.symm.trans h) (by simp)
 ·exact absurd (H.out.symm.trans h) (by simp)
 ·exact absurd (H.out.symm.trans h) (by simp)
 ·exact absurd (H.out.symm.trans h) (by simp)
 ·unfold Zak at h'
  rw [hr] at h'
  simp at h'
  rw [← hk,← h'.1]
theorem Zlw {ps:List ByteArray} {t:Tok} (hk:t.kind=1) (k:Nat):parFrom ps t k<0 ↔ t.text∉ps.drop k:=by
 induction k using parFrom.induct (ps:=ps) (t:=t) with
 |
  case1 k h hc =>
  rw [parFrom,dif_pos h,if_pos hc,List.drop_eq_getElem_cons h]
  simp [hc.2]
 |
  case2 k h hc ih =>
  rw [parFrom,dif_pos h,if_neg hc,ih,List.drop_eq_getElem_cons h]
  have hn:¬ t.text=ps[k]:=λ e=>hc ⟨hk,e.symm⟩
  rw [List.mem_cons,not_or]
  exact⟨λ h=>⟨hn,h⟩,λ h=>h.2⟩
 | case3 k h=>rw [parFrom,dif_neg h,List.drop_eq_nil_iff.2 (by omega)];simp
theorem Zkj {ps:List ByteArray} {t:Tok} (hk:t.kind≠1) (k:Nat):parFrom ps t k<0:=by
 induction k using parFrom.induct (ps:=ps) (t:=t) with
 | case1 k h hc=>exact absurd hc.1 hk
 | case2 k h hc ih=>rw [parFrom,dif_pos h,if_neg hc];exact ih
 | case3 k h=>rw [parFrom,dif_neg h];omega
theorem Znm {m:DMacro} (hp:∀ k,(hk:k<m.params.length)->Zak m.params[k] 1=true) (hb:∀ k,(hk:k<m.body.length)->tokOk m.body[k]=true) (k:Nat):signI m k=signS m k:=by
 unfold signI signS
 by_cases h:k<m.body.length
 ·rw [dif_pos h,dif_pos h]
  by_cases h2:k+1<m.body.length
  ·rw [dif_pos h2,dif_pos h2]
   have e:(!hasTx m.params m.body[k+1].text)=decide (parOf m.params m.body[k+1]<0):=by
    by_cases hk:m.body[k+1].kind=1
    ·have:=Zlw (ps:=m.params) hk 0
     rw [List.drop_zero] at this
     unfold parOf
     by_cases hm:m.body[k+1].text∈m.params
     ·have h3:¬ parFrom m.params m.body[k+1] 0<0:=λ h=>this.1 h hm
      rw [hasTx_iff.2 hm,decide_eq_false h3];rfl
     ·have h4:hasTx m.params m.body[k+1].text=false:=by
       cases h:hasTx m.params m.body[k+1].text
       ·rfl
       ·exact absurd (hasTx_iff.1 h) hm
      rw [h4,decide_eq_true (this.2 hm)];rfl
    ·have h3:=Zkj (ps:=m.params) hk 0
     have hm:m.body[k+1].text∉m.params:=λ hm=>by
      obtain⟨i,hi,he⟩:=List.getElem_of_mem hm
      have h4:=hp i hi
      rw [he] at h4
      have h5:=hb (k+1) h2
      unfold tokOk at h5
      rw [Bool.and_eq_true] at h5
      exact hk (Zhb h5.1 h4)
     have h4:hasTx m.params m.body[k+1].text=false:=by
      cases h:hasTx m.params m.body[k+1].text
      ·rfl
      ·exact absurd (hasTx_iff.1 h) hm
     unfold parOf
     rw [h4,decide_eq_true h3];rfl
   rw [e]
  ·rw [dif_neg h2,dif_neg h2]
 ·rw [dif_neg h,dif_neg h]
theorem Zl3 (n:Nat) (p q:Nat->Bool):(List.range n).all (λ k=>p k && q k)=((List.range n).all p && (List.range n).all q):=by
 induction n with
 | zero=>rfl
 |
  succ n ih =>
  simp only [List.range_succ,List.all_append,ih,List.all_cons,List.all_nil,Bool.and_true]
  cases (List.range n).all p <;> cases (List.range n).all q <;> cases p n <;> cases q n <;> rfl
theorem Ziz {n:Nat} {p q:Nat->Bool} (h:∀ k,k<n->p k=q k):(List.range n).all p=(List.range n).all q:=by
 cases hq:(List.range n).all q
 ·rw [List.all_eq_false] at hq
  obtain⟨k,hk,h2⟩:=hq
  have hk':k<n:=by simpa using hk
  exact Zdp hk' (by rw [h k hk'];simpa using h2)
 ·rw [List.all_eq_true] at hq
  exact Zcq λ j hj=>by rw [h j hj];exact hq j (by simpa using hj)
theorem ZhU {b:List Tok} (h:b.length<=20):Zaj b=(List.range b.length).all (λ k=>if h:k<b.length then tokOk b[k] else true):=by
 unfold Zaj
 rw [decide_eq_true (by omega:b.length<=60),Bool.true_and]
 cases hr:(List.range b.length).all (λ k=>if h:k<b.length then tokOk b[k] else true)
 ·rw [List.all_eq_false] at hr ⊢
  obtain⟨k,hk,h2⟩:=hr
  have hk':k<b.length:=by simpa using hk
  rw [dif_pos hk'] at h2
  exact⟨b[k],List.getElem_mem hk',h2⟩
 ·rw [List.all_eq_true] at hr ⊢
  intro t ht
  obtain⟨i,hi,rfl⟩:=List.getElem_of_mem ht
  have:=hr i (by simpa using hi)
  rw [dif_pos hi] at this
  exact this
theorem Zfm (m:DMacro):macOk m=(Zak m.name 1 && !decide (m.name=Za2) && (if m.function=true then Zcr m.params && ZaR m.body && Zd1 m else decide (m.params.length=0) && ZaR m.body)):=by
 have hd:Zdn m=(Zak m.name 1 && !decide (m.name=Za2) && decide (m.params.length<=4) && (m.function || decide (m.params.length=0)) && decide (m.body.length<=20)):=rfl
 have hB:m.body.length<=20->(List.range m.body.length).all (bodOk m)=(Zaj m.body && (List.range m.body.length).all (bodI m.body) && (List.range m.body.length).all (λ k=>!m.function || signS m k)):=by
  intro hl
  rw [ZhU hl,← Zl3,← Zl3]
  exact Ziz λ k hk=>by rw [dif_pos hk];exact ZcF m k hk
 unfold macOk
 rw [hd]
 by_cases hl:m.body.length<=20
 ·rw [hB hl,decide_eq_true hl]
  cases hf:m.function
  ·rw [if_neg (by simp)]
   have e1:(List.range m.body.length).all (λ k=>!false || signS m k)=true:=Zcq λ _ _=>rfl
   rw [e1]
   unfold ZaR
   rw [decide_eq_true hl]
   by_cases h0:m.params.length=0
   ·rw [h0]
    simp
   ·rw [decide_eq_false h0];simp
  ·rw [if_pos rfl]
   unfold Zcr ZaR Zd1
   rw [decide_eq_true hl]
   have e1:(List.range m.body.length).all (λ k=>!true || signS m k)=(List.range m.body.length).all (signS m):=Ziz λ _ _=>by simp
   rw [e1]
   cases hp:(List.range m.params.length).all (parOk m.params)
   ·simp
   cases ht:Zaj m.body
   ·simp
   have e2:(List.range m.body.length).all (signI m)=(List.range m.body.length).all (signS m):=Ziz λ k _=>by
    refine Znm (λ k hk=>?_) (λ k hk=>?_) k
    ·rw [List.all_eq_true] at hp
     have:=hp k (by simpa using hk)
     unfold parOk at this
     rw [dif_pos hk,Bool.and_eq_true] at this
     exact this.1
    ·rw [ZhU hl,List.all_eq_true] at ht
     have:=ht k (by simpa using hk)
     rw [dif_pos hk] at this
     exact this
   rw [e2]
   simp only [Bool.true_or,Bool.and_true,Bool.true_and,Bool.and_assoc]
 ·have e1:ZaR m.body=false:=by unfold ZaR;rw [decide_eq_false hl];rfl
  rw [decide_eq_false hl,e1]
  simp
theorem Zf7 (m:DMacro) (h2 h3:Value) (fp2 fp3:List Nat) (w:World) (k0:okStr m.name) (K2:(Zaa sStr).R w [h2] m.params fp2) (K3:(Zaa sTok).R w [h3] m.body fp3) (hf:m.function=false) :
  Calls Tryz.prog 68 #[.agg #[.string m.name,.bool m.function,h2,h3]] w (Says (macOk m) w):=by
 obtain⟨a2,cap2,rfl,hc2,hm2,hcell2,hsz2⟩:=Zaf K2
 have K3':=K3
 obtain⟨a3,cap3,rfl,hc3,hm3,hrow3⟩:=Zac K3
 unfold maxLen at hm2 hm3
 rw [hf]
 have HN:=Qh (λ W=>ZeO m.name W k0)
 have hb0:=Zab w (.cells #[.string m.name,.bool false,.slice a2 m.params.length cap2,.slice a3 m.body.length cap3] 70)
 have HX:=Qh (heap_alloc_new w (.cells #[.string m.name,.bool false,.slice a2 m.params.length cap2,.slice a3 m.body.length cap3] 70))
 go_enter Tryz.func68,Tryz.ntmps68
 rcases Zjm m with⟨g1,HF⟩ | ⟨g1,g2,HF⟩ | ⟨g1,g2,g3,HF⟩ | ⟨g1,g2,g3,g4,g5,HF⟩ | ⟨g1,g2,g3,g4,g5,HF⟩ | ⟨g1,g2,g3,g4,g5,HH⟩
 ·rw [g1] at HN
  clear g1
  go_wp2_with (go_at_call 95;refine (HN.out _).mono ?_;rintro e w1 ⟨rfl,hb1⟩)
  go_ret
  exact⟨Zad HF.out.symm,hb0.trans (hb1.mono hb0.size)⟩
 ·rw [g1] at HN
  have e2:=txt_t (l:=[100,101,102,105,110,101,100]) g2
  clear g1 g2
  go_wp2_with (go_at_call 95;refine (HN.out _).mono ?_;rintro e w1 ⟨rfl,hb1⟩;have q0:=Qc 0 ((hb1.block _ (Qg HX.out).1).trans HX.out))
  go_ret
  exact⟨Zad HF.out.symm,hb0.trans (hb1.mono hb0.size)⟩
 ·rw [g1] at HN
  have e2:=txt_f (l:=[100,101,102,105,110,101,100]) g2
  clear g1 g2
  go_wp2_with (go_at_call 95;refine (HN.out _).mono ?_;rintro e w1 ⟨rfl,hb1⟩;have q0:=Qc 0 ((hb1.block _ (Qg HX.out).1).trans HX.out);have q2:=Qc 2 ((hb1.block _ (Qg HX.out).1).trans HX.out))
  go_ret
  exact⟨Zad HF.out.symm,hb0.trans (hb1.mono hb0.size)⟩
 ·rw [g1] at HN
  have e2:=txt_f (l:=[100,101,102,105,110,101,100]) g2
  clear g1 g2
  go_wp2_with (go_at_call 95;refine (HN.out _).mono ?_;rintro e w1 ⟨rfl,hb1⟩;have q0:=Qc 0 ((hb1.block _ (Qg HX.out).1).trans HX.out);have q1:=Qc 1 ((hb1.block _ (Qg HX.out).1).trans HX.out);have q2:=Qc 2 ((hb1.block _ (Qg HX.out).1).trans HX.out))
  go_ret
  exact⟨Zad HF.out.symm,hb0.trans (hb1.mono hb0.size)⟩
 ·rw [g1] at HN
  have e2:=txt_f (l:=[100,101,102,105,110,101,100]) g2
  have g6:¬ (0:Int)<(m.params.length:Int):=by rcases g4 with h | h;rw [hf] at h;simp at h;omega
  have g7:¬ 0<m.params.length:=by omega
  clear g1 g2 g4
  go_wp2_with (go_at_call 95;refine (HN.out _).mono ?_;rintro e w1 ⟨rfl,hb1⟩;have q0:=Qc 0 ((hb1.block _ (Qg HX.out).1).trans HX.out);have q1:=Qc 1 ((hb1.block _ (Qg HX.out).1).trans HX.out);have q2:=Qc 2 ((hb1.block _ (Qg HX.out).1).trans HX.out);have q3:=Qc 3 ((hb1.block _ (Qg HX.out).1).trans HX.out))
  go_ret
  exact⟨Zad HF.out.symm,hb0.trans (hb1.mono hb0.size)⟩
 ·rw [g1] at HN
  have e2:=txt_f (l:=[100,101,102,105,110,101,100]) g2
  have g6:¬ (0:Int)<(m.params.length:Int):=by rcases g4 with h | h;rw [hf] at h;simp at h;omega
  have g7:¬ 0<m.params.length:=by omega
  clear g1 g2 g4
  go_wp2_with (go_at_call 95;refine (HN.out _).mono ?_;rintro e w1 ⟨rfl,hb1⟩;have q0:=Qc 0 ((hb1.block _ (Qg HX.out).1).trans HX.out);have q1:=Qc 1 ((hb1.block _ (Qg HX.out).1).trans HX.out);have q2:=Qc 2 ((hb1.block _ (Qg HX.out).1).trans HX.out);have q3:=Qc 3 ((hb1.block _ (Qg HX.out).1).trans HX.out))
  have hB1:=hb0.trans (hb1.mono hb0.size)
  have HX1:=Qh ((hb1.block _ (Qg HX.out).1).trans HX.out)
  have HM:=Qh (λ W (hb:Below w.heap.size w W)=>sMacro.below (show sMacro.R w [.string m.name,.bool false,.slice a2 m.params.length cap2,.slice a3 m.body.length cap3] m (fp2++fp3) from⟨_,_,fp2,fp3,by rw [hf],k0,K2,K3,rfl⟩) hb)
  clear q0 q1 q2 q3 HN hb0 HX hb1 K3' K2 K3
  go_loopw [3] (λ i wr=>∃ k:Nat,k<=m.params.length/\i=.int .i64 k/\ParUpto m.params k/\Below w1.heap.size w1 wr) (λ i _=>m.params.length-(intOf i).toNat)
  case atStart=>exact⟨0,by omega,rfl,ParUpto.zero _,Below.refl _ _⟩
  case round =>
   obtain⟨k,hk,rfl,hall,hb⟩:=hrel
   have HX2:=Qh ((hb.block _ (Qg HX1.out).1).trans HX1.out)
   have q2:=Qc 2 HX2.out
   have q3:=Qc 3 HX2.out
   have hbw:=hB1.trans (hb.mono hB1.size)
   by_cases hlt:k<m.params.length
   ·omega
   ·have HP:=Qh (show ParUpto m.params m.params.length from λ j hj=>hall j (by omega))
    have hz:decide (k<m.params.length)=false:=decide_eq_false hlt
    clear hall hk
    go_wp2
    try rw [hz]
    clear q2 q3 HX2 hbw hlt hz
    go_loopw [6] (λ i wr=>∃ k:Nat,k<=m.body.length/\i=.int .i64 k/\BodUpto (bodOk m) k/\Below w1.heap.size w1 wr) (λ i _=>m.body.length-(intOf i).toNat)
    case atStart=>exact⟨0,by omega,rfl,BodUpto.zero _,hb⟩
    case round =>
     clear hb
     obtain⟨k,hk,rfl,hall,hb⟩:=hrel
     have HX3:=Qh ((hb.block _ (Qg HX1.out).1).trans HX1.out)
     have q3:=Qc 3 HX3.out
     have hbw:=hB1.trans (hb.mono hB1.size)
     by_cases hlt:k<m.body.length
     ·obtain⟨b1,off1,fps1,rfl,hb1',-,he1⟩:=hrow3 (by omega)
      obtain⟨es1,hE1,hR1⟩:=he1 k hlt
      have hR1':=hR1
      obtain⟨hh,rfl,-,-,K1⟩:=hR1
      obtain⟨ah,caph,rfl,-⟩:=Zac K1
      replace hE1:=hE1.frame (hbw.block b1 hb1')
      have c10:wr.cell? ⟨b1,off1+k * 4,none⟩=some _:=Zao hE1 (by decide) rfl
      have c11:wr.cell? ⟨b1,off1+k * 4+1,none⟩=some _:=Zae (j:=1) hE1 (by decide) rfl
      have c12:wr.cell? ⟨b1,off1+k * 4+2,none⟩=some _:=Zae (j:=2) hE1 (by decide) rfl
      have c13:wr.cell? ⟨b1,off1+k * 4+3,none⟩=some _:=Zae (j:=3) hE1 (by decide) rfl
      have hbx:Below wr.heap.size wr (wr.alloc (.cells #[.int .i64 m.body[k].kind,.string m.body[k].text,.bool m.body[k].spaced,.slice ah m.body[k].hidden.length caph] 57)):=Zab _ _
      have HT:=Qh (heap_alloc_new wr (.cells #[.int .i64 m.body[k].kind,.string m.body[k].text,.bool m.body[k].spaced,.slice ah m.body[k].hidden.length caph] 57))
      have HV:=Qh (λ W (hW:Below (wr.alloc (.cells #[.int .i64 m.body[k].kind,.string m.body[k].text,.bool m.body[k].spaced,.slice ah m.body[k].hidden.length caph] 57)).heap.size (wr.alloc (.cells #[.int .i64 m.body[k].kind,.string m.body[k].text,.bool m.body[k].spaced,.slice ah m.body[k].hidden.length caph] 57)) W)=>ZbL _ _ _ W (sTok.below (sTok.below (sTok.below hR1' hbw) hbx) hW))
      clear K1 hR1' hE1
      go_wp2_with fail
      refine (HV.out _ (Below.refl _ _)).mono ?_
      rintro e w2 ⟨rfl,hb2⟩
      have HT2:=Qh ((hb2.block _ (Qg HT.out).1).trans HT.out)
      have hb02:=hbx.trans (hb2.mono hbx.size)
      have hbq:=hb.trans (hb02.mono hb.size)
      have hbw2:=hB1.trans (hbq.mono hB1.size)
      have HX4:=Qh ((hb02.block _ (Qg HX3.out).1).trans HX3.out)
      have p1:=Qc 1 HT2.out
      have p2:=Qc 2 HT2.out
      have p3:=Qc 3 HT2.out
      clear q3 c10 c11 c12 c13 HV HT hb2 HX3 hbx hb02 hbw hb
      have q0:=Qc 0 HX4.out
      have q1:=Qc 1 HX4.out
      have q2:=Qc 2 HX4.out
      have q3:=Qc 3 HX4.out
      cases hv:tokOk m.body[k]
      ·have HF:=Qh (ZaV hlt (by rw [ZcF _ _ hlt,hv];rfl))
       clear hv hall
       go_wp2
       go_ret
       exact⟨Zad HF.out.symm,hbw2⟩
      have HS:=Qh (ZcF m k hlt)
      rw [hv] at HS
      clear hv
      have g00:((k:Int)==0)=decide (k=0):=by rw [Bool.eq_iff_iff];simp
      have g01:((k:Int)==(m.body.length:Int)-1)=decide (k+1=m.body.length):=by rw [Bool.eq_iff_iff];simp;omega
      rcases Zf6 hlt with⟨e1,HI⟩ | ⟨e1,e2,e3,HI⟩ | ⟨e1,e2,e3,e4,HI⟩ | ⟨e1,e2,e3,e4,HI⟩ | ⟨e1,e2,e4,e5,HI⟩ | ⟨e1,e2,e4,e5,e6,HI⟩ | ⟨e1,e2,e4,e5,e6,HI⟩ | ⟨e1,e2,e4,HI⟩
      ·have HF:=Qh (ZaV hlt (by rw [HS.out,HI.out];simp))
       have f0:(0:Int)<(m.body[k].hidden.length:Int):=by omega
       have f01:0<m.body[k].hidden.length:=by omega
       have f02:decide ((0:Int)<(m.body[k].hidden.length:Int))=true:=decide_eq_true f0
       clear e1 hall
       go_wp2
       go_ret
       exact⟨Zad HF.out.symm,hbw2⟩
      ·have HF:=Qh (ZaV hlt (by rw [HS.out,HI.out];simp))
       have f0:¬ (0:Int)<(m.body[k].hidden.length:Int):=by omega
       have f01:¬ 0<m.body[k].hidden.length:=by omega
       rw [decide_eq_true e2] at g00
       rw [e3] at p2
       clear e2 e3
       clear e1 hall
       go_wp2
       go_ret
       exact⟨Zad HF.out.symm,hbw2⟩
      ·have HF:=Qh (ZaV hlt (by rw [HS.out,HI.out];simp))
       have f0:¬ (0:Int)<(m.body[k].hidden.length:Int):=by omega
       have f01:¬ 0<m.body[k].hidden.length:=by omega
       rw [decide_eq_true e2] at g00
       rw [e3] at p2
       have f4:=txt_t (l:=[35,35]) e4
       have E4:=Qh e4
       clear e4
       clear e2 e3
       clear e1 hall
       go_wp2
       go_ret
       exact⟨Zad HF.out.symm,hbw2⟩
      ·have f0:¬ (0:Int)<(m.body[k].hidden.length:Int):=by omega
       have f01:¬ 0<m.body[k].hidden.length:=by omega
       rw [decide_eq_true e2] at g00
       rw [e3] at p2
       have f4:=txt_f (l:=[35,35]) e4
       have E4:=Qh e4
       clear e4
       clear e1 e2 e3
       have HN:=Qh (hall.succ (by rw [HS.out,HI.out,hf];rfl))
       clear hall
       go_wp2
       go_quiet (fail)
       go_wp2
       go_roundw
       case rel=>first | exact⟨k+1,by omega,by go_num,HN.out,Zag hbq _⟩ | ((repeat apply Exists.intro);exact⟨⟨k+1,by omega,by go_num,HN.out,Zag hbq _⟩,rfl⟩)
       case measure=>simp [intOf];omega
      ·have HF:=Qh (ZaV hlt (by rw [HS.out,HI.out];simp))
       have f0:¬ (0:Int)<(m.body[k].hidden.length:Int):=by omega
       have f01:¬ 0<m.body[k].hidden.length:=by omega
       rw [decide_eq_false e2] at g00
       have f4:=txt_t (l:=[35,35]) e4
       have E4:=Qh e4
       clear e4
       rw [decide_eq_true e5] at g01
       clear e2 e5
       clear e1 hall
       go_wp2
       go_ret
       exact⟨Zad HF.out.symm,hbw2⟩
      ·have HF:=Qh (ZaV hlt (by rw [HS.out,HI.out];simp))
       have f0:¬ (0:Int)<(m.body[k].hidden.length:Int):=by omega
       have f01:¬ 0<m.body[k].hidden.length:=by omega
       rw [decide_eq_false e2] at g00
       have f4:=txt_t (l:=[35,35]) e4
       have E4:=Qh e4
       clear e4
       rw [decide_eq_false e5] at g01
       obtain⟨es2,hE2,hR2⟩:=he1 (k-1) (by omega)
       obtain⟨h9,rfl,-,-,-⟩:=hR2
       replace hE2:=hE2.frame (hbw2.block b1 hb1')
       have c21:w2.cell? ⟨b1,off1+(k-1) * 4+1,none⟩=some _:=Zae (j:=1) hE2 (by decide) rfl
       have h6:((k:Int)-1).toNat=k-1:=by omega
       have hwl:IntKind.i64.wrap ((k:Int)-1)=(k:Int)-1:=IntWalk.i64_in _ (by omega)
       have hi1:(0:Int)<=(k:Int)-1:=by omega
       have hi2:(k:Int)-1<(m.body.length:Int):=by omega
       clear hE2
       have f6:=txt_t (l:=[35,35]) e6
       clear e2 e5 e6
       clear e1 hall
       go_wp2
       go_ret
       exact⟨Zad HF.out.symm,hbw2⟩
      ·have f0:¬ (0:Int)<(m.body[k].hidden.length:Int):=by omega
       have f01:¬ 0<m.body[k].hidden.length:=by omega
       rw [decide_eq_false e2] at g00
       have f4:=txt_t (l:=[35,35]) e4
       have E4:=Qh e4
       clear e4
       rw [decide_eq_false e5] at g01
       obtain⟨es2,hE2,hR2⟩:=he1 (k-1) (by omega)
       obtain⟨h9,rfl,-,-,-⟩:=hR2
       replace hE2:=hE2.frame (hbw2.block b1 hb1')
       have c21:w2.cell? ⟨b1,off1+(k-1) * 4+1,none⟩=some _:=Zae (j:=1) hE2 (by decide) rfl
       have h6:((k:Int)-1).toNat=k-1:=by omega
       have hwl:IntKind.i64.wrap ((k:Int)-1)=(k:Int)-1:=IntWalk.i64_in _ (by omega)
       have hi1:(0:Int)<=(k:Int)-1:=by omega
       have hi2:(k:Int)-1<(m.body.length:Int):=by omega
       clear hE2
       have f6:=txt_f (l:=[35,35]) e6
       clear e1 e2 e5 e6
       have HN:=Qh (hall.succ (by rw [HS.out,HI.out,hf];rfl))
       clear hall
       go_wp2
       go_quiet (fail)
       go_wp2
       go_roundw
       case rel=>first | exact⟨k+1,by omega,by go_num,HN.out,Zag hbq _⟩ | ((repeat apply Exists.intro);exact⟨⟨k+1,by omega,by go_num,HN.out,Zag hbq _⟩,rfl⟩)
       case measure=>simp [intOf];omega
      ·have f0:¬ (0:Int)<(m.body[k].hidden.length:Int):=by omega
       have f01:¬ 0<m.body[k].hidden.length:=by omega
       rw [decide_eq_false e2] at g00
       have f4:=txt_f (l:=[35,35]) e4
       have E4:=Qh e4
       clear e4
       clear e1 e2
       have HN:=Qh (hall.succ (by rw [HS.out,HI.out,hf];rfl))
       clear hall
       go_wp2
       go_quiet (fail)
       go_wp2
       go_roundw
       case rel=>first | exact⟨k+1,by omega,by go_num,HN.out,Zag hbq _⟩ | ((repeat apply Exists.intro);exact⟨⟨k+1,by omega,by go_num,HN.out,Zag hbq _⟩,rfl⟩)
       case measure=>simp [intOf];omega
     ·have HF:=Qh (Zjl HH.out HP.out (λ j hj=>hall j (by omega)))
      clear hall
      go_wp2
      go_ret
      exact⟨Zad HF.out.symm,hbw⟩
theorem Y5A1 {g:Prop} (h:g:=by
 by_cases e7:m.body[k].text=hash1
 ·have f7:=txt_t (l:=[35]) e7
  have E7:=Qh e7
  clear e7
  by_cases e8:k+1=m.body.length
  ·have HF:=Qh (ZaV hlt (by rw [HS.out,HI.out,hf,ZmF hlt E7.out e8];rfl))
   rw [decide_eq_true e8] at g01
   clear e8 hall
   go_wp2
   go_quiet (fail)
   go_wp2
   go_ret
   exact⟨Zad HF.out.symm,Zag hbw2 _⟩
  ·have hk1:k+1<m.body.length:=by omega
   obtain⟨es3,hE3,hR3⟩:=he1 (k+1) hk1
   have hR3':=hR3
   obtain⟨h9,rfl,-,-,-⟩:=hR3
   replace hE3:=hE3.frame (hbw2.block b1 hb1')
   have c30:w2.cell? ⟨b1,off1+(k+1) * 4,none⟩=some _:=Zao hE3 (by decide) rfl
   have c31:w2.cell? ⟨b1,off1+(k+1) * 4+1,none⟩=some _:=Zae (j:=1) hE3 (by decide) rfl
   have c32:w2.cell? ⟨b1,off1+(k+1) * 4+2,none⟩=some _:=Zae (j:=2) hE3 (by decide) rfl
   have c33:w2.cell? ⟨b1,off1+(k+1) * 4+3,none⟩=some _:=Zae (j:=3) hE3 (by decide) rfl
   have HC:=Qh (λ W (hW:Below w2.heap.size w2 W)=>Zeh _ _ m m.body[k+1] _ _ W (HM.out W (hbw2.trans (hW.mono hbw2.size))) (sTok.below (sTok.below hR3' hbw2) hW))
   have h6:((k:Int)+1).toNat=k+1:=by omega
   have hwl:IntKind.i64.wrap ((k:Int)+1)=(k:Int)+1:=IntWalk.i64_in _ (by omega)
   have hi1:(0:Int)<=(k:Int)+1:=by omega
   have hi2:(k:Int)+1<(m.body.length:Int):=by omega
   rw [decide_eq_false e8] at g01
   clear hE3 hR3' e8 he1 hrow3
   go_wp2
   go_still_tail 19,(by kernel_rfl)
   change wpList _ _ _ _ _ w2.drew
   have hd:Below w2.heap.size w2 w2.drew:=Zag (Below.refl _ _) 1
   generalize w2.drew=w3 at *
   by_cases e9:parOf m.params m.body[k+1]<0
   ·have HF:=Qh (ZaV hlt (by rw [HS.out,HI.out,hf,signS_no hk1 E7.out e9];rfl))
    clear hall
    go_wp2_with (go_at_call 96;refine (HC.out _ hd).mono ?_;rintro e w4 ⟨rfl,hb4⟩)
    go_ret
    exact⟨Zad HF.out.symm,(hbw2.trans (hd.mono hbw2.size)).trans (hb4.mono (Nat.le_trans hbw2.size hd.size))⟩
   ·have HN:=Qh (hall.succ (by rw [HS.out,HI.out,hf,Znl hk1 E7.out e9];rfl))
    clear hall
    go_wp2_with (go_at_call 96;refine (HC.out _ hd).mono ?_;rintro e w4 ⟨rfl,hb4⟩)
    go_roundw
    case rel=>first | exact⟨k+1,by omega,by go_num,HN.out,(hbq.trans (hd.mono hbq.size)).trans (hb4.mono (Nat.le_trans hbq.size hd.size))⟩ | ((repeat apply Exists.intro);exact⟨⟨k+1,by omega,by go_num,HN.out,(hbq.trans (hd.mono hbq.size)).trans (hb4.mono (Nat.le_trans hbq.size hd.size))⟩,rfl⟩)
    case measure=>simp [intOf];omega
 ·have f7:=txt_f (l:=[35]) e7
  have HN:=Qh (hall.succ (by rw [HS.out,HI.out,hf,ZgR hlt e7];rfl))
  clear e7 hall
  go_wp2
  go_quiet (fail)
  go_wp2
  go_roundw
  case rel=>first | exact⟨k+1,by omega,by go_num,HN.out,Zag hbq _⟩ | ((repeat apply Exists.intro);exact⟨⟨k+1,by omega,by go_num,HN.out,Zag hbq _⟩,rfl⟩)
  case measure=>simp [intOf];omega):g:=h
theorem ZfP (m:DMacro) (h2 h3:Value) (fp2 fp3:List Nat) (w:World) (k0:okStr m.name) (K2:(Zaa sStr).R w [h2] m.params fp2) (K3:(Zaa sTok).R w [h3] m.body fp3) (hf:m.function=true) :
  Calls Tryz.prog 68 #[.agg #[.string m.name,.bool m.function,h2,h3]] w (Says (macOk m) w):=by
 obtain⟨a2,cap2,rfl,hc2,hm2,hcell2,hsz2⟩:=Zaf K2
 have K3':=K3
 obtain⟨a3,cap3,rfl,hc3,hm3,hrow3⟩:=Zac K3
 unfold maxLen at hm2 hm3
 rw [hf]
 have HN:=Qh (λ W=>ZeO m.name W k0)
 have hb0:=Zab w (.cells #[.string m.name,.bool true,.slice a2 m.params.length cap2,.slice a3 m.body.length cap3] 70)
 have HX:=Qh (heap_alloc_new w (.cells #[.string m.name,.bool true,.slice a2 m.params.length cap2,.slice a3 m.body.length cap3] 70))
 go_enter Tryz.func68,Tryz.ntmps68
 rcases Zjm m with⟨g1,HF⟩ | ⟨g1,g2,HF⟩ | ⟨g1,g2,g3,HF⟩ | ⟨g1,g2,g3,g4,g5,HF⟩ | ⟨g1,g2,g3,g4,g5,HF⟩ | ⟨g1,g2,g3,g4,g5,HH⟩
 ·rw [g1] at HN
  clear g1
  go_wp2_with (go_at_call 95;refine (HN.out _).mono ?_;rintro e w1 ⟨rfl,hb1⟩)
  go_ret
  exact⟨Zad HF.out.symm,hb0.trans (hb1.mono hb0.size)⟩
 ·rw [g1] at HN
  have e2:=txt_t (l:=[100,101,102,105,110,101,100]) g2
  clear g1 g2
  go_wp2_with (go_at_call 95;refine (HN.out _).mono ?_;rintro e w1 ⟨rfl,hb1⟩;have q0:=Qc 0 ((hb1.block _ (Qg HX.out).1).trans HX.out))
  go_ret
  exact⟨Zad HF.out.symm,hb0.trans (hb1.mono hb0.size)⟩
 ·rw [g1] at HN
  have e2:=txt_f (l:=[100,101,102,105,110,101,100]) g2
  clear g1 g2
  go_wp2_with (go_at_call 95;refine (HN.out _).mono ?_;rintro e w1 ⟨rfl,hb1⟩;have q0:=Qc 0 ((hb1.block _ (Qg HX.out).1).trans HX.out);have q2:=Qc 2 ((hb1.block _ (Qg HX.out).1).trans HX.out))
  go_ret
  exact⟨Zad HF.out.symm,hb0.trans (hb1.mono hb0.size)⟩
 ·rw [hf] at g4;exact absurd g4 (by simp)
 ·rw [g1] at HN
  have e2:=txt_f (l:=[100,101,102,105,110,101,100]) g2
  clear g1 g2 g4
  go_wp2_with (go_at_call 95;refine (HN.out _).mono ?_;rintro e w1 ⟨rfl,hb1⟩;have q0:=Qc 0 ((hb1.block _ (Qg HX.out).1).trans HX.out);have q1:=Qc 1 ((hb1.block _ (Qg HX.out).1).trans HX.out);have q2:=Qc 2 ((hb1.block _ (Qg HX.out).1).trans HX.out);have q3:=Qc 3 ((hb1.block _ (Qg HX.out).1).trans HX.out))
  go_ret
  exact⟨Zad HF.out.symm,hb0.trans (hb1.mono hb0.size)⟩
 ·rw [g1] at HN
  have e2:=txt_f (l:=[100,101,102,105,110,101,100]) g2
  clear g1 g2 g4
  go_wp2_with (go_at_call 95;refine (HN.out _).mono ?_;rintro e w1 ⟨rfl,hb1⟩;have q0:=Qc 0 ((hb1.block _ (Qg HX.out).1).trans HX.out);have q1:=Qc 1 ((hb1.block _ (Qg HX.out).1).trans HX.out);have q2:=Qc 2 ((hb1.block _ (Qg HX.out).1).trans HX.out);have q3:=Qc 3 ((hb1.block _ (Qg HX.out).1).trans HX.out))
  have hB1:=hb0.trans (hb1.mono hb0.size)
  have HX1:=Qh ((hb1.block _ (Qg HX.out).1).trans HX.out)
  have HM:=Qh (λ W (hb:Below w.heap.size w W)=>sMacro.below (show sMacro.R w [.string m.name,.bool true,.slice a2 m.params.length cap2,.slice a3 m.body.length cap3] m (fp2++fp3) from⟨_,_,fp2,fp3,by rw [hf],k0,K2,K3,rfl⟩) hb)
  clear q0 q1 q2 q3 HN hb0 HX hb1 K3' K2 K3
  go_loopw [3] (λ i wr=>∃ k:Nat,k<=m.params.length/\i=.int .i64 k/\ParUpto m.params k/\Below w1.heap.size w1 wr) (λ i _=>m.params.length-(intOf i).toNat)
  case atStart=>exact⟨0,by omega,rfl,ParUpto.zero _,Below.refl _ _⟩
  case round =>
   obtain⟨k,hk,rfl,hall,hb⟩:=hrel
   have HX2:=Qh ((hb.block _ (Qg HX1.out).1).trans HX1.out)
   have q2:=Qc 2 HX2.out
   have q3:=Qc 3 HX2.out
   have hbw:=hB1.trans (hb.mono hB1.size)
   by_cases hlt:k<m.params.length
   ·obtain⟨b,off,rfl,hbl,_,hce⟩:=hcell2 (by omega)
    have hck:=(hbw.cell (p:=⟨b,off+k,none⟩) hbl).trans (hce k hlt)
    have HN:=Qh (λ W=>ZeO m.params[k] W (hsz2 k hlt))
    cases h1:Zak m.params[k] 1
    ·rw [h1] at HN
     have HF:=Qh (Zjk hlt (par_name hlt h1))
     clear h1 hce hall
     go_wp2_with (go_at_call 95;refine (HN.out _).mono ?_;rintro e w2 ⟨rfl,hb2⟩)
     go_ret
     exact⟨Zad HF.out.symm,hbw.trans (hb2.mono hbw.size)⟩
    ·rw [h1] at HN
     have H1:=Qh h1
     clear h1
     go_wp2_with (go_at_call 95;refine (HN.out _).mono ?_;rintro e w2 ⟨rfl,hb2⟩)
     have HX3:=Qh ((hb2.block _ (Qg HX2.out).1).trans HX2.out)
     have hb12:=hb.trans (hb2.mono hb.size)
     clear q2 q3 hck HX2
     go_loopw [4] (λ i wr=>∃ j:Nat,j<=k/\i=.int .i64 j/\NotUpto m.params m.params[k] j/\Below w2.heap.size w2 wr) (λ i _=>k-(intOf i).toNat)
     case atStart=>exact⟨0,by omega,rfl,NotUpto.zero _ _,Below.refl _ _⟩
     case round =>
      obtain⟨j,hj,rfl,hnot,hb3⟩:=hrel
      have HX4:=Qh ((hb3.block _ (Qg HX3.out).1).trans HX3.out)
      have hb13:=hb12.trans (hb3.mono hb12.size)
      have hbw3:=hB1.trans (hb13.mono hB1.size)
      have q2:=Qc 2 HX4.out
      by_cases hjk:j<k
      ·have hcj:=(hbw3.cell (p:=⟨b,off+j,none⟩) hbl).trans (hce j (by omega))
       have hck:=(hbw3.cell (p:=⟨b,off+k,none⟩) hbl).trans (hce k hlt)
       by_cases e:m.params[j]=m.params[k]
       ·have e':=ZaP e
        have HF:=Qh (Zjk hlt (Znk hlt hjk e))
        clear e hce hall hnot
        go_wp2
        go_quiet (fail)
        go_wp2
        go_ret
        exact⟨Zad HF.out.symm,Zag hbw3 _⟩
       ·have e':(m.params[j].toList==m.params[k].toList)=false:=ZaU e
        have HG:=Qh (hnot.succ (by omega) e)
        clear e hce hall hnot
        go_wp2
        go_quiet (fail)
        go_wp2
        go_roundw
        case rel=>exact⟨j+1,by omega,by go_num,HG.out,Zag hb3 _⟩
        case measure=>simp [intOf];omega
      ·have hjk':j=k:=by omega
       subst hjk'
       have HG:=Qh (hall.succ (par_yes hlt H1.out hnot))
       clear hce hall hnot
       go_wp2
       go_roundw
       case rel=>exact⟨j+1,by omega,by go_num,HG.out,hb13⟩
       case measure=>simp [intOf];omega
   ·have HP:=Qh (show ParUpto m.params m.params.length from λ j hj=>hall j (by omega))
    have hz:decide (k<m.params.length)=false:=decide_eq_false hlt
    clear hall hk
    go_wp2
    try rw [hz]
    clear q2 q3 HX2 hbw hlt hz
    go_loopw [6] (λ i wr=>∃ k:Nat,k<=m.body.length/\i=.int .i64 k/\BodUpto (bodOk m) k/\Below w1.heap.size w1 wr) (λ i _=>m.body.length-(intOf i).toNat)
    case atStart=>exact⟨0,by omega,rfl,BodUpto.zero _,hb⟩
    case round =>
     clear hb
     obtain⟨k,hk,rfl,hall,hb⟩:=hrel
     have HX3:=Qh ((hb.block _ (Qg HX1.out).1).trans HX1.out)
     have q3:=Qc 3 HX3.out
     have hbw:=hB1.trans (hb.mono hB1.size)
     by_cases hlt:k<m.body.length
     ·obtain⟨b1,off1,fps1,rfl,hb1',-,he1⟩:=hrow3 (by omega)
      obtain⟨es1,hE1,hR1⟩:=he1 k hlt
      have hR1':=hR1
      obtain⟨hh,rfl,-,-,K1⟩:=hR1
      obtain⟨ah,caph,rfl,-⟩:=Zac K1
      replace hE1:=hE1.frame (hbw.block b1 hb1')
      have c10:wr.cell? ⟨b1,off1+k * 4,none⟩=some _:=Zao hE1 (by decide) rfl
      have c11:wr.cell? ⟨b1,off1+k * 4+1,none⟩=some _:=Zae (j:=1) hE1 (by decide) rfl
      have c12:wr.cell? ⟨b1,off1+k * 4+2,none⟩=some _:=Zae (j:=2) hE1 (by decide) rfl
      have c13:wr.cell? ⟨b1,off1+k * 4+3,none⟩=some _:=Zae (j:=3) hE1 (by decide) rfl
      have hbx:Below wr.heap.size wr (wr.alloc (.cells #[.int .i64 m.body[k].kind,.string m.body[k].text,.bool m.body[k].spaced,.slice ah m.body[k].hidden.length caph] 57)):=Zab _ _
      have HT:=Qh (heap_alloc_new wr (.cells #[.int .i64 m.body[k].kind,.string m.body[k].text,.bool m.body[k].spaced,.slice ah m.body[k].hidden.length caph] 57))
      have HV:=Qh (λ W (hW:Below (wr.alloc (.cells #[.int .i64 m.body[k].kind,.string m.body[k].text,.bool m.body[k].spaced,.slice ah m.body[k].hidden.length caph] 57)).heap.size (wr.alloc (.cells #[.int .i64 m.body[k].kind,.string m.body[k].text,.bool m.body[k].spaced,.slice ah m.body[k].hidden.length caph] 57)) W)=>ZbL _ _ _ W (sTok.below (sTok.below (sTok.below hR1' hbw) hbx) hW))
      clear K1 hR1' hE1
      go_wp2_with fail
      refine (HV.out _ (Below.refl _ _)).mono ?_
      rintro e w2 ⟨rfl,hb2⟩
      have HT2:=Qh ((hb2.block _ (Qg HT.out).1).trans HT.out)
      have hb02:=hbx.trans (hb2.mono hbx.size)
      have hbq:=hb.trans (hb02.mono hb.size)
      have hbw2:=hB1.trans (hbq.mono hB1.size)
      have HX4:=Qh ((hb02.block _ (Qg HX3.out).1).trans HX3.out)
      have p1:=Qc 1 HT2.out
      have p2:=Qc 2 HT2.out
      have p3:=Qc 3 HT2.out
      clear q3 c10 c11 c12 c13 HV HT hb2 HX3 hbx hb02 hbw hb
      have q0:=Qc 0 HX4.out
      have q1:=Qc 1 HX4.out
      have q2:=Qc 2 HX4.out
      have q3:=Qc 3 HX4.out
      cases hv:tokOk m.body[k]
      ·have HF:=Qh (ZaV hlt (by rw [ZcF _ _ hlt,hv];rfl))
       clear hv hall
       go_wp2
       go_ret
       exact⟨Zad HF.out.symm,hbw2⟩
      have HS:=Qh (ZcF m k hlt)
      rw [hv] at HS
      clear hv
      have g00:((k:Int)==0)=decide (k=0):=by rw [Bool.eq_iff_iff];simp
      have g01:((k:Int)==(m.body.length:Int)-1)=decide (k+1=m.body.length):=by rw [Bool.eq_iff_iff];simp;omega
      rcases Zf6 hlt with⟨e1,HI⟩ | ⟨e1,e2,e3,HI⟩ | ⟨e1,e2,e3,e4,HI⟩ | ⟨e1,e2,e3,e4,HI⟩ | ⟨e1,e2,e4,e5,HI⟩ | ⟨e1,e2,e4,e5,e6,HI⟩ | ⟨e1,e2,e4,e5,e6,HI⟩ | ⟨e1,e2,e4,HI⟩
      ·have HF:=Qh (ZaV hlt (by rw [HS.out,HI.out];simp))
       have f0:(0:Int)<(m.body[k].hidden.length:Int):=by omega
       have f01:0<m.body[k].hidden.length:=by omega
       have f02:decide ((0:Int)<(m.body[k].hidden.length:Int))=true:=decide_eq_true f0
       clear e1 hall
       go_wp2
       go_ret
       exact⟨Zad HF.out.symm,hbw2⟩
      ·have HF:=Qh (ZaV hlt (by rw [HS.out,HI.out];simp))
       have f0:¬ (0:Int)<(m.body[k].hidden.length:Int):=by omega
       have f01:¬ 0<m.body[k].hidden.length:=by omega
       rw [decide_eq_true e2] at g00
       rw [e3] at p2
       clear e2 e3
       clear e1 hall
       go_wp2
       go_ret
       exact⟨Zad HF.out.symm,hbw2⟩
      ·have HF:=Qh (ZaV hlt (by rw [HS.out,HI.out];simp))
       have f0:¬ (0:Int)<(m.body[k].hidden.length:Int):=by omega
       have f01:¬ 0<m.body[k].hidden.length:=by omega
       rw [decide_eq_true e2] at g00
       rw [e3] at p2
       have f4:=txt_t (l:=[35,35]) e4
       have E4:=Qh e4
       clear e4
       clear e2 e3
       clear e1 hall
       go_wp2
       go_ret
       exact⟨Zad HF.out.symm,hbw2⟩
      ·have f0:¬ (0:Int)<(m.body[k].hidden.length:Int):=by omega
       have f01:¬ 0<m.body[k].hidden.length:=by omega
       rw [decide_eq_true e2] at g00
       rw [e3] at p2
       have f4:=txt_f (l:=[35,35]) e4
       have E4:=Qh e4
       clear e4
       clear e1 e2 e3
       exact Y5A1
      ·have HF:=Qh (ZaV hlt (by rw [HS.out,HI.out];simp))
       have f0:¬ (0:Int)<(m.body[k].hidden.length:Int):=by omega
       have f01:¬ 0<m.body[k].hidden.length:=by omega
       rw [decide_eq_false e2] at g00
       have f4:=txt_t (l:=[35,35]) e4
       have E4:=Qh e4
       clear e4
       rw [decide_eq_true e5] at g01
       clear e2 e5
       clear e1 hall
       go_wp2
       go_ret
       exact⟨Zad HF.out.symm,hbw2⟩
      ·have HF:=Qh (ZaV hlt (by rw [HS.out,HI.out];simp))
       have f0:¬ (0:Int)<(m.body[k].hidden.length:Int):=by omega
       have f01:¬ 0<m.body[k].hidden.length:=by omega
       rw [decide_eq_false e2] at g00
       have f4:=txt_t (l:=[35,35]) e4
       have E4:=Qh e4
       clear e4
       rw [decide_eq_false e5] at g01
       obtain⟨es2,hE2,hR2⟩:=he1 (k-1) (by omega)
       obtain⟨h9,rfl,-,-,-⟩:=hR2
       replace hE2:=hE2.frame (hbw2.block b1 hb1')
       have c21:w2.cell? ⟨b1,off1+(k-1) * 4+1,none⟩=some _:=Zae (j:=1) hE2 (by decide) rfl
       have h6:((k:Int)-1).toNat=k-1:=by omega
       have hwl:IntKind.i64.wrap ((k:Int)-1)=(k:Int)-1:=IntWalk.i64_in _ (by omega)
       have hi1:(0:Int)<=(k:Int)-1:=by omega
       have hi2:(k:Int)-1<(m.body.length:Int):=by omega
       clear hE2
       have f6:=txt_t (l:=[35,35]) e6
       clear e2 e5 e6
       clear e1 hall
       go_wp2
       go_ret
       exact⟨Zad HF.out.symm,hbw2⟩
      ·have f0:¬ (0:Int)<(m.body[k].hidden.length:Int):=by omega
       have f01:¬ 0<m.body[k].hidden.length:=by omega
       rw [decide_eq_false e2] at g00
       have f4:=txt_t (l:=[35,35]) e4
       have E4:=Qh e4
       clear e4
       rw [decide_eq_false e5] at g01
       obtain⟨es2,hE2,hR2⟩:=he1 (k-1) (by omega)
       obtain⟨h9,rfl,-,-,-⟩:=hR2
       replace hE2:=hE2.frame (hbw2.block b1 hb1')
       have c21:w2.cell? ⟨b1,off1+(k-1) * 4+1,none⟩=some _:=Zae (j:=1) hE2 (by decide) rfl
       have h6:((k:Int)-1).toNat=k-1:=by omega
       have hwl:IntKind.i64.wrap ((k:Int)-1)=(k:Int)-1:=IntWalk.i64_in _ (by omega)
       have hi1:(0:Int)<=(k:Int)-1:=by omega
       have hi2:(k:Int)-1<(m.body.length:Int):=by omega
       clear hE2
       have f6:=txt_f (l:=[35,35]) e6
       clear e1 e2 e5 e6
       by_cases e7:m.body[k].text=hash1
       ·exact absurd (e7.symm.trans E4.out) (by decide)
       ·have f7:=txt_f (l:=[35]) e7
        have HN:=Qh (hall.succ (by rw [HS.out,HI.out,hf,ZgR hlt e7];rfl))
        clear e7 hall
        go_wp2
        go_quiet (fail)
        go_wp2
        go_roundw
        case rel=>first | exact⟨k+1,by omega,by go_num,HN.out,Zag hbq _⟩ | ((repeat apply Exists.intro);exact⟨⟨k+1,by omega,by go_num,HN.out,Zag hbq _⟩,rfl⟩)
        case measure=>simp [intOf];omega
      ·have f0:¬ (0:Int)<(m.body[k].hidden.length:Int):=by omega
       have f01:¬ 0<m.body[k].hidden.length:=by omega
       rw [decide_eq_false e2] at g00
       have f4:=txt_f (l:=[35,35]) e4
       have E4:=Qh e4
       clear e4
       clear e1 e2
       exact Y5A1
     ·have HF:=Qh (Zjl HH.out HP.out (λ j hj=>hall j (by omega)))
      clear hall
      go_wp2
      go_ret
      exact⟨Zad HF.out.symm,hbw⟩
end Go.Proofs.YtiaiggjfepoahaaGreat
