/- Texts that the proof of P stands on, in one file. -/
import Derived.Test.YtiaiggjfepoahaaGreatZP3
import Derived.Laws.Cover1
import Derived.Outline
set_option linter.unusedVariables false
set_option maxHeartbeats 16000000
set_option maxRecDepth 100000
set_option linter.unusedSimpArgs false
/- TokensOf of the model; TokenValid of both. -/
namespace Go.Proofs.YtiaiggjfepoahaaGreat
open Go.RowKit
theorem TokRow.below {base:Nat} {v:Value} {l:List Tok} {w w':World} (h:TokRow base v l w) (hb:Below w.heap.size w w'):TokRow base v l w':=by
 refine ⟨h.1,?_⟩
 rcases h.2 with h0 | ⟨g,cap,cur,h1,h2,h3,h4⟩
 ·exact .inl h0
 ·exact .inr ⟨g,cap,cur,h1,h2,(hb.block g (Qg h3).1).trans h3,h4⟩
theorem TokRow.empty (w:World):TokRow w.heap.size (.slice (some ⟨w.heap.size,0,none⟩) 0 0) [] (w.alloc (.cells #[] 57)):=
 ⟨rfl,.inr ⟨w.heap.size,0,#[],rfl,Nat.le_refl _,by show (w.heap.push _)[w.heap.size]?=_;simp,Nat.le_refl _,by simp,rfl,rfl⟩⟩
theorem cutGood {s:ByteArray} {k e:Nat} (hk:k<s.size) (he:Zav s k=e):sCut s k=(cutKind s[k],(e:Int))/\1<=cutKind s[k]/\cutKind s[k]<=4/\(cutKind s[k]<=2->(e:Int)-(k:Int)<=12):=by
 have h:=Zm7 hk (by omega)
 rw [he] at h
 obtain⟨h1,h2⟩:=h
 have h3:=ZhE s[k]
 refine ⟨h2,h3.1,h3.2,λ h=>?_⟩
 rw [h2] at h1
 unfold SBad at h1
 simp only at h1
 omega
theorem cutBad {s:ByteArray} {k:Nat} (hk:k<s.size) (h:Zav s k<0):∃ a b:Int,sCut s k=(a,b)/\(b=k\/b≠k/\a=0\/b≠k/\a=1/\12<b-k\/b≠k/\a=2/\12<b-k):=by
 have h1:=sCut_bad hk h
 unfold SBad at h1
 exact⟨(sCut s k).1,(sCut s k).2,rfl,by omega⟩
theorem Znc {s:ByteArray} {k:Nat} (hk:k<s.size):0<=(sCut s k).2/\(sCut s k).2<=1000000+s.size:=by
 cases hw:Zal s[k]
 ·by_cases hq:s[k].toNat=34
  ·cases hc:tClose s (k+1) with
   | none=>rw [ZfW hk hw hq hc];constructor <;> simp only <;> omega
   | some e=>have:=ZaX hc;rw [ZeL hk hw hq hc];constructor <;> simp only <;> omega
  ·have:=ZfU hk;rw [Zey hk hw hq];constructor <;> simp only <;> omega
 ·have:=(ZeK s (k+1)).2 (by omega)
  rw [ZdO hk hw];constructor <;> simp only <;> omega
def Zef (s:ByteArray) (w:World) (e:Ending) (w':World):Prop:=
 ∃ v,e=.returned (.tuple #[v,.bool (Zai s).2])/\TokRow w.heap.size v (Zai s).1 w'/\Fresh s.size (Zai s).1/\Below w.heap.size w w'
theorem TokRow.emptyAt {base:Nat} (w:World) (h:base<=w.heap.size):TokRow base (.slice (some ⟨w.heap.size,0,none⟩) 0 0) [] (w.alloc (.cells #[] 57)):=
 ⟨rfl,.inr ⟨w.heap.size,0,#[],rfl,h,by show (w.heap.push _)[w.heap.size]?=_;simp,Nat.le_refl _,by simp,rfl,rfl⟩⟩
theorem Zgt {s:ByteArray} (h:Zai s=([],false)) {w W:World} (hb:Below w.heap.size w W) (hs:w.heap.size<=W.heap.size) :
  Zef s w (.returned (.tuple #[.slice (some ⟨W.heap.size,0,none⟩) 0 0,.bool false])) (W.alloc (.cells #[] 57)):=by
 unfold Zef;rw [h];exact⟨_,rfl,TokRow.emptyAt W hs,Fresh.nil _,hb.alloc hs _⟩
theorem Znd {v:Value} {l:List Tok} {s:ByteArray} (h:Zai s=(l,true)) {w w':World} (hr:TokRow w.heap.size v l w') (hf:Fresh s.size l) (hb:Below w.heap.size w w') :
  Zef s w (.returned (.tuple #[v,.bool true])) w':=by
 unfold Zef;rw [h];exact⟨v,rfl,hr,hf,hb⟩
theorem ZgD (s:ByteArray) (w:World) (hs:s.size<=maxLen) :
  Calls Tryz.prog 28 #[.string s] w (Zef s w):=by
 have hm:=hs
 unfold maxLen at hm
 cases h0:ZaC s
 ·have HF:=Qh (Zfi h0)
  go_enter Tryz.func28,Tryz.ntmps28
  go_wp2_with (go_at_call 57;refine (ZeU _ _ hs).mono ?_;rw [h0];rintro e w' ⟨rfl,rfl⟩)
  go_ret2
  exact Zgt HF.out (Below.refl _ _) (Nat.le_refl _)
 have hsz:=Zee h0
 have H0:=Qh h0
 go_enter Tryz.func28,Tryz.ntmps28
 go_wp2_with (go_at_call 57;refine (ZeU _ _ hs).mono ?_;rw [h0];rintro e w' ⟨rfl,rfl⟩)
 clear h0
 go_loopw [4,5,6] (λ v sp i wr=>∃ (k:Nat) (b:Bool) (out:List Tok),k<=s.size/\i=.int .i64 k/\sp=.bool b/\AtT s k b out/\Fresh s.size out/\TokRow w.heap.size v out wr/\Below w.heap.size w wr) (λ _ _ i _=>s.size-(intOf i).toNat)
 case atStart=>exact⟨0,false,[],by omega,rfl,rfl,AtT.zero s,Fresh.nil _,TokRow.empty _,(Below.refl _ _).alloc (Nat.le_refl _) _⟩
 case round =>
  obtain⟨k,b,out,hk,rfl,rfl,hat,hfr,hown,hbel⟩:=hrel
  have ho:out.length<=60:=hat.2
  have hbs:=hbel.size
  by_cases hlt:k<s.size
  ·by_cases h32:s[k].toNat=32
   ·have HN:=Qh (hat.space hlt h32)
    have h32':((s[k].toNat:Int)==32)=true:=by simp;omega
    clear hat h32
    go_wp2
    go_roundw
    case rel=>exact⟨k+1,true,out,by omega,by go_num,rfl,HN.out,hfr,hown,hbel⟩
    case measure=>simp [intOf];omega
   ·have h32':((s[k].toNat:Int)==32)=false:=by simp;omega
    have hro:=Znc hlt
    rcases Zje s k with hneg | ⟨e,he,hke,hes⟩
    ·have HF:=Qh (ZdG (hat.bad hlt h32 (.inl hneg)))
     obtain⟨a,b2,hab,hways⟩:=cutBad hlt hneg
     rw [hab] at hro
     have HC:Hid (∀ W,Calls Tryz.prog 58 #[.string s,.int .i64 k] W λ e w'=>e=.returned (.tuple #[.int .i64 a,.int .i64 b2])/\∃ n,w'=W.drewN n):=λ W=>by have:=ZhM s k W (by omega) hlt;rw [hab] at this;exact this
     clear hat h32 hab
     obtain⟨ho1,ho2⟩:=hro
     simp only at ho1 ho2
     rcases hways with h1 | ⟨h1,h2⟩ | ⟨h1,h2,h3⟩ | ⟨h1,h2,h3⟩
     ·subst h1
      go_wp2_with (go_at_call 58;refine (HC.out _).mono ?_;rintro e w' ⟨rfl,n,rfl⟩)
      go_ret2
      exact Zgt HF.out (Zag hbel n) hbs
     all_goals
      subst h2
      have h1':(b2==(k:Int))=false:=by simp;omega
      clear h1
      go_wp2_with (go_at_call 58;refine (HC.out _).mono ?_;rintro e w' ⟨rfl,n,rfl⟩)
      go_ret2
      exact Zgt HF.out (Zag hbel n) hbs
    ·obtain⟨a,cap,rfl,hcm⟩:=hown.slice
     obtain⟨hab,hk1,hk2,hk3⟩:=cutGood hlt he
     have HC:Hid (∀ W,Calls Tryz.prog 58 #[.string s,.int .i64 k] W λ r w'=>r=.returned (.tuple #[.int .i64 (cutKind s[k]),.int .i64 e])/\∃ n,w'=W.drewN n):=λ W=>by have:=ZhM s k W (by omega) hlt;rw [hab] at this;exact this
     have hek:((e:Int)==(k:Int))=false:=by simp;omega
     clear hro hab
     by_cases h60:out.length=60
     ·have HF:=Qh (ZdG (hat.bad hlt h32 (.inr h60)))
      have h60':((out.length:Int)==60)=true:=by simp;omega
      clear hat h32 h60
      generalize cutKind s[k]=K at *
      have hK:(K=1/\(e:Int)-(k:Int)<=12)\/(K=2/\(e:Int)-(k:Int)<=12)\/(K=3/\k<e)\/(K=4/\k<e):=by omega
      clear hk3
      rcases hK with⟨rfl,hk5⟩ | ⟨rfl,hk5⟩ | ⟨rfl,hk5⟩ | ⟨rfl,hk5⟩
      all_goals
       go_wp2_with (go_at_call 58;refine (HC.out _).mono ?_;rintro e w' ⟨rfl,n,rfl⟩)
       go_ret2
       exact Zgt HF.out (Zag hbel n) hbs
     ·have HN:=Qh (hat.tok hlt h32 he h60)
      have HR:=Qh (hfr.snoc (k:=k) (e:=e) (sp:=b) (c:=s[k]) (Nat.le_refl s.size))
      have h60':((out.length:Int)==60)=false:=by simp;omega
      have hsl2:=λ W=>(ZeW s (k:Int) (e:Int) k e rfl rfl (by omega) (by omega) W)
      clear hat h32 h60
      generalize cutKind s[k]=K at *
      have hK:(K=1/\(e:Int)-(k:Int)<=12)\/(K=2/\(e:Int)-(k:Int)<=12)\/(K=3/\k<e)\/(K=4/\k<e):=by omega
      clear hk3
      rcases hK with⟨rfl,hk5⟩ | ⟨rfl,hk5⟩ | ⟨rfl,hk5⟩ | ⟨rfl,hk5⟩
      all_goals
       go_wp2_with (first
        | (go_at_call 58;refine (HC.out _).mono ?_;rintro e w' ⟨rfl,n,rfl⟩)
        | (at_builtin;refine ZfK rfl (.tmp 57) (.tmp 65) rfl w.heap.size _ out _ _ _ rfl (hown.drew _) rfl (by omega) hbs ?_;intro v1 w1 hown1 hg1))
       have hbel1:=(Zag hbel _).grown hg1 hbs hown.mine
       go_roundw
       case rel=>exact⟨e,false,_,hes,rfl,rfl,HN.out,HR.out,hown1,hbel1⟩
       case measure=>simp [intOf];omega
  ·have HF:=Qh (ZdH H0.out (hat.done (by omega)))
   clear hat
   go_wp2
   go_ret2
   exact Znd HF.out hown hfr hbel
theorem Zbe (s:ByteArray) (w:World) (hs:s.size<=maxLen) :
  Calls Tryz.prog 28 #[.string s] w (Zbd (Zai s) w):=by
 refine (ZgD s w hs).mono ?_
 rintro e w' ⟨v,rfl,h1,h2,h3⟩
 have hsz:(Zai s).1=[]\/s.size<=200:=by
  cases h0:ZaC s
  ·left;rw [Zfi h0]
  ·right;exact Zee h0
 rcases hsz with h | h
 ·rw [h] at h1 h2
  obtain⟨fp,a,b,_⟩:=Zg4 (B:=0) h1 (Fresh.nil _) (by omega)
  exact⟨v,fp,rfl,by rw [h];exact a,b,h3⟩
 ·obtain⟨fp,a,b,_⟩:=Zg4 h1 h2 (by omega)
  exact⟨v,fp,rfl,a,b,h3⟩
theorem Za8 {w:World} {v:Value} {t:Tok} {fp:List Nat} (H:(Zaa sTok).R w [v] [t] fp) :
  ∃ b off cap h,v=.slice (some ⟨b,off,none⟩) 1 cap/\cap<=maxLen/\1<=cap/\b<w.heap.size/\w.cell? ⟨b,off,none⟩=some (.int .i64 t.kind)/\w.cell? ⟨b,off+1,none⟩=some (.string t.text)/\w.cell? ⟨b,off+2,none⟩=some (.bool t.spaced)/\w.cell? ⟨b,off+3,none⟩=some h/\okInt t.kind/\okStr t.text:=by
 obtain⟨a,cap,rfl,hc,hm,h⟩:=Zac H
 obtain⟨b,off,fps,rfl,hb,_,he⟩:=h (by simp)
 obtain⟨es,⟨h1,h2⟩,hh,h3,h4,h5,h6⟩:=he 0 (by simp)
 subst h3
 have g:=λ j (hj:j<4)=>h2 j hj
 refine ⟨b,off,cap,hh,rfl,hm,by simpa using hc,hb,?_,?_,?_,?_,h4,h5⟩
 ·simpa using g 0 (by omega)
 ·simpa [Nat.add_assoc] using g 1 (by omega)
 ·simpa [Nat.add_assoc] using g 2 (by omega)
 ·simpa [Nat.add_assoc] using g 3 (by omega)
def Says (b:Bool) (w:World) (e:Ending) (w':World):Prop:=e=.returned (.bool b)/\Below w.heap.size w w'
theorem Zcj (x:ByteArray) (k:Int) (w:World) (hs:x.size<=maxLen) :
  Calls Tryz.prog 104 #[.string x,.int .i64 k] w (Says (Zak x k) w):=by
 have HT:Hid (∀ W,Calls Tryz.prog 9 #[.string x] W (Zbd (Zai x) W)):=λ W=>Zbr x W hs
 go_enter Tryz.func104,Tryz.ntmps104
 rcases ZcJ x k with⟨hr,HF⟩ | ⟨l,hr,hl,HF⟩ | ⟨t,hr,hk,HF⟩ | ⟨t,hr,hk,hx,HF⟩ | ⟨t,hr,hk,hx,_,HF⟩
 ·rw [hr] at HT
  clear hr
  go_wp2_with (go_at_call 9;refine (HT.out _).mono ?_;rintro e w' ⟨v,fp,rfl,hR,hO,hB⟩)
  go_ret
  exact⟨Zad HF.out.symm,hB⟩
 ·rw [hr] at HT
  have hl':((l.length:Int) != 1)=true:=by simp;omega
  clear hr hl
  go_wp2_with (go_at_call 9;refine (HT.out _).mono ?_;rintro e w' ⟨v,fp,rfl,hR,hO,hB⟩;obtain⟨a,cap,rfl,_,_,_⟩:=Zac hR)
  go_ret
  exact⟨Zad HF.out.symm,hB⟩
 ·rw [hr] at HT
  have hk':(t.kind==k)=false:=by simp [hk]
  clear hr hk
  go_wp2_with (go_at_call 9;refine (HT.out _).mono ?_;rintro e w' ⟨v,fp,rfl,hR,hO,hB⟩;obtain⟨b,off,cap,h,rfl,hc1,hc2,hb,h0,h1,h2,h3,_,_⟩:=Za8 hR)
  go_ret
  exact⟨Zad HF.out.symm,hB⟩
 ·rw [hr] at HT
  have hk':(t.kind==k)=true:=by simp [hk]
  have hx':(t.text.toList==x.toList)=false:=ZaU hx
  clear hr hk hx
  go_wp2_with (go_at_call 9;refine (HT.out _).mono ?_;rintro e w' ⟨v,fp,rfl,hR,hO,hB⟩;obtain⟨b,off,cap,h,rfl,hc1,hc2,hb,h0,h1,h2,h3,_,_⟩:=Za8 hR)
  go_ret
  exact⟨Zad HF.out.symm,hB⟩
 ·rw [hr] at HT
  have hk':(t.kind==k)=true:=by simp [hk]
  have hx':(t.text.toList==x.toList)=true:=ZaP hx
  clear hr hk hx
  go_wp2_with (go_at_call 9;refine (HT.out _).mono ?_;rintro e w' ⟨v,fp,rfl,hR,hO,hB⟩;obtain⟨b,off,cap,h,rfl,hc1,hc2,hb,h0,h1,h2,h3,_,_⟩:=Za8 hR)
  go_ret
  exact⟨Zad HF.out.symm,hB⟩
theorem Zg6 (v:Value) (l:List ByteArray) (fp:List Nat) (w:World) (H:(Zaa sStr).R w [v] l fp) :
  Calls Tryz.prog 108 #[v] w (Says (hidOk l) w):=by
 obtain⟨a,cap,rfl,hc,hm,hcell,hsz⟩:=Zaf H
 unfold maxLen at hm
 by_cases hl:60<l.length
 ·have HF:=Qh (ZhG hl)
  go_enter Tryz.func108,Tryz.ntmps108
  go_wp2
  go_ret
  exact⟨Zad HF.out.symm,Below.refl _ _⟩
 ·go_enter Tryz.func108,Tryz.ntmps108
  go_wp2
  go_loopw [10] (λ i wr=>∃ k:Nat,k<=l.length/\i=.int .i64 k/\HidUpto l k/\Below w.heap.size w wr) (λ i _=>l.length-(intOf i).toNat)
  case atStart=>exact⟨0,by omega,rfl,HidUpto.zero _,Below.refl _ _⟩
  case round =>
   obtain⟨k,hk,rfl,hall,hbel⟩:=hrel
   by_cases hlt:k<l.length
   ·obtain⟨b,off,rfl,hb,_,hc2⟩:=hcell (by omega)
    have hck:=(hbel.cell (p:=⟨b,off+k,none⟩) hb).trans (hc2 k hlt)
    have hsk:=hsz k hlt
    have hbr:b<wr.heap.size:=Nat.lt_of_lt_of_le hb hbel.size
    have HC:Hid (∀ W,Calls Tryz.prog 104 #[.string l[k],.int .i64 1] W (Says (Zak l[k] 1) W)):=λ W=>Zcj l[k] 1 W hsk
    rcases hid_ways hlt with⟨h1,HF⟩ | ⟨h1,h0,HN⟩ | ⟨hp,h1,h2,HF⟩ | ⟨hp,h1,h2,HN⟩
    ·rw [h1] at HC
     have HG:=Qh (ZcK hlt HF.out)
     clear h1 hc2 hall
     go_wp2_with (go_at_call 104;refine (HC.out _).mono ?_;rintro e w1 ⟨rfl,hb1⟩)
     go_ret
     exact⟨Zad HG.out.symm,hbel.trans (hb1.mono hbel.size)⟩
    ·rw [h1] at HC
     have HG:=Qh (hall.succ HN.out)
     have h0':¬ (0:Int)<(k:Int):=by omega
     clear h1 h0 hc2 hall
     go_wp2_with (go_at_call 104;refine (HC.out _).mono ?_;rintro e w1 ⟨rfl,hb1⟩)
     go_roundw
     case rel=>exact⟨k+1,by omega,by go_num,HG.out,hbel.trans (hb1.mono hbel.size)⟩
     case measure=>simp [intOf];omega
    ·rw [h1] at HC
     have HG:=Qh (ZcK hlt HF.out)
     have hcp:=(hbel.cell (p:=⟨b,off+(k-1),none⟩) hb).trans (hc2 (k-1) (by omega))
     have h6:((k:Int)-1).toNat=k-1:=by omega
     have h0':(0:Int)<(k:Int):=by omega
     have h2':Op.bytesLess (l[k-1]'(by omega)).toList l[k].toList=false:=h2
     clear h1 h2 hc2 hall
     go_wp2_with (go_at_call 104;refine (HC.out _).mono ?_;rintro e w1 ⟨rfl,hb1⟩;have hcp1:=(hb1.cell (p:=⟨b,off+(k-1),none⟩) hbr).trans hcp)
     go_ret
     exact⟨Zad HG.out.symm,hbel.trans (hb1.mono hbel.size)⟩
    ·rw [h1] at HC
     have HG:=Qh (hall.succ HN.out)
     have hcp:=(hbel.cell (p:=⟨b,off+(k-1),none⟩) hb).trans (hc2 (k-1) (by omega))
     have h6:((k:Int)-1).toNat=k-1:=by omega
     have h0':(0:Int)<(k:Int):=by omega
     have h2':Op.bytesLess (l[k-1]'(by omega)).toList l[k].toList=true:=h2
     clear h1 h2 hc2 hall
     go_wp2_with (go_at_call 104;refine (HC.out _).mono ?_;rintro e w1 ⟨rfl,hb1⟩;have hcp1:=(hb1.cell (p:=⟨b,off+(k-1),none⟩) hbr).trans hcp)
     go_roundw
     case rel=>exact⟨k+1,by omega,by go_num,HG.out,hbel.trans (hb1.mono hbel.size)⟩
     case measure=>simp [intOf];omega
   ·have HG:=Qh (ZfY hall (by omega) (by omega))
    clear hall
    go_wp2
    go_ret
    exact⟨Zad HG.out.symm,hbel⟩
theorem ZgE (t:Tok) (h:Value) (fp:List Nat) (w:World) (ht:okStr t.text) (H:(Zaa sStr).R w [h] t.hidden fp) :
  Calls Tryz.prog 78 #[.agg #[.int .i64 t.kind,.string t.text,.bool t.spaced,h]] w (Says (tokOk t) w):=by
 have HF:Hid (tokOk t=(Zak t.text t.kind && hidOk t.hidden)):=rfl
 have HC:Hid (∀ W,Calls Tryz.prog 104 #[.string t.text,.int .i64 t.kind] W (Says (Zak t.text t.kind) W)):=λ W=>Zcj t.text t.kind W ht
 have HD:Hid (∀ W,Below w.heap.size w W->Calls Tryz.prog 108 #[h] W (Says (hidOk t.hidden) W)):=λ W hb=>Zg6 h t.hidden fp W ((Zaa sStr).below H hb)
 go_enter Tryz.func78,Tryz.ntmps78
 have hb0:=Zab w (.cells #[.int .i64 t.kind,.string t.text,.bool t.spaced,h] 57)
 cases h1:Zak t.text t.kind
 ·rw [h1] at HC HF
  clear h1
  go_wp2_with (go_at_call 104;refine (HC.out _).mono ?_;rintro e w1 ⟨rfl,hb1⟩)
  go_ret
  exact⟨Zad (by rw [HF.out];rfl),hb0.trans (hb1.mono hb0.size)⟩
 ·rw [h1] at HC HF
  clear h1
  go_wp2_with (first
   | (go_at_call 104;refine (HC.out _).mono ?_;rintro e w1 ⟨rfl,hb1⟩;have hcd:=(hb1.cell (p:=⟨w.heap.size,3,none⟩) (by simp)))
   | (go_at_call 108;refine (HD.out _ (hb0.trans (hb1.mono hb0.size))).mono ?_;rintro e w2 ⟨rfl,hb2⟩))
  go_ret
  exact⟨Zad (by rw [HF.out];rfl),hb0.trans ((hb1.trans (hb2.mono hb1.size)).mono hb0.size)⟩
theorem Zc1 (cs:List Value) (x:Tok) (fp:List Nat) (w:World) (H:sTok.R w cs x fp):Calls Tryz.prog 78 #[.agg cs.toArray] w (Says (tokOk x) w):=by
 obtain⟨h,rfl,_,hok,K⟩:=H
 exact ZgE x h fp w hok K
theorem tokOk_a {t:Tok} (h:Zak t.text t.kind=false):tokOk t=false:=by unfold tokOk;rw [h];rfl
theorem ZdZ {t:Tok} (h:hidOk t.hidden=false):tokOk t=false:=by unfold tokOk;rw [h,Bool.and_false]
theorem tokOk_c {t:Tok} (h:Zak t.text t.kind=true) (h':hidOk t.hidden=true):tokOk t=true:=by unfold tokOk;rw [h,h'];rfl
section
variable {w w1:World} {ty:TypeId} {v0 v1 v2 v3:Value}
theorem box0 (hB:Below (w.alloc (.cells #[v0,v1,v2,v3] ty)).heap.size (w.alloc (.cells #[v0,v1,v2,v3] ty)) w1):w1.cell? ⟨w.heap.size,0,none⟩=some v0:=(hB.cell (by simp)).trans (by rw [World.cell?_alloc_at _ _ _ _ rfl];rfl)
theorem box1 (hB:Below (w.alloc (.cells #[v0,v1,v2,v3] ty)).heap.size (w.alloc (.cells #[v0,v1,v2,v3] ty)) w1):w1.cell? ⟨w.heap.size,1,none⟩=some v1:=(hB.cell (by simp)).trans (by rw [World.cell?_alloc_at _ _ _ _ rfl];rfl)
theorem box3 (hB:Below (w.alloc (.cells #[v0,v1,v2,v3] ty)).heap.size (w.alloc (.cells #[v0,v1,v2,v3] ty)) w1):w1.cell? ⟨w.heap.size,3,none⟩=some v3:=(hB.cell (by simp)).trans (by rw [World.cell?_alloc_at _ _ _ _ rfl];rfl)
end
theorem Zf0 (t:Tok) (h:Value) (fp:List Nat) (w:World) (ht:okStr t.text) (H:(Zaa sStr).R w [h] t.hidden fp) (hone:Zak t.text t.kind=false) :
  Calls Tryz.prog 69 #[.agg #[.int .i64 t.kind,.string t.text,.bool t.spaced,h]] w (Says (tokOk t) w):=by
 have HT:Hid (∀ W,Calls Tryz.prog 28 #[.string t.text] W (Zbd (Zai t.text) W)):=λ W=>Zbe t.text W ht
 have HF:=Qh (tokOk_a hone)
 have hb0:=Zab w (.cells #[.int .i64 t.kind,.string t.text,.bool t.spaced,h] 57)
 rcases ZcJ t.text t.kind with⟨hr,HG⟩ | ⟨l,hr,hl,HG⟩ | ⟨t',hr,hk,HG⟩ | ⟨t',hr,hk,hx,HG⟩ | ⟨t',hr,hk,hx,_,HG⟩
 ·rw [hr] at HT
  clear hr hone
  go_enter Tryz.func69,Tryz.ntmps69
  go_wp2_with (go_at_call 28;refine (HT.out _).mono ?_;rintro e w' ⟨v,fp,rfl,hR,hO,hB⟩)
  go_quiet (fail)
  go_wp2
  go_ret
  exact⟨Zad HF.out.symm,Zag (hb0.trans (hB.mono hb0.size)) _⟩
 ·rw [hr] at HT
  have hl':((l.length:Int) != 1)=true:=by simp;omega
  clear hr hone hl
  go_enter Tryz.func69,Tryz.ntmps69
  go_wp2_with (go_at_call 28;refine (HT.out _).mono ?_;rintro e w' ⟨v,fp,rfl,hR,hO,hB⟩;obtain⟨a,cap,rfl,_,_,_⟩:=Zac hR)
  go_quiet (fail)
  go_wp2
  go_ret
  exact⟨Zad HF.out.symm,Zag (hb0.trans (hB.mono hb0.size)) _⟩
 ·rw [hr] at HT
  have hk':(t'.kind != t.kind)=true:=by simp [hk]
  clear hr hone hk
  go_enter Tryz.func69,Tryz.ntmps69
  go_wp2_with (go_at_call 28;refine (HT.out _).mono ?_;rintro e w' ⟨v,fp,rfl,hR,hO,hB⟩;obtain⟨b,off,cap,h',rfl,hc1,hc2,hb,h0,h1,h2,h3,_,_⟩:=Za8 hR;have a0:=box0 hB)
  go_quiet (fail)
  go_wp2
  go_ret
  exact⟨Zad HF.out.symm,Zag (hb0.trans (hB.mono hb0.size)) _⟩
 ·rw [hr] at HT
  have hk':(t'.kind != t.kind)=false:=by simp [hk]
  have hx':(t'.text.toList==t.text.toList)=false:=ZaU hx
  clear hr hone hk hx
  go_enter Tryz.func69,Tryz.ntmps69
  go_wp2_with (go_at_call 28;refine (HT.out _).mono ?_;rintro e w' ⟨v,fp,rfl,hR,hO,hB⟩;obtain⟨b,off,cap,h',rfl,hc1,hc2,hb,h0,h1,h2,h3,_,_⟩:=Za8 hR;have a0:=box0 hB;have a1:=box1 hB)
  go_quiet (fail)
  go_wp2
  go_ret
  exact⟨Zad HF.out.symm,Zag (hb0.trans (hB.mono hb0.size)) _⟩
 ·exact absurd (HG.out.symm.trans hone) (by simp)
theorem ZhN {a b:ByteArray}:(sLess a b=true/\Op.bytesLess b.toList a.toList=false/\(b.toList==a.toList)=false)\/(sLess a b=false/\Op.bytesLess b.toList a.toList=true)\/(sLess a b=false/\Op.bytesLess b.toList a.toList=false/\(b.toList==a.toList)=true):=by
 cases h:sLess a b
 ·have:=sLess_no h
  cases h1:Op.bytesLess b.toList a.toList
  ·rw [h1,Bool.false_or] at this;exact .inr (.inr ⟨rfl,rfl,this⟩)
  ·exact .inr (.inl ⟨rfl,rfl⟩)
 ·have:=Zm8 h
  rw [Bool.or_eq_false_iff] at this
  exact .inl ⟨rfl,this.1,this.2⟩
theorem Y4A1 {g:Prop} (h:g:=by
 clear hr HG hc2 hall hcell
 go_wp2_with (go_at_call 28;refine (HT.out _).mono ?_;rintro e w' ⟨v,fp,rfl,hR,hO,hB2⟩;obtain⟨b1,off1,cap1,h1,rfl,hc11,hc21,hb1,g0,g1,g2,g3,_,_⟩:=Za8 hR;have a3':=(hB2.cell (p:=⟨w.heap.size,3,none⟩) hwr).trans a3;have hck':=(hB2.cell (p:=⟨b,off+k,none⟩) hbr).trans hck)
 go_quiet (fail)
 go_wp2
 go_ret
 exact⟨Zad HF.out.symm,Zag (hbw.trans (hB2.mono hbw.size)) _⟩):g:=h
theorem ZfO (t:Tok) (h:Value) (fp:List Nat) (w:World) (ht:okStr t.text) (H:(Zaa sStr).R w [h] t.hidden fp) (hone:Zak t.text t.kind=true) :
  Calls Tryz.prog 69 #[.agg #[.int .i64 t.kind,.string t.text,.bool t.spaced,h]] w (Says (tokOk t) w):=by
 have HT:Hid (∀ W,Calls Tryz.prog 28 #[.string t.text] W (Zbd (Zai t.text) W)):=λ W=>Zbe t.text W ht
 have HO:=Qh hone
 have hb0:=Zab w (.cells #[.int .i64 t.kind,.string t.text,.bool t.spaced,h] 57)
 obtain⟨ah,caph,rfl,hch,hmh,hcell,hsz⟩:=Zaf H
 unfold maxLen at hmh
 rcases ZcJ t.text t.kind with⟨hr,HG⟩ | ⟨l,hr,hl,HG⟩ | ⟨t',hr,hk,HG⟩ | ⟨t',hr,hk,hx,HG⟩ | ⟨t',hr,hk,hx,hsp,HG⟩
 ·exact absurd (HG.out.symm.trans hone) (by simp)
 ·exact absurd (HG.out.symm.trans hone) (by simp)
 ·exact absurd (HG.out.symm.trans hone) (by simp)
 ·exact absurd (HG.out.symm.trans hone) (by simp)
 rw [hr] at HT
 have hk':(t'.kind != t.kind)=false:=by simp [hk]
 have hx':(t'.text.toList==t.text.toList)=true:=ZaP hx
 clear hr hone hk hx HG
 by_cases hl:60<t.hidden.length
 ·have HF:=Qh (ZdZ (t:=t) (ZhG hl))
  go_enter Tryz.func69,Tryz.ntmps69
  go_wp2_with (go_at_call 28;refine (HT.out _).mono ?_;rintro e w' ⟨v,fp,rfl,hR,hO,hB⟩;obtain⟨b,off,cap,h',rfl,hc1,hc2,hb,h0,h1,h2,h3,_,_⟩:=Za8 hR;have a0:=box0 hB;have a1:=box1 hB;have a3:=box3 hB;rw [hsp] at h2)
  go_quiet (fail)
  go_wp2
  go_ret
  exact⟨Zad HF.out.symm,Zag (hb0.trans (hB.mono hb0.size)) _⟩
 ·have hl':¬ (60:Int)<(t.hidden.length:Int):=by omega
  have hl2:decide ((60:Int)<(t.hidden.length:Int))=false:=by simpa using hl'
  go_enter Tryz.func69,Tryz.ntmps69
  go_wp2_with (go_at_call 28;refine (HT.out _).mono ?_;rintro e w' ⟨v,fp,rfl,hR,hO,hB⟩;obtain⟨b,off,cap,h',rfl,hc1,hc2,hb,h0,h1,h2,h3,_,_⟩:=Za8 hR;have a0:=box0 hB;have a1:=box1 hB;have a3:=box3 hB;rw [hsp] at h2)
  go_quiet (fail)
  go_wp2
  have hB':=Zag hB nq
  clear a0 a1 a3 h0 h1 h2 h3 hR hO hc1 hc2 hb hB
  go_loopw [5] (λ i wr=>∃ k:Nat,k<=t.hidden.length/\i=.int .i64 k/\HidUpto t.hidden k/\Below (w.alloc (.cells #[.int .i64 t.kind,.string t.text,.bool t.spaced,.slice ah t.hidden.length caph] 57)).heap.size (w.alloc (.cells #[.int .i64 t.kind,.string t.text,.bool t.spaced,.slice ah t.hidden.length caph] 57)) wr) (λ i _=>t.hidden.length-(intOf i).toNat)
  case atStart=>exact⟨0,by omega,rfl,HidUpto.zero _,hB'⟩
  case round =>
   obtain⟨k,hk,rfl,hall,hbel⟩:=hrel
   have hbw:=hb0.trans (hbel.mono hb0.size)
   have hsl:(w.alloc (.cells #[.int .i64 t.kind,.string t.text,.bool t.spaced,.slice ah t.hidden.length caph] 57)).heap.size=w.heap.size+1:=Array.size_push _
   have hwr:w.heap.size<wr.heap.size:=by have:=hbel.size;omega
   have a3:=box3 hbel
   by_cases hlt:k<t.hidden.length
   ·obtain⟨b,off,rfl,hb,_,hc2⟩:=hcell (by omega)
    have hck:=(hbw.cell (p:=⟨b,off+k,none⟩) hb).trans (hc2 k hlt)
    have hbr:b<wr.heap.size:=Nat.lt_of_lt_of_le hb hbw.size
    have hsk:=hsz k hlt
    have HT:Hid (∀ W,Calls Tryz.prog 28 #[.string t.hidden[k]] W (Zbd (Zai t.hidden[k]) W)):=λ W=>Zbe t.hidden[k] W hsk
    rcases ZcJ t.hidden[k] 1 with⟨hr,HG⟩ | ⟨l,hr,hl,HG⟩ | ⟨t',hr,hk,HG⟩ | ⟨t',hr,hk,hx,HG⟩ | ⟨t',hr,hk,hx,_,HG⟩
    ·rw [hr] at HT
     have HF:=Qh (ZdZ (t:=t) (ZcK hlt (Zc0 hlt HG.out)))
     clear hr HG hc2 hall hcell
     go_wp2_with (go_at_call 28;refine (HT.out _).mono ?_;rintro e w' ⟨v,fp,rfl,hR,hO,hB2⟩;have a3':=(hB2.cell (p:=⟨w.heap.size,3,none⟩) hwr).trans a3;have hck':=(hB2.cell (p:=⟨b,off+k,none⟩) hbr).trans hck)
     go_quiet (fail)
     go_wp2
     go_ret
     exact⟨Zad HF.out.symm,Zag (hbw.trans (hB2.mono hbw.size)) _⟩
    ·rw [hr] at HT
     have HF:=Qh (ZdZ (t:=t) (ZcK hlt (Zc0 hlt HG.out)))
     have hl'':((l.length:Int) != 1)=true:=by simp;omega
     clear hr HG hc2 hall hcell
     go_wp2_with (go_at_call 28;refine (HT.out _).mono ?_;rintro e w' ⟨v,fp,rfl,hR,hO,hB2⟩;obtain⟨a,cap,rfl,_,_,_⟩:=Zac hR;have a3':=(hB2.cell (p:=⟨w.heap.size,3,none⟩) hwr).trans a3;have hck':=(hB2.cell (p:=⟨b,off+k,none⟩) hbr).trans hck)
     go_quiet (fail)
     go_wp2
     go_ret
     exact⟨Zad HF.out.symm,Zag (hbw.trans (hB2.mono hbw.size)) _⟩
    ·rw [hr] at HT
     have HF:=Qh (ZdZ (t:=t) (ZcK hlt (Zc0 hlt HG.out)))
     have hk'':(t'.kind != 1)=true:=by simp [hk]
     exact Y4A1
    ·rw [hr] at HT
     have HF:=Qh (ZdZ (t:=t) (ZcK hlt (Zc0 hlt HG.out)))
     have hk'':(t'.kind != 1)=false:=by simp [hk]
     have hx'':(t'.text.toList==t.hidden[k].toList)=false:=ZaU hx
     exact Y4A1
    ·rw [hr] at HT
     have hk'':(t'.kind != 1)=false:=by simp [hk]
     have hx'':(t'.text.toList==t.hidden[k].toList)=true:=ZaP hx
     by_cases h0:k=0
     ·have h0':decide ((0:Int)<(k:Int))=false:=by simp;omega
      have HN:Hid (HidUpto t.hidden (k+1)):=by subst h0;exact hall.succ (ZgL hlt HG.out)
      have h00:¬ (0:Int)<(k:Int):=by omega
      have h01:decide (0<k)=false:=by simp;omega
      clear h0
      clear hr HG hc2 hall hcell
      go_wp2_with (go_at_call 28;refine (HT.out _).mono ?_;rintro e w' ⟨v,fp,rfl,hR,hO,hB2⟩;obtain⟨b1,off1,cap1,h1,rfl,hc11,hc21,hb1,g0,g1,g2,g3,_,_⟩:=Za8 hR;have a3':=(hB2.cell (p:=⟨w.heap.size,3,none⟩) hwr).trans a3;have hck':=(hB2.cell (p:=⟨b,off+k,none⟩) hbr).trans hck)
      go_quiet (fail)
      go_wp2
      go_roundw
      case rel=>exact⟨k+1,by omega,by go_num,HN.out,Zag (hbel.trans (hB2.mono hbel.size)) _⟩
      case measure=>simp [intOf];omega
     ·have hcp:=(hbw.cell (p:=⟨b,off+(k-1),none⟩) hb).trans (hc2 (k-1) (by omega))
      have h6:((k:Int)-1).toNat=k-1:=by omega
      have h0':(0:Int)<(k:Int):=by omega
      have h0'':decide ((0:Int)<(k:Int))=true:=by simpa using h0'
      have h0n:decide (0<k)=true:=by simp;omega
      have hi1:(0:Int)<=(k:Int)-1:=by omega
      have hi2:(k:Int)-1<(t.hidden.length:Int):=by omega
      rcases ZhN (a:=t.hidden[k-1]'(by omega)) (b:=t.hidden[k]) with⟨hw,hw1,hw2⟩ | ⟨hw,hw1⟩ | ⟨hw,hw1,hw2⟩
      ·have HN:=Qh (hall.succ (ZgM hlt (by omega) HG.out hw))
       clear hr HG hc2 hall hcell hw
       go_wp2_with (go_at_call 28;refine (HT.out _).mono ?_;rintro e w' ⟨v,fp,rfl,hR,hO,hB2⟩;obtain⟨b1,off1,cap1,h1,rfl,hc11,hc21,hb1,g0,g1,g2,g3,_,_⟩:=Za8 hR;have a3':=(hB2.cell (p:=⟨w.heap.size,3,none⟩) hwr).trans a3;have hck':=(hB2.cell (p:=⟨b,off+k,none⟩) hbr).trans hck;have hcp':=(hB2.cell (p:=⟨b,off+(k-1),none⟩) hbr).trans hcp)
       go_quiet (fail)
       go_wp2
       go_roundw
       case rel=>exact⟨k+1,by omega,by go_num,HN.out,Zag (hbel.trans (hB2.mono hbel.size)) _⟩
       case measure=>simp [intOf];omega
      all_goals
       have HF:=Qh (ZdZ (t:=t) (ZcK hlt (ZhH hlt (by omega) hw)))
       clear hr HG hc2 hall hcell hw
       go_wp2_with (go_at_call 28;refine (HT.out _).mono ?_;rintro e w' ⟨v,fp,rfl,hR,hO,hB2⟩;obtain⟨b1,off1,cap1,h1,rfl,hc11,hc21,hb1,g0,g1,g2,g3,_,_⟩:=Za8 hR;have a3':=(hB2.cell (p:=⟨w.heap.size,3,none⟩) hwr).trans a3;have hck':=(hB2.cell (p:=⟨b,off+k,none⟩) hbr).trans hck;have hcp':=(hB2.cell (p:=⟨b,off+(k-1),none⟩) hbr).trans hcp)
       go_quiet (fail)
       go_wp2
       go_ret
       exact⟨Zad HF.out.symm,Zag (hbw.trans (hB2.mono hbw.size)) _⟩
   ·have HF:=Qh (tokOk_c HO.out (ZfY hall (by omega) (by omega)))
    clear hall
    go_wp2
    go_ret
    exact⟨Zad HF.out.symm,hbw⟩
theorem ZgF (t:Tok) (h:Value) (fp:List Nat) (w:World) (ht:okStr t.text) (H:(Zaa sStr).R w [h] t.hidden fp) :
  Calls Tryz.prog 69 #[.agg #[.int .i64 t.kind,.string t.text,.bool t.spaced,h]] w (Says (tokOk t) w):=by
 cases ho:Zak t.text t.kind
 ·exact Zf0 t h fp w ht H ho
 ·exact ZfO t h fp w ht H ho
theorem ZbL (cs:List Value) (x:Tok) (fp:List Nat) (w:World) (H:sTok.R w cs x fp):Calls Tryz.prog 69 #[.agg cs.toArray] w (Says (tokOk x) w):=by
 obtain⟨h,rfl,_,hok,K⟩:=H
 exact ZgF x h fp w hok K
def tKey (t:Tok):Int × ByteArray:=(t.kind,t.text)
def ZaZ (a b:List Tok):Bool:=decide (a.map tKey=b.map tKey)
def SameUpto (a b:List Tok) (k:Nat):Prop:=∀ j,(h:j<a.length)->(h':j<b.length)->j<k->tKey a[j]=tKey b[j]
theorem SameUpto.zero (a b:List Tok):SameUpto a b 0:=by intro j _ _ h;omega
theorem SameUpto.succ {a b:List Tok} {k:Nat} (h:SameUpto a b k) (h1:k<a.length) (h2:k<b.length) (e1:a[k].kind=b[k].kind) (e2:a[k].text=b[k].text):SameUpto a b (k+1):=by
 intro j hj hj' hjk
 by_cases e:j=k
 ·subst e;unfold tKey;rw [e1,e2]
 ·exact h j hj hj' (by omega)
theorem Zg7 {a b:List Tok} (h:a.length≠b.length):ZaZ a b=false:=by
 unfold ZaZ;rw [decide_eq_false_iff_not];intro e
 have:=congrArg List.length e
 simp only [List.length_map] at this
 exact h this
theorem Zgu {a b:List Tok} {k:Nat} (h1:k<a.length) (h2:k<b.length) (e:¬ (a[k].kind=b[k].kind/\a[k].text=b[k].text)):ZaZ a b=false:=by
 unfold ZaZ;rw [decide_eq_false_iff_not];intro e'
 have:=List.getElem_of_eq e' (i:=k) (by simpa using h1)
 simp only [List.getElem_map,tKey,Prod.mk.injEq] at this
 exact e this
theorem Zkc {a b:List Tok} {k:Nat} (h:SameUpto a b k) (hl:a.length=b.length) (hk:a.length<=k):ZaZ a b=true:=by
 unfold ZaZ;rw [decide_eq_true_eq]
 refine List.ext_getElem (by simpa using hl) λ i h1 h2=>?_
 simp only [List.length_map] at h1 h2
 rw [List.getElem_map,List.getElem_map]
 exact h i h1 h2 (by omega)
theorem Ziu (v1 v2:Value) (l1 l2:List Tok) (fp1 fp2:List Nat) (w:World) (H1:(Zaa sTok).R w [v1] l1 fp1) (H2:(Zaa sTok).R w [v2] l2 fp2) :
  Calls Tryz.prog 114 #[v1,v2] w (Says (ZaZ l1 l2) w):=by
 obtain⟨a1,cap1,rfl,hc1,hm1,hrow1⟩:=Zac H1
 obtain⟨a2,cap2,rfl,hc2,hm2,hrow2⟩:=Zac H2
 unfold maxLen at hm1 hm2
 clear H1 H2
 by_cases hl:l1.length=l2.length
 ·have hnb:((l1.length:Int) != (l2.length:Int))=false:=by simp [hl]
  have HL:=Qh hl
  clear hl
  go_enter Tryz.func114,Tryz.ntmps114
  go_wp2
  go_loopw [5] (λ i wr=>∃ k:Nat,k<=l1.length/\i=.int .i64 k/\SameUpto l1 l2 k/\Below w.heap.size w wr) (λ i _=>l1.length-(intOf i).toNat)
  case atStart=>exact⟨0,by omega,rfl,SameUpto.zero _ _,Below.refl _ _⟩
  case round =>
   obtain⟨k,hk,rfl,hall,hb⟩:=hrel
   by_cases hlt:k<l1.length
   ·have hlt2:k<l2.length:=by have:=HL.out;omega
    obtain⟨b1,off1,fps1,rfl,hb1,-,he1⟩:=hrow1 (by omega)
    obtain⟨b2,off2,fps2,rfl,hb2,-,he2⟩:=hrow2 (by omega)
    obtain⟨es1,hE1,hR1⟩:=he1 k hlt
    obtain⟨es2,hE2,hR2⟩:=he2 k hlt2
    clear hrow1 hrow2 he1 he2
    obtain⟨h1,rfl,_,_,_⟩:=hR1
    obtain⟨h2,rfl,_,_,_⟩:=hR2
    replace hE1:=hE1.frame (hb.block b1 hb1)
    replace hE2:=hE2.frame (hb.block b2 hb2)
    have c10:wr.cell? ⟨b1,off1+k * 4,none⟩=some _:=Zao hE1 (by decide) rfl
    have c11:wr.cell? ⟨b1,off1+k * 4+1,none⟩=some _:=Zae (j:=1) hE1 (by decide) rfl
    have c20:wr.cell? ⟨b2,off2+k * 4,none⟩=some _:=Zao hE2 (by decide) rfl
    have c21:wr.cell? ⟨b2,off2+k * 4+1,none⟩=some _:=Zae (j:=1) hE2 (by decide) rfl
    clear hE1 hE2
    by_cases e1:l1[k].kind=l2[k].kind
    ·have q1:(l1[k].kind != l2[k].kind)=false:=by simp [e1]
     by_cases e2:l1[k].text=l2[k].text
     ·have q2:=ZaP e2
      have hn:=hall.succ hlt hlt2 e1 e2
      clear e1 e2 hall
      go_wp2
      go_quiet (fail)
      go_wp2
      go_roundw
      case rel=>exact⟨k+1,by omega,by go_num,hn,Zag hb _⟩
      case measure=>simp [intOf];omega
     ·have q2:=ZaU e2
      have HF:=Qh (Zgu hlt hlt2 (λ h=>e2 h.2))
      clear e1 e2 hall
      go_wp2
      go_quiet (fail)
      go_wp2
      go_ret
      exact⟨Zad HF.out.symm,Zag hb _⟩
    ·have q1:(l1[k].kind != l2[k].kind)=true:=by simp [e1]
     have HF:=Qh (Zgu hlt hlt2 (λ h=>e1 h.1))
     clear e1 hall
     go_wp2
     go_quiet (fail)
     go_wp2
     go_ret
     exact⟨Zad HF.out.symm,Zag hb _⟩
   ·have HF:=Qh (Zkc hall HL.out (by omega))
    clear hall
    go_wp2
    go_ret
    exact⟨Zad HF.out.symm,hb⟩
 ·have hnb:((l1.length:Int) != (l2.length:Int))=true:=by simp;omega
  have HF:=Qh (Zg7 hl)
  clear hl
  go_enter Tryz.func114,Tryz.ntmps114
  go_wp2
  go_ret
  exact⟨Zad HF.out.symm,Below.refl _ _⟩
theorem Zdk (v1 v2:Value) (l1 l2:List Tok) (fp1 fp2:List Nat) (w:World) (H1:(Zaa sTok).R w [v1] l1 fp1) (H2:(Zaa sTok).R w [v2] l2 fp2) :
  Calls Tryz.prog 10 #[v1,v2] w (Says (ZaZ l1 l2) w):=by
 obtain⟨a1,cap1,rfl,hc1,hm1,hrow1⟩:=Zac H1
 obtain⟨a2,cap2,rfl,hc2,hm2,hrow2⟩:=Zac H2
 unfold maxLen at hm1 hm2
 clear H1 H2
 by_cases hl:l1.length=l2.length
 ·have hnb:((l1.length:Int) != (l2.length:Int))=false:=by simp [hl]
  have HL:=Qh hl
  clear hl
  go_enter Tryz.func10,Tryz.ntmps10
  go_wp2
  go_loopw [13] (λ i wr=>∃ k:Nat,k<=l1.length/\i=.int .i64 k/\SameUpto l1 l2 k/\Below w.heap.size w wr) (λ i _=>l1.length-(intOf i).toNat)
  case atStart=>exact⟨0,by omega,rfl,SameUpto.zero _ _,Below.refl _ _⟩
  case round =>
   obtain⟨k,hk,rfl,hall,hb⟩:=hrel
   by_cases hlt:k<l1.length
   ·have hlt2:k<l2.length:=by have:=HL.out;omega
    obtain⟨b1,off1,fps1,rfl,hb1,-,he1⟩:=hrow1 (by omega)
    obtain⟨b2,off2,fps2,rfl,hb2,-,he2⟩:=hrow2 (by omega)
    obtain⟨es1,hE1,hR1⟩:=he1 k hlt
    obtain⟨es2,hE2,hR2⟩:=he2 k hlt2
    clear hrow1 hrow2 he1 he2
    obtain⟨h1,rfl,_,_,_⟩:=hR1
    obtain⟨h2,rfl,_,_,_⟩:=hR2
    replace hE1:=hE1.frame (hb.block b1 hb1)
    replace hE2:=hE2.frame (hb.block b2 hb2)
    have c10:wr.cell? ⟨b1,off1+k * 4,none⟩=some _:=Zao hE1 (by decide) rfl
    have c11:wr.cell? ⟨b1,off1+k * 4+1,none⟩=some _:=Zae (j:=1) hE1 (by decide) rfl
    have c20:wr.cell? ⟨b2,off2+k * 4,none⟩=some _:=Zao hE2 (by decide) rfl
    have c21:wr.cell? ⟨b2,off2+k * 4+1,none⟩=some _:=Zae (j:=1) hE2 (by decide) rfl
    clear hE1 hE2
    by_cases e1:l1[k].kind=l2[k].kind
    ·have q1:(l1[k].kind != l2[k].kind)=false:=by simp [e1]
     by_cases e2:l1[k].text=l2[k].text
     ·have q2:=ZaP e2
      have hn:=hall.succ hlt hlt2 e1 e2
      clear e1 e2 hall
      go_wp2
      go_quiet (fail)
      go_wp2
      go_roundw
      case rel=>exact⟨k+1,by omega,by go_num,hn,Zag hb _⟩
      case measure=>simp [intOf];omega
     ·have q2:=ZaU e2
      have HF:=Qh (Zgu hlt hlt2 (λ h=>e2 h.2))
      clear e1 e2 hall
      go_wp2
      go_quiet (fail)
      go_wp2
      go_ret
      exact⟨Zad HF.out.symm,Zag hb _⟩
    ·have q1:(l1[k].kind != l2[k].kind)=true:=by simp [e1]
     have HF:=Qh (Zgu hlt hlt2 (λ h=>e1 h.1))
     clear e1 hall
     go_wp2
     go_quiet (fail)
     go_wp2
     go_ret
     exact⟨Zad HF.out.symm,Zag hb _⟩
   ·have HF:=Qh (Zkc hall HL.out (by omega))
    clear hall
    go_wp2
    go_ret
    exact⟨Zad HF.out.symm,hb⟩
 ·have hnb:((l1.length:Int) != (l2.length:Int))=true:=by simp;omega
  have HF:=Qh (Zg7 hl)
  clear hl
  go_enter Tryz.func10,Tryz.ntmps10
  go_wp2
  go_ret
  exact⟨Zad HF.out.symm,Below.refl _ _⟩
def Zaj (l:List Tok):Bool:=decide (l.length<=60) && l.all tokOk
theorem Zbg (v:Value) (l:List Tok) (fp:List Nat) (w:World) (H:(Zaa sTok).R w [v] l fp) :
  Calls Tryz.prog 36 #[v] w (Says (Zaj l) w):=by
 obtain⟨a,cap,rfl,hc,hm,hrow⟩:=Zac H
 unfold maxLen at hm
 clear H
 go_enter Tryz.func36,Tryz.ntmps36
 go_wp2
 go_loopw [3] (λ i wr=>∃ k:Nat,k<=l.length/\i=.int .i64 k/\AllUpto tokOk l k/\Below w.heap.size w wr) (λ i _=>l.length-(intOf i).toNat)
 case atStart=>exact⟨0,by omega,rfl,AllUpto.zero _ _,Below.refl _ _⟩
 case round =>
  obtain⟨k,hk,rfl,hall,hb⟩:=hrel
  by_cases hlt:k<l.length
  ·obtain⟨b1,off1,fps1,rfl,hb1,-,he1⟩:=hrow (by omega)
   obtain⟨es1,hE1,hR1⟩:=he1 k hlt
   clear hrow he1
   have hR2:=sTok.below hR1 hb
   obtain⟨h1,rfl,_,_,_⟩:=hR1
   have HC:=Qh (ZbL _ _ _ wr hR2)
   clear hR2
   replace hE1:=hE1.frame (hb.block b1 hb1)
   have c10:wr.cell? ⟨b1,off1+k * 4,none⟩=some _:=Zao hE1 (by decide) rfl
   have c11:wr.cell? ⟨b1,off1+k * 4+1,none⟩=some _:=Zae (j:=1) hE1 (by decide) rfl
   have c12:wr.cell? ⟨b1,off1+k * 4+2,none⟩=some _:=Zae (j:=2) hE1 (by decide) rfl
   have c13:wr.cell? ⟨b1,off1+k * 4+3,none⟩=some _:=Zae (j:=3) hE1 (by decide) rfl
   clear hE1
   cases hv:tokOk l[k]
   ·have HF:=Qh (all_no (p:=tokOk) hlt hv)
    rw [hv] at HC
    clear hv hall
    go_wp2_with (go_at_call 69;refine (HC.out).mono ?_;rintro e w1 ⟨rfl,hb2⟩)
    go_ret
    exact⟨Zad (by unfold Zaj;rw [HF.out];simp),hb.trans (hb2.mono hb.size)⟩
   ·have HN:=Qh (hall.succ hlt hv)
    rw [hv] at HC
    clear hv hall
    go_wp2_with (go_at_call 69;refine (HC.out).mono ?_;rintro e w1 ⟨rfl,hb2⟩)
    go_roundw
    case rel=>exact⟨k+1,by omega,by go_num,HN.out,hb.trans (hb2.mono hb.size)⟩
    case measure=>simp [intOf];omega
  ·have HF:=Qh (ZlV (p:=tokOk) hall (by omega))
   clear hall
   go_wp2
   go_ret
   exact⟨Zad (by unfold Zaj;rw [HF.out,Bool.and_true];exact decide_eq_decide.2 (by omega)),hb⟩
theorem ZbD (v:Value) (l:List Tok) (fp:List Nat) (w:World) (H:(Zaa sTok).R w [v] l fp) :
  Calls Tryz.prog 41 #[v] w (Says (Zaj l) w):=by
 obtain⟨a,cap,rfl,hc,hm,hrow⟩:=Zac H
 unfold maxLen at hm
 clear H
 by_cases hl:60<l.length
 ·go_enter Tryz.func41,Tryz.ntmps41
  go_wp2
  go_ret
  exact⟨Zad (by unfold Zaj;rw [decide_eq_false (by omega)];rfl),Below.refl _ _⟩
 go_enter Tryz.func41,Tryz.ntmps41
 go_wp2
 go_loopw [10] (λ i wr=>∃ k:Nat,k<=l.length/\i=.int .i64 k/\AllUpto tokOk l k/\Below w.heap.size w wr) (λ i _=>l.length-(intOf i).toNat)
 case atStart=>exact⟨0,by omega,rfl,AllUpto.zero _ _,Below.refl _ _⟩
 case round =>
  obtain⟨k,hk,rfl,hall,hb⟩:=hrel
  by_cases hlt:k<l.length
  ·obtain⟨b1,off1,fps1,rfl,hb1,-,he1⟩:=hrow (by omega)
   obtain⟨es1,hE1,hR1⟩:=he1 k hlt
   clear hrow he1
   have hR2:=sTok.below hR1 hb
   obtain⟨h1,rfl,_,_,K1⟩:=hR1
   obtain⟨ah,caph,rfl,-⟩:=Zac K1
   clear K1
   have HC:Hid (∀ W,Below wr.heap.size wr W->Calls Tryz.prog 78 #[.agg #[.int .i64 l[k].kind,.string l[k].text,.bool l[k].spaced,.slice ah l[k].hidden.length caph]] W (Says (tokOk l[k]) W)):=λ W hW=>Zc1 _ _ _ W (sTok.below hR2 hW)
   clear hR2
   replace hE1:=hE1.frame (hb.block b1 hb1)
   have c10:wr.cell? ⟨b1,off1+k * 4,none⟩=some _:=Zao hE1 (by decide) rfl
   have c11:wr.cell? ⟨b1,off1+k * 4+1,none⟩=some _:=Zae (j:=1) hE1 (by decide) rfl
   have c12:wr.cell? ⟨b1,off1+k * 4+2,none⟩=some _:=Zae (j:=2) hE1 (by decide) rfl
   have c13:wr.cell? ⟨b1,off1+k * 4+3,none⟩=some _:=Zae (j:=3) hE1 (by decide) rfl
   clear hE1
   cases hv:tokOk l[k]
   ·have HF:=Qh (all_no (p:=tokOk) hlt hv)
    rw [hv] at HC
    clear hv hall
    go_wp2_with (go_at_call 78;refine (HC.out _ (Zab _ _)).mono ?_;rintro e w1 ⟨rfl,hb2⟩)
    go_ret
    have hb3:=(Zab wr (.cells #[.int .i64 l[k].kind,.string l[k].text,.bool l[k].spaced,.slice ah l[k].hidden.length caph] 57))
    exact⟨Zad (by unfold Zaj;rw [HF.out];simp),hb.trans ((hb3.trans (hb2.mono hb3.size)).mono hb.size)⟩
   ·have HN:=Qh (hall.succ hlt hv)
    rw [hv] at HC
    clear hv hall
    go_wp2_with (go_at_call 78;refine (HC.out _ (Zab _ _)).mono ?_;rintro e w1 ⟨rfl,hb2⟩)
    have hb3:=(Zab wr (.cells #[.int .i64 l[k].kind,.string l[k].text,.bool l[k].spaced,.slice ah l[k].hidden.length caph] 57))
    go_roundw
    case rel=>exact⟨k+1,by omega,by go_num,HN.out,hb.trans ((hb3.trans (hb2.mono hb3.size)).mono hb.size)⟩
    case measure=>simp [intOf];omega
  ·have HF:=Qh (ZlV (p:=tokOk) hall (by omega))
   clear hall
   go_wp2
   go_ret
   exact⟨Zad (by unfold Zaj;rw [HF.out,Bool.and_true];exact(decide_eq_true (by omega)).symm),hb⟩
theorem Zgv (s:ByteArray) (i j k:Nat) (h:k<(s.extract i j).size):(s.extract i j)[k]=s[i+k]'(by rw [ByteArray.size_extract] at h;omega):=by
 rw [ByteArray.getElem_extract]
def Zkd (t:Tok):Prop:=∃ h:0<t.text.size,t.kind=cutKind t.text[0]
theorem Zne (s:ByteArray):∀ (k:Nat) (sp:Bool) (n:Nat) (l:List Tok),toks s k sp n=some l->∀ t∈l,Zkd t:=by
 intro k sp n
 induction k,sp,n using toks.induct (s:=s) with
 |
  case1 k sp n hk h32 ih =>
  intro l h
  rw [toks,dif_pos hk,if_pos h32] at h
  exact ih l h
 |
  case2 k sp n hk h32 hb =>
  intro l h
  rw [toks,dif_pos hk,if_neg h32,if_pos hb] at h
  exact absurd h (by simp)
 |
  case3 k sp n hk h32 hb ih =>
  intro l h t ht
  rw [toks,dif_pos hk,if_neg h32,if_neg hb] at h
  have hr:=ZaY (s:=s) (k:=k) (by omega)
  rw [Option.map_eq_some_iff] at h
  obtain⟨l',h1,rfl⟩:=h
  rcases List.mem_cons.1 ht with rfl | ht
  ·have hz:0<(s.extract k (Zav s k).toNat).size:=by rw [ByteArray.size_extract];omega
   refine ⟨hz,?_⟩
   show cutKind s[k]=cutKind (s.extract k (Zav s k).toNat)[0]
   rw [Zgv];rfl
  ·exact ih l' h1 t ht
 |
  case4 k sp n hk =>
  intro l h
  rw [toks,dif_neg hk] at h
  simp only [Qi] at h
  subst h;simp
theorem ZcE (s:ByteArray):∀ t∈(Zai s).1,Zkd t:=by
 rcases hr:Zai s with⟨l,ok⟩
 cases ok
 ·obtain rfl:=ZcZ hr
  simp
 ·exact Zne s 0 false 0 l (Za5 hr).1
theorem ZhO {x:ByteArray} {k:Int} (h:Zak x k=true):∃ t,Zai x=([t],true)/\t.kind=k/\t.text=x:=by
 rcases ZcJ x k with⟨_,HG⟩ | ⟨l,_,_,HG⟩ | ⟨t',_,_,HG⟩ | ⟨t',_,_,_,HG⟩ | ⟨t',hr,hk,hx,_,_⟩
 ·exact absurd (HG.out.symm.trans h) (by simp)
 ·exact absurd (HG.out.symm.trans h) (by simp)
 ·exact absurd (HG.out.symm.trans h) (by simp)
 ·exact absurd (HG.out.symm.trans h) (by simp)
 ·exact⟨t',hr,hk,hx⟩
theorem Zaz {t:Tok} (h:tokOk t=true):Zkd t/\t.text.size<=200:=by
 unfold tokOk at h
 rw [Bool.and_eq_true] at h
 obtain⟨u,hr,hk,hx⟩:=ZhO h.1
 have h1:=ZcE t.text u (by rw [hr];simp)
 have h2:=ZcD (Za5 hr).2
 refine ⟨?_,h2⟩
 obtain⟨a,b⟩:=h1
 obtain⟨k,x,s,hd⟩:=t
 subst hx
 exact⟨a,(show k=u.kind from hk.symm).trans b⟩
def ZbV (a b:ByteArray):Bool:=(Zai (a++b)).2 && decide ((Zai (a++b)).1.map (·.text)=[a,b])
def meets (a b:ByteArray):Bool:=if h:0<a.size/\0<b.size then decide (a[a.size-1].toNat=47) && (decide (b[0].toNat=47) || decide (b[0].toNat=42)) else false
def glued (a b:ByteArray):Bool:=!ZbV a b || meets a b
theorem two_ways (a b:ByteArray) :
  (Zai (a++b)=([],false)/\Hid (glued a b=true)) \/
  (∃ l,Zai (a++b)=(l,true)/\l.length≠2/\Hid (glued a b=true)) \/
  (∃ t1 t2,Zai (a++b)=([t1,t2],true)/\t1.text≠a/\Hid (glued a b=true)) \/
  (∃ t1 t2,Zai (a++b)=([t1,t2],true)/\t1.text=a/\t2.text≠b/\Hid (glued a b=true)) \/
  (∃ t1 t2,Zai (a++b)=([t1,t2],true)/\t1.text=a/\t2.text=b/\0<a.size/\0<b.size/\Hid (glued a b=meets a b)):=by
 rcases hr:Zai (a++b) with⟨l,ok⟩
 cases ok
 ·obtain rfl:=ZcZ hr
  exact .inl ⟨rfl,by simp [Hid,glued,ZbV,hr]⟩
 ·by_cases h1:l.length=2
  ·obtain⟨t1,t2,rfl⟩:∃ t1 t2,l=[t1,t2]:=by
    match l,h1 with
    | [t1,t2],_=>exact⟨t1,t2,rfl⟩
   by_cases h2:t1.text=a
   ·by_cases h3:t2.text=b
    ·have e1:=ZcE (a++b) t1 (by rw [hr];simp)
     have e2:=ZcE (a++b) t2 (by rw [hr];simp)
     refine .inr (.inr (.inr (.inr ⟨t1,t2,rfl,h2,h3,h2 ▸ e1.1,h3 ▸ e2.1,by simp [Hid,glued,ZbV,hr,h2,h3]⟩)))
    ·exact .inr (.inr (.inr (.inl ⟨t1,t2,rfl,h2,h3,by simp [Hid,glued,ZbV,hr,h2,h3]⟩)))
   ·exact .inr (.inr (.inl ⟨t1,t2,rfl,h2,by simp [Hid,glued,ZbV,hr,h2]⟩))
  ·refine .inr (.inl ⟨l,rfl,h1,?_⟩)
   have:(decide (l.map (·.text)=[a,b]))=false:=by
    rw [decide_eq_false_iff_not];intro e
    have:=congrArg List.length e
    simp at this
    exact h1 this
   simp [Hid,glued,ZbV,hr,this]
theorem ZhP {a b:Tok} (ha:tokOk a=true) (hb:tokOk b=true):(!(Zai (a.text++b.text)).2 || !ZaZ (Zai (a.text++b.text)).1 [a,b])=!ZbV a.text b.text:=by
 obtain⟨⟨a0,a1⟩,_⟩:=Zaz ha
 obtain⟨⟨b0,b1⟩,_⟩:=Zaz hb
 unfold ZbV
 cases hr:(Zai (a.text++b.text)).2
 ·rfl
 ·have:ZaZ (Zai (a.text++b.text)).1 [a,b]=decide ((Zai (a.text++b.text)).1.map (·.text)=[a.text,b.text]):=by
   have hh:=ZcE (a.text++b.text)
   unfold ZaZ
   refine decide_eq_decide.2 ⟨λ h=>?_,λ h=>?_⟩
   ·have:=congrArg (List.map Prod.snd) h
    simpa [tKey,List.map_map,Function.comp_def] using this
   ·obtain⟨t1,t2,hl⟩:∃ t1 t2,(Zai (a.text++b.text)).1=[t1,t2]:=by
     have h2:(Zai (a.text++b.text)).1.length=2:=by
      have:=congrArg List.length h
      simpa using this
     match hl:(Zai (a.text++b.text)).1,h2 with
     | [t1,t2],_=>exact⟨t1,t2,rfl⟩
    rw [hl] at h ⊢
    ·simp only [List.map_cons,List.map_nil,List.cons.injEq,and_true] at h
     obtain⟨c0,c1⟩:=hh t1 (by rw [hl];simp)
     obtain⟨d0,d1⟩:=hh t2 (by rw [hl];simp)
     have e1:t1.kind=a.kind:=by rw [c1,a1];congr 1;simp only [h.1]
     have e2:t2.kind=b.kind:=by rw [d1,b1];congr 1;simp only [h.2]
     simp [tKey,e1,e2,h.1,h.2]
  rw [this];simp
def gap (l:List Tok) (k:Nat):Bool:=if h:0<k/\k<l.length then l[k].spaced || glued (l[k-1]'(by omega)).text l[k].text else false
def prTo (l:List Tok):Nat->ByteArray
 | 0=>⟨#[]⟩
 | k+1=>(if gap l k=true then prTo l k++⟨#[32]⟩ else prTo l k)++(if h:k<l.length then l[k].text else ⟨#[]⟩)
theorem Zb9 {l:List Tok} {k:Nat} (hk:k<l.length) (h:gap l k=true):prTo l (k+1)=prTo l k++⟨#[32]⟩++l[k].text:=by rw [prTo,if_pos h,dif_pos hk]
theorem ZcP {l:List Tok} {k:Nat} (hk:k<l.length) (h:gap l k=false):prTo l (k+1)=prTo l k++l[k].text:=by rw [prTo,if_neg (by simp [h]),dif_pos hk]
theorem Zke (l:List Tok):gap l 0=false:=by unfold gap;rw [dif_neg (by omega)]
theorem ZhQ {l:List Tok} {k:Nat} (h0:0<k) (hk:k<l.length) (h:l[k].spaced=true):gap l k=true:=by unfold gap;rw [dif_pos ⟨h0,hk⟩,h];rfl
theorem Zjg {l:List Tok} {k:Nat} (h0:0<k) (hk:k<l.length) (h:l[k].spaced=false):gap l k=glued (l[k-1]'(by omega)).text l[k].text:=by unfold gap;rw [dif_pos ⟨h0,hk⟩,h];rfl
def ZaQ (l:List Tok):ByteArray × Bool:=if Zaj l=true then (if 200<(prTo l l.length).size then (⟨#[]⟩,false) else (prTo l l.length,true)) else (⟨#[]⟩,false)
theorem ZeN {l:List Tok} (h:Zaj l=false):ZaQ l=(⟨#[]⟩,false):=by unfold ZaQ;rw [if_neg (by simp [h])]
theorem ZdU {l:List Tok} {k:Nat} (h:Zaj l=true) (hk:l.length=k) (h2:200<(prTo l k).size):ZaQ l=(⟨#[]⟩,false):=by unfold ZaQ;rw [if_pos h,hk,if_pos h2]
theorem Zeg {l:List Tok} {k:Nat} (h:Zaj l=true) (hk:l.length=k) (h2:¬ 200<(prTo l k).size):ZaQ l=(prTo l k,true):=by unfold ZaQ;rw [if_pos h,hk,if_neg h2]
theorem Zam {l:List Tok} (h:Zaj l=true):l.length<=60/\∀ k,(hk:k<l.length)->tokOk l[k]=true:=by
 unfold Zaj at h
 rw [Bool.and_eq_true,decide_eq_true_eq,List.all_eq_true] at h
 exact⟨h.1,λ k hk=>h.2 _ (List.getElem_mem hk)⟩
theorem Zf1 {l:List Tok} (h:Zaj l=true):∀ k,k<=l.length->(prTo l k).size<=201 * k
 | 0,_=>by show (0:Nat)<=_;omega
 |
  k+1,hk=>by
  have ih:=Zf1 h k (by omega)
  have h2:=(Zaz ((Zam h).2 k (by omega))).2
  cases hg:gap l k
  ·rw [ZcP (by omega) hg,ByteArray.size_append];omega
  ·rw [Zb9 (by omega) hg,ByteArray.size_append,ByteArray.size_append]
   have:(⟨#[32]⟩:ByteArray).size=1:=rfl
   omega
theorem toks_all (s:ByteArray):∀ (k:Nat) (sp:Bool) (n:Nat) (l:List Tok),toks s k sp n=some l->n<=60->n+l.length<=60/\∀ t∈l,t.hidden=[]:=by
 intro k sp n
 induction k,sp,n using toks.induct (s:=s) with
 |
  case1 k sp n hk h32 ih =>
  intro l h hn
  rw [toks,dif_pos hk,if_pos h32] at h
  exact ih l h hn
 |
  case2 k sp n hk h32 hb =>
  intro l h hn
  rw [toks,dif_pos hk,if_neg h32,if_pos hb] at h
  exact absurd h (by simp)
 |
  case3 k sp n hk h32 hb ih =>
  intro l h hn
  rw [toks,dif_pos hk,if_neg h32,if_neg hb] at h
  rw [Option.map_eq_some_iff] at h
  obtain⟨l',h1,rfl⟩:=h
  obtain⟨a,b⟩:=ih l' h1 (by omega)
  refine ⟨by simp only [List.length_cons];omega,λ t ht=>?_⟩
  rcases List.mem_cons.1 ht with rfl | ht
  ·rfl
  ·exact b t ht
 |
  case4 k sp n hk =>
  intro l h hn
  rw [toks,dif_neg hk] at h
  simp only [Qi] at h
  subst h;simp;exact hn
theorem ZhR (s:ByteArray):(Zai s).1.length<=60/\∀ t∈(Zai s).1,t.hidden=[]:=by
 rcases hr:Zai s with⟨l,ok⟩
 cases ok
 ·obtain rfl:=ZcZ hr
  simp
 ·obtain⟨h1,_⟩:=Za5 hr
  have:=toks_all s 0 false 0 l h1 (by omega)
  exact⟨by simpa using this.1,this.2⟩
def bAt (s:ByteArray) (j:Nat):Option UInt8:=if h:j<s.size then some s[j] else none
theorem ZaT {s:ByteArray} {j:Nat} (h:j<s.size):bAt s j=some s[j]:=by unfold bAt;rw [dif_pos h]
theorem ZeY {s:ByteArray} {j:Nat} (h:s.size<=j):bAt s j=none:=by unfold bAt;rw [dif_neg (by omega)]
theorem Za1 {s:ByteArray} {j:Nat} {c:UInt8} (h:bAt s j=some c):∃ hj:j<s.size,s[j]=c:=by
 by_cases hj:j<s.size
 ·rw [ZaT hj,Qi] at h;exact⟨hj,h⟩
 ·rw [ZeY (by omega)] at h;exact absurd h (by simp)
theorem Zdl {s t:ByteArray} {j:Nat} (h:j<s.size):bAt (s++t) j=bAt s j:=by
 rw [ZaT (by rw [ByteArray.size_append];omega),ZaT h,ByteArray.getElem_append_left h]
theorem ZdP {s t:ByteArray} {i j:Nat} (h:i=s.size+j):bAt (s++t) i=bAt t j:=by
 subst h
 by_cases hj:j<t.size
 ·rw [ZaT (by rw [ByteArray.size_append];omega),ZaT hj,ByteArray.getElem_append_right (by omega)]
  congr 2;omega
 ·rw [ZeY (by rw [ByteArray.size_append];omega),ZeY (by omega)]
theorem Ziv {a b:ByteArray} (h:a.size=b.size) (h2:∀ j,j<a.size->bAt a j=bAt b j):a=b:=by
 apply ByteArray.ext
 apply Array.ext (by exact h)
 intro i h1 h3
 have h1':i<a.size:=h1
 have:=h2 i h1'
 rw [ZaT h1',ZaT (h ▸ h1'),Qi] at this
 simpa [ByteArray.getElem_eq_getElem_data] using this
theorem ZeZ {s:ByteArray} {i e j:Nat} (he:e<=s.size) (h:j<e-i):bAt (s.extract i e) j=bAt s (i+j):=by
 have hz:(s.extract i e).size=e-i:=by rw [ByteArray.size_extract];omega
 rw [ZaT (by omega),ZaT (by omega),Zgv]
def stopB (c:UInt8):Bool:=!Zal c && decide (c≠61) && decide (c≠38) && decide (c≠124) && decide (c≠35)
theorem Zmy {c:UInt8} (h:stopB c=true):Zal c=false:=by
 unfold stopB at h
 simp only [Bool.and_eq_true] at h
 simpa using h.1.1.1.1
def Ends (s':ByteArray) (k':Nat) (s:ByteArray) (k:Nat):Prop:=bAt s' k'=bAt s k\/∀ c,bAt s' k'=some c->stopB c=true
theorem Zmz {s':ByteArray} {k':Nat} {s:ByteArray} {k:Nat} (h:bAt s' k'=some 32):Ends s' k' s k:=.inr λ c hc=>by
 rw [h,Qi] at hc;subst hc;decide
theorem Zjh {s':ByteArray} {k':Nat} {s:ByteArray} {k:Nat} (h:bAt s' k'=none):Ends s' k' s k:=.inr λ c hc=>by
 rw [h] at hc;exact absurd hc (by simp)
theorem Zji {s s':ByteArray}:∀ (d k k':Nat),wEnd s k=k+d->(∀ j,j<d->bAt s' (k'+j)=bAt s (k+j))->Ends s' (k'+d) s (k+d)->wEnd s' k'=k'+d
 |
  0,k,k',h,_,hE=>by
  have hstop:∀ c,bAt s k=some c->Zal c=false:=λ c hc=>by
   obtain⟨hk,rfl⟩:=Za1 hc
   cases hw:Zal s[k]
   ·rfl
   ·rw [Zbf hk hw] at h
    have:=(ZeK s (k+1)).1
    omega
  by_cases hk':k'<s'.size
  ·rcases hE with h1 | h1
   ·rw [Nat.add_zero,Nat.add_zero,ZaT hk'] at h1
    exact Zbw hk' (hstop _ h1.symm)
   ·exact Zbw hk' (Zmy (h1 _ (ZaT hk')))
  ·exact Zcm (by omega)
 |
  d+1,k,k',h,hb,hE=>by
  have hk:k<s.size:=by
   apply Nat.lt_of_not_le;intro hn
   rw [Zcm hn] at h;omega
  have hw:Zal s[k]=true:=by
   cases hw:Zal s[k]
   ·rw [Zbw hk hw] at h;omega
   ·rfl
  rw [Zbf hk hw] at h
  have h0:=hb 0 (by omega)
  rw [Nat.add_zero,Nat.add_zero,ZaT hk] at h0
  obtain⟨hk',he⟩:=Za1 h0
  rw [Zbf hk' (by rw [he];exact hw)]
  have e1:k'+(d+1)=k'+1+d:=by omega
  have e2:k+(d+1)=k+1+d:=by omega
  rw [e1]
  refine Zji (s:=s) (s':=s') d (k+1) (k'+1) (by omega) (λ j hj=>?_) (by rw [← e1,← e2];exact hE)
  have:=hb (j+1) (by omega)
  rwa [show k'+(j+1)=k'+1+j by omega,show k+(j+1)=k+1+j by omega] at this
theorem Zlv {s s':ByteArray} (d:Nat):∀ (k k':Nat),tClose s k=some (k+d)->(∀ j,j<d->bAt s' (k'+j)=bAt s (k+j))->tClose s' k'=some (k'+d):=by
 induction d using Nat.strongRecOn with
 |
  ind d ih =>
  intro k k' h hb
  have hs:=ZaX h
  have hk:k<s.size:=by omega
  have h0:=hb 0 (by omega)
  rw [Nat.add_zero,Nat.add_zero,ZaT hk] at h0
  obtain⟨hk',he⟩:=Za1 h0
  by_cases h34:s[k].toNat=34
  ·rw [Za7 hk h34,Qi] at h
   rw [Za7 hk' (by rw [he];exact h34)]
   congr 1;omega
  ·by_cases h92:s[k].toNat=92
   ·rw [Zbx hk h92] at h
    have hs2:=ZaX h
    rw [Zbx hk' (by rw [he];exact h92)]
    have:=ih (d-2) (by omega) (k+2) (k'+2) (by rw [h];congr 1;omega) (λ j hj=>by
     have:=hb (j+2) (by omega)
     rwa [show k'+(j+2)=k'+2+j by omega,show k+(j+2)=k+2+j by omega] at this)
    rw [this];congr 1;omega
   ·rw [Zbi hk h34 h92] at h
    have hs2:=ZaX h
    rw [Zbi hk' (by rw [he];exact h34) (by rw [he];exact h92)]
    have:=ih (d-1) (by omega) (k+1) (k'+1) (by rw [h];congr 1;omega) (λ j hj=>by
     have:=hb (j+1) (by omega)
     rwa [show k'+(j+1)=k'+1+j by omega,show k+(j+1)=k+1+j by omega] at this)
    rw [this];congr 1;omega
theorem Ziw (s:ByteArray) (k:Nat) (a b:UInt8):two s k a b=(decide (bAt s k=some a) && decide (bAt s (k+1)=some b)):=by
 have hd:∀ j,s.data.toList[j]?=bAt s j:=λ j=>by
  by_cases hj:j<s.size
  ·rw [ZaT hj,List.getElem?_eq_getElem (by simpa using hj)];simp [ByteArray.getElem_eq_getElem_data]
  ·rw [ZeY (by omega),List.getElem?_eq_none (by simpa using hj)]
 have hx:∀ L:List UInt8,[a,b].isPrefixOf L=(decide (L[0]?=some a) && decide (L[1]?=some b)):=λ L=>by
  match L with
  | []=>simp [List.isPrefixOf]
  | [x]=>simp [List.isPrefixOf]
  |
   x::y::L =>
   have e:∀ u v:UInt8,(u==v)=decide (v=u):=λ u v=>by
    by_cases h:v=u
    ·subst h;simp
    ·have h':¬ u=v:=λ e=>h e.symm
     simp [h,h']
   simp [List.isPrefixOf,e]
 unfold two
 rw [hx,List.getElem?_drop,List.getElem?_drop,hd,hd,Nat.add_zero]
theorem ZhS {s s':ByteArray} {k k':Nat} (h0:bAt s' k'=bAt s k) (h1:bAt s' (k'+1)=bAt s (k+1)):twoAt s' k'=twoAt s k:=by
 unfold twoAt;simp only [Ziw,h0,h1]
theorem twoAt_no {s:ByteArray} {k:Nat} (h:∀ c,bAt s (k+1)=some c->stopB c=true):twoAt s k=false:=by
 unfold twoAt;simp only [Ziw]
 cases hb:bAt s (k+1) with
 | none=>simp
 |
  some c =>
  have:=h c hb
  unfold stopB at this
  simp only [Bool.and_eq_true,decide_eq_true_eq] at this
  obtain⟨⟨⟨⟨_,h1⟩,h2⟩,h3⟩,h4⟩:=this
  simp [h1,h2,h3,h4]
theorem Znf {s s':ByteArray} {k k' d:Nat} (h:mLen s k=d) (h0:d≠0) (hb:∀ j,j<d->bAt s' (k'+j)=bAt s (k+j)) (hE:Ends s' (k'+d) s (k+d)):mLen s' k'=d:=by
 have b0:=hb 0 (by omega)
 rw [Nat.add_zero,Nat.add_zero] at b0
 cases ht:twoAt s k
 ·have hk:k<s.size:=by
   apply Nat.lt_of_not_le;intro hn
   unfold mLen at h;rw [if_neg (by simp [ht]),dif_neg (by omega)] at h;omega
  unfold mLen at h
  rw [if_neg (by simp [ht]),dif_pos hk] at h
  have hm:s[k]∈marks1:=by
   apply Classical.byContradiction;intro hn
   rw [if_neg hn] at h;omega
  rw [if_pos hm] at h
  subst h
  have ht':twoAt s' k'=false:=by
   rcases hE with h1 | h1
   ·rw [ZhS b0 h1,ht]
   ·exact twoAt_no h1
  rw [ZaT hk] at b0
  obtain⟨hk',he⟩:=Za1 b0
  unfold mLen
  rw [if_neg (by simp [ht']),dif_pos hk',if_pos (by rw [he];exact hm)]
 ·unfold mLen at h
  rw [if_pos ht] at h
  subst h
  have b1:=hb 1 (by omega)
  unfold mLen
  rw [if_pos (by rw [ZhS b0 b1];exact ht)]
theorem Zfl {s s':ByteArray} {k k' d:Nat} (h:Zav s k=(k+d:Nat)) (hb:∀ j,j<d->bAt s' (k'+j)=bAt s (k+j)) (hE:Ends s' (k'+d) s (k+d)):Zav s' k'=(k'+d:Nat):=by
 have hr:=ZaY (s:=s) (k:=k) (by omega)
 have hk:k<s.size:=hr.2.2
 have hd0:0<d:=by omega
 have b0:=hb 0 (by omega)
 rw [Nat.add_zero,Nat.add_zero,ZaT hk] at b0
 obtain⟨hk',he⟩:=Za1 b0
 cases hw:Zal s[k]
 ·by_cases hq:s[k].toNat=34
  ·rw [ZbT hk hw hq] at h
   cases hc:tClose s (k+1) with
   | none=>rw [hc] at h;simp only at h;omega
   |
    some e =>
    rw [hc] at h
    replace h:(e:Int)=(k+d:Nat):=h
    have:=Zlv (s:=s) (s':=s') (d-1) (k+1) (k'+1) (by rw [hc];congr 1;omega) (λ j hj=>by
     have:=hb (j+1) (by omega)
     rwa [show k'+(j+1)=k'+1+j by omega,show k+(j+1)=k+1+j by omega] at this)
    rw [ZbT hk' (by rw [he];exact hw) (by rw [he];exact hq),this]
    simp only;omega
  ·rw [ZbU hk hw hq] at h
   split at h
   ·omega
   ·rename_i h0
    have:=Znf (s:=s) (s':=s') (k:=k) (k':=k') (d:=d) (by omega) (by omega) hb hE
    rw [ZbU hk' (by rw [he];exact hw) (by rw [he];exact hq),this,if_neg (by omega)]
 ·rw [Zby hk hw] at h
  split at h
  ·omega
  ·rename_i h0
   have:=Zji (s:=s) (s':=s') d k k' (by omega) hb hE
   rw [Zby hk' (by rw [he];exact hw),this,if_neg (by omega)]
theorem Zjj {z:ByteArray} {t:Tok} {ts:List Tok} (h:toks z 0 false 0=some (t::ts)) (h0:0<z.size) (h32:¬ z[0].toNat=32):Zav z 0=(t.text.size:Nat):=by
 rw [toks,dif_pos h0,if_neg h32] at h
 split at h
 ·simp at h
 ·rename_i hb
  rw [Option.map_eq_some_iff] at h
  obtain⟨l',_,h2⟩:=h
  simp only [List.cons.injEq] at h2
  have hr:=ZaY (s:=z) (k:=0) (by omega)
  rw [← h2.1]
  show _=((z.extract 0 (Zav z 0).toNat).size:Int)
  rw [ByteArray.size_extract];omega
theorem ZbM {t:Tok} (h:tokOk t=true):∃ h0:0<t.text.size,t.text[0].toNat≠32/\Zav t.text 0=(t.text.size:Nat)/\ZaC t.text=true:=by
 unfold tokOk at h
 rw [Bool.and_eq_true] at h
 obtain⟨u,hr,_,hx⟩:=ZhO h.1
 obtain⟨h1,_⟩:=ZcE t.text u (by rw [hr];simp)
 obtain⟨h2,h3⟩:=Za5 hr
 have h0:0<t.text.size:=by rw [← hx];exact h1
 have h32:¬ t.text[0].toNat=32:=by
  intro h32
  rw [toks,dif_pos h0,if_pos h32] at h2
  have:=Zj9 t.text 1 true 0 _ h2 (by omega) u (by simp)
  rw [hx] at this
  omega
 refine ⟨h0,h32,?_,h3⟩
 have:=Zjj h2 h0 h32
 rw [hx] at this
 exact this
theorem Zng {a b:Tok} (ha:tokOk a=true) (hg:glued a.text b.text=false):Zav (a.text++b.text) 0=(a.text.size:Nat):=by
 obtain⟨h0,h32,_,_⟩:=ZbM ha
 unfold glued at hg
 rw [Bool.or_eq_false_iff] at hg
 have h1:ZbV a.text b.text=true:=by simpa using hg.1
 unfold ZbV at h1
 rw [Bool.and_eq_true,decide_eq_true_eq] at h1
 obtain⟨h2,h3⟩:=h1
 rcases hr:Zai (a.text++b.text) with⟨l,ok⟩
 rw [hr] at h2 h3
 simp only at h2 h3
 subst h2
 match l,h3 with
 |
  t::ts,h3 =>
  simp only [List.map_cons,List.cons.injEq] at h3
  have hz:0<(a.text++b.text).size:=by rw [ByteArray.size_append];omega
  have:=Zjj (Za5 hr).1 hz (by rw [ByteArray.getElem_append_left h0];exact h32)
  rw [h3.1] at this
  exact this
theorem Zf2 (l:List Tok) (i:Nat):∀ m p,p<(prTo l i).size->bAt (prTo l (i+m)) p=bAt (prTo l i) p
 | 0,p,_=>rfl
 |
  m+1,p,h=>by
  have ih:=Zf2 l i m p h
  have hp:p<(prTo l (i+m)).size:=by
   rw [ZaT h] at ih
   exact(Za1 ih).1
  rw [← ih,← Nat.add_assoc]
  show bAt ((if gap l (i+m)=true then prTo l (i+m)++⟨#[32]⟩ else prTo l (i+m))++_) p=_
  split
  ·rw [Zdl (by rw [ByteArray.size_append];omega),Zdl hp]
  ·rw [Zdl hp]
def posOf (l:List Tok) (i:Nat):Nat:=(prTo l i).size+(if gap l i=true then 1 else 0)
theorem one32:(⟨#[32]⟩:ByteArray).size=1:=rfl
theorem Zd0 {l:List Tok} {i:Nat} (hi:i<l.length):(prTo l (i+1)).size=posOf l i+l[i].text.size:=by
 unfold posOf
 cases hg:gap l i
 ·rw [ZcP hi hg,ByteArray.size_append,if_neg (by simp)];omega
 ·rw [Zb9 hi hg,ByteArray.size_append,ByteArray.size_append,one32,if_pos rfl]
theorem Zdm {l:List Tok} {i:Nat} (hi:i<l.length) {m:Nat} (hm:i+1<=m) {j:Nat} (hj:j<l[i].text.size):bAt (prTo l m) (posOf l i+j)=bAt l[i].text j:=by
 obtain⟨r,rfl⟩:=Nat.exists_eq_add_of_le hm
 rw [Zf2 l (i+1) r _ (by rw [Zd0 hi];omega)]
 unfold posOf
 cases hg:gap l i
 ·rw [ZcP hi hg,if_neg (by simp)]
  exact ZdP (by omega)
 ·rw [Zb9 hi hg,if_pos rfl]
  exact ZdP (by rw [ByteArray.size_append,one32])
theorem ZlY {l:List Tok} {i:Nat} (hi:i<l.length) {m:Nat} (hm:i+1<=m) (hg:gap l i=true):bAt (prTo l m) (prTo l i).size=some 32:=by
 obtain⟨r,rfl⟩:=Nat.exists_eq_add_of_le hm
 have hs:=Zd0 hi
 unfold posOf at hs
 rw [if_pos hg] at hs
 rw [Zf2 l (i+1) r _ (by omega),Zb9 hi hg,Zdl (by rw [ByteArray.size_append,one32];omega),ZdP (i:=(prTo l i).size) (j:=0) (by omega)]
 rfl
theorem pos_cut {l:List Tok} (h:Zaj l=true) {i:Nat} (hi:i<l.length):Zav (prTo l l.length) (posOf l i)=(posOf l i+l[i].text.size:Nat):=by
 obtain⟨h0,_,hc,_⟩:=ZbM ((Zam h).2 i hi)
 by_cases hn:i+1<l.length
 ·cases hg:gap l (i+1)
  ·have hgl:glued l[i].text l[i+1].text=false:=by
    unfold gap at hg
    rw [dif_pos ⟨by omega,hn⟩,Bool.or_eq_false_iff] at hg
    exact hg.2
   have hc2:=Zng ((Zam h).2 i hi) hgl
   refine Zfl (s:=l[i].text++l[i+1].text) (k:=0) (by rw [hc2];omega) (λ j hj=>?_) (.inl ?_)
   ·rw [Zdm hi (by omega) hj,Nat.zero_add,Zdl hj]
   ·obtain⟨h1,_⟩:=ZbM ((Zam h).2 (i+1) hn)
    have e:posOf l i+l[i].text.size=posOf l (i+1)+0:=by
     have:=Zd0 hi
     show _=(prTo l (i+1)).size+_+0
     rw [if_neg (by simp [hg]),this]
     rfl
    rw [e,Zdm hn (by omega) h1,Nat.zero_add,ZdP (j:=0) (by omega)]
  ·refine Zfl (s:=l[i].text) (k:=0) (by rw [hc];omega) (λ j hj=>?_) (Zmz ?_)
   ·rw [Zdm hi (by omega) hj,Nat.zero_add]
   ·rw [← Zd0 hi]
    exact ZlY hn (by omega) hg
 ·refine Zfl (s:=l[i].text) (k:=0) (by rw [hc];omega) (λ j hj=>?_) (Zjh ?_)
  ·rw [Zdm hi (by omega) hj,Nat.zero_add]
  ·rw [← Zd0 hi]
   have e:i+1=l.length:=by omega
   rw [e]
   exact ZeY (Nat.le_refl _)
def Za9 (l:List Tok):List Tok:=l.mapIdx λ i t=>⟨t.kind,t.text,gap l i,[]⟩
theorem Zco (l:List Tok):(Za9 l).length=l.length:=by simp [Za9]
theorem Zkf (l:List Tok) (i:Nat) (h:i<(Za9 l).length):(Za9 l)[i]=⟨(l[i]'(by rw [Zco] at h;exact h)).kind,(l[i]'(by rw [Zco] at h;exact h)).text,gap l i,[]⟩:=by simp [Za9]
theorem ZjU (l:List Tok):(Za9 l).map tKey=l.map tKey:=by
 refine List.ext_getElem (by simp [Za9]) λ i h1 h2=>?_
 simp [Za9,tKey]
theorem ZlZ {l:List Tok} (h:Zaj l=true):∀ i,i<=l.length->AtT (prTo l l.length) (prTo l i).size false ((Za9 l).take i)
 | 0,_=>AtT.zero _
 |
  i+1,hi=>by
  have hA:=ZlZ h i (by omega)
  have hi':i<l.length:=by omega
  obtain⟨h0,h32,hc,_⟩:=ZbM ((Zam h).2 i hi')
  have hh:=(Zaz ((Zam h).2 i hi')).1
  have hcut:=pos_cut h hi'
  have hfirst:=Zdm hi' (m:=l.length) (by omega) h0
  rw [Nat.add_zero,ZaT h0] at hfirst
  obtain⟨hp,hpe⟩:=Za1 hfirst
  have hA':AtT (prTo l l.length) (posOf l i) (gap l i) ((Za9 l).take i):=by
   unfold posOf
   cases hg:gap l i
   ·rw [if_neg (by simp)];exact hA
   ·have hb:=ZlY hi' (m:=l.length) (by omega) hg
    obtain⟨hb1,hb2⟩:=Za1 hb
    rw [if_pos rfl];exact hA.space hb1 (by rw [hb2];rfl)
  have hol:((Za9 l).take i).length=i:=by rw [List.length_take,Zco];omega
  have hlen:=(Zam h).1
  have hT:=hA'.tok hp (by rw [hpe];exact h32) hcut (by omega)
  have hx:(prTo l l.length).extract (posOf l i) (posOf l i+l[i].text.size)=l[i].text:=by
   have hr:=ZaY (s:=prTo l l.length) (k:=posOf l i) (by rw [hcut];omega)
   rw [hcut] at hr
   have hz:((prTo l l.length).extract (posOf l i) (posOf l i+l[i].text.size)).size=l[i].text.size:=by rw [ByteArray.size_extract];omega
   refine Ziv hz λ j hj=>?_
   rw [ZeZ (by omega) (by omega)]
   exact Zdm hi' (by omega) (by omega)
  have hir:i<(Za9 l).length:=by rw [Zco];exact hi'
  obtain⟨_,hkind⟩:=hh
  have e:(⟨cutKind (prTo l l.length)[posOf l i],(prTo l l.length).extract (posOf l i) (posOf l i+l[i].text.size),gap l i,[]⟩:Tok)=(Za9 l)[i]:=by
   rw [Zkf,hx,hpe,← hkind]
  rw [e,← List.take_succ_eq_append_getElem hir] at hT
  rw [Zd0 hi']
  exact hT
def AllOk (s:ByteArray):Prop:=∀ j c,bAt s j=some c->ZcW c=true
theorem AllOk.app {a b:ByteArray} (ha:AllOk a) (hb:AllOk b):AllOk (a++b):=λ j c h=>by
 by_cases hj:j<a.size
 ·rw [Zdl hj] at h;exact ha j c h
 ·rw [ZdP (j:=j-a.size) (by omega)] at h;exact hb _ c h
theorem AllOk.of {s:ByteArray} (h:ZaC s=true):AllOk s:=λ j c hc=>by
 obtain⟨hj,rfl⟩:=Za1 hc
 unfold ZaC at h
 rw [Bool.and_eq_true,List.all_eq_true] at h
 exact h.2 _ (by simp [ByteArray.getElem_eq_getElem_data])
theorem AllOk.line {s:ByteArray} (h:AllOk s) (hs:s.size<=200):ZaC s=true:=by
 rw [Zfe (k:=s.size) (λ j hj _=>h j _ (ZaT hj)) (Nat.le_refl _)]
 exact decide_eq_true hs
theorem Zl0 {l:List Tok} (h:Zaj l=true):∀ k,k<=l.length->AllOk (prTo l k)
 |
  0,_=>λ j c hc=>by
  obtain⟨hj,_⟩:=Za1 hc
  exact absurd hj (by show ¬ j<0;omega)
 |
  k+1,hk=>by
  have ih:=Zl0 h k (by omega)
  have hx:=AllOk.of (ZbM ((Zam h).2 k (by omega))).2.2.2
  have h32:AllOk ⟨#[32]⟩:=λ j c hc=>by
   obtain⟨hj,rfl⟩:=Za1 hc
   have:j=0:=by have:j<1:=hj;omega
   subst this
   show ZcW 32=true
   decide
  cases hg:gap l k
  ·rw [ZcP (by omega) hg];exact ih.app hx
  ·rw [Zb9 (by omega) hg];exact(ih.app h32).app hx
theorem ZmA {l:List Tok} (hv:Zaj l=true) (hl:(prTo l l.length).size<=200):Zai (prTo l l.length)=(Za9 l,true):=by
 have hA:=ZlZ hv l.length (Nat.le_refl _)
 rw [List.take_of_length_le (by rw [Zco];exact Nat.le_refl _)] at hA
 exact ZdH ((Zl0 hv _ (Nat.le_refl _)).line hl) (hA.done (Nat.le_refl _))
theorem ZgQ {l:List Tok} {x:ByteArray} (h:ZaQ l=(x,true)):∃ out,Zai x=(out,true)/\ZaZ out l=true:=by
 have hv:Zaj l=true:=by
  cases hv:Zaj l
  ·rw [ZeN hv] at h;simp at h
  ·rfl
 by_cases hl:200<(prTo l l.length).size
 ·rw [ZdU hv rfl hl] at h;simp at h
 ·rw [Zeg hv rfl hl] at h
  simp only [Prod.mk.injEq,and_true] at h
  subst h
  refine ⟨_,ZmA hv (by omega),?_⟩
  unfold ZaZ
  rw [ZjU];simp
theorem Zix {s:ByteArray} (hs:ZaC s=true) {k e:Nat} (hk:k<s.size) (h32:¬ s[k].toNat=32) (hc:Zav s k=(e:Nat)) (sp:Bool):tokOk ⟨cutKind s[k],s.extract k e,sp,[]⟩=true:=by
 have hr:=ZaY (s:=s) (k:=k) (by omega)
 have hz:(s.extract k e).size=e-k:=by rw [ByteArray.size_extract];omega
 have hb:∀ j,j<e-k->bAt (s.extract k e) (0+j)=bAt s (k+j):=λ j hj=>by rw [Nat.zero_add];exact ZeZ (by omega) hj
 have hcx:=Zfl (s':=s.extract k e) (k':=0) (d:=e-k) (by rw [hc];omega) hb (Zjh (ZeY (by omega)))
 have h0:0<(s.extract k e).size:=by omega
 have hf:(s.extract k e)[0]=s[k]:=Zgv s k e 0 h0
 have hl:ZaC (s.extract k e)=true:=by
  refine AllOk.line (λ j c hj=>?_) (by have:=ZcD hs;omega)
  obtain⟨h1,_⟩:=Za1 hj
  rw [ZeZ (by omega) (by omega)] at hj
  exact AllOk.of hs _ c hj
 have ht:toks (s.extract k e) 0 false 0=some [⟨cutKind s[k],s.extract k e,false,[]⟩]:=by
  have hzz:((s.extract k e).extract 0 (e-k)).size=(s.extract k e).size:=by rw [ByteArray.size_extract];omega
  have hx:(s.extract k e).extract 0 (e-k)=s.extract k e:=Ziv hzz λ j hj=>by
   rw [ZeZ (by omega) (by omega),Nat.zero_add]
  rw [toks,dif_pos h0,if_neg (by rw [hf];exact h32),hcx,if_neg (by omega),Nat.zero_add,Int.toNat_natCast,Nat.max_eq_right (by omega),toks,dif_neg (by omega),hf,hx]
  rfl
 have hr:=ZdH hl ht
 unfold tokOk
 rw [Bool.and_eq_true]
 refine ⟨?_,by show hidOk []=true;decide⟩
 show Zak (s.extract k e) (cutKind s[k])=true
 simp [Zak,hr]
theorem ZmB {s:ByteArray} (hs:ZaC s=true):∀ (k:Nat) (sp:Bool) (n:Nat) (l:List Tok),toks s k sp n=some l->∀ t∈l,tokOk t=true:=by
 intro k sp n
 induction k,sp,n using toks.induct (s:=s) with
 |
  case1 k sp n hk h32 ih =>
  intro l h
  rw [toks,dif_pos hk,if_pos h32] at h
  exact ih l h
 |
  case2 k sp n hk h32 hb =>
  intro l h
  rw [toks,dif_pos hk,if_neg h32,if_pos hb] at h
  exact absurd h (by simp)
 |
  case3 k sp n hk h32 hb ih =>
  intro l h t ht
  rw [toks,dif_pos hk,if_neg h32,if_neg hb] at h
  have hr:=ZaY (s:=s) (k:=k) (by omega)
  rw [Option.map_eq_some_iff] at h
  obtain⟨l',h1,rfl⟩:=h
  rcases List.mem_cons.1 ht with rfl | ht
  ·exact Zix hs hk h32 (by omega) sp
  ·exact ih l' h1 t ht
 |
  case4 k sp n hk =>
  intro l h
  rw [toks,dif_neg hk] at h
  simp only [Qi] at h
  subst h;simp
theorem Zf3 {s:ByteArray} {l:List Tok} (h:Zai s=(l,true)):Zaj l=true:=by
 obtain⟨h1,h2⟩:=Za5 h
 have h3:=(ZhR s).1
 rw [h] at h3
 unfold Zaj
 rw [Bool.and_eq_true,decide_eq_true_eq,List.all_eq_true]
 exact⟨h3,λ t ht=>ZmB h2 0 false 0 l h1 t ht⟩
structure DMacro where
 name:ByteArray
 function:Bool
 params:List ByteArray
 body:List Tok
def Za2:ByteArray:=⟨#[100,101,102,105,110,101,100]⟩
def hash1:ByteArray:=⟨#[35]⟩
def hash2:ByteArray:=⟨#[35,35]⟩
def openB:ByteArray:=⟨#[40]⟩
def ZdQ:ByteArray:=⟨#[41]⟩
def ZhT:ByteArray:=⟨#[44]⟩
def parFrom (ps:List ByteArray) (t:Tok) (k:Nat):Int:=if h:k<ps.length then (if t.kind=1/\ps[k]=t.text then (k:Int) else parFrom ps t (k+1)) else -1
termination_by ps.length-k
def parOf (ps:List ByteArray) (t:Tok):Int:=parFrom ps t 0
def Zdn (m:DMacro):Bool:=Zak m.name 1 && !decide (m.name=Za2) && decide (m.params.length<=4) && (m.function || decide (m.params.length=0)) && decide (m.body.length<=20)
def parOk (ps:List ByteArray) (k:Nat):Bool:=if h:k<ps.length then Zak ps[k] 1 && (List.range k).all (λ j=>!decide (ps[j]?=some ps[k])) else true
def bodOk (m:DMacro) (k:Nat):Bool:=
 if h:k<m.body.length then
  tokOk m.body[k] && decide (m.body[k].hidden.length=0) && !(decide (k=0) && m.body[k].spaced) &&
  !(decide (m.body[k].text=hash2) && (decide (k=0) || decide (k+1=m.body.length) || decide ((m.body[k-1]'(by omega)).text=hash2))) &&
  !(m.function && decide (m.body[k].text=hash1) && (if h2:k+1<m.body.length then decide (parOf m.params m.body[k+1]<0) else true))
 else true
def macOk (m:DMacro):Bool:=Zdn m && (List.range m.params.length).all (parOk m.params) && (List.range m.body.length).all (bodOk m)
def parsAt (l:List Tok) (k:Nat):Option (List ByteArray × Nat):=
 if h:k+1<l.length then
  (if l[k].kind=1 then (if l[k+1].text=ZdQ then some ([l[k].text],k+2) else if l[k+1].text=ZhT then (parsAt l (k+2)).map (λ p=>(l[k].text::p.1,p.2)) else none) else none)
 else none
termination_by l.length-k
def Zbl (l:List Tok):Option (List ByteArray × Nat):=if h:2<l.length then (if l[2].text=ZdQ/\l[2].kind=4 then some ([],3) else parsAt l 2) else none
def ZaK (l:List Tok) (k:Nat):List Tok:=(l.drop k).mapIdx λ i t=>⟨t.kind,t.text,t.spaced && decide (0<i),[]⟩
def Zb0:DMacro:=⟨⟨#[]⟩,false,[],[]⟩
def Zb1 (m:DMacro):DMacro × Bool:=if macOk m=true then (m,true) else (Zb0,false)
def ZbN (l:List Tok):Bool:=if h:1<l.length then decide (l[1].text=openB) && !l[1].spaced else false
def macOf (l:List Tok):DMacro × Bool:=
 if h:Zaj l=true/\0<l.length then
  (
  if ZbN l=true then (match Zbl l with | some p=>Zb1 ⟨l[0].text,true,p.1,ZaK l p.2⟩ | none=>(Zb0,false))
  else Zb1 ⟨l[0].text,false,[],ZaK l 1⟩)
 else (Zb0,false)
/-! ### Valid macros -/
theorem ZaD {m:DMacro} (h:macOk m=true):(Zak m.name 1=true/\m.name≠Za2/\m.params.length<=4/\(m.function=true\/m.params=[])/\m.body.length<=20)/\(∀ k,(hk:k<m.params.length)->Zak m.params[k] 1=true)/\(∀ k,k<m.body.length->bodOk m k=true):=by
 unfold macOk Zdn at h
 simp only [Bool.and_eq_true,Bool.not_eq_true',decide_eq_false_iff_not,decide_eq_true_eq,Bool.or_eq_true,List.all_eq_true,List.mem_range,List.length_eq_zero_iff] at h
 obtain⟨⟨⟨⟨⟨⟨h1,h2⟩,h3⟩,h4⟩,h5⟩,h6⟩,h7⟩:=h
 refine ⟨⟨h1,h2,h3,h4,h5⟩,λ k hk=>?_,h7⟩
 have:=h6 k hk
 unfold parOk at this
 rw [dif_pos hk,Bool.and_eq_true] at this
 exact this.1
theorem ZbW {m:DMacro} {k:Nat} (hk:k<m.body.length) (h:bodOk m k=true):tokOk m.body[k]=true/\m.body[k].hidden=[]/\(k=0->m.body[k].spaced=false):=by
 unfold bodOk at h
 rw [dif_pos hk] at h
 simp only [Bool.and_eq_true,decide_eq_true_eq,List.length_eq_zero_iff,Bool.not_eq_true',Bool.and_eq_false_iff,decide_eq_false_iff_not] at h
 obtain⟨⟨⟨⟨h1,h2⟩,h3⟩,_⟩,_⟩:=h
 exact⟨h1,h2,λ h=>h3.resolve_left (λ h'=>h' h)⟩
end Go.Proofs.YtiaiggjfepoahaaGreat
