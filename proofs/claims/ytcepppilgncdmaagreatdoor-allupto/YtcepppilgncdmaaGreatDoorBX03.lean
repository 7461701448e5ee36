/-
  Joined: RefVal.
-/
import Derived.Test.YtcepppilgncdmaaGreatDoorBX02
namespace Go.Proofs.YtcepppilgncdmaaGreatDoor
open Go.RowKit
theorem readT_bad {at_:Int}{N:List (List UInt8×Int)}{l:List UInt8}{x y:Int}{n:Nat}(h:term at_ N l=(x,n,y)) (hy:y≠0):readT at_ N l=(0,[],y):=by
 unfold readT;rw [h];simp only;rw [if_pos hy]
theorem readT_out {at_:Int}{N:List (List UInt8×Int)}{l:List UInt8}{x:Int}{n:Nat}(h:term at_ N l=(x,n,0)) (hx:x < -1000000∨1000000<x):readT at_ N l=(0,[],7):=by
 unfold readT;rw [h];simp only;rw [if_neg (by simp),if_pos hx]
theorem readT_ok {at_:Int}{N:List (List UInt8×Int)}{l:List UInt8}{x:Int}{n:Nat}(h:term at_ N l=(x,n,0)) (h1:-1000000≤x) (h2:x≤1000000):readT at_ N l=(x,l.drop n,0):=by
 unfold readT;rw [h];simp only;rw [if_neg (by simp),if_neg (by omega)]
theorem reck_plus (x:Int) (h1:-1000000≤x) (h2:x≤1000000):reck 0 43 x=(x,0):=by
 unfold reck step;simp only [Int.zero_add,if_true];rw [if_neg (by omega)]
theorem reck_minus (x:Int) (h1:-1000000≤x) (h2:x≤1000000):reck 0 45 x=(-x,0):=by
 unfold reck step;simp;omega
set_option maxRecDepth 100000 in
set_option maxHeartbeats 3000000 in
theorem refValue_minus (s:ByteArray) (at_:Int) (a:Option Addr) (cap:Nat) (ns:List (ByteArray×Int)) (w:World) (V ER:Int) (hs':s.size≤140737488351232) (hl:ns.length≤maxLen) (hn:NamesAt w a ns) (hpos:0<s.size) (h45:(s[0].toNat:Int)=45) (f:Nat) (hf:s.size-1≤f) (he:eval at_ (plainN ns) (f+1) 0 45 ((L s).drop 1)=(V,ER)) :
  Calls Tryz.prog 24 #[.string s,.int .i64 at_,.slice a ns.length cap] w fun e w'=>e=.returned (.tuple #[.int .i64 V,.int .i64 ER])∧w'=w:=by
 have k0:decide ((0:Int)<s.size)=true:=by simp;omega
 have k45:((s[0].toNat:Int)==45)=true:=by simpa using h45
 have HF:=hid (show s.size-(1+0)≤f by omega)
 clear h45
 have HN:=hid hn
 clear hn
 rcases hg:term at_ (plainN ns) ((L s).drop 1) with ⟨x,n,y⟩
 have hnl:=term_len at_ (plainN ns) ((L s).drop 1)
 rw [hg,List.length_drop,L_length] at hnl
 simp only at hnl
 have HG:=hid hg
 by_cases hy:y=0
 ·subst hy
  by_cases hx:x < -1000000∨1000000<x
  ·rw [eval_bad (readT_out hg hx) (by omega)] at he
   obtain ⟨rfl,rfl⟩:=pair_eq he
   have hnin:decide (-1000000≤x∧x≤1000000)=false:=by apply decide_eq_false;omega
   clear he hg hx
   go_enter Tryz.func24,Tryz.ntmps24
   go_wp2_with (first|(go_at_call 37;refine (refTerm_any s 1 at_ a cap ns _ x n 0 hs' (by omega) hl HN.out HG.out).mono ?_;rintro e w' ⟨rfl,rfl⟩)|(go_at_call 38;refine (in_any _ _ _ _).mono ?_;rw [hnin];rintro e w' ⟨rfl,rfl⟩))
   go_ret2
   exact ⟨rfl,rfl⟩
  ·have x1:-1000000≤x:=by omega
   have x2:x≤1000000:=by omega
   have hin:decide (-1000000≤x∧x≤1000000)=true:=by apply decide_eq_true;omega
   rw [eval_on (readT_ok hg x1 x2) _ (reck_minus x x1 x2),List.drop_drop] at he
   have HE:=hid he
   clear he hg hx
   go_enter Tryz.func24,Tryz.ntmps24
   go_wp2_with (first|(go_at_call 37;refine (refTerm_any s 1 at_ a cap ns _ x n 0 hs' (by omega) hl HN.out HG.out).mono ?_;rintro e w' ⟨rfl,rfl⟩)|(go_at_call 38;refine (in_any _ _ _ _).mono ?_;rw [hin];rintro e w' ⟨rfl,rfl⟩))
   go_loop [8,10] (fun i z=>∃(j:Nat) (q:Int) (f:Nat),j≤s.size∧i=.int .i64 j∧z=.int .i64 q∧-1000000≤q∧q≤1000000∧s.size-j≤f∧evalS at_ (plainN ns) f q ((L s).drop j)=(V,ER)) (fun i _=>s.size-(intOf i).toNat)
   case atStart=>exact ⟨1+n,-x,_,by omega,by go_num,by go_num,by omega,by omega,by have:=HF.out;omega,HE.out⟩
   case round =>
    obtain ⟨j,q,f,hj,rfl,rfl,q1,q2,hf,he⟩:=hrel
    clear HE HG HF
    by_cases hlt:j<s.size
    ·rw [L_drop s j hlt] at he
     simp only [evalS] at he
     have hby:=byte_bd s[j]
     by_cases hsn:(s[j].toNat:Int)=43∨(s[j].toNat:Int)=45∨(s[j].toNat:Int)=42
     ·rw [if_pos hsn] at he
      obtain ⟨g,rfl⟩:∃g,f=g+1:=⟨f-1,by omega⟩
      rcases hg:term at_ (plainN ns) ((L s).drop (j+1)) with ⟨x',m,y'⟩
      have hml:=term_len at_ (plainN ns) ((L s).drop (j+1))
      rw [hg,List.length_drop,L_length] at hml
      simp only at hml
      have HG:=hid hg
      have hor:(((s[j].toNat:Int) != 43)=false∧((s[j].toNat:Int)==43)=true)∨(((s[j].toNat:Int) != 43)=true∧((s[j].toNat:Int) != 45)=false∧((s[j].toNat:Int)==43)=false∧((s[j].toNat:Int)==45)=true)∨(((s[j].toNat:Int) != 43)=true∧((s[j].toNat:Int) != 45)=true∧((s[j].toNat:Int) != 42)=false∧((s[j].toNat:Int)==43)=false∧((s[j].toNat:Int)==45)=false):=by
       simp;omega
      by_cases hy:y'=0
      ·subst hy
       by_cases hx:x' < -1000000∨1000000<x'
       ·rw [eval_bad (readT_out hg hx) (by omega)] at he
        obtain ⟨rfl,rfl⟩:=pair_eq he
        have hnin:decide (-1000000≤x'∧x'≤1000000)=false:=by apply decide_eq_false;omega
        clear he hg hx hsn
        rcases hor with ⟨n1,n2⟩|⟨n1,n2,n3,n4⟩|⟨n1,n2,n3,n4,n5⟩
        all_goals
         go_wp2_with (first|(go_at_call 37;refine (refTerm_any s (j+1) at_ a cap ns _ x' m 0 hs' (by omega) hl HN.out HG.out).mono ?_;rintro e w' ⟨rfl,rfl⟩)|(go_at_call 38;refine (in_any _ _ _ _).mono ?_;rw [hnin];rintro e w' ⟨rfl,rfl⟩))
         go_ret2
         exact ⟨rfl,rfl⟩
       ·have y1:-1000000≤x':=by omega
        have y2:x'≤1000000:=by omega
        have hin1:decide (-1000000≤x'∧x'≤1000000)=true:=by apply decide_eq_true;omega
        obtain ⟨m1,m2⟩:=mul_bd q x' q1 q2 y1 y2
        obtain ⟨st,hst⟩:∃z,step q (s[j].toNat:Int) x'=z:=⟨_,rfl⟩
        have hstv:((s[j].toNat:Int)=43∧st=q+x')∨((s[j].toNat:Int)=45∧st=q-x')∨((s[j].toNat:Int)=42∧st=q*x'):=by
         rw [←hst];unfold step
         rcases hsn with h|h|h
         ·left;rw [h];simp
         ·right;left;rw [h];simp
         ·right;right;rw [h];simp
        by_cases hfar:st < -1000000∨1000000<st
        ·rw [eval_far (readT_ok hg y1 y2) _ (reck_out (by rw [hst];exact hfar)) (by omega)] at he
         obtain ⟨rfl,rfl⟩:=pair_eq he
         have hnin:decide (-1000000≤st∧st≤1000000)=false:=by apply decide_eq_false;omega
         clear he hg hx hsn hfar hst
         rcases hor with ⟨n1,n2⟩|⟨n1,n2,n3,n4⟩|⟨n1,n2,n3,n4,n5⟩
         ·have hs1:st=q+x':=by rcases hstv with h|h|h<;>simp_all
          subst hs1
          clear hstv
          go_wp2_with (first|(go_at_call 37;refine (refTerm_any s (j+1) at_ a cap ns _ x' m 0 hs' (by omega) hl HN.out HG.out).mono ?_;rintro e w' ⟨rfl,rfl⟩)|(go_at_call 38;refine (in_any _ _ _ _).mono ?_;(first|rw [hin1]|rw [hnin]);rintro e w' ⟨rfl,rfl⟩))
          go_ret2
          exact ⟨rfl,rfl⟩
         ·have hs1:st=q-x':=by rcases hstv with h|h|h<;>simp_all
          subst hs1
          clear hstv
          go_wp2_with (first|(go_at_call 37;refine (refTerm_any s (j+1) at_ a cap ns _ x' m 0 hs' (by omega) hl HN.out HG.out).mono ?_;rintro e w' ⟨rfl,rfl⟩)|(go_at_call 38;refine (in_any _ _ _ _).mono ?_;(first|rw [hin1]|rw [hnin]);rintro e w' ⟨rfl,rfl⟩))
          go_ret2
          exact ⟨rfl,rfl⟩
         ·have hs1:st=q*x':=by rcases hstv with h|h|h<;>simp_all
          subst hs1
          clear hstv
          go_wp2_with (first|(go_at_call 37;refine (refTerm_any s (j+1) at_ a cap ns _ x' m 0 hs' (by omega) hl HN.out HG.out).mono ?_;rintro e w' ⟨rfl,rfl⟩)|(go_at_call 38;refine (in_any _ _ _ _).mono ?_;(first|rw [hin1]|rw [hnin]);rintro e w' ⟨rfl,rfl⟩))
          go_ret2
          exact ⟨rfl,rfl⟩
        ·rw [eval_on (readT_ok hg y1 y2) _ (by rw [reck_in (by rw [hst];omega) (by rw [hst];omega),hst]),List.drop_drop] at he
         have HE:=hid he
         have hin2:decide (-1000000≤st∧st≤1000000)=true:=by apply decide_eq_true;omega
         have s1:-1000000≤st:=by omega
         have s2:st≤1000000:=by omega
         clear he hg hx hsn hfar hst
         rcases hor with ⟨n1,n2⟩|⟨n1,n2,n3,n4⟩|⟨n1,n2,n3,n4,n5⟩
         ·have hs1:st=q+x':=by rcases hstv with h|h|h<;>simp_all
          subst hs1
          clear hstv
          go_wp2_with (first|(go_at_call 37;refine (refTerm_any s (j+1) at_ a cap ns _ x' m 0 hs' (by omega) hl HN.out HG.out).mono ?_;rintro e w' ⟨rfl,rfl⟩)|(go_at_call 38;refine (in_any _ _ _ _).mono ?_;(first|rw [hin1]|rw [hin2]);rintro e w' ⟨rfl,rfl⟩))
          go_round
          case rel=>exact ⟨j+1+m,_,g,by omega,by go_num,rfl,s1,s2,by omega,HE.out⟩
          case measure=>simp [intOf];omega
         ·have hs1:st=q-x':=by rcases hstv with h|h|h<;>simp_all
          subst hs1
          clear hstv
          go_wp2_with (first|(go_at_call 37;refine (refTerm_any s (j+1) at_ a cap ns _ x' m 0 hs' (by omega) hl HN.out HG.out).mono ?_;rintro e w' ⟨rfl,rfl⟩)|(go_at_call 38;refine (in_any _ _ _ _).mono ?_;(first|rw [hin1]|rw [hin2]);rintro e w' ⟨rfl,rfl⟩))
          go_round
          case rel=>exact ⟨j+1+m,_,g,by omega,by go_num,rfl,s1,s2,by omega,HE.out⟩
          case measure=>simp [intOf];omega
         ·have hs1:st=q*x':=by rcases hstv with h|h|h<;>simp_all
          subst hs1
          clear hstv
          go_wp2_with (first|(go_at_call 37;refine (refTerm_any s (j+1) at_ a cap ns _ x' m 0 hs' (by omega) hl HN.out HG.out).mono ?_;rintro e w' ⟨rfl,rfl⟩)|(go_at_call 38;refine (in_any _ _ _ _).mono ?_;(first|rw [hin1]|rw [hin2]);rintro e w' ⟨rfl,rfl⟩))
          go_round
          case rel=>exact ⟨j+1+m,_,g,by omega,by go_num,rfl,s1,s2,by omega,HE.out⟩
          case measure=>simp [intOf];omega
      ·rw [eval_bad (readT_bad hg hy) hy] at he
       obtain ⟨rfl,rfl⟩:=pair_eq he
       have ky:(y' != 0)=true:=by simpa using hy
       clear he hg hsn
       rcases hor with ⟨n1,n2⟩|⟨n1,n2,n3,n4⟩|⟨n1,n2,n3,n4,n5⟩
       all_goals
        go_wp2_with (first|(go_at_call 37;refine (refTerm_any s (j+1) at_ a cap ns _ x' m y' hs' (by omega) hl HN.out HG.out).mono ?_;rintro e w' ⟨rfl,rfl⟩))
        go_ret2
        exact ⟨rfl,rfl⟩
     ·rw [if_neg hsn] at he
      obtain ⟨rfl,rfl⟩:=pair_eq he
      have n1:((s[j].toNat:Int) != 43)=true:=by simp;omega
      have n2:((s[j].toNat:Int) != 45)=true:=by simp;omega
      have n3:((s[j].toNat:Int) != 42)=true:=by simp;omega
      clear he hsn
      go_wp2_with fail
      go_ret2
      exact ⟨rfl,rfl⟩
    ·rw [L_end s j (by omega)] at he
     obtain ⟨rfl,rfl⟩:=pair_eq (show (q,0)=(V,ER) from he)
     clear he
     go_wp2_with fail
     go_ret2
     exact ⟨rfl,rfl⟩
 ·rw [eval_bad (readT_bad hg hy) hy] at he
  obtain ⟨rfl,rfl⟩:=pair_eq he
  have ky:(y != 0)=true:=by simpa using hy
  clear he hg
  go_enter Tryz.func24,Tryz.ntmps24
  go_wp2_with (first|(go_at_call 37;refine (refTerm_any s 1 at_ a cap ns _ x n y hs' (by omega) hl HN.out HG.out).mono ?_;rintro e w' ⟨rfl,rfl⟩))
  go_ret2
  exact ⟨rfl,rfl⟩
set_option maxRecDepth 100000 in
set_option maxHeartbeats 3000000 in
theorem refValue_plus (s:ByteArray) (at_:Int) (a:Option Addr) (cap:Nat) (ns:List (ByteArray×Int)) (w:World) (V ER:Int) (hs':s.size≤140737488351232) (hl:ns.length≤maxLen) (hn:NamesAt w a ns) (hpos:0<s.size) (h45:¬(s[0].toNat:Int)=45) (f:Nat) (hf:s.size≤f) (he:eval at_ (plainN ns) (f+1) 0 43 ((L s).drop 0)=(V,ER)) :
  Calls Tryz.prog 24 #[.string s,.int .i64 at_,.slice a ns.length cap] w fun e w'=>e=.returned (.tuple #[.int .i64 V,.int .i64 ER])∧w'=w:=by
 have k0:decide ((0:Int)<s.size)=true:=by simp;omega
 have k45:((s[0].toNat:Int)==45)=false:=by simpa using h45
 have HN:=hid hn
 clear hn h45
 rcases hg:term at_ (plainN ns) ((L s).drop 0) with ⟨x,n,y⟩
 have hnl:=term_len at_ (plainN ns) ((L s).drop 0)
 rw [hg,List.length_drop,L_length] at hnl
 simp only at hnl
 have HG:=hid hg
 by_cases hy:y=0
 ·subst hy
  by_cases hx:x < -1000000∨1000000<x
  ·rw [eval_bad (readT_out hg hx) (by omega)] at he
   obtain ⟨rfl,rfl⟩:=pair_eq he
   have hnin:decide (-1000000≤x∧x≤1000000)=false:=by apply decide_eq_false;omega
   clear he hg hx
   go_enter Tryz.func24,Tryz.ntmps24
   go_wp2_with (first|(go_at_call 37;refine (refTerm_any s 0 at_ a cap ns _ x n 0 hs' (by omega) hl HN.out HG.out).mono ?_;rintro e w' ⟨rfl,rfl⟩)|(go_at_call 38;refine (in_any _ _ _ _).mono ?_;rw [hnin];rintro e w' ⟨rfl,rfl⟩))
   go_ret2
   exact ⟨rfl,rfl⟩
  ·have x1:-1000000≤x:=by omega
   have x2:x≤1000000:=by omega
   have hin:decide (-1000000≤x∧x≤1000000)=true:=by apply decide_eq_true;omega
   rw [eval_on (readT_ok hg x1 x2) _ (reck_plus x x1 x2),List.drop_drop] at he
   have HE:=hid he
   clear he hg hx
   go_enter Tryz.func24,Tryz.ntmps24
   go_wp2_with (first|(go_at_call 37;refine (refTerm_any s 0 at_ a cap ns _ x n 0 hs' (by omega) hl HN.out HG.out).mono ?_;rintro e w' ⟨rfl,rfl⟩)|(go_at_call 38;refine (in_any _ _ _ _).mono ?_;rw [hin];rintro e w' ⟨rfl,rfl⟩))
   go_loop [8,10] (fun i z=>∃(j:Nat) (q:Int) (f:Nat),j≤s.size∧i=.int .i64 j∧z=.int .i64 q∧-1000000≤q∧q≤1000000∧s.size-j≤f∧evalS at_ (plainN ns) f q ((L s).drop j)=(V,ER)) (fun i _=>s.size-(intOf i).toNat)
   case atStart=>exact ⟨0+n,x,_,by omega,by go_num,by go_num,by omega,by omega,by omega,HE.out⟩
   case round =>
    obtain ⟨j,q,f,hj,rfl,rfl,q1,q2,hf,he⟩:=hrel
    clear HE HG
    by_cases hlt:j<s.size
    ·rw [L_drop s j hlt] at he
     simp only [evalS] at he
     have hby:=byte_bd s[j]
     by_cases hsn:(s[j].toNat:Int)=43∨(s[j].toNat:Int)=45∨(s[j].toNat:Int)=42
     ·rw [if_pos hsn] at he
      obtain ⟨g,rfl⟩:∃g,f=g+1:=⟨f-1,by omega⟩
      rcases hg:term at_ (plainN ns) ((L s).drop (j+1)) with ⟨x',m,y'⟩
      have hml:=term_len at_ (plainN ns) ((L s).drop (j+1))
      rw [hg,List.length_drop,L_length] at hml
      simp only at hml
      have HG:=hid hg
      have hor:(((s[j].toNat:Int) != 43)=false∧((s[j].toNat:Int)==43)=true)∨(((s[j].toNat:Int) != 43)=true∧((s[j].toNat:Int) != 45)=false∧((s[j].toNat:Int)==43)=false∧((s[j].toNat:Int)==45)=true)∨(((s[j].toNat:Int) != 43)=true∧((s[j].toNat:Int) != 45)=true∧((s[j].toNat:Int) != 42)=false∧((s[j].toNat:Int)==43)=false∧((s[j].toNat:Int)==45)=false):=by
       simp;omega
      by_cases hy:y'=0
      ·subst hy
       by_cases hx:x' < -1000000∨1000000<x'
       ·rw [eval_bad (readT_out hg hx) (by omega)] at he
        obtain ⟨rfl,rfl⟩:=pair_eq he
        have hnin:decide (-1000000≤x'∧x'≤1000000)=false:=by apply decide_eq_false;omega
        clear he hg hx hsn
        rcases hor with ⟨n1,n2⟩|⟨n1,n2,n3,n4⟩|⟨n1,n2,n3,n4,n5⟩
        all_goals
         go_wp2_with (first|(go_at_call 37;refine (refTerm_any s (j+1) at_ a cap ns _ x' m 0 hs' (by omega) hl HN.out HG.out).mono ?_;rintro e w' ⟨rfl,rfl⟩)|(go_at_call 38;refine (in_any _ _ _ _).mono ?_;rw [hnin];rintro e w' ⟨rfl,rfl⟩))
         go_ret2
         exact ⟨rfl,rfl⟩
       ·have y1:-1000000≤x':=by omega
        have y2:x'≤1000000:=by omega
        have hin1:decide (-1000000≤x'∧x'≤1000000)=true:=by apply decide_eq_true;omega
        obtain ⟨m1,m2⟩:=mul_bd q x' q1 q2 y1 y2
        obtain ⟨st,hst⟩:∃z,step q (s[j].toNat:Int) x'=z:=⟨_,rfl⟩
        have hstv:((s[j].toNat:Int)=43∧st=q+x')∨((s[j].toNat:Int)=45∧st=q-x')∨((s[j].toNat:Int)=42∧st=q*x'):=by
         rw [←hst];unfold step
         rcases hsn with h|h|h
         ·left;rw [h];simp
         ·right;left;rw [h];simp
         ·right;right;rw [h];simp
        by_cases hfar:st < -1000000∨1000000<st
        ·rw [eval_far (readT_ok hg y1 y2) _ (reck_out (by rw [hst];exact hfar)) (by omega)] at he
         obtain ⟨rfl,rfl⟩:=pair_eq he
         have hnin:decide (-1000000≤st∧st≤1000000)=false:=by apply decide_eq_false;omega
         clear he hg hx hsn hfar hst
         rcases hor with ⟨n1,n2⟩|⟨n1,n2,n3,n4⟩|⟨n1,n2,n3,n4,n5⟩
         ·have hs1:st=q+x':=by rcases hstv with h|h|h<;>simp_all
          subst hs1
          clear hstv
          go_wp2_with (first|(go_at_call 37;refine (refTerm_any s (j+1) at_ a cap ns _ x' m 0 hs' (by omega) hl HN.out HG.out).mono ?_;rintro e w' ⟨rfl,rfl⟩)|(go_at_call 38;refine (in_any _ _ _ _).mono ?_;(first|rw [hin1]|rw [hnin]);rintro e w' ⟨rfl,rfl⟩))
          go_ret2
          exact ⟨rfl,rfl⟩
         ·have hs1:st=q-x':=by rcases hstv with h|h|h<;>simp_all
          subst hs1
          clear hstv
          go_wp2_with (first|(go_at_call 37;refine (refTerm_any s (j+1) at_ a cap ns _ x' m 0 hs' (by omega) hl HN.out HG.out).mono ?_;rintro e w' ⟨rfl,rfl⟩)|(go_at_call 38;refine (in_any _ _ _ _).mono ?_;(first|rw [hin1]|rw [hnin]);rintro e w' ⟨rfl,rfl⟩))
          go_ret2
          exact ⟨rfl,rfl⟩
         ·have hs1:st=q*x':=by rcases hstv with h|h|h<;>simp_all
          subst hs1
          clear hstv
          go_wp2_with (first|(go_at_call 37;refine (refTerm_any s (j+1) at_ a cap ns _ x' m 0 hs' (by omega) hl HN.out HG.out).mono ?_;rintro e w' ⟨rfl,rfl⟩)|(go_at_call 38;refine (in_any _ _ _ _).mono ?_;(first|rw [hin1]|rw [hnin]);rintro e w' ⟨rfl,rfl⟩))
          go_ret2
          exact ⟨rfl,rfl⟩
        ·rw [eval_on (readT_ok hg y1 y2) _ (by rw [reck_in (by rw [hst];omega) (by rw [hst];omega),hst]),List.drop_drop] at he
         have HE:=hid he
         have hin2:decide (-1000000≤st∧st≤1000000)=true:=by apply decide_eq_true;omega
         have s1:-1000000≤st:=by omega
         have s2:st≤1000000:=by omega
         clear he hg hx hsn hfar hst
         rcases hor with ⟨n1,n2⟩|⟨n1,n2,n3,n4⟩|⟨n1,n2,n3,n4,n5⟩
         ·have hs1:st=q+x':=by rcases hstv with h|h|h<;>simp_all
          subst hs1
          clear hstv
          go_wp2_with (first|(go_at_call 37;refine (refTerm_any s (j+1) at_ a cap ns _ x' m 0 hs' (by omega) hl HN.out HG.out).mono ?_;rintro e w' ⟨rfl,rfl⟩)|(go_at_call 38;refine (in_any _ _ _ _).mono ?_;(first|rw [hin1]|rw [hin2]);rintro e w' ⟨rfl,rfl⟩))
          go_round
          case rel=>exact ⟨j+1+m,_,g,by omega,by go_num,rfl,s1,s2,by omega,HE.out⟩
          case measure=>simp [intOf];omega
         ·have hs1:st=q-x':=by rcases hstv with h|h|h<;>simp_all
          subst hs1
          clear hstv
          go_wp2_with (first|(go_at_call 37;refine (refTerm_any s (j+1) at_ a cap ns _ x' m 0 hs' (by omega) hl HN.out HG.out).mono ?_;rintro e w' ⟨rfl,rfl⟩)|(go_at_call 38;refine (in_any _ _ _ _).mono ?_;(first|rw [hin1]|rw [hin2]);rintro e w' ⟨rfl,rfl⟩))
          go_round
          case rel=>exact ⟨j+1+m,_,g,by omega,by go_num,rfl,s1,s2,by omega,HE.out⟩
          case measure=>simp [intOf];omega
         ·have hs1:st=q*x':=by rcases hstv with h|h|h<;>simp_all
          subst hs1
          clear hstv
          go_wp2_with (first|(go_at_call 37;refine (refTerm_any s (j+1) at_ a cap ns _ x' m 0 hs' (by omega) hl HN.out HG.out).mono ?_;rintro e w' ⟨rfl,rfl⟩)|(go_at_call 38;refine (in_any _ _ _ _).mono ?_;(first|rw [hin1]|rw [hin2]);rintro e w' ⟨rfl,rfl⟩))
          go_round
          case rel=>exact ⟨j+1+m,_,g,by omega,by go_num,rfl,s1,s2,by omega,HE.out⟩
          case measure=>simp [intOf];omega
      ·rw [eval_bad (readT_bad hg hy) hy] at he
       obtain ⟨rfl,rfl⟩:=pair_eq he
       have ky:(y' != 0)=true:=by simpa using hy
       clear he hg hsn
       rcases hor with ⟨n1,n2⟩|⟨n1,n2,n3,n4⟩|⟨n1,n2,n3,n4,n5⟩
       all_goals
        go_wp2_with (first|(go_at_call 37;refine (refTerm_any s (j+1) at_ a cap ns _ x' m y' hs' (by omega) hl HN.out HG.out).mono ?_;rintro e w' ⟨rfl,rfl⟩))
        go_ret2
        exact ⟨rfl,rfl⟩
     ·rw [if_neg hsn] at he
      obtain ⟨rfl,rfl⟩:=pair_eq he
      have n1:((s[j].toNat:Int) != 43)=true:=by simp;omega
      have n2:((s[j].toNat:Int) != 45)=true:=by simp;omega
      have n3:((s[j].toNat:Int) != 42)=true:=by simp;omega
      clear he hsn
      go_wp2_with fail
      go_ret2
      exact ⟨rfl,rfl⟩
    ·rw [L_end s j (by omega)] at he
     obtain ⟨rfl,rfl⟩:=pair_eq (show (q,0)=(V,ER) from he)
     clear he
     go_wp2_with fail
     go_ret2
     exact ⟨rfl,rfl⟩
 ·rw [eval_bad (readT_bad hg hy) hy] at he
  obtain ⟨rfl,rfl⟩:=pair_eq he
  have ky:(y != 0)=true:=by simpa using hy
  clear he hg
  go_enter Tryz.func24,Tryz.ntmps24
  go_wp2_with (first|(go_at_call 37;refine (refTerm_any s 0 at_ a cap ns _ x n y hs' (by omega) hl HN.out HG.out).mono ?_;rintro e w' ⟨rfl,rfl⟩))
  go_ret2
  exact ⟨rfl,rfl⟩
set_option maxHeartbeats 400000 in
theorem refValue_any (s:ByteArray) (at_:Int) (a:Option Addr) (cap:Nat) (ns:List (ByteArray×Int)) (w:World) (v er:Int) (hs:s.size≤140737488351232) (hl:ns.length≤maxLen) (hn:NamesAt w a ns) (hv:value at_ (plainN ns) (L s)=(v,er)) :
  Calls Tryz.prog 24 #[.string s,.int .i64 at_,.slice a ns.length cap] w fun e w'=>e=.returned (.tuple #[.int .i64 v,.int .i64 er])∧w'=w:=by
 by_cases hpos:0<s.size
 ·have hL:=L_head' s hpos
  have hlen:((L s).drop 1).length+1=s.size:=by rw [List.length_drop,L_length];omega
  by_cases h45:(s[0].toNat:Int)=45
  ·rw [hL] at hv
   simp only [value] at hv
   rw [if_pos h45] at hv
   exact refValue_minus s at_ a cap ns w v er hs hl hn hpos h45 _ (by omega) hv
  ·rw [hL,value_plain _ _ _ _ h45,←hL] at hv
   exact refValue_plus s at_ a cap ns w v er hs hl hn hpos h45 (((L s).drop 1).length+1) (by omega) (by rw [List.drop_zero];exact hv)
 ·obtain rfl:=empty_of s (by omega)
  obtain ⟨rfl,rfl⟩:=pair_eq (show (0,4)=(v,er) from hv)
  have HN:=hid hn
  clear hn hv hpos hs
  go_enter Tryz.func24,Tryz.ntmps24
  go_wp2_with (first|(go_at_call 37;refine (refTerm_any ⟨#[]⟩ 0 at_ a cap ns _ 0 0 4 (by decide) (by decide) hl HN.out rfl).mono ?_;rintro e w' ⟨rfl,rfl⟩))
  go_ret2
  exact ⟨rfl,rfl⟩
end Go.Proofs.YtcepppilgncdmaaGreatDoor
