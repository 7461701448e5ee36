/-
  Joined: Term.
-/
import Derived.BigQuiet
import Derived.Test.YtcepppilgncdmaaGreatDoorBX02
namespace Go.Proofs.YtcepppilgncdmaaGreatDoor
open Go.RowKit
theorem L_head (s:ByteArray) (h:0<s.size):L s=s[0]::(L s).drop 1:=by
 have:=L_drop s 0 h
 rw [List.drop_zero] at this
 exact this
set_option maxHeartbeats 800000 in
theorem findTerm_any (s:ByteArray) (at_:Int) (a:Option Addr) (cap:Nat) (ns:List (ByteArray×Int)) (w:World) (v:Int) (n:Nat) (er:Int) (hs:s.size≤maxLen) (hl:ns.length≤maxLen) (hn:NamesAt w a ns) (hv:term at_ (plainN ns) (L s)=(v,n,er)) :
  Calls Tryz.prog 85 #[.string s,.int .i64 at_,.slice a ns.length cap] w fun e w'=>e=.returned (.tuple #[.int .i64 v,.int .i64 n,.int .i64 er])∧Below w.heap.size w w':=by
 have HN:=hid hn
 clear hn
 by_cases h0:s.size=0
 ·have he:=empty_of s h0
  subst he
  have hv':(0,0,4)=(v,n,er):=hv
  obtain ⟨rfl,rfl,rfl⟩:=trip_eq hv'
  clear hv hv' h0 hs
  go_enter Tryz.func85,Tryz.ntmps85
  go_wp2_with fail
  go_ret3
  exact ⟨rfl,Below.refl _ _⟩
 ·have hpos:0<s.size:=by omega
  have ke:=not_empty s hpos
  have HL:=hid (L_head s hpos)
  rw [HL.out] at hv
  simp only [term] at hv
  rw [←HL.out] at hv
  by_cases hd:digB (s[0].toNat:Int)=true
  ·rw [if_pos hd] at hv
   obtain ⟨rfl,rfl,rfl⟩:=trip_eq hv
   clear hv
   rcases hg:digs 10 0 0 (L s) with ⟨x,k⟩
   have HG:=hid hg
   clear hg
   simp only
   go_enter Tryz.func85,Tryz.ntmps85
   go_wp2_with (first|(go_at_call 119;refine (isDigit_any _ _).mono ?_;rintro e w' ⟨rfl,rfl⟩)|(go_at_call 124;refine (readDigits_any _ _ _ _ _ hs (Or.inl rfl) HG).mono ?_;rintro e w' ⟨rfl,rfl⟩))
   go_ret3
   exact ⟨rfl,Below.refl _ _⟩
  ·have kd:digB (s[0].toNat:Int)=false:=by simpa using hd
   rw [if_neg hd] at hv
   by_cases h36:(s[0].toNat:Int)=36
   ·rw [if_pos h36] at hv
    have HV:=hid hv
    clear hv
    have k36:((s[0].toNat:Int)==36)=true:=by simpa using h36
    clear h36
    go_enter Tryz.func85,Tryz.ntmps85
    go_wp2_with (first|(go_at_call 119;refine (isDigit_any _ _).mono ?_;rintro e w' ⟨rfl,rfl⟩)|(go_at_call 125;refine (findBase16_any _ _ _ _ _ hs hpos HV.out).mono ?_;rintro e w' ⟨rfl,rfl⟩))
    go_ret3
    exact ⟨rfl,Below.refl _ _⟩
   ·rw [if_neg h36] at hv
    have k36:((s[0].toNat:Int)==36)=false:=by simpa using h36
    by_cases h39:(s[0].toNat:Int)=39
    ·rw [if_pos h39] at hv
     have HV:=hid hv
     clear hv
     have k39:((s[0].toNat:Int)==39)=true:=by simpa using h39
     clear h36 h39
     go_enter Tryz.func85,Tryz.ntmps85
     go_wp2_with (first|(go_at_call 119;refine (isDigit_any _ _).mono ?_;rintro e w' ⟨rfl,rfl⟩)|(go_at_call 126;refine (findQuoted_any _ _ _ _ _ hpos HV.out).mono ?_;rintro e w' ⟨rfl,rfl⟩))
     go_ret3
     exact ⟨rfl,Below.refl _ _⟩
    ·rw [if_neg h39] at hv
     have k39:((s[0].toNat:Int)==39)=false:=by simpa using h39
     by_cases h46:(s[0].toNat:Int)=46
     ·rw [if_pos h46] at hv
      obtain ⟨rfl,rfl,rfl⟩:=trip_eq hv
      clear hv
      have k46:((s[0].toNat:Int)==46)=true:=by simpa using h46
      clear h36 h39 h46
      go_enter Tryz.func85,Tryz.ntmps85
      go_wp2_with (first|(go_at_call 119;refine (isDigit_any _ _).mono ?_;rintro e w' ⟨rfl,rfl⟩))
      go_ret3
      exact ⟨rfl,Below.refl _ _⟩
     ·rw [if_neg h46] at hv
      have k46:((s[0].toNat:Int)==46)=false:=by simpa using h46
      have HV:=hid hv
      clear hv h36 h39 h46
      go_enter Tryz.func85,Tryz.ntmps85
      go_wp2_with (first|(go_at_call 119;refine (isDigit_any _ _).mono ?_;rintro e w' ⟨rfl,rfl⟩)|(go_at_call 127;refine (findName_any _ _ _ _ _ _ _ _ hs hl HN.out HV.out).mono ?_;rintro e w' ⟨rfl,hb⟩))
      go_ret3
      exact ⟨rfl,hb⟩
theorem term_len' (at_:Int) (ns:List (ByteArray×Int)) (s:ByteArray) {v:Int}{n:Nat}{er:Int}(h:term at_ (plainN ns) (L s)=(v,n,er)):n≤s.size:=by
 have:=term_len at_ (plainN ns) (L s)
 rw [h,L_length] at this
 exact this
set_option maxHeartbeats 800000 in
theorem readTerm_any (s:ByteArray) (at_:Int) (a:Option Addr) (cap:Nat) (ns:List (ByteArray×Int)) (w:World) (v:Int) (r:List UInt8) (er:Int) (hs:s.size≤maxLen) (hl:ns.length≤maxLen) (hn:NamesAt w a ns) (hv:readT at_ (plainN ns) (L s)=(v,r,er)) :
  Calls Tryz.prog 52 #[.string s,.int .i64 at_,.slice a ns.length cap] w fun e w'=>∃t:ByteArray,L t=r∧t.size≤s.size∧e=.returned (.tuple #[.int .i64 v,.string t,.int .i64 er])∧Below w.heap.size w w':=by
 have HN:=hid hn
 clear hn
 rcases hg:term at_ (plainN ns) (L s) with ⟨x,k,y⟩
 have hkl:=term_len' at_ ns s hg
 have hs':=hs
 unfold maxLen at hs'
 unfold readT at hv
 rw [hg] at hv
 have HG:=hid hg
 clear hg
 simp only at hv
 by_cases hy:y=0
 ·subst hy
  rw [if_neg (by simp)] at hv
  by_cases hx:x < -1000000∨1000000<x
  ·rw [if_pos hx] at hv
   obtain ⟨rfl,rfl,rfl⟩:=trip_eq hv
   clear hv
   rcases hx with hx|hx
   all_goals
    go_enter Tryz.func52,Tryz.ntmps52
    go_wp2_with (first|(go_at_call 85;refine (findTerm_any _ _ _ _ _ _ _ _ _ hs hl HN.out HG.out).mono ?_;rintro e w' ⟨rfl,hb⟩))
    go_ret3
    exact ⟨⟨#[]⟩,rfl,Nat.zero_le _,rfl,hb⟩
  ·rw [if_neg hx] at hv
   obtain ⟨rfl,rfl,rfl⟩:=trip_eq hv
   clear hv
   have hx1:¬x < -1000000:=by omega
   have hx2:¬1000000<x:=by omega
   have k1:decide (x < -1000000)=false:=by simpa using hx1
   have k2:decide (1000000<x)=false:=by simpa using hx2
   clear hx
   go_enter Tryz.func52,Tryz.ntmps52
   go_wp2_with (first|(go_at_call 85;refine (findTerm_any _ _ _ _ _ _ _ _ _ hs hl HN.out HG.out).mono ?_;rintro e w' ⟨rfl,hb⟩))
   go_quiet (fail)
   go_wp2
   go_ret3
   exact ⟨s.extract k s.size,L_suffix s k,by rw [ByteArray.size_extract];omega,rfl,below_drewN hb _⟩
 ·rw [if_pos hy] at hv
  obtain ⟨rfl,rfl,rfl⟩:=trip_eq hv
  clear hv
  have ky:(y != 0)=true:=by simpa using hy
  go_enter Tryz.func52,Tryz.ntmps52
  go_wp2_with (first|(go_at_call 85;refine (findTerm_any _ _ _ _ _ _ _ _ _ hs hl HN.out HG.out).mono ?_;rintro e w' ⟨rfl,hb⟩))
  go_ret3
  exact ⟨⟨#[]⟩,rfl,Nat.zero_le _,rfl,hb⟩
set_option maxHeartbeats 800000 in
theorem reckon_any (sum sign number:Int) (w:World) (v er:Int) (h1:-1000000≤sum∧sum≤1000000) (h2:-1000000≤number∧number≤1000000) (hv:reck sum sign number=(v,er)) (hg:sign=43∨sign=45∨sign=42) :
  Calls Tryz.prog 53 #[.int .i64 sum,.int .u8 sign,.int .i64 number] w fun e w'=>e=.returned (.tuple #[.int .i64 v,.int .i64 er])∧w'=w:=by
 obtain ⟨a1,a2⟩:=h1
 obtain ⟨b1,b2⟩:=h2
 have hm:-1000000000000≤sum*number∧sum*number≤1000000000000:=mul_bd sum number a1 a2 b1 b2
 obtain ⟨m1,m2⟩:=hm
 have hst:step sum sign number=if sign=43 then sum+number else if sign=45 then sum-number else if sign=42 then sum*number else sum:=rfl
 unfold reck at hv
 rw [hst] at hv
 clear hst
 rcases hg with rfl|rfl|rfl
 all_goals
  simp at hv
  split at hv
  ·rename_i hout
   obtain ⟨rfl,rfl⟩:=pair_eq hv
   clear hv
   rcases hout with hout|hout
   all_goals
    go_enter Tryz.func53,Tryz.ntmps53
    go_wp2
    go_ret2
    exact ⟨rfl,rfl⟩
  ·rename_i hin
   obtain ⟨rfl,rfl⟩:=pair_eq hv
   clear hv
   have i1:¬_:=fun h=>hin (Or.inl h)
   have i2:¬_:=fun h=>hin (Or.inr h)
   have k1:=decide_eq_false i1
   have k2:=decide_eq_false i2
   clear hin
   go_enter Tryz.func53,Tryz.ntmps53
   go_wp2
   go_ret2
   exact ⟨rfl,rfl⟩
end Go.Proofs.YtcepppilgncdmaaGreatDoor
