/-
  Joined: AppBoth.
-/
import Derived.Test.YtcepppilgncdmaaGreatDoorBX04
namespace Go.Proofs.YtcepppilgncdmaaGreatDoor
open Go.RowKit
theorem own_mono {w:World}{b c e size n:Nat}{v:Value}{xs:List Value}(h:w.ownsRow b e size v n xs) (hc:c≤b):w.ownsRow c e size v n xs:=
 ⟨h.1,h.2.imp id fun ⟨g,cap,cur,h1,h2,h3⟩=>⟨g,cap,cur,h1,Nat.le_trans hc h2,h3⟩⟩
theorem own_prefix {w:World}{b e size g cap n m:Nat}{xs ys:List Value}(h:w.ownsRow b e size (.slice (some ⟨g,0,none⟩) (n+m) cap) (n+m) (xs++ys)) (hx:xs.length=n*size):w.ownsRow b e size (.slice (some ⟨g,0,none⟩) n cap) n xs:=by
 rcases h.2 with ⟨h0,_⟩|⟨g',cap',cur,hv,hb,hh,hn,hc,hs,ht⟩
 ·cases h0
 ·cases hv
  refine ⟨hx,Or.inr ⟨g,cap,cur,rfl,hb,hh,by omega,hc,hs,?_⟩⟩
  have h2:(cur.toList.take ((n+m)*size)).take (n*size)=(xs++ys).take (n*size):=by rw [ht]
  rw [List.take_take,Nat.min_eq_left (Nat.mul_le_mul_right _ (by omega)),←hx] at h2
  rw [←hx,h2]
  exact List.take_left
theorem grown_any {w w':World}{row:Option Nat}(h:w.grownBy w' none):w.grownBy w' row:=⟨h.os,h.tape,h.output,h.size,fun k hk _=>h.block k hk (by simp)⟩
section
variable {P:Program} (w:World)
theorem run_append_both (t ty:TypeId) (base:Nat) (e:TypeId) (i:TypeInfo) (z:Value) (size bytes:Nat) (ht:P.underlying t=some (.slice e)) (hi:P.info? e=some i) (hz:i.zero=some z)
  (hsize:i.size=size) (hby:i.bytes=bytes) (hzs:z.cells.size=size) (hsz:0<size)
  (v:Value) (n:Nat) (xs:List Value) (hown:w.ownsRow base e size v n xs)
  (ad:Addr) (m c:Nat) (news:List Value) (hl:news.length=m*size) (hnews:∀j u,news[j]?=some u→w.cell? (ad.add j)=some u) (h1:∀u∈news,u.oneCell'=true)
  (hm:0<m) (h63:n+m≤maxLen) (hbytes:(n+m)*bytes≤140737488355328) (hbase:base≤w.heap.size) :
  ∃g cap w',(Builtin.append_ #[t,t] ty #[v,.slice (some ad) m c]).run P w=.ok (.slice (some ⟨g,0,none⟩) (n+m) cap) w' ∧
   w'.ownsRow base e size (.slice (some ⟨g,0,none⟩) (n+m) cap) (n+m) (xs++news)∧w.grownBy w' v.ownBlock∧g<w'.heap.size∧(v=.slice (some ⟨g,0,none⟩) n cap∨(w.heap.size≤g∧w.grownBy w' none)):=by
 rcases hown.2 with ⟨rfl,rfl⟩|⟨g0,cap0,cur,rfl,hb,hh,hn,hc,hs,htk⟩
 ·obtain ⟨g,cap,w',h2,h3,h4,h5,h6⟩:=run_append_lies (P:=P) w t ty base e i z size bytes ht hi hz hsize hby hzs hsz (.slice none 0 0) 0 xs hown ad m c news hl hnews h1 hm h63 hbytes hbase w.heap.size rfl
  refine ⟨g,cap,w',h2,h3,h4,h6,Or.inr ⟨?_,h4⟩⟩
  rcases h5 with h5|h5
  ·cases h5
  ·omega
 ·by_cases hr:n+m≤cap0
  ·obtain ⟨w',h2,h3,h4⟩:=run_append_fits (P:=P) w base t ty e i size ht hi hsize g0 n cap0 xs hown ad m c news hl hnews h1 hr
   obtain ⟨_,_,hv,_,hlt⟩:=h3.form (by omega)
   cases hv
   exact ⟨g0,cap0,w',h2,h3,h4,hlt,Or.inl rfl⟩
  ·obtain ⟨v',w',h2,h3,h4⟩:=run_append_arg_grows (P:=P) w t ty e i z size bytes ht hi hz hsize hby hzs hsz ⟨g0,0,none⟩ n cap0 xs hown.1 (hown.cells (g:=g0) rfl) ad m c news hl hnews (by omega) h63 hbytes
   obtain ⟨g,cap,rfl,hge,hlt⟩:=h3.form (by omega)
   exact ⟨g,cap,w',h2,own_mono h3 hbase,grown_any h4,hlt,Or.inr ⟨hge,h4⟩⟩
theorem wpList_append_both {ops:Array Oper}{rest:List Oper}{o:Oper}{a:Act}{Q:Exit→Act→World→Prop}(hgd:o.guard=none) (s x:Operand) (t:TypeId)
  (ho:o.op=.call { callee:=.builtin .append,args:=#[s,x],argTypes:=#[t,t] })
  (base:Nat) (e:TypeId) (i:TypeInfo) (z:Value) (size bytes:Nat) (ht:P.underlying t=some (.slice e)) (hi:P.info? e=some i) (hz:i.zero=some z)
  (hsize:i.size=size) (hby:i.bytes=bytes) (hzs:z.cells.size=size) (hsz:0<size)
  (v:Value) (n:Nat) (xs:List Value) (hs:a.eval s=v) (hown:w.ownsRow base e size v n xs)
  (ad:Addr) (m c:Nat) (news:List Value) (hx:a.eval x=.slice (some ad) m c) (hl:news.length=m*size) (hnews:∀j u,news[j]?=some u→w.cell? (ad.add j)=some u) (h1:∀u∈news,u.oneCell'=true)
  (hm:0<m) (h63:n+m≤maxLen) (hbytes:(n+m)*bytes≤140737488355328) (hbase:base≤w.heap.size)
  (h:∀g cap w',w'.ownsRow base e size (.slice (some ⟨g,0,none⟩) (n+m) cap) (n+m) (xs++news)→w.grownBy w' v.ownBlock→g<w'.heap.size→(v=.slice (some ⟨g,0,none⟩) n cap∨(w.heap.size≤g∧w.grownBy w' none))→wpList P ops Q rest (a.put o.dst (.slice (some ⟨g,0,none⟩) (n+m) cap)) w'):wpList P ops Q (o::rest) a w:=by
 obtain ⟨g,cap,w',hr,h2,h3,h4,h5⟩:=run_append_both (P:=P) w t o.type base e i z size bytes ht hi hz hsize hby hzs hsz v n xs hown ad m c news hl hnews h1 hm h63 hbytes hbase
 refine wpList_plain hgd fun _ hK=>?_
 unfold Oper.wp execOp
 simp only [ho,resolve,invoke,builtin,Sem.run_bind,Sem.run_pure,Result.andThen_ok,List.map_toArray,List.map_cons,List.map_nil,hs,hx,hr]
 exact hK _ _ (h g cap w' h2 h3 h4 h5)
end
def reps (mk:List Value):Nat→List Value
 |0=>[]
 |n+1=>reps mk n++mk
theorem reps_length (mk:List Value) (n:Nat):(reps mk n).length=n*mk.length:=by
 induction n with
 |zero=>simp [reps]
 |succ n ih=>simp only [reps,List.length_append,ih];rw [Nat.succ_mul]
theorem reps_add (mk:List Value) (n m:Nat):reps mk (n+m)=reps mk n++reps mk m:=by
 induction m with
 |zero=>simp [reps]
 |succ m ih=>rw [←Nat.add_assoc];simp only [reps,ih,List.append_assoc]
theorem marks_stay {w w':World}{b d e size g cap n m k:Nat}{mk:List Value}{v u:Value}(hmk:mk.length=size) (hu:w.ownsRow b e size u k (reps mk k)) (hg:w.grownBy w' v.ownBlock)
  (hn:w'.ownsRow d e size (.slice (some ⟨g,0,none⟩) (n+m) cap) (n+m) (reps mk n++reps mk m)) (hor:v=.slice (some ⟨g,0,none⟩) n cap∨(w.heap.size≤g∧w.grownBy w' none))
  (hs:∀q,u.ownBlock=some q→v.ownBlock=some q→k≤n+m∧∃c,v=.slice (some ⟨q,0,none⟩) n c∧u=.slice (some ⟨q,0,none⟩) k c):w'.ownsRow b e size u k (reps mk k):=by
 cases hub:u.ownBlock with
 |none=>exact hu.kept hg (Or.inl hub)
 |some q =>
  by_cases hq:v.ownBlock=some q
  ·rcases hor with h1|⟨_,h1⟩
   ·obtain ⟨hk,c,hv2,hu2⟩:=hs q hub hq
    rw [h1] at hv2
    cases hv2
    subst hu2
    rw [←reps_add] at hn
    obtain ⟨m',hm'⟩:∃m',n+m=k+m':=⟨n+m-k,by omega⟩
    rw [hm',reps_add] at hn
    have h2:=own_prefix hn (by rw [reps_length,hmk])
    refine ⟨h2.1,h2.2.imp id ?_⟩
    rintro ⟨g',cap',cur,h3,_,h4⟩
    cases h3
    refine ⟨g,cap,cur,rfl,?_,h4⟩
    rcases hu.2 with ⟨h5,_⟩|⟨g2,_,_,h5,h6,_⟩
    ·cases h5
    ·cases h5;exact h6
   ·exact hu.kept h1 (Or.inr (by rw [hub];simp))
  ·exact hu.kept hg (Or.inr (fun e1=>hq (by rw [←hub,e1])))
end Go.Proofs.YtcepppilgncdmaaGreatDoor
