/-
  Joined: Plays.
-/
import Derived.Deep.AppendLies
import Derived.Laws.AppendOwnNone
import Derived.Test.YtcepppilgncdmaaGreatDoorBX42
namespace Go.Proofs.YtcepppilgncdmaaGreatDoor
open Go.RowKit
structure OpD where
 kind:Int
 A:Int
 S:ByteArray
 la:Option Addr
 lc:Nat
 ns:List (ByteArray×Int)
def cellsO (os:List OpD):List Value:=os.flatMap fun o=>[.int .i64 o.kind,.int .i64 o.A,.string o.S,.slice o.la o.ns.length o.lc]
def OpOk (w:World) (o:OpD):Prop:=
 o.S.size≤140737488351232∧((o.la=none∧o.ns=[]∧o.lc=0)∨∃a,o.la=some a∧o.ns.length≤5864062014634∧NamesAt w (some a) o.ns)
theorem OpOk.below {w w':World}{o:OpD}(h:OpOk w o) (hb:Below w.heap.size w w'):OpOk w' o:=by
 obtain ⟨h1,h⟩:=h
 refine ⟨h1,?_⟩
 rcases h with h|⟨a,h2,h3,h4⟩
 ·exact Or.inl h
 ·exact Or.inr ⟨a,h2,h3,h4.below hb⟩
def OpsAt (w:World) (a:Option Addr) (os:List OpD):Prop:=
 (a=none∧os=[])∨∃ad,a=some ad∧∀j v,(cellsO os)[j]?=some v→w.cell? (ad.add j)=some v
theorem cellsO_cons (o:OpD) (os:List OpD):cellsO (o::os)=.int .i64 o.kind::.int .i64 o.A::.string o.S::.slice o.la o.ns.length o.lc::cellsO os:=rfl
theorem cellsO_length (os:List OpD):(cellsO os).length=os.length*4:=by
 induction os with
 |nil=>rfl
 |cons p os ih=>rw [cellsO_cons];simp [ih];omega
theorem cellsO_append (l m:List OpD):cellsO (l++m)=cellsO l++cellsO m:=by simp [cellsO]
theorem cellsO_one (os:List OpD):∀u∈cellsO os,u.oneCell'=true:=by
 intro u hu
 obtain ⟨p,_,hp⟩:=List.mem_flatMap.1 hu
 simp at hp
 rcases hp with rfl|rfl|rfl|rfl<;>rfl
theorem cellsO_at:∀(os:List OpD) (i:Nat) (h:i<os.length),(cellsO os)[i*4]?=some (.int .i64 os[i].kind)∧(cellsO os)[i*4+1]?=some (.int .i64 os[i].A)∧(cellsO os)[i*4+2]?=some (.string os[i].S)∧(cellsO os)[i*4+3]?=some (.slice os[i].la os[i].ns.length os[i].lc):=by
 intro os
 induction os with
 |nil=>intro i h;simp at h
 |cons p os ih =>
  intro i h
  rw [cellsO_cons]
  cases i with
  |zero=>exact ⟨rfl,rfl,rfl,rfl⟩
  |succ i =>
   have:=ih i (by simpa using h)
   rw [show (i+1)*4=i*4+1+1+1+1 from by omega]
   simpa using this
def firstOps:List OpD:=[⟨1,0,⟨#[50,43,51,42,52]⟩,none,0,[]⟩,
 ⟨2,0,⟨#[46,109,97,99,114,111,32,116,119,105,99,101,44,97,10,97,100,100,32,92,97,44,92,97,10,46,101,110,100,10,104,101,114,101,58,32,116,119,105,99,101,32,114,49,32,59,32,115,111]⟩,none,0,[]⟩,
 ⟨3,0,⟨#[106,109,112,32,101,110,100,10,46,115,112,97,99,101,32,49,50,56,10,101,110,100,58,32,114,101,116]⟩,none,0,[]⟩]
theorem firstOps_cells:cellsO firstOps=firstCells:=rfl
theorem firstOps_ok (w:World):∀o∈firstOps,OpOk w o:=by
 intro o ho
 simp only [firstOps,List.mem_cons,List.not_mem_nil,or_false] at ho
 rcases ho with rfl|rfl|rfl
 all_goals exact ⟨by decide,Or.inl ⟨rfl,rfl,rfl⟩⟩
theorem infoOp:(Tryz.prog.info? 57).map (fun i=>(i.zero,i.size,i.bytes))=some (some (.agg #[.int .i64 0,.int .i64 0,.string ⟨#[]⟩,.slice none 0 0]),4,56):=by kernel_rfl
theorem owns_first (w:World):(w.alloc (.cells firstCells.toArray 57)).ownsRow w.heap.size 57 4 (.slice (some ⟨w.heap.size,0,none⟩) 3 3) 3 firstCells:=
 ⟨rfl,Or.inr ⟨w.heap.size,3,_,rfl,Nat.le_refl _,heap_alloc_new w _,Nat.le_refl _,by decide,rfl,rfl⟩⟩
end Go.Proofs.YtcepppilgncdmaaGreatDoor
