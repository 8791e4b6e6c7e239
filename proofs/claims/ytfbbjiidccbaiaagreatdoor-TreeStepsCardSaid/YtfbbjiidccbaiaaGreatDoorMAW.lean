/- Texts of one proof, one behind the other: ZE. -/
import Derived.Test.YtfbbjiidccbaiaaGreatDoorRows
import Derived.Test.YtfbbjiidccbaiaaGreatDoorMAV
import Derived.ProofKit
import Derived.SizedLaws
import Derived.LaidMore
import Derived.OpenShut
import Derived.Lib.SmallJoins
import Derived.Deep.Slices
import Derived.Deep.Fields
import Derived.ChangeSame
import Derived.Carry
set_option maxRecDepth 100000
namespace Go.Proofs.YtfbbjiidccbaiaaGreatDoor
open Go Go.ChangeShapes Go.WideShapes Go.ChangeAt Go.RowKit Go.Deep Go.Joins
theorem laidOut:laidOutB Tryz.prog=true:=by kernel_rfl
theorem readRecOps:Tryz.prog.readableRec 67=true:=by kernel_rfl
theorem cellsOp:Tryz.prog.cellsOf 78=3:=by kernel_rfl
theorem cells3:Tryz.prog.cellsOf 3=1:=by kernel_rfl
theorem cells9:Tryz.prog.cellsOf 9=1:=by kernel_rfl
structure It where
 k:Int
 f:ByteArray
 n:ByteArray
def I64 (n:Int):Prop:=-9223372036854775808≤n∧n≤9223372036854775807
def It.Fits (x:It):Prop:=I64 x.k∧x.f.size≤9223372036854775807∧x.n.size≤9223372036854775807
def Sl (w:World) (a:Option Addr) (xs:List It):Prop :=
 xs=[]∨∃ b off,a=some ⟨b,off,none⟩∧b < w.heap.size∧∀ j (h:j < xs.length),w.cell? ⟨b,off+j*3,none⟩=some (.int .i64 (xs[j]'h).k)∧w.cell? ⟨b,off+j*3+1,none⟩=some (.string (xs[j]'h).f)∧w.cell? ⟨b,off+j*3+2,none⟩=some (.string (xs[j]'h).n)
theorem Sl.below {w w':World} {a:Option Addr} {xs:List It} (h:Sl w a xs) (hb:Below w.heap.size w w'):Sl w' a xs:=by
 rcases h with h | ⟨b,off,ha,hbw,hc⟩
 ·exact .inl h
 ·refine .inr ⟨b,off,ha,Nat.lt_of_lt_of_le hbw hb.size,fun j hj=>?_⟩
  obtain ⟨h0,h1,h2⟩:=hc j hj
  exact ⟨(hb.cell hbw).trans h0,(hb.cell hbw).trans h1,(hb.cell hbw).trans h2⟩
section
variable {H:Type} {enc:TypeId × Value→H} {W:World} {base:Nat} {sp:Nat→Bool} {held:Bool}
theorem i64_of_wf {n:Int} (h:(Lit.int .i64 n).wf=true):I64 n:=by
 have e1:IntKind.i64.min=-9223372036854775808:=rfl
 have e2:IntKind.i64.max=9223372036854775807:=rfl
 simp [Lit.wf,e1,e2] at h
 exact ⟨h.1,h.2⟩
theorem read_int {fuel:Nat} {v:Value} {y:DataW H × List MemPlace} (h:DataW.trod enc Tryz.prog W base sp held fuel 3 [v]=some y):∃ n,v=.int .i64 n∧I64 n:=by
 obtain ⟨n,e,_,wf⟩:=DataW.trod_int Tryz.underlying3 h
 simp at e
 exact ⟨n,e,i64_of_wf wf⟩
theorem read_text {fuel:Nat} {v:Value} {y:DataW H × List MemPlace} (h:DataW.trod enc Tryz.prog W base sp held fuel 9 [v]=some y):∃ s,v=.string s∧y=(.lit (.string s.data.toList),[])∧s.size≤9223372036854775807:=by
 obtain ⟨s,e,hy,hs⟩:=DataW.trod_string Tryz.underlying9 h
 simp at e
 exact ⟨s,e,hy,hs⟩
def ItemAt (W:World) (a:Addr) (i:Nat) (x:It):Prop :=
 W.cell? (a.add (i*3))=some (.int .i64 x.k)∧W.cell? (a.add (i*3+1))=some (.string x.f)∧W.cell? (a.add (i*3+2))=some (.string x.n)∧x.Fits
def Shows (d:DataW H) (x:It):Prop:=∃ a c,d=.agg [a,.lit (.string x.f.data.toList),c]
theorem read_item {a:Addr} {i n:Nat} {cs:List Value} {y:DataW H × List MemPlace} (hc:W.cells? base (a.add (i*3)) 3=some cs) (h:DataW.trod enc Tryz.prog W base sp held n 78 cs=some y):∃ x,ItemAt W a i x∧Shows y.1 x:=by
 obtain ⟨ys,n',_,hy,_,hyl,hf⟩:=DataW.trod_struct Tryz.underlying78 h
 obtain ⟨_,hcl,hat⟩:=World.cells?_some hc
 match cs,hcl,ys,hyl with
 | [u0,u1,u2],_,[y0,y1,y2],_ =>
  have f0:DataW.trod enc Tryz.prog W base sp held n' 3 (([u0,u1,u2].drop 0).take (Tryz.prog.cellsOf 3))=some y0:=hf 0 _ rfl
  have f1:DataW.trod enc Tryz.prog W base sp held n' 9 (([u0,u1,u2].drop 1).take (Tryz.prog.cellsOf 9))=some y1:=hf 1 _ rfl
  have f2:DataW.trod enc Tryz.prog W base sp held n' 9 (([u0,u1,u2].drop 2).take (Tryz.prog.cellsOf 9))=some y2:=hf 2 _ rfl
  rw [cells3] at f0
  rw [cells9] at f1 f2
  obtain ⟨k,rfl,hk⟩:=read_int (v:=u0) (y:=y0) f0
  obtain ⟨f,rfl,e1,hf'⟩:=read_text (v:=u1) (y:=y1) f1
  obtain ⟨m,rfl,_,hm⟩:=read_text (v:=u2) (y:=y2) f2
  refine ⟨⟨k,f,m⟩,⟨?_,?_,?_,hk,hf',hm⟩,⟨y0.1,y2.1,by rw [hy,e1];rfl⟩⟩
  ·exact hat 0 (by omega)
  ·rw [← add_add];exact hat 1 (by omega)
  ·rw [← add_add];exact hat 2 (by omega)
theorem open_script {r:Reach} {b0:Nat} {v:Value} {d:DataW H} {p:List MemPlace} (hv:Value.okWide Tryz.prog W r b0 67 v) (hd:DataW.Trod enc Tryz.prog W base sp held 67 v d p) :
  ∃ (a:Option Addr) (xs:List It) (lc:Nat),v=.slice a xs.length lc∧Sl W a xs∧(∀ x ∈ xs,x.Fits)∧(d=.nil∧xs=[]∨∃ elems spare,d=.slice elems spare∧xs.length≤elems.length∧∀ x ∈ xs,∃ e ∈ elems,Shows e x):=by
 obtain ⟨a1,len1,cap1,rfl⟩:=okWide_slice Tryz.underlying67 hv
 obtain ⟨fuel,h⟩:=hd
 rcases open_slice Tryz.underlying67 h with ⟨e,hd0⟩ | ⟨a,len,cap,m,n,D,Pl,e,hd0,hl,hdd,hm,hh,hi⟩
 ·simp [Value.cells] at e
  obtain ⟨rfl,rfl,rfl⟩:=e
  have hd1:d=.nil:=congrArg Prod.fst hd0
  exact ⟨none,[],0,rfl,.inl rfl,(fun x hx=>by simp at hx),.inl ⟨hd1,rfl⟩⟩
 ·simp [Value.cells] at e
  obtain ⟨rfl,rfl,rfl⟩:=e
  have hd1:d=.slice (List.map D (List.range len1)) (List.map (fun j=>D (len1+j)) (List.range (m - len1))):=congrArg Prod.fst hh
  have hlen:len1≤m:=by rw [hm];split <;> omega
  rw [cellsOp] at hi
  have hx:∀ i,i < len1→∃ x,ItemAt W a i x∧Shows (D i) x:=fun i hil=>by
   obtain ⟨cs',hc,ht⟩:=hi i (by omega)
   exact read_item hc ht
  let f:Nat→It:=fun i=>if h:i < len1 then Classical.choose (hx i h) else ⟨0,⟨#[]⟩,⟨#[]⟩⟩
  have hf:∀ i,i < len1→ItemAt W a i (f i)∧Shows (D i) (f i):=fun i hil=>by
   have:f i=Classical.choose (hx i hil):=dif_pos hil
   rw [this]
   exact Classical.choose_spec (hx i hil)
  have hlf:((List.range len1).map f).length=len1:=by simp
  have hget:∀ j (hj:j < ((List.range len1).map f).length),((List.range len1).map f)[j]'hj=f j:=fun j hj=>by simp
  refine ⟨some a,(List.range len1).map f,cap1,by rw [hlf],?_,?_,?_⟩
  ·cases len1 with
   | zero=>exact .inl rfl
   | succ len =>
    obtain ⟨b,off,spot⟩:=a
    have h0:=(hf 0 (by omega)).1.1
    have hspot:spot=none:=by simpa [Addr.add] using World.cell?_spot h0
    subst hspot
    refine .inr ⟨b,off,rfl,?_,fun j hj=>?_⟩
    ·rw [add_plain] at h0
     unfold World.cell? at h0
     split at h0
     ·rename_i hh
      exact (Array.getElem?_eq_some_iff.1 hh).1
     ·cases h0
    ·obtain ⟨⟨e0,e1,e2,_⟩,_⟩:=hf j (by rw [hlf] at hj;exact hj)
     rw [add_plain] at e0 e1 e2
     rw [hget j hj]
     exact ⟨e0,e1,e2⟩
  ·intro x hx
   obtain ⟨i,hi,rfl⟩:=List.mem_map.1 hx
   exact (hf i (List.mem_range.1 hi)).1.2.2.2
  ·refine .inr ⟨_,_,hd1,by simp,fun x hx=>?_⟩
   obtain ⟨i,hi,rfl⟩:=List.mem_map.1 hx
   exact ⟨D i,List.mem_map.2 ⟨i,hi,rfl⟩,(hf i (List.mem_range.1 hi)).2⟩
end
end Go.Proofs.YtfbbjiidccbaiaaGreatDoor
