import Derived.Lib.BufferOwn
import Derived.IntWalk
namespace Go.Proofs.YtplbacfjmajeeaaGreatDoor
theorem xGe {α:Type} {xs:List α} {i:Nat}:xs.toArray[i]? = xs[i]?:=List.getElem?_toArray
theorem xGz {α:Type} {a:α} {l:List α}:(a::l)[0]? = some a:=List.getElem?_cons_zero
theorem xGs {α:Type} {a:α} {i:Nat} {l:List α}:(a::l)[i+1]? = l[i]?:=List.getElem?_cons_succ
theorem xSi {α:Type} (l:List α) (i:Nat) (a:α):l.toArray.setIfInBounds i a=(l.set i a).toArray:=List.setIfInBounds_toArray l i a
theorem xSz {α:Type} (a:α) (l:List α) (b:α):(a::l).set 0 b=b::l:=List.set_cons_zero
theorem xSs {α:Type} (a:α) (l:List α) (i:Nat) (b:α):(a::l).set (i+1) b=a::l.set i b:=List.set_cons_succ
variable {w:World} {b:Nat} {a0 a1 a2 a3 a4 a5 a6:Value} {r:List Value} {cs:Array Value} {t:TypeId} {f:Nat × Nat}
theorem cb2 (h:w.heap[b]? = some (.cells (a0::a1::r).toArray t f)):w.cell? ⟨b,0,none⟩=some a0∧w.cell? ⟨b,1,none⟩=some a1:=by simp [World.cell?,h]
theorem cb3 (h:w.heap[b]? = some (.cells (a0::a1::a2::r).toArray t f)):w.cell? ⟨b,0,none⟩=some a0∧w.cell? ⟨b,1,none⟩=some a1∧w.cell? ⟨b,2,none⟩=some a2:=by simp [World.cell?,h]
theorem cb4 (h:w.heap[b]? = some (.cells (a0::a1::a2::a3::r).toArray t f)):w.cell? ⟨b,0,none⟩=some a0∧w.cell? ⟨b,1,none⟩=some a1∧w.cell? ⟨b,2,none⟩=some a2∧w.cell? ⟨b,3,none⟩=some a3:=by simp [World.cell?,h]
theorem cb5 (h:w.heap[b]? = some (.cells (a0::a1::a2::a3::a4::r).toArray t f)):w.cell? ⟨b,0,none⟩=some a0∧w.cell? ⟨b,1,none⟩=some a1∧w.cell? ⟨b,2,none⟩=some a2∧w.cell? ⟨b,3,none⟩=some a3∧w.cell? ⟨b,4,none⟩=some a4:=by simp [World.cell?,h]
theorem cb7 (h:w.heap[b]? = some (.cells (a0::a1::a2::a3::a4::a5::a6::r).toArray t f)):w.cell? ⟨b,0,none⟩=some a0∧w.cell? ⟨b,1,none⟩=some a1∧w.cell? ⟨b,2,none⟩=some a2∧w.cell? ⟨b,3,none⟩=some a3∧w.cell? ⟨b,4,none⟩=some a4∧w.cell? ⟨b,5,none⟩=some a5∧w.cell? ⟨b,6,none⟩=some a6:=by simp [World.cell?,h]
theorem fb2 (h:w.heap[b]? = some (.cells cs t (0,0))):w.frozen? ⟨b,0,none⟩=false∧w.frozen? ⟨b,1,none⟩=false:=by simp [World.frozen?,h]
theorem fb3 (h:w.heap[b]? = some (.cells cs t (0,0))):w.frozen? ⟨b,0,none⟩=false∧w.frozen? ⟨b,1,none⟩=false∧w.frozen? ⟨b,2,none⟩=false:=by simp [World.frozen?,h]
theorem fb4 (h:w.heap[b]? = some (.cells cs t (0,0))):w.frozen? ⟨b,0,none⟩=false∧w.frozen? ⟨b,1,none⟩=false∧w.frozen? ⟨b,2,none⟩=false∧w.frozen? ⟨b,3,none⟩=false:=by simp [World.frozen?,h]
theorem fb7 (h:w.heap[b]? = some (.cells cs t (0,0))):w.frozen? ⟨b,0,none⟩=false∧w.frozen? ⟨b,1,none⟩=false∧w.frozen? ⟨b,2,none⟩=false∧w.frozen? ⟨b,3,none⟩=false∧w.frozen? ⟨b,4,none⟩=false∧w.frozen? ⟨b,5,none⟩=false∧w.frozen? ⟨b,6,none⟩=false:=by simp [World.frozen?,h]
theorem xL {w:World} {b:Nat} {o:Obj} (h:w.heap[b]? = some o):b<w.heap.size:=(Array.getElem?_eq_some_iff.1 h).1
theorem xN (w:World) (o:Obj):(w.alloc o).heap[w.heap.size]? = some o:=heap_alloc_new w o
theorem xG (w:World) (o:Obj) (row:Option Nat):w.grownBy (w.alloc o) row:=World.grownBy_alloc w o row
theorem xI (n:Int) (h : -9223372036854775808≤n∧n≤9223372036854775807):IntKind.i64.wrap n=n:=Go.IntWalk.i64_in n h
end Go.Proofs.YtplbacfjmajeeaaGreatDoor
