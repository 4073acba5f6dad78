import Derived.Test.YtplbacfjmajeeaaGreatDoorJ46
namespace Go.Proofs.YtplbacfjmajeeaaGreatDoor
open Go.RowKit
theorem nxt_lt (s:ByteArray) (a:Nat):a<nxt s a:=by unfold nxt; split<;>omega
theorem nxt_le (s:ByteArray) (a:Nat):nxt s a≤a+1∨nxt s a≤s.size:=by unfold nxt; split<;>omega
def phiF (s:ByteArray):Nat→Nat→Nat
 | 0,_=>0
 | f+1,a=>if s.size≤a then 0 else if pk s a=40∨pk s a=41∨pk s a=124 then phiF s f (a+1) else if pk s a=91 then 1+phiF s f (nxt s (nxt s (a+1)+1)+1) else 1+phiF s f (nxt s a)
theorem phiF_out (s:ByteArray) (f a:Nat) (h:s.size≤a):phiF s f a=0:=by
 cases f with
 | zero=>rfl
 | succ f=>unfold phiF; rw [if_pos h]
theorem phiF_fuel (s:ByteArray):∀ n f a,s.size-a≤n→s.size-a≤f→phiF s n a=phiF s f a:=by
 intro n
 induction n with
 | zero=>intro f a h _; rw [phiF_out s 0 a (by omega),phiF_out s f a (by omega)]
 | succ n ih =>
  intro f a h hf
  by_cases ha:s.size≤a
  · rw [phiF_out s _ a ha,phiF_out s f a ha]
  · obtain ⟨g,rfl⟩:∃ g,f=g+1:=⟨f-1,by omega⟩
    have h1:=nxt_lt s a
    have h2:=nxt_lt s (a+1)
    have h3:=nxt_lt s (nxt s (a+1)+1)
    unfold phiF
    rw [ih g (a+1) (by omega) (by omega),ih g (nxt s a) (by omega) (by omega),ih g (nxt s (nxt s (a+1)+1)+1) (by omega) (by omega)]
def phi (s:ByteArray) (a:Nat):Nat:=phiF s (s.size-a) a
theorem phi_eq (s:ByteArray) (a:Nat) (h:a<s.size):phi s a=if pk s a=40∨pk s a=41∨pk s a=124 then phi s (a+1) else if pk s a=91 then 1+phi s (nxt s (nxt s (a+1)+1)+1) else 1+phi s (nxt s a):=by
 obtain ⟨g,hg⟩:∃ g,s.size-a=g+1:=⟨s.size-a-1,by omega⟩
 have h1:=nxt_lt s a
 have h2:=nxt_lt s (a+1)
 have h3:=nxt_lt s (nxt s (a+1)+1)
 unfold phi
 rw [hg]
 conv=>lhs; unfold phiF
 rw [if_neg (by omega),phiF_fuel s g (s.size-(a+1)) (a+1) (by omega) (by omega),phiF_fuel s g (s.size-nxt s a) (nxt s a) (by omega) (by omega),phiF_fuel s g (s.size-(nxt s (nxt s (a+1)+1)+1)) (nxt s (nxt s (a+1)+1)+1) (by omega) (by omega)]
theorem phi_pass (s:ByteArray) (a:Nat) (h:a<s.size) (hc:pk s a=40∨pk s a=41∨pk s a=124):phi s a=phi s (a+1):=by rw [phi_eq s a h,if_pos hc]
theorem phi_set (s:ByteArray) (a:Nat) (h:a<s.size) (hc:pk s a=91):phi s a=1+phi s (nxt s (nxt s (a+1)+1)+1):=by
 rw [phi_eq s a h,if_neg (by rw [hc]; decide),if_pos hc]
theorem phi_star (s:ByteArray) (a:Nat) (h:a<s.size) (hc:pk s a=42):phi s (a+1)≤phi s a:=by
 rw [phi_eq s a h,if_neg (by rw [hc]; decide),if_neg (by rw [hc]; decide)]
 have:nxt s a=a+1:=if_neg (by rw [hc]; intro h; exact absurd h.1 (by decide))
 rw [this]
 omega
theorem phi_one (s:ByteArray) (a:Nat) (h:a<s.size) (h1:pk s a≠40) (h2:pk s a≠41) (h3:pk s a≠124) (h4:pk s a≠91):phi s a=1+phi s (nxt s a):=by
 rw [phi_eq s a h,if_neg (by intro h; rcases h with h | h | h<;>contradiction),if_neg h4]
mutual
def Wf:Pt→Prop
 | .mk o l h ps=>((o=1∧0≤l∧l≤255∧0≤h∧h≤255)∨o=2∨o=3∨(o=4∧ps.length=1))∧WfL ps
def WfL:List Pt→Prop
 | []=>True
 | p::ps=>Wf p∧WfL ps
end
theorem WfL.snoc {p:Pt} (hp:Wf p):∀ ps,WfL ps→WfL (ps++[p])
 | [],_=>⟨hp,trivial⟩
 | _::ps,h=>⟨h.1,WfL.snoc hp ps h.2⟩
def PaPost (d X:Nat) (s:ByteArray) (a:Nat) (w:World) (e:Ending) (w':World):Prop :=
 ∃ (p:Pt) (v:Value) (ok:Bool) (a2:Nat),e=.returned (.tuple #[v,.bool ok])∧PtQ (fun b=>w.heap.size≤b) w' p v∧a≤a2∧a2≤2*s.size+5-a∧p.leaves+(if ok=true then phi s a2 else 0)≤phi s a∧p.size+d≤2*(a2-a)+1∧(ok=true→Wf p)∧RdPost X s w a2 w'
theorem WfL.mem:∀ (ps:List Pt),WfL ps→∀ p∈ps,Wf p
 | [],_,p,hp=>by simp at hp
 | q::ps,h,p,hp=>by
  rcases List.mem_cons.1 hp with rfl | hp
  · exact h.1
  · exact WfL.mem ps h.2 p hp
end Go.Proofs.YtplbacfjmajeeaaGreatDoor
