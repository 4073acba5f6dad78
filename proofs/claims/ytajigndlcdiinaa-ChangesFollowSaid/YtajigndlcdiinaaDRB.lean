/- A step, built. -/
import Derived.Test.YtajigndlcdiinaaDQ1
import Derived.OwnWalkIn
import Derived.Deep.MidRow
namespace Go.Proofs.Ytajigndlcdiinaa
open Go.RowKit
theorem build112 (x a0 a1 a4 a5 a6 a7 b0 b1 b4 b5 b6 b7 : Int) (a2 a8 b2 b8 : ByteArray) (a3 b3 : Bool) (w : World) :
    (Instr.build 112 #[(0, .int .i64 x), (2, .agg #[.int .i64 a0, .int .i64 a1, .string a2, .bool a3, .int .i64 a4, .int .i64 a5, .int .i64 a6, .int .i64 a7, .string a8]), (3, .agg #[.int .i64 b0, .int .i64 b1, .string b2, .bool b3, .int .i64 b4, .int .i64 b5, .int .i64 b6, .int .i64 b7, .string b8])]).run Try.prog w =
      .ok (.agg #[.int .i64 x, .int .i64 0, .int .i64 a0, .int .i64 a1, .string a2, .bool a3, .int .i64 a4, .int .i64 a5, .int .i64 a6, .int .i64 a7, .string a8, .int .i64 b0, .int .i64 b1, .string b2, .bool b3, .int .i64 b4, .int .i64 b5, .int .i64 b6, .int .i64 b7, .string b8]) w :=
  run_build w 112 _ _ (by kernel_rfl)

/-- A whole struct is loaded inside a fence. -/
theorem wpListIn_load_mid {F : Fence} {n : Nat} {P : Program} {ops : Array Oper} {rest : List Oper} {op : Oper} {a : Act} {w : World} {Q : Exit → Act → World → Prop} (hgd : op.guard = none) (ty : TypeId) (x : Operand) (ho : op.op = .load ty x)
    (b o : Nat) (hx : a.eval x = .pointer (some ⟨b, o, none⟩)) (cs : List Value) (d : TypeDesc) (hc : w.rangeAt b o cs)
    (hu : P.underlying ty = some d) (hd : d.isRow = true) (hi : (P.info? ty).map (·.size) = some cs.length)
    (h : wpListIn F n P ops Q rest (a.put op.dst (.agg cs.toArray)) w) : wpListIn F n P ops Q (op :: rest) a w := by
  refine wpListIn_plain hgd fun K hK => ?_
  unfold Oper.wpIn
  refine ⟨by simp [Oper.about, ho], ?_⟩
  rw [Oper.semAt_plain F _ _ (by rw [ho]; intro c hc'; cases hc')]
  simp only [execOp, ho, hx, Sem.run_bind, run_loadAt_mid w b o ty cs d hc hu hd hi, Result.andThen, Sem.run_pure]
  exact hK _ _ h
/-- A whole struct is stored inside a fence. -/
theorem wpListIn_store_mid {F : Fence} {n : Nat} {P : Program} {ops : Array Oper} {rest : List Oper} {op : Oper} {a : Act} {w : World} {Q : Exit → Act → World → Prop} (hgd : op.guard = none) (ty : TypeId) (x y : Operand) (ho : op.op = .store ty x y)
    (b o : Nat) (cells : Array Value) (hx : a.eval x = .pointer (some ⟨b, o, none⟩)) (hy : a.eval y = .agg cells)
    (ht : w.there b o cells.size) (hi : (P.info? ty).map (·.size) = some cells.size) (h1 : cells.all (·.oneCell') = true)
    (h : wpListIn F n P ops Q rest (a.put op.dst undef) (w.setCells b o cells.toList)) : wpListIn F n P ops Q (op :: rest) a w := by
  refine wpListIn_plain hgd fun K hK => ?_
  unfold Oper.wpIn
  refine ⟨by simp [Oper.about, ho], ?_⟩
  rw [Oper.semAt_plain F _ _ (by rw [ho]; intro c hc'; cases hc')]
  simp only [execOp, ho, hx, hy, Sem.run_bind, run_storeAt_mid w b o ty cells ht hi h1, Result.andThen, Sem.run_pure]
  exact hK _ _ h
end Go.Proofs.Ytajigndlcdiinaa
