/- Faults as values: an error of a code within parts; what the library's errors.Is and errors.As ask of them, as closed facts of the program. -/
import Derived.Test.YtnnkpeafhjokjaaDoorRows
import Derived.Test.YtnnkpeafhjokjaaDoorPlain
import Derived.WalkKit
import Derived.LaidEql
import Derived.Stop.Asserts
import Derived.RowKitTokens
namespace Go.Proofs.YtnnkpeafhjokjaaDoor
open Go Go.RowKit Go.Extern.Stop Go.Stop Go.Extern
set_option linter.unusedVariables false

/-- An error of the code c within nothing; the error e within p; an error of the code c within these parts, the outmost first. -/
def eB (c : Int) : Value := .iface 46 (.agg #[.int .i64 c])
def eW (p : ByteArray) (e : Value) : Value := .iface 42 (.agg #[.string p, e])
def eV (c : Int) : List ByteArray → Value
  | [] => eB c
  | p :: ps => eW p (eV c ps)
theorem eV_nil (c : Int) : eV c [] = eB c := rfl
theorem eV_cons (c : Int) (p : ByteArray) (ps : List ByteArray) : eV c (p :: ps) = eW p (eV c ps) := rfl
theorem eV_append (c : Int) (ps : List ByteArray) (p : ByteArray) (qs : List ByteArray) : eV c (ps ++ p :: qs) = ps.foldr eW (eW p (eV c qs)) := by
  induction ps with
  | nil => rfl
  | cons x r ih => rw [List.cons_append, eV_cons, ih]; rfl
/-- How large a value is: an error is smaller than itself within a part. -/
theorem eW_size (p : ByteArray) (e : Value) : SizeOf.sizeOf e < SizeOf.sizeOf (eW p e) := by
  show SizeOf.sizeOf e < SizeOf.sizeOf (Value.iface _ (.agg #[.string p, e]))
  simp
  omega

/-- A variable that a call has, of a bare fault; of one within. -/
def BareAt (w : World) (b : Nat) (c : Int) : Prop := w.heap[b]? = some (.cells #[.int .i64 c] 46 (0, 0))
def WithAt (w : World) (b : Nat) (p : ByteArray) (e : Value) : Prop := w.heap[b]? = some (.cells #[.string p, e] 42 (0, 0))

/-! Closed facts. -/
abbrev hT (t : TypeId) : Value := .pointer (some ⟨4, t, none⟩)
theorem typeOfB (v : Value) (w : World) : (ReflectliteType.typeOf #[.iface 46 v]).run Tryd.prog w = .ok (.iface 78 (.agg #[hT 46])) w := by kernel_rfl
theorem typeOfW (v : Value) (w : World) : (ReflectliteType.typeOf #[.iface 42 v]).run Tryd.prog w = .ok (.iface 78 (.agg #[hT 42])) w := by kernel_rfl
theorem valueOfPB (t : Addr) (w : World) : (ReflectliteValue.unpack (.iface 47 (.pointer (some t)))).run Tryd.prog w = .ok (.agg #[hT 47, .pointer (some ⟨w.heap.size, 0, none⟩), .int .u64 150]) (w.alloc (.cells #[.pointer (some t)] 47)) := by kernel_rfl
theorem valueOfPW (t : Addr) (w : World) : (ReflectliteValue.unpack (.iface 44 (.pointer (some t)))).run Tryd.prog w = .ok (.agg #[hT 44, .pointer (some ⟨w.heap.size, 0, none⟩), .int .u64 150]) (w.alloc (.cells #[.pointer (some t)] 44)) := by kernel_rfl
theorem valueOfB (c : Int) (w : World) : (ReflectliteValue.unpack (.iface 46 (.agg #[.int .i64 c]))).run Tryd.prog w = .ok (.agg #[hT 46, .pointer (some ⟨w.heap.size, 0, none⟩), .int .u64 153]) (w.alloc (.cells #[.int .i64 c] 46)) := by kernel_rfl
theorem valueOfW (p : ByteArray) (e : Value) (w : World) : (ReflectliteValue.unpack (.iface 42 (.agg #[.string p, e]))).run Tryd.prog w = .ok (.agg #[hT 42, .pointer (some ⟨w.heap.size, 0, none⟩), .int .u64 153]) (w.alloc (.cells #[.string p, e] 42)) := by kernel_rfl
theorem typePB (a : Addr) (w : World) : (ReflectliteValue.methodAny (ReflectliteValue.valueError "reflectlite.Value.Type" 0) (fun t _ _ _ => ReflectliteType.toType t) #[.agg #[hT 47, .pointer (some a), .int .u64 150]]).run Tryd.prog w = .ok (.iface 78 (.agg #[hT 47])) w := by kernel_rfl
theorem typePW (a : Addr) (w : World) : (ReflectliteValue.methodAny (ReflectliteValue.valueError "reflectlite.Value.Type" 0) (fun t _ _ _ => ReflectliteType.toType t) #[.agg #[hT 44, .pointer (some a), .int .u64 150]]).run Tryd.prog w = .ok (.iface 78 (.agg #[hT 44])) w := by kernel_rfl
theorem mKind (h : Value) (w : World) : (Go.method 238 78 (.agg #[h]) "Kind").run Tryd.prog w = .ok (64, h) w := by kernel_rfl
theorem mElem (h : Value) (w : World) : (Go.method 238 78 (.agg #[h]) "Elem").run Tryd.prog w = .ok (77, .agg #[h]) w := by kernel_rfl
theorem mImplements (h : Value) (w : World) : (Go.method 238 78 (.agg #[h]) "Implements").run Tryd.prog w = .ok (78, .agg #[h]) w := by kernel_rfl
theorem mAssignableTo (h : Value) (w : World) : (Go.method 238 78 (.agg #[h]) "AssignableTo").run Tryd.prog w = .ok (75, .agg #[h]) w := by kernel_rfl
theorem mComparable (h : Value) (w : World) : (Go.method 238 78 (.agg #[h]) "Comparable").run Tryd.prog w = .ok (76, .agg #[h]) w := by kernel_rfl
theorem mUnwrap (p : ByteArray) (e : Value) (w : World) : (Go.method 238 42 (.agg #[.string p, e]) "Unwrap").run Tryd.prog w = .ok (68, .agg #[.string p, e]) w := by kernel_rfl
theorem kindPB (w : World) : ((ReflectliteType.abiMethod fun t => (fun a : Nat => Value.int IntKind.u8 (a : Int)) <$> Rtype.kind t) #[hT 47]).run Tryd.prog w = .ok (.int .u8 22) w := by kernel_rfl
theorem kindPW (w : World) : ((ReflectliteType.abiMethod fun t => (fun a : Nat => Value.int IntKind.u8 (a : Int)) <$> Rtype.kind t) #[hT 44]).run Tryd.prog w = .ok (.int .u8 22) w := by kernel_rfl
theorem kindB (w : World) : ((ReflectliteType.abiMethod fun t => (fun a : Nat => Value.int IntKind.u8 (a : Int)) <$> Rtype.kind t) #[hT 46]).run Tryd.prog w = .ok (.int .u8 25) w := by kernel_rfl
theorem kindW (w : World) : ((ReflectliteType.abiMethod fun t => (fun a : Nat => Value.int IntKind.u8 (a : Int)) <$> Rtype.kind t) #[hT 42]).run Tryd.prog w = .ok (.int .u8 25) w := by kernel_rfl
theorem elemPB (w : World) : (ReflectliteType.method ReflectliteType.elem #[.agg #[hT 47]]).run Tryd.prog w = .ok (.iface 78 (.agg #[hT 46])) w := by kernel_rfl
theorem elemPW (w : World) : (ReflectliteType.method ReflectliteType.elem #[.agg #[hT 44]]).run Tryd.prog w = .ok (.iface 78 (.agg #[hT 42])) w := by kernel_rfl
theorem implementsB (w : World) : (ReflectliteType.relation "Implements" ReflectliteType.implements_ #[.agg #[hT 46], .iface 78 (.agg #[hT 26])]).run Tryd.prog w = .ok (.bool true) w := by kernel_rfl
theorem implementsW (w : World) : (ReflectliteType.relation "Implements" ReflectliteType.implements_ #[.agg #[hT 42], .iface 78 (.agg #[hT 26])]).run Tryd.prog w = .ok (.bool true) w := by kernel_rfl
theorem assignBB (w : World) : (ReflectliteType.relation "AssignableTo" ReflectliteType.assignableTo #[.agg #[hT 46], .iface 78 (.agg #[hT 46])]).run Tryd.prog w = .ok (.bool true) w := by kernel_rfl
theorem assignBW (w : World) : (ReflectliteType.relation "AssignableTo" ReflectliteType.assignableTo #[.agg #[hT 46], .iface 78 (.agg #[hT 42])]).run Tryd.prog w = .ok (.bool false) w := by kernel_rfl
theorem assignWB (w : World) : (ReflectliteType.relation "AssignableTo" ReflectliteType.assignableTo #[.agg #[hT 42], .iface 78 (.agg #[hT 46])]).run Tryd.prog w = .ok (.bool false) w := by kernel_rfl
theorem assignWW (w : World) : (ReflectliteType.relation "AssignableTo" ReflectliteType.assignableTo #[.agg #[hT 42], .iface 78 (.agg #[hT 42])]).run Tryd.prog w = .ok (.bool true) w := by kernel_rfl
theorem comparableB (w : World) : ((ReflectliteType.method fun t => do Rtype.noPackHeld "Comparable" t; pure (.bool (← typeInfo t).comparable)) #[.agg #[hT 46]]).run Tryd.prog w = .ok (.bool true) w := by kernel_rfl

/-! What the assertions find. -/
theorem noAsB (v : Value) (xT : TypeId) (w : World) : (Instr.typeAssert (.iface 46 v) xT 82 true).run Tryd.prog w = .ok (.tuple #[.nilIface, .bool false]) w := run_typeAssert_lacksB Tryd.underlying82 (by kernel_rfl) (by kernel_rfl) v xT w
theorem noAsW (v : Value) (xT : TypeId) (w : World) : (Instr.typeAssert (.iface 42 v) xT 82 true).run Tryd.prog w = .ok (.tuple #[.nilIface, .bool false]) w := run_typeAssert_lacksB Tryd.underlying82 (by kernel_rfl) (by kernel_rfl) v xT w
theorem noIsB (v : Value) (xT : TypeId) (w : World) : (Instr.typeAssert (.iface 46 v) xT 91 true).run Tryd.prog w = .ok (.tuple #[.nilIface, .bool false]) w := run_typeAssert_lacksB Tryd.underlying91 (by kernel_rfl) (by kernel_rfl) v xT w
theorem noIsW (v : Value) (xT : TypeId) (w : World) : (Instr.typeAssert (.iface 42 v) xT 91 true).run Tryd.prog w = .ok (.tuple #[.nilIface, .bool false]) w := run_typeAssert_lacksB Tryd.underlying91 (by kernel_rfl) (by kernel_rfl) v xT w
theorem noUnwrapB (v : Value) (xT : TypeId) (w : World) : (Instr.typeAssert (.iface 46 v) xT 85 true).run Tryd.prog w = .ok (.tuple #[.nilIface, .bool false]) w := run_typeAssert_lacksB Tryd.underlying85 (by kernel_rfl) (by kernel_rfl) v xT w
theorem noUnwrapsB (v : Value) (xT : TypeId) (w : World) : (Instr.typeAssert (.iface 46 v) xT 87 true).run Tryd.prog w = .ok (.tuple #[.nilIface, .bool false]) w := run_typeAssert_lacksB Tryd.underlying87 (by kernel_rfl) (by kernel_rfl) v xT w
theorem hasUnwrapW (v : Value) (xT : TypeId) (w : World) : (Instr.typeAssert (.iface 42 v) xT 85 true).run Tryd.prog w = .ok (.tuple #[.iface 42 v, .bool true]) w := run_typeAssert_hasB Tryd.underlying85 (by kernel_rfl) v xT w

/-! The library's entries that read or write memory. -/
theorem partsPB (a : Addr) (w : World) : (ReflectliteValue.parts (.agg #[hT 47, .pointer (some a), .int .u64 150])).run Tryd.prog w = .ok (some (47, a, 150)) w := by kernel_rfl
theorem partsPW (a : Addr) (w : World) : (ReflectliteValue.parts (.agg #[hT 44, .pointer (some a), .int .u64 150])).run Tryd.prog w = .ok (some (44, a, 150)) w := by kernel_rfl
theorem partsBa (a : Addr) (w : World) : (ReflectliteValue.parts (.agg #[hT 46, .pointer (some a), .int .u64 409])).run Tryd.prog w = .ok (some (46, a, 409)) w := by kernel_rfl
theorem partsB (a : Addr) (w : World) : (ReflectliteValue.parts (.agg #[hT 46, .pointer (some a), .int .u64 153])).run Tryd.prog w = .ok (some (46, a, 153)) w := by kernel_rfl
theorem partsWa (a : Addr) (w : World) : (ReflectliteValue.parts (.agg #[hT 42, .pointer (some a), .int .u64 409])).run Tryd.prog w = .ok (some (42, a, 409)) w := by kernel_rfl
theorem partsW (a : Addr) (w : World) : (ReflectliteValue.parts (.agg #[hT 42, .pointer (some a), .int .u64 153])).run Tryd.prog w = .ok (some (42, a, 153)) w := by kernel_rfl
theorem isNilPB (a p : Addr) (W : World) (ha : W.cell? a = some (.pointer (some p))) :
    (ReflectliteValue.method (ReflectliteValue.valueError "reflectlite.Value.IsNil" 0) ReflectliteValue.isNil #[.agg #[hT 47, .pointer (some a), .int .u64 150]]).run Tryd.prog W = .ok (.bool false) W := by
  show (Bind.bind (ReflectliteValue.parts (.agg #[hT 47, .pointer (some a), .int .u64 150])) _).run Tryd.prog W = _
  simp only [Sem.run_bind, partsPB, Result.andThen]
  simp [ReflectliteValue.isNil, loadVar, isAgg, underlying, Tryd.underlying47, ha, Result.andThen]
theorem isNilPW (a p : Addr) (W : World) (ha : W.cell? a = some (.pointer (some p))) :
    (ReflectliteValue.method (ReflectliteValue.valueError "reflectlite.Value.IsNil" 0) ReflectliteValue.isNil #[.agg #[hT 44, .pointer (some a), .int .u64 150]]).run Tryd.prog W = .ok (.bool false) W := by
  show (Bind.bind (ReflectliteValue.parts (.agg #[hT 44, .pointer (some a), .int .u64 150])) _).run Tryd.prog W = _
  simp only [Sem.run_bind, partsPW, Result.andThen]
  simp [ReflectliteValue.isNil, loadVar, isAgg, underlying, Tryd.underlying44, ha, Result.andThen]
theorem elemOfPB (w : World) : (Rtype.elem? 47).run Tryd.prog w = .ok (some 46) w := by kernel_rfl
theorem elemOfPW (w : World) : (Rtype.elem? 44).run Tryd.prog w = .ok (some 42) w := by kernel_rfl
theorem mkB (p : Addr) (w : World) : (ReflectliteValue.mk 46 p ReflectliteValue.flagAddr).run Tryd.prog w = .ok (.agg #[hT 46, .pointer (some p), .int .u64 409]) w := by kernel_rfl
theorem mkW (p : Addr) (w : World) : (ReflectliteValue.mk 42 p ReflectliteValue.flagAddr).run Tryd.prog w = .ok (.agg #[hT 42, .pointer (some p), .int .u64 409]) w := by kernel_rfl
theorem elemVB (a p : Addr) (W : World) (ha : W.cell? a = some (.pointer (some p))) :
    (ReflectliteValue.method (ReflectliteValue.valueError "reflectlite.Value.Elem" 0) ReflectliteValue.elem #[.agg #[hT 47, .pointer (some a), .int .u64 150]]).run Tryd.prog W = .ok (.agg #[hT 46, .pointer (some p), .int .u64 409]) W := by
  show (Bind.bind (ReflectliteValue.parts (.agg #[hT 47, .pointer (some a), .int .u64 150])) _).run Tryd.prog W = _
  simp only [Sem.run_bind, partsPB, Result.andThen]
  simp [ReflectliteValue.elem, loadVar, isAgg, underlying, Tryd.underlying47, ha, Result.andThen, elemOfPB, mkB]
theorem elemVW (a p : Addr) (W : World) (ha : W.cell? a = some (.pointer (some p))) :
    (ReflectliteValue.method (ReflectliteValue.valueError "reflectlite.Value.Elem" 0) ReflectliteValue.elem #[.agg #[hT 44, .pointer (some a), .int .u64 150]]).run Tryd.prog W = .ok (.agg #[hT 42, .pointer (some p), .int .u64 409]) W := by
  show (Bind.bind (ReflectliteValue.parts (.agg #[hT 44, .pointer (some a), .int .u64 150])) _).run Tryd.prog W = _
  simp only [Sem.run_bind, partsPW, Result.andThen]
  simp [ReflectliteValue.elem, loadVar, isAgg, underlying, Tryd.underlying44, ha, Result.andThen, elemOfPW, mkW]
theorem directB (w : World) : (Rtype.directlyAssignable 46 46).run Tryd.prog w = .ok true w := by kernel_rfl
theorem directW (w : World) : (Rtype.directlyAssignable 42 42).run Tryd.prog w = .ok true w := by kernel_rfl
theorem setB (t b : Nat) (c : Int) (old : Value) (W : World) (hb : W.cell? ⟨b, 0, none⟩ = some (.int .i64 c)) (ht : W.cell? ⟨t, 0, none⟩ = some old) (hf : W.frozen? ⟨t, 0, none⟩ = false) :
    (ReflectliteValue.set #[.agg #[hT 46, .pointer (some ⟨t, 0, none⟩), .int .u64 409], .agg #[hT 46, .pointer (some ⟨b, 0, none⟩), .int .u64 153]]).run Tryd.prog W = .ok (.tuple #[]) (W.setCell ⟨t, 0, none⟩ (.int .i64 c)) := by
  show (Bind.bind (ReflectliteValue.parts (.agg #[hT 46, .pointer (some ⟨t, 0, none⟩), .int .u64 409])) fun _ => Bind.bind (ReflectliteValue.parts (.agg #[hT 46, .pointer (some ⟨b, 0, none⟩), .int .u64 153])) _).run Tryd.prog W = _
  simp only [Sem.run_bind, partsBa, partsB, Result.andThen]
  simp [ReflectliteValue.flagAddr, loadVar, isAgg, underlying, Tryd.underlying46, loadCells, loadCellsFrom, hb, Result.andThen, directB, storeVar, Value.cells, storeCells, Addr.add]
  rw [run_store Tryd.prog W ⟨t, 0, none⟩ _ _ (by rfl)]
  simp [ht, hf]
theorem setW (t b : Nat) (p : ByteArray) (e o0 o1 : Value) (W : World) (he : e.oneCell' = true) (hb0 : W.cell? ⟨b, 0, none⟩ = some (.string p)) (hb1 : W.cell? ⟨b, 1, none⟩ = some e) (ht0 : W.cell? ⟨t, 0, none⟩ = some o0) (hf0 : W.frozen? ⟨t, 0, none⟩ = false)
    (ht1 : (W.setCell ⟨t, 0, none⟩ (.string p)).cell? ⟨t, 1, none⟩ = some o1) (hf1 : (W.setCell ⟨t, 0, none⟩ (.string p)).frozen? ⟨t, 1, none⟩ = false) :
    (ReflectliteValue.set #[.agg #[hT 42, .pointer (some ⟨t, 0, none⟩), .int .u64 409], .agg #[hT 42, .pointer (some ⟨b, 0, none⟩), .int .u64 153]]).run Tryd.prog W = .ok (.tuple #[]) ((W.setCell ⟨t, 0, none⟩ (.string p)).setCell ⟨t, 1, none⟩ e) := by
  show (Bind.bind (ReflectliteValue.parts (.agg #[hT 42, .pointer (some ⟨t, 0, none⟩), .int .u64 409])) fun _ => Bind.bind (ReflectliteValue.parts (.agg #[hT 42, .pointer (some ⟨b, 0, none⟩), .int .u64 153])) _).run Tryd.prog W = _
  simp only [Sem.run_bind, partsWa, partsW, Result.andThen]
  simp [ReflectliteValue.flagAddr, loadVar, isAgg, underlying, Tryd.underlying42, loadCells, loadCellsFrom, hb0, hb1, Result.andThen, directW, storeVar, Value.cells, storeCells, Addr.add]
  rw [run_store Tryd.prog W ⟨t, 0, none⟩ _ _ (by rfl)]
  simp [ht0, hf0]
  rw [run_store Tryd.prog _ ⟨t, 1, none⟩ _ _ he]
  simp [ht1, hf1]

/-! Two errors compared. -/
theorem compB : (Tryd.prog.info? 46).map (·.comparable) = some true := by kernel_rfl
theorem heldB : Tryd.prog.stoodInHeld 46 = false := by kernel_rfl
theorem fieldsB : (Tryd.prog.fieldsOf 46).toList.map (fun f => (f.name == "_", f.type, f.offset)) = [(false, 22, 0)] := by kernel_rfl
theorem eql_in_bare (c d : Int) (n : Nat) (w : World) : (Op.equalIn (n + 2) 46 (.agg #[.int .i64 c]) (.agg #[.int .i64 d])).run Tryd.prog w = .ok (c == d) w := by
  rw [run_equalIn_struct w (n + 1) 46 _ _ (by kernel_rfl) heldB]
  have hf := fieldsB
  generalize (Tryd.prog.fieldsOf 46).toList = fs at hf
  obtain ⟨f, rfl⟩ : ∃ f, fs = [f] := List.length_eq_one_iff.mp (by have := congrArg List.length hf; simpa using this)
  simp only [List.map_cons, List.map_nil, List.cons.injEq, Prod.mk.injEq, and_true] at hf
  obtain ⟨f1, f2, f3⟩ := hf
  have f1' : f.name ≠ "_" := by simpa using f1
  simp [Op.eqFields, f1', f2, f3, part, isAgg, underlying, Tryd.underlying22, Result.andThen, run_equalIn_int w n 22 .i64 .i64 c d Tryd.underlying22]
  by_cases h : c = d
  · simp [h]
  · simp [h]
theorem eql_bare (c d : Int) (w : World) : (binOp .eql 26 (.iface 46 (.agg #[.int .i64 c])) (.iface 46 (.agg #[.int .i64 d]))).run Tryd.prog w = .ok (.bool (c == d)) w := by
  obtain ⟨i, hi, hcmp⟩ := Option.map_eq_some_iff.1 compB
  have h : (Op.equalIn 10000 26 (.iface 46 (.agg #[.int .i64 c])) (.iface 46 (.agg #[.int .i64 d]))).run Tryd.prog w = .ok (c == d) w := by
    have h1 := eql_in_bare c d 9997 w
    show (Op.equalIn (9999 + 1) _ _ _).run _ _ = _
    rw [Op.equalIn]
    simp only [Sem.run_bind, run_underlying Tryd.underlying26, Result.andThen_ok]
    simp only [ne_eq, not_true_eq_false, if_false, typeInfo, Sem.run_bind, run_program, Result.andThen_ok, hi, Sem.run_pure, hcmp, Bool.not_true, Bool.false_eq_true]
    exact h1
  simp only [binOp]
  simp [Op.equal, Op.maxDepth, h]
theorem eql_with (p : ByteArray) (e : Value) (d : Int) (w : World) : (binOp .eql 26 (.iface 42 (.agg #[.string p, e])) (.iface 46 (.agg #[.int .i64 d]))).run Tryd.prog w = .ok (.bool false) w := run_eql_iface_types _ _ _ _ Tryd.underlying26 (by decide) w
theorem eql_nil_right (t : TypeId) (v : Value) (w : World) : (binOp .eql 26 (.iface t v) .nilIface).run Tryd.prog w = .ok (.bool false) w := by
  have h : ∀ d : Nat, (Op.equalIn (d + 1) 26 (.iface t v) .nilIface).run Tryd.prog w = .ok false w := fun d => by simp [Op.equalIn, run_underlying Tryd.underlying26]
  simp only [binOp]
  simp [Op.equal, Op.maxDepth, h 9999]
end Go.Proofs.YtnnkpeafhjokjaaDoor
