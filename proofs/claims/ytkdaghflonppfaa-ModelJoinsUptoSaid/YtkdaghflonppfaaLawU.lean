/- The frame of the laws of this seat whose arguments are of a bounded bulk. -/
import Derived.Test.YtkdaghflonppfaaLaw
import Derived.Test.YtkdaghflonppfaaRows
import Derived.JoinedCond
import Derived.Deep.CondSized
namespace Go.Proofs.Ytkdaghflonppfaa
open Go.ChangeShapes Go.WideShapes Go.ChangeAt Go.RowKit

theorem bulk_one {H : Type} (d : DataW H) : 1 ≤ Rows.uptoBulk d := by
  cases d with
  | lit l => cases l <;> simp [Rows.uptoBulk]
  | _ => simp [Rows.uptoBulk]
theorem bulk_len {H : Type} : ∀ l : List (DataW H), l.length ≤ Rows.uptoBulkAll l
  | [] => Nat.zero_le _
  | x :: r => by
    have h1 := bulk_one x
    have h2 := bulk_len r
    simp only [Rows.uptoBulkAll, List.length_cons]
    omega
theorem bulk_mem {H : Type} {d : DataW H} : ∀ {l : List (DataW H)}, d ∈ l → Rows.uptoBulk d ≤ Rows.uptoBulkAll l
  | x :: r, h => by
    simp only [Rows.uptoBulkAll]
    rcases List.mem_cons.1 h with e | e
    · rw [e]; omega
    · have := bulk_mem e; omega
theorem bulk_slice {H : Type} {ds : List (DataW H)} (h : Rows.uptoBulkAll ds ≤ 1048576) {el rest : List (DataW H)} (hm : DataW.slice el rest ∈ ds) : el.length ≤ 1048576 := by
  have h1 := bulk_mem hm
  have h2 := bulk_len el
  simp only [Rows.uptoBulk] at h1
  omega
theorem bulk_string {H : Type} {ds : List (DataW H)} (h : Rows.uptoBulkAll ds ≤ 1048576) {s : ByteArray} (hm : DataW.lit (H := H) (.string s.data.toList) ∈ ds) : s.size ≤ 1048576 := by
  have h1 := bulk_mem hm
  simp only [Rows.uptoBulk] at h1
  have e : s.data.toList.length = s.size := by rw [Array.length_toList]; rfl
  omega
/-- A law, lifted, its arguments of a bounded bulk. -/
theorem law_lift_cond {C : Checked} {os : Os} {f : FuncId} {fn : Func} {s : ChangeSpec} {tb : TypeId} {H : Type} {enc : TypeId × Value → H} {F : Stop.Interp}
    (own : ownKnob C.prog.godebug = none) (started : os.Started) (noInit : C.prog.inits.idxOf? f = none) (hfn : C.prog.funcs[f]? = some fn)
    (hl : laidOutB C.prog = true) (hr : (fn.params.toList.all fun t => C.prog.readableRec t && decide (t < C.prog.types.size)) = true) (hrt : fn.resultTypes = #[tb]) (hb : C.prog.underlying tb = some .bool) (hv : s.vars = [])
    (hf : ∀ ds : List (DataW H), ds.length = fn.params.size → s.fn H (ds ++ []) = { results := [.lit (.bool true)], args := ds })
    (witness : ∃ (w : World) (tape : Tape) (i : Input), w.os = os ∧ (w.forCall tape i).Shaped C.prog ∧ i.vars = [] ∧ Input.okWide C.prog (w.forCall tape i) .any w.heap.size f i ∧
      (Rows.OpenSpec.upto s).pre6 enc C.prog fn [] false (w.forCall tape i).memory i.args ∧ ({} : Assume).holds C.prog (lone (Frame.enter C.prog f i.args .normal) [] (w.forCall tape i)))
    (walk : ∀ (W : World) (base : Nat) (args : Array Value) (ds : List (DataW H)) (ps : List MemPlace),
      (∀ (j : Nat) t v, fn.params[j]? = some t → args[j]? = some v → Value.okWide C.prog W .any base t v) →
      DataW.TrodAll enc C.prog W 0 (fun _ => true) true fn.params.toList args.toList ds ps →
      (DataW.weightsEach C.prog fn.params.toList ds).all (· ≤ reachBytes) = true → Rows.uptoBulkAll ds ≤ 1048576 →
      Calls C.prog f args W fun e W' => e = .returned (.bool true) ∧ Below W.heap.size W W') :
    ReturnsInHanded {} C os f .any ((Rows.OpenSpec.upto s).pre6 enc C.prog fn [] false) (((Rows.OpenSpec.upto s).at F).post enc C.prog fn false true false false) := by
  refine returnsInHanded_of_cond_sized (s := Rows.OpenSpec.upto s) (k := Rows.uptoSmall) rfl own started noInit hfn witness ?_
  intro W base args ds gs before hval hW _ hk hsz _
  have hr' : ∀ t ∈ fn.params.toList, C.prog.readableRec t = true ∧ t < C.prog.types.size := fun t ht => by
    have := List.all_eq_true.1 hr t ht
    simpa using this
  have hW' := hW
  obtain ⟨p, q, hA, hV, hpq, _, _⟩ := hW'
  have hvs : (Rows.OpenSpec.upto s).vars = [] := hv
  rw [hvs] at hV
  cases gs with
  | cons g gs => exact hV.elim
  | nil =>
    have hlen : ds.length = fn.params.size := by
      have : ∀ {ts : List TypeId} {vs : List Value} {xs : List (DataW H)} {ps : List MemPlace}, DataW.TrodAll enc C.prog W 0 (fun _ => true) true ts vs xs ps → xs.length = ts.length := by
        intro ts
        induction ts with
        | nil => intro vs xs ps h; cases vs <;> cases xs <;> first | rfl | exact h.elim
        | cons t ts ih =>
          intro vs xs ps h
          cases vs with
          | nil => exact h.elim
          | cons v vs =>
            cases xs with
            | nil => exact h.elim
            | cons x xs =>
              obtain ⟨_, _, _, h2, _⟩ := h
              simp [ih h2]
      simpa using this hA
    have hvt : (Rows.OpenSpec.upto s).bare.plain.varTypes C.prog = [] := by
      unfold DataSpec.varTypes
      rw [show (Rows.OpenSpec.upto s).bare.plain.vars = [] from hv]
      rfl
    rw [List.append_nil, hvt, List.append_nil] at hsz
    rw [List.append_nil] at hk
    exact (walk W base args ds p hval hA hsz (of_decide_eq_true hk)).mono fun e W' ⟨he, hB⟩ => ⟨_, he, law_met (s := s) hl hr' hrt hb hv (hf ds hlen) hW hB⟩
end Go.Proofs.Ytkdaghflonppfaa
