/- What the door lays: the program's errors are errors; named variables read again. -/
import Derived.Test.YtgbbobjkhpplkaaDoorCh5
import Derived.Test.YtgbbobjkhpplkaaDoorRows
import Derived.Stop.LaidErr
import Derived.MakeChecks
import Derived.OpenVars
namespace Go.Proofs.YtgbbobjkhpplkaaDoor
open Go Go.RowKit Go.ChangeShapes

theorem trodVars_len {H : Type} {enc : TypeId × Value → H} {P : Program} {w : World} {sp : Nat → Bool} : ∀ {ns : List String} {gs : List (DataW H)} {ps : List MemPlace}, DataW.TrodVars enc P w sp ns gs ps → gs.length = ns.length
  | [], [], _, _ => rfl
  | [], _ :: _, _, h => h.elim
  | _ :: _, [], _, h => h.elim
  | _ :: ns, _ :: gs, _, h => by
    obtain ⟨_, _, _, _, _, _, _, _, _, _, h', _⟩ := h
    rw [List.length_cons, List.length_cons, trodVars_len h']

theorem errRow (u : TypeId) (h : Tryd.prog.typeName? 3 u = some "*errors.errorString") : u = 132 :=
  typeName_ptr_named (nm := "errors.errorString") (by rw [show "*" ++ "errors.errorString" = "*errors.errorString" by decide]; kernel_rfl) (by kernel_rfl) (by decide) u (by rw [show "*" ++ "errors.errorString" = "*errors.errorString" by decide]; exact h)

theorem err_of_laid {n : String} {text : List UInt8} {r : List (String × DataW Unit)} {W : World} {g : Nat} (h : laidMet Tryd.prog ((n, .iface "*errors.errorString" (.ptr (.agg [.lit (.string text)]))) :: r) W)
    (hg : Tryd.prog.globalNamed n = some g) (ht : (Tryd.prog.globals[g]?).map (·.type) = some 70) : ErrAt W g ∧ laidMet Tryd.prog r W := by
  obtain ⟨a, s, hv, _⟩ := laid_sentinel h hg ht Tryd.underlying70 errRow Tryd.underlying132 Tryd.underlying153 rfl rfl Tryd.underlying9 (by kernel_rfl) (by kernel_rfl)
  have hc : W.cell? ⟨g, 0, none⟩ = some (.iface 132 (.pointer (some a))) := by simpa using World.var?_cell hg hv 0
  refine ⟨⟨_, a, hc, ?_⟩, h.tail⟩
  rcases Nat.lt_or_ge g W.heap.size with h' | h'
  · exact h'
  · simp [World.cell?, Array.getElem?_eq_none h'] at hc

theorem errs_WErrs {W : World} (h : laidMetH Tryd.prog [("loop.example/instancesearch/impl.errCount", Rows.laid_loop_example_instancesearch_impl_errCount), ("loop.example/instancesearch/impl.errName", Rows.laid_loop_example_instancesearch_impl_errName), ("loop.example/instancesearch/impl.errSupers", Rows.laid_loop_example_instancesearch_impl_errSupers), ("loop.example/instancesearch/impl.errClass", Rows.laid_loop_example_instancesearch_impl_errClass), ("loop.example/instancesearch/impl.errType", Rows.laid_loop_example_instancesearch_impl_errType), ("loop.example/instancesearch/impl.errHead", Rows.laid_loop_example_instancesearch_impl_errHead), ("loop.example/instancesearch/impl.errVars", Rows.laid_loop_example_instancesearch_impl_errVars)] W) : WErrs W := by
  rw [MakeChecks.laidMetH_plain _ _ _ (by kernel_rfl)] at h
  obtain ⟨h1, h⟩ := err_of_laid (g := 0) h (by kernel_rfl) (by kernel_rfl)
  obtain ⟨h2, h⟩ := err_of_laid (g := 2) h (by kernel_rfl) (by kernel_rfl)
  obtain ⟨h3, h⟩ := err_of_laid (g := 3) h (by kernel_rfl) (by kernel_rfl)
  obtain ⟨h4, h⟩ := err_of_laid (g := 4) h (by kernel_rfl) (by kernel_rfl)
  obtain ⟨h5, h⟩ := err_of_laid (g := 5) h (by kernel_rfl) (by kernel_rfl)
  obtain ⟨h6, h⟩ := err_of_laid (g := 1) h (by kernel_rfl) (by kernel_rfl)
  obtain ⟨h7, h⟩ := err_of_laid (g := 6) h (by kernel_rfl) (by kernel_rfl)
  exact ⟨h1, h2, h3, h4, h5, h6, h7⟩

end Go.Proofs.YtgbbobjkhpplkaaDoor
