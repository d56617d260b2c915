/- Contracts of package level, as the walks of the statements use them. -/
import Derived.Test.YtfnmmknbjfmagaaLvK
import Derived.Test.YtfnmmknbjfmagaaLvO
namespace Go.Proofs.Ytfnmmknbjfmagaa.Le
open Go.RowKit
set_option linter.unusedVariables false
open Go.Proofs.Ytfnmmknbjfmagaa.Rw
open Go.Proofs.Ytfnmmknbjfmagaa.Da
theorem put_any (B : Bs) (l : List Lv) (v : Value) (o1 o2 o3 o4 o5 : Int) (w : World) (h : LL B l v w) (hB : B.le w.heap.size) (hm : l.length ≤ 1000) (hf : (flat l).length ≤ 1000) :
    Calls Try.prog 36 #[v, .agg #[.int .i64 o1, .int .i64 o2, .int .i64 o3, .int .i64 o4, .int .i64 o5]] w (PostP B l (o1, o2, o3, o4, o5) w) := put_big B l v o1 o2 o3 o4 o5 w h hB (by omega) (by omega)
theorem remove_any (B : Bs) (l : List Lv) (v : Value) (id : Int) (w : World) (h : LL B l v w) (hB : B.le w.heap.size) (hm : l.length ≤ 1000) (hf : (flat l).length ≤ 1000) :
    Calls Try.prog 27 #[v, .int .i64 id] w (Post3 (LL B (rem l id)) (fnd (flat l) id) w) := remove_big B l v id w h hB (by omega) (by omega)
theorem find_any (B : Bs) (l : List Lv) (v : Value) (id : Int) (w : World) (h : LL B l v w) (hB : B.le w.heap.size) (hm : l.length ≤ 1000) (hf : (flat l).length ≤ 1000) :
    Calls Try.prog 23 #[v, .int .i64 id] w fun e w' => e = .returned (fV (fnd (flat l) id)) ∧ Below w.heap.size w w' := find_big B l v id w h (by omega) (by omega)
theorem best_any (B : Bs) (l : List Lv) (v : Value) (w : World) (h : LL B l v w) (hB : B.le w.heap.size) (hm : l.length ≤ 1000) (hf : (flat l).length ≤ 1000) :
    Calls Try.prog 43 #[v] w fun e w' => e = .returned (fV ((flat l).head?)) ∧ Below w.heap.size w w' := best_big B l v w h (by omega) (by omega)
theorem count_any (B : Bs) (l : List Lv) (v : Value) (w : World) (h : LL B l v w) (hB : B.le w.heap.size) (hm : l.length ≤ 1000) (hf : (flat l).length ≤ 1000) :
    Calls Try.prog 59 #[v] w fun e w' => e = .returned (.int .i64 ((flat l).length : Nat)) ∧ Below w.heap.size w w' := count_big B l v w h (by omega) (by omega)
theorem ords_any (B : Bs) (l : List Lv) (v : Value) (w : World) (h : LL B l v w) (hB : B.le w.heap.size) (hm : l.length ≤ 1000) (hf : (flat l).length ≤ 1000) :
    Calls Try.prog 22 #[v] w (Post (OL B (flat l)) w) := ords_big B l v w h hB (by omega) (by omega)
theorem right_any (B : Bs) (l : List Lv) (v : Value) (s : Int) (w : World) (h : LL B l v w) (hB : B.le w.heap.size) (hm : l.length ≤ 1000) (hf : (flat l).length ≤ 1000) :
    Calls Try.prog 45 #[v, .int .i64 s] w fun e w' => e = .returned (.bool (rightL s l)) ∧ Below w.heap.size w w' := right_big B l v s w h hB (by omega) (by omega)
end Go.Proofs.Ytfnmmknbjfmagaa.Le
