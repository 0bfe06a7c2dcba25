/- strings.Join, which lies proved over any program: laid at this program; at a row of one's own. -/
import Derived.Shelf.Strings.OnBuilder
import Derived.Test.YtghkjbekjkejpaaChecked
import Derived.Test.YtghkjbekjkejpaaNamesAll
namespace Go.Proofs.Ytghkjbekjkejpaa.J
open Go.Shelf Go.RowKit

/-- Which number the library's functions, types and variables have here. -/
def ren : Ren := ⟨fun | 156 => 83 | 165 => 96 | 166 => 38 | 169 => 42 | 240 => 60 | 241 => 101 | 276 => 82 | 277 => 103 | n => n, fun | 0 => 0 | 3 => 3 | 4 => 4 | 5 => 5 | 9 => 9 | 20 => 20 | 31 => 42 | 37 => 57 | 70 => 56 | 72 => 59 | 75 => 61 | 76 => 62 | 80 => 68 | 127 => 88 | 164 => 98 | n => n, fun | n => n⟩
theorem lay156 : Lays.n156 Try.prog ren := {
  mixed := by kernel_rfl
  f156 := Try.func83.trans (congrArg some (by kernel_rfl))
  f165 := Try.func96.trans (congrArg some (by kernel_rfl))
  f166 := Try.func38.trans (congrArg some (by kernel_rfl))
  f169 := Try.func42.trans (congrArg some (by kernel_rfl))
  f240 := Try.func60.trans (congrArg some (by kernel_rfl))
  f241 := Try.func101.trans (congrArg some (by kernel_rfl))
  f276 := Try.func82.trans (congrArg some (by kernel_rfl))
  f277 := Try.func103.trans (congrArg some (by kernel_rfl))
  t0 := Try.underlying0, a0 := Try.isAgg0, z0 := Try.sizeOf0, v0 := Try.zeroValue0
  t3 := Try.underlying3, a3 := Try.isAgg3, z3 := Try.sizeOf3, v3 := Try.zeroValue3
  t4 := Try.underlying4, a4 := Try.isAgg4, z4 := Try.sizeOf4, v4 := Try.zeroValue4
  t9 := Try.underlying9, a9 := Try.isAgg9, z9 := Try.sizeOf9, v9 := Try.zeroValue9
  t20 := Try.underlying20, a20 := Try.isAgg20, z20 := Try.sizeOf20, v20 := Try.zeroValue20
  t31 := Try.underlying42, a31 := Try.isAgg42, z31 := Try.sizeOf42, v31 := Try.zeroValue42
  t37 := Try.underlying57, a37 := Try.isAgg57, z37 := Try.sizeOf57, v37 := Try.zeroValue57
  t70 := Try.underlying56, a70 := Try.isAgg56, z70 := Try.sizeOf56, v70 := Try.zeroValue56
  t72 := Try.underlying59, a72 := Try.isAgg59, z72 := Try.sizeOf59, v72 := Try.zeroValue59
  t75 := Try.underlying61, a75 := Try.isAgg61, z75 := Try.sizeOf61, v75 := Try.zeroValue61
  t76 := Try.underlying62, a76 := Try.isAgg62, z76 := Try.sizeOf62, v76 := Try.zeroValue62
  t127 := Try.underlying88, a127 := Try.isAgg88, z127 := Try.sizeOf88, v127 := Try.zeroValue88
  t164 := Try.underlying98, a164 := Try.isAgg98, z164 := Try.sizeOf98, v164 := Try.zeroValue98 }
theorem layX : Builder.Extra Try.prog ren := {
  sizeBuilder := by kernel_rfl
  liesBuilder := by kernel_rfl
  t5 := Try.underlying5, a5 := Try.isAgg5, z5 := Try.sizeOf5, v5 := Try.zeroValue5
  infoByte := by kernel_rfl
  cellsByte := by kernel_rfl
  sizeByte := by kernel_rfl
  neB5 := by decide }
end Go.Proofs.Ytghkjbekjkejpaa.J
namespace Go.Proofs.Ytghkjbekjkejpaa.U
open Go.Shelf Go.RowKit

/-- Texts that lie in a row of one's own, joined. -/
theorem join_own {B : Nat} {u : Value} {ys : List (List UInt8)} {w : World} (sep : List UInt8) (h : w.ownsRow B 9 1 u ys.length (cellsS ys)) (hn : ys.length ≤ 140737488355328) (hlen : (Lib.join ys sep).length ≤ 140737488355328) :
    Calls Try.prog 83 #[u, .string ⟨sep.toArray⟩] w fun e w' => e = .returned (.string ⟨(Lib.join ys sep).toArray⟩) ∧ Below w.heap.size w w' := by
  have hmap : (ys.map fun x => (⟨x.toArray⟩ : ByteArray)).map (·.data.toList) = ys := by
    rw [List.map_map]
    conv => rhs; rw [← List.map_id ys]
    apply List.map_congr_left
    intro x _
    simp
  rcases h.2 with ⟨rfl, h0⟩ | ⟨g, cap, cur, rfl, hB, hg, hle, _⟩
  · obtain rfl : ys = [] := List.eq_nil_of_length_eq_zero h0
    refine (Any.strings_Join_none J.lay156 J.layX none 0 ⟨sep.toArray⟩ w).mono fun e w' ⟨he, hw⟩ => ⟨?_, hw ▸ Below.refl _ _⟩
    rw [he]; rfl
  · have hc := Any.strings_Join J.lay156 J.layX g 0 cap (ys.map fun x => (⟨x.toArray⟩ : ByteArray)) ⟨sep.toArray⟩ w (fun j x hx => by
      have h1 := h.cells rfl j (.string x) (by
        rw [List.getElem?_map] at hx
        obtain ⟨y, hy, rfl⟩ := Option.map_eq_some_iff.1 hx
        simp [cellsS, hy])
      rw [Addr.add_lit] at h1
      exact h1) (heap_lt hg) (by rw [List.length_map]; exact hn) (by rw [List.length_map]; exact hle) (by rw [hmap]; simpa using hlen)
    rw [hmap, List.length_map] at hc
    exact hc

end Go.Proofs.Ytghkjbekjkejpaa.U
