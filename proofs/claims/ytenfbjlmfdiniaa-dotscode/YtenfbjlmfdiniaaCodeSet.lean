/- The walks of a set's Code, the program's and the document's. -/
import Derived.Test.YtenfbjlmfdiniaaRefOf
import Derived.Test.YtenfbjlmfdiniaaCodes
namespace Go.Proofs.Ytenfbjlmfdiniaa
open Go.RowKit Go.Shelf

/-- A set's bytes. -/
def scode (l : List Int) (ds : List D) : List UInt8 := Vc.code l 16 ++ lcode ds
/-- What holds while the statement is walked. -/
structure CS (w : World) (l : List Int) (v : Value) (ds : List D) (W : World) : Prop where
  set : SetAt W w.heap.size l v
  dots : dotsIn W v ds
  below : Below w.heap.size w W
theorem CS.on {w : World} {l : List Int} {v : Value} {ds : List D} {W W' : World} (h : CS w l v ds W) (hb : Below W.heap.size W W') : CS w l v ds W' :=
  ⟨h.set.on hb, h.dots.on hb, bchain h.below hb⟩
theorem scode_len {l : List Int} {ds : List D} (hg : Go64 l) (hd : GoD ds) (hn : ds.length ≤ 1000000) : (Vc.code l 16).length + (lcode ds).length ≤ 200000000 := by
  have h1 := Vc.code_len (l := l) (fun k => (hg k).2) 16
  have h2 := lcodeTo_len hd hn ds.length
  rw [lcodeTo_all] at h2
  omega
/-- Two texts, one behind the other. -/
theorem cat_any (x y : List UInt8) (h : x.length + y.length ≤ 200000000) (w : World) : (binOp .add 9 (.string ⟨x.toArray⟩) (.string ⟨y.toArray⟩)).run Try.prog w = .ok (.string ⟨(x ++ y).toArray⟩) w := by
  have e : (⟨x.toArray⟩ : ByteArray) ++ ⟨y.toArray⟩ = ⟨(x ++ y).toArray⟩ := by rw [append_mk]
  have h9 : ¬ 9223372036854775807 < x.length + y.length := by omega
  rw [← e]
  go_simp

set_option maxRecDepth 20000 in
set_option maxHeartbeats 1000000 in
theorem codeSet_any (l : List Int) (hl : l.length = 16) (hg : Go64 l) (v : Value) (ds : List D) (w : World) (hd : dotsIn w v ds) (hn : ds.length ≤ 1000000) (hgd : GoD ds) :
    Calls Try.prog 30 #[setV l v] w fun e w' => e = .returned (.string ⟨(scode l ds).toArray⟩) ∧ Below w.heap.size w w' := by
  have hlen := scode_len hg hgd hn
  have HCat : Hid (∀ w, (binOp .add 9 (.string ⟨(Vc.code l 16).toArray⟩) (.string ⟨(lcode ds).toArray⟩)).run Try.prog w = .ok (.string ⟨(Vc.code l 16 ++ lcode ds).toArray⟩) w) := cat_any _ _ hlen
  have hCS : CS w l v ds (w.alloc (.cells (setC l v).toArray 26)).drew := ⟨SetAt.new w l v, hd.on (below_new _ _).drew, (below_new _ _).drew⟩
  rw [scode]
  go_enter Try.func30, Try.ntmps30
  go_wp2
  refine wp_region_held_drew (S := CS w l v ds) (by kernel_rfl) (hCS) (fun hH0 => ?_)
  refine held_take (i := 0) (o := { dst := some 3, op := Op.fieldAddr 26 (Operand.tmp 1) 0, type := 0, pos := "dots.go:115", after := #[], guard := none }) (v := .pointer (some ⟨w.heap.size, 0, none⟩)) (by kernel_rfl) (by kernel_rfl) (by kernel_rfl) (by kernel_rfl) (fun _ _ _ h => h) (by kernel_rfl) (fun _ _ => by kernel_rfl) hH0 ?_
  refine held_take (i := 1) (o := { dst := some 4, op := Op.load 23 (Operand.tmp 3), type := 23, pos := "dots.go:115", after := #[{ on := 0, ground := Ground.data }], guard := none }) (v := vecV l) (by kernel_rfl) (by kernel_rfl) (by kernel_rfl) (by kernel_rfl) (fun _ _ _ h => h) (by kernel_rfl) (fun _ h => exec_setVec rfl hl (by kernel_rfl) h.set) hH0 ?_
  refine held_take (i := 3) (o := { dst := some 6, op := Op.fieldAddr 26 (Operand.tmp 1) 1, type := 0, pos := "dots.go:115", after := #[], guard := none }) (v := .pointer (some ⟨w.heap.size, 16, none⟩)) (by kernel_rfl) (by kernel_rfl) (by kernel_rfl) (by kernel_rfl) (fun _ _ _ h => h) (by kernel_rfl) (fun _ _ => by kernel_rfl) hH0 ?_
  refine held_take (i := 4) (o := { dst := some 7, op := Op.load 24 (Operand.tmp 6), type := 24, pos := "dots.go:115", after := #[{ on := 3, ground := Ground.data }], guard := none }) (v := v) (by kernel_rfl) (by kernel_rfl) (by kernel_rfl) (by kernel_rfl) (fun _ _ _ h => h) (by kernel_rfl) (fun _ h => exec_more rfl (by kernel_rfl) (h.set.more hl)) hH0 ?_
  refine held_callX (i := 2) (o := { dst := some 5, op := Op.call { callee := Callee.value (Operand.func 62), args := #[Operand.tmp 4], argTypes := #[23] }, type := 9, pos := "dots.go:115", after := #[{ on := 1, ground := Ground.data }], guard := none }) (F := 62) (vs := #[vecV l]) (by kernel_rfl) (by kernel_rfl) (by kernel_rfl) (fun _ => by kernel_rfl) (code_vec l hl hg _) ?_
  rintro e w1 ⟨rfl, hb1⟩
  have hH1 := hH0.on hb1
  refine ⟨.string ⟨(Vc.code l 16).toArray⟩, rfl, hH1, ?_⟩
  refine held_callX (i := 5) (o := { dst := some 8, op := Op.call { callee := Callee.value (Operand.func 32), args := #[Operand.tmp 7], argTypes := #[24] }, type := 9, pos := "dots.go:115", after := #[{ on := 4, ground := Ground.data }, { on := 2, ground := Ground.chain }], guard := none }) (F := 32) (vs := #[v]) (by kernel_rfl) (by kernel_rfl) (by kernel_rfl) (fun _ => by kernel_rfl) (list_any v ds _ hH1.dots hn hgd) ?_
  rintro e w2 ⟨rfl, hb2⟩
  have hH2 := hH1.on hb2
  refine ⟨.string ⟨(lcode ds).toArray⟩, rfl, hH2, ?_⟩
  refine held_take (i := 6) (o := { dst := some 9, op := Op.binOp BinOp.add 9 (Operand.tmp 5) (Operand.tmp 8) 9, type := 9, pos := "dots.go:115", after := #[{ on := 2, ground := Ground.data }, { on := 5, ground := Ground.data }], guard := none }) (v := .string ⟨(Vc.code l 16 ++ lcode ds).toArray⟩) (by kernel_rfl) (by kernel_rfl) (by kernel_rfl) (by kernel_rfl) (fun _ _ _ h => h) (by kernel_rfl) (fun W _ => exec_bin rfl (by kernel_rfl) (by kernel_rfl) (fun _ => by kernel_rfl) (HCat.out) W) hH2 ?_
  refine held_do (i := 7) (o := { dst := some 2, op := Op.assign (Operand.tmp 9), type := 9, pos := "dots.go:115", after := #[{ on := 6, ground := Ground.data }, { on := 5, ground := Ground.chain }, { on := 0, ground := Ground.phase }, { on := 1, ground := Ground.phase }, { on := 2, ground := Ground.phase }, { on := 3, ground := Ground.phase }, { on := 4, ground := Ground.phase }, { on := 5, ground := Ground.phase }, { on := 6, ground := Ground.phase }], guard := none }) (v := .string ⟨(Vc.code l 16 ++ lcode ds).toArray⟩) (by kernel_rfl) (by kernel_rfl) (by kernel_rfl) (by kernel_rfl) hH2 ?_
  refine wpAnyH_done (by kernel_rfl) ?_ _
  simp only [Act.put, List.setIfInBounds_toArray, List.set_cons_zero, List.set_cons_succ]
  go_wp2
  go_ret
  exact ⟨rfl, hH2.below⟩

set_option maxRecDepth 20000 in
set_option maxHeartbeats 1000000 in
theorem refCodeSet_any (l : List Int) (hl : l.length = 16) (hg : Go64 l) (v : Value) (ds : List D) (w : World) (hd : dotsIn w v ds) (hn : ds.length ≤ 1000000) (hgd : GoD ds) :
    Calls Try.prog 31 #[setV l v] w fun e w' => e = .returned (.string ⟨(scode l ds).toArray⟩) ∧ Below w.heap.size w w' := by
  have hlen := scode_len hg hgd hn
  have HCat : Hid (∀ w, (binOp .add 9 (.string ⟨(Vc.code l 16).toArray⟩) (.string ⟨(lcode ds).toArray⟩)).run Try.prog w = .ok (.string ⟨(Vc.code l 16 ++ lcode ds).toArray⟩) w) := cat_any _ _ hlen
  have hCS : CS w l v ds (w.alloc (.cells (setC l v).toArray 26)).drew := ⟨SetAt.new w l v, hd.on (below_new _ _).drew, (below_new _ _).drew⟩
  rw [scode]
  go_enter Try.func31, Try.ntmps31
  go_wp2
  refine wp_region_held_drew (S := CS w l v ds) (by kernel_rfl) (hCS) (fun hH0 => ?_)
  refine held_take (i := 0) (o := { dst := some 3, op := Op.fieldAddr 26 (Operand.tmp 1) 0, type := 0, pos := "ref.go:154", after := #[], guard := none }) (v := .pointer (some ⟨w.heap.size, 0, none⟩)) (by kernel_rfl) (by kernel_rfl) (by kernel_rfl) (by kernel_rfl) (fun _ _ _ h => h) (by kernel_rfl) (fun _ _ => by kernel_rfl) hH0 ?_
  refine held_take (i := 1) (o := { dst := some 4, op := Op.load 23 (Operand.tmp 3), type := 23, pos := "ref.go:154", after := #[{ on := 0, ground := Ground.data }], guard := none }) (v := vecV l) (by kernel_rfl) (by kernel_rfl) (by kernel_rfl) (by kernel_rfl) (fun _ _ _ h => h) (by kernel_rfl) (fun _ h => exec_setVec rfl hl (by kernel_rfl) h.set) hH0 ?_
  refine held_take (i := 3) (o := { dst := some 6, op := Op.fieldAddr 26 (Operand.tmp 1) 1, type := 0, pos := "ref.go:154", after := #[], guard := none }) (v := .pointer (some ⟨w.heap.size, 16, none⟩)) (by kernel_rfl) (by kernel_rfl) (by kernel_rfl) (by kernel_rfl) (fun _ _ _ h => h) (by kernel_rfl) (fun _ _ => by kernel_rfl) hH0 ?_
  refine held_take (i := 4) (o := { dst := some 7, op := Op.load 24 (Operand.tmp 6), type := 24, pos := "ref.go:154", after := #[{ on := 3, ground := Ground.data }], guard := none }) (v := v) (by kernel_rfl) (by kernel_rfl) (by kernel_rfl) (by kernel_rfl) (fun _ _ _ h => h) (by kernel_rfl) (fun _ h => exec_more rfl (by kernel_rfl) (h.set.more hl)) hH0 ?_
  refine held_callX (i := 2) (o := { dst := some 5, op := Op.call { callee := Callee.value (Operand.func 63), args := #[Operand.tmp 4], argTypes := #[23] }, type := 9, pos := "ref.go:154", after := #[{ on := 1, ground := Ground.data }], guard := none }) (F := 63) (vs := #[vecV l]) (by kernel_rfl) (by kernel_rfl) (by kernel_rfl) (fun _ => by kernel_rfl) (refCode_vec l hl hg _) ?_
  rintro e w1 ⟨rfl, hb1⟩
  have hH1 := hH0.on hb1
  refine ⟨.string ⟨(Vc.code l 16).toArray⟩, rfl, hH1, ?_⟩
  refine held_callX (i := 5) (o := { dst := some 8, op := Op.call { callee := Callee.value (Operand.func 33), args := #[Operand.tmp 7], argTypes := #[24] }, type := 9, pos := "ref.go:154", after := #[{ on := 4, ground := Ground.data }, { on := 2, ground := Ground.chain }], guard := none }) (F := 33) (vs := #[v]) (by kernel_rfl) (by kernel_rfl) (by kernel_rfl) (fun _ => by kernel_rfl) (refList_any v ds _ hH1.dots hn hgd) ?_
  rintro e w2 ⟨rfl, hb2⟩
  have hH2 := hH1.on hb2
  refine ⟨.string ⟨(lcode ds).toArray⟩, rfl, hH2, ?_⟩
  refine held_take (i := 6) (o := { dst := some 9, op := Op.binOp BinOp.add 9 (Operand.tmp 5) (Operand.tmp 8) 9, type := 9, pos := "ref.go:154", after := #[{ on := 2, ground := Ground.data }, { on := 5, ground := Ground.data }], guard := none }) (v := .string ⟨(Vc.code l 16 ++ lcode ds).toArray⟩) (by kernel_rfl) (by kernel_rfl) (by kernel_rfl) (by kernel_rfl) (fun _ _ _ h => h) (by kernel_rfl) (fun W _ => exec_bin rfl (by kernel_rfl) (by kernel_rfl) (fun _ => by kernel_rfl) (HCat.out) W) hH2 ?_
  refine held_do (i := 7) (o := { dst := some 2, op := Op.assign (Operand.tmp 9), type := 9, pos := "ref.go:154", after := #[{ on := 6, ground := Ground.data }, { on := 5, ground := Ground.chain }, { on := 0, ground := Ground.phase }, { on := 1, ground := Ground.phase }, { on := 2, ground := Ground.phase }, { on := 3, ground := Ground.phase }, { on := 4, ground := Ground.phase }, { on := 5, ground := Ground.phase }, { on := 6, ground := Ground.phase }], guard := none }) (v := .string ⟨(Vc.code l 16 ++ lcode ds).toArray⟩) (by kernel_rfl) (by kernel_rfl) (by kernel_rfl) (by kernel_rfl) hH2 ?_
  refine wpAnyH_done (by kernel_rfl) ?_ _
  simp only [Act.put, List.setIfInBounds_toArray, List.set_cons_zero, List.set_cons_succ]
  go_wp2
  go_ret
  exact ⟨rfl, hH2.below⟩
end Go.Proofs.Ytenfbjlmfdiniaa
