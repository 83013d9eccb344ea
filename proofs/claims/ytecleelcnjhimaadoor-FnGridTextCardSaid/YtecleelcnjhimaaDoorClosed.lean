/- The facts of the form that hang on the head of the translation, shown over the head as a list of signs. No condition. -/
import Derived.Test.YtecleelcnjhimaaDoorRows
import Derived.JoinedOf
import Derived.ClosedOfChecked
namespace Go.Proofs.YtecleelcnjhimaaDoor
set_option maxRecDepth 100000

def blank : Char := Char.ofNat 32
theorem words_cons : ∀ (w r : List Char), (w.all (· != blank)) = true → wordsSigns (w ++ blank :: r) = w :: wordsSigns r
  | [], r, _ => rfl
  | c :: w, r, h => by
    simp only [List.all_cons, Bool.and_eq_true, bne_iff_ne, ne_eq] at h
    have ih := words_cons w r h.2
    rw [List.cons_append]
    rw [wordsSigns.eq_3 _ _ (fun e => h.1 e), ih]
theorem words_end : ∀ (w : List Char), (w.all (· != blank)) = true → wordsSigns w = [w]
  | [], _ => rfl
  | c :: w, h => by
    simp only [List.all_cons, Bool.and_eq_true, bne_iff_ne, ne_eq] at h
    have ih := words_end w h.2
    rw [wordsSigns.eq_3 _ _ (fun e => h.1 e), ih]
def headWord0 : List Char := [104, 97, 114, 110, 101, 115, 115].map Char.ofNat
def headWord1 : List Char := [51, 50, 100, 55, 51, 53, 51, 55, 56, 101, 56, 52, 52, 101, 99, 98, 48, 51, 51, 50, 56, 97, 102, 55, 52, 57, 55, 50, 53, 100, 101, 48, 102, 53, 55, 56, 
    57, 100, 99, 99, 53, 101, 48, 50, 97, 99, 100, 54, 53, 100, 50, 97, 102, 48, 97, 97, 48, 51, 57, 100, 55, 57, 101, 50].map Char.ofNat
def headWord2 : List Char := [99, 117, 116].map Char.ofNat
def headWord3 : List Char := [97, 116].map Char.ofNat
def headWord4 : List Char := [108, 111, 111, 112, 46, 101, 120, 97, 109, 112, 108, 101, 47, 108, 105, 110, 107, 101, 100, 114, 111, 111, 116, 115, 47, 108, 97, 119, 115, 46, 70, 
    110, 71, 114, 105, 100, 84, 101, 120, 116].map Char.ofNat
def headWord5 : List Char := [108, 111, 111, 112, 46, 101, 120, 97, 109, 112, 108, 101, 47, 108, 105, 110, 107, 101, 100, 114, 111, 111, 116, 115, 47, 108, 97, 119, 115, 46, 70, 
    110, 69, 120, 97, 99, 116, 71, 114, 105, 100, 86, 97, 108, 105, 100].map Char.ofNat
def headWord6 : List Char := [108, 111, 111, 112, 46, 101, 120, 97, 109, 112, 108, 101, 47, 108, 105, 110, 107, 101, 100, 114, 111, 111, 116, 115, 47, 108, 97, 119, 115, 46, 70, 
    110, 69, 120, 97, 99, 116, 70, 111, 114, 109, 97, 116, 71, 114, 105, 100].map Char.ofNat
def headWord7 : List Char := [108, 111, 111, 112, 46, 101, 120, 97, 109, 112, 108, 101, 47, 108, 105, 110, 107, 101, 100, 114, 111, 111, 116, 115, 47, 108, 97, 119, 115, 46, 70, 
    110, 69, 120, 97, 99, 116, 80, 97, 114, 115, 101, 71, 114, 105, 100].map Char.ofNat
def headWord8 : List Char := [108, 111, 111, 112, 46, 101, 120, 97, 109, 112, 108, 101, 47, 108, 105, 110, 107, 101, 100, 114, 111, 111, 116, 115, 47, 108, 97, 119, 115, 46, 70, 
    110, 69, 120, 97, 99, 116, 79, 112, 101, 110, 65, 108, 108].map Char.ofNat
def headWord9 : List Char := [108, 111, 111, 112, 46, 101, 120, 97, 109, 112, 108, 101, 47, 108, 105, 110, 107, 101, 100, 114, 111, 111, 116, 115, 47, 108, 97, 119, 115, 46, 70, 
    110, 69, 120, 97, 99, 116, 84, 117, 114, 110, 71, 114, 105, 100].map Char.ofNat
theorem head_text : Tryd.prog.initOrder = String.ofList (headWord0 ++ blank :: (headWord1 ++ blank :: (headWord2 ++ blank :: (headWord3 ++ blank :: (headWord4 ++ blank :: (headWord5 ++ blank :: (headWord6 ++ blank :: (headWord7 ++ blank :: (headWord8 ++ blank :: (headWord9)))))))))) := by kernel_rfl
theorem head_words : wordsSigns Tryd.prog.initOrder.toList = [headWord0, headWord1, headWord2, headWord3, headWord4, headWord5, headWord6, headWord7, headWord8, headWord9] := by
  rw [head_text, String.toList_ofList, words_cons headWord0 _ (by kernel_rfl), words_cons headWord1 _ (by kernel_rfl), words_cons headWord2 _ (by kernel_rfl), words_cons headWord3 _ (by kernel_rfl), words_cons headWord4 _ (by kernel_rfl), words_cons headWord5 _ (by kernel_rfl), words_cons headWord6 _ (by kernel_rfl), words_cons headWord7 _ (by kernel_rfl), words_cons headWord8 _ (by kernel_rfl), words_end _ (by kernel_rfl)]
theorem head_list : behindMainWord (wordsSigns Tryd.prog.initOrder.toList) = [headWord2, headWord3, headWord4, headWord5, headWord6, headWord7, headWord8, headWord9] := by
  rw [head_words]
  kernel_rfl
theorem head_gc : (headWord2 == "gc".toList) = false := by kernel_rfl
theorem head_spec : (headWord2 == "spec".toList) = false := by kernel_rfl
theorem head_carried : (headWord2 == "carried".toList) = false := by kernel_rfl
theorem head_cut : (headWord2 == "cut".toList) = true := by kernel_rfl
theorem head_strip : stripLifts liftWords [headWord2, headWord3, headWord4, headWord5, headWord6, headWord7, headWord8, headWord9] = ([], [headWord2, headWord3, headWord4, headWord5, headWord6, headWord7, headWord8, headWord9]) := by kernel_rfl
theorem head_lays : Tryd.prog.laysLater = false := by kernel_rfl
theorem head_refl : Tryd.prog.bearsReflect = false := by kernel_rfl
theorem head_door : Tryd.prog.doorFits [] = true := by kernel_rfl
section
variable {P : Program} {c : List Char} {rest : List (List Char)}
theorem enters_of (h : behindMainWord (wordsSigns P.initOrder.toList) = c :: rest) (h1 : (c == "gc".toList) = false) (h2 : (c == "spec".toList) = false) (h3 : (c == "carried".toList) = false)
    (hs : stripLifts liftWords (c :: rest) = ([], c :: rest)) (hc : (c == "cut".toList) = true) (hl : P.laysLater = false) (hr : P.bearsReflect = false) (hd : P.doorFits [] = true) : P.mayEnter = true := by
  have hc' : (some c == some "cut".toList) = true := hc
  unfold Program.mayEnter
  rw [h]
  simp only [h1, h2, h3, hs, hl, hr, hd, hc', Bool.false_and, Bool.or_false, List.head?_cons, List.contains_nil, Bool.not_false, Bool.and_true, Bool.or_true]
theorem lifts_of (h : behindMainWord (wordsSigns P.initOrder.toList) = c :: rest) (hs : stripLifts liftWords (c :: rest) = ([], c :: rest)) (hc : (c == "cut".toList) = true) : P.headLifts = [] := by
  have hc' : (some c == some "cut".toList) = true := hc
  unfold Program.headLifts
  rw [h, hs]
  simp only [List.head?_cons, hc', if_true]
theorem final_of (h : behindMainWord (wordsSigns P.initOrder.toList) = c :: rest) (hs : stripLifts liftWords (c :: rest) = ([], c :: rest)) (hc : (c == "cut".toList) = true) (h3 : (c == "carried".toList) = false) : P.liftsFinal = false := by
  have h3' : (some c == some "carried".toList) = false := h3
  unfold Program.liftsFinal
  rw [lifts_of h hs hc, h]
  simp only [List.head?_cons, h3', Bool.false_and, List.contains_nil, Bool.or_false]
theorem make_of (h : behindMainWord (wordsSigns P.initOrder.toList) = c :: rest) (h1 : (c == "gc".toList) = false) (h2 : (c == "spec".toList) = false) (hc : (c == "cut".toList) = true) : P.make = some Make.cut := by
  unfold Program.make
  rw [h]
  simp only [h1, h2, hc, Bool.or_false, Bool.true_or, Bool.false_eq_true, if_false, if_true]
theorem and_yes {a b : Bool} (h : a = true) (k : b = true) : (a && b) = true := by rw [h, k]; rfl
theorem joined_of {f : FuncId} {fn : Func} {s : ChangeSpec} {c : OpenClaim} (k1 : c.wf (OpenSpec.ofChange s) = true) (k2 : laidOutB P = true) (k3 : mapsRowed P = true)
    (k4 : fn.params.all (P.readableRec ·) = true) (k5 : namedTie P c.named s.vars = true) (k6 : (c.stops == []) = true) (k7 : (P.stops == []) = true) (k8 : (c.knobs == []) = true) (k9 : (P.stopKnobs == []) = true)
    (k10 : (c.inPlace == P.inPlace f) = true) (k11 : (c.unfollowed == P.unfollowed f) = true) (k12 : (c.recurses == P.recurses f) = true) (k13 : (c.named == P.varsNamed f) = true)
    (k14 : (c.maps == (fn.params.toList ++ s.plain.varTypes P).any (P.mapsRec ·)) = true) (k15 : (c.ifaces == (fn.params.toList ++ s.plain.varTypes P).any (P.ifacesRec ·)) = true) (k16 : (c.mapsOut == P.mapsAmong fn.resultTypes.toList) = true)
    (k17 : (c.loops == (fn.params.toList ++ s.plain.varTypes P).any (P.loopsFrom ·)) = true) (k18 : (c.wideKeys == (fn.params.toList ++ s.plain.varTypes P ++ fn.resultTypes.toList).any (P.wideKeysFrom ·)) = true)
    (k19 : s.vars.all (P.varReadable ·) = true) (k20 : fn.resultTypes.all (fun t => P.readableRec t && decide (t < P.types.size)) = true) (k21 : (c.ifacesOut == fn.resultTypes.toList.any (P.ifacesRec ·)) = true) (k22 : (c.loopsOut == fn.resultTypes.toList.any (P.loopsFrom ·)) = true)
    (k23 : (c.plainKeys == P.plainKeys) = true) (k24 : c.shortTexts.isNone = true) (k25 : P.stopsHeard = true) (k26 : P.mayEnter = true) (k27 : P.liftsFinal = false) (k27b : c.lifted = false) (k28 : P.make = some Make.cut) (k28b : (some Make.cut == some c.make) = true)
    (k29 : (c.kinds == (if c.domain.isEmpty then [] else fn.params.toList.map fun t => match P.underlying t with | some (.int k) => some k | _ => none)) = true) (k30 : (c.pinned == c.pinnedBy) = true)
    (k31 : (c.veiled == (fn.params.toList ++ s.plain.varTypes P ++ fn.resultTypes.toList).any (P.veiledRec ·)) = true) (k32 : c.veiledFits P fn.params.toList (fn.params.toList ++ s.plain.varTypes P ++ fn.resultTypes.toList) = true) : joinedFacts P f fn s c = true := by
  have k27c : (c.lifted == P.liftsFinal) = true := by rw [k27, k27b]; rfl
  have k28c : (P.make == some c.make) = true := by rw [k28]; exact k28b
  unfold joinedFacts
  rw [k1, k2, k3, k4, k5, k6, k7, k8, k9, k10, k11, k12, k13, k14, k15, k16, k17, k18, k19, k20, k21, k22, k23, k24, k25, k26, k27c, k28c, k31, k32]
  simp only [Bool.true_and, Bool.and_true]
  exact and_yes k29 k30
end
theorem head_laid : laidOutB Tryd.prog = true ∧ mapsRowed Tryd.prog = true ∧ Tryd.prog.plainKeys = true := ClosedOfChecked.closed_of_checked Tryd.checked (by kernel_rfl) (by kernel_rfl) (by kernel_rfl)
theorem head_stops : (Tryd.prog.stops == []) = true := by kernel_rfl
theorem head_knobs : (Tryd.prog.stopKnobs == []) = true := by kernel_rfl
theorem head_heard : Tryd.prog.stopsHeard = true := by kernel_rfl
theorem head_enters : Tryd.prog.mayEnter = true := enters_of head_list head_gc head_spec head_carried head_strip head_cut head_lays head_refl head_door
theorem head_final : Tryd.prog.liftsFinal = false := final_of head_list head_strip head_cut head_carried
theorem head_make : Tryd.prog.make = some Make.cut := make_of head_list head_gc head_spec head_cut
end Go.Proofs.YtecleelcnjhimaaDoor
