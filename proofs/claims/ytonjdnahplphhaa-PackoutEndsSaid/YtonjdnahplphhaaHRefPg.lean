/-
  CONTRACT of the document's own Writer, for MessagePack (written by tools/mkrefg.py): a container begins: the stack grows.
-/
import Derived.Test.YtonjdnahplphhaaHRefPs
import Derived.Test.YtonjdnahplphhaaHRefWy
/-
  CONTRACT of the document's own Writer, for MessagePack (written by tools/mkrefg.py): a container begins: the stack grows.
-/
namespace Go.Proofs.Ytonjdnahplphhaa
open Go.RowKit
open Go.Lib
/-- Behind 'append(.., Box{..})', within a region; then the store. -/
theorem wm_push {M B b : Nat} {W V w4 : World} {s : List Bx} {n : Nat} {bx : Bx} {v3 v4 : Value} (hn : s.length = n) (h : WmAt M B W b s false) (hV : Below W.heap.size W V) (hK : Stk M W.heap.size V s v3) (hbx : (-1 ≤ bx.c ∧ bx.c ≤ 9223372036854775807) ∧ bx.have_ ≤ M) (deep : n + 1 ≤ 800)
    (hW : Win w4 73 3 v4 (n + 1) (bxsL s ++ bxL bx)) (hG : V.grownBy w4 v3.ownBlock) (hO : v4.ownBlock = v3.ownBlock ∨ v4.ownBlock = some V.heap.size ∧ V.heap.size < w4.heap.size) :
    Below W.heap.size W w4 ∧ ∀ a4 c4, v4 = .slice a4 (n + 1) c4 → WmAt M B (w4.setCell ⟨b, 1, none⟩ (.slice a4 (n + 1) c4)) b (bx :: s) false ∧ Bew B b W (w4.setCell ⟨b, 1, none⟩ (.slice a4 (n + 1) c4)) := by
  subst hn
  obtain ⟨h1, h2⟩ := stk_new (M := M) (B := W.heap.size) (s := bx :: s) hV.size hK.vB rfl (by simp [bxsL]) hW hG hO (fun x hx => by
    rcases List.mem_cons.1 hx with rfl | hx
    · exact hbx
    · exact hK.ok x hx) (by simpa using deep) hK.most
  have hb4 : Below W.heap.size W w4 := hV.trans h2
  refine ⟨hb4, ?_⟩
  rintro a4 c4 rfl
  obtain ⟨a, cp, hA, hS⟩ := h.cells
  obtain ⟨cs, hcs⟩ := h.blk
  have hblk : w4.heap[b]? = W.heap[b]? := hb4.block b h.lt
  have A4 := (hA.keep hblk).set 1 (by simp) (.slice a4 (s.length + 1) c4)
  have hw4 : w4.heap[b]? = some (.cells cs 32 (0, 0)) := hblk.trans hcs
  have hBW : B ≤ W.heap.size := h.low
  have hap : b ∉ Value.owner (.slice a4 (s.length + 1) c4) := h1.win.apart (t := 32) hw4 (by decide)
  refine ⟨⟨⟨a4, c4, by simpa using A4, ⟨h1.win.setCell_far hap _, fun _ _ => Nat.zero_le _, h1.ok, h1.deep, h1.most⟩⟩, ⟨_, heap_setCell_at w4 ⟨b, 1, none⟩ _ _ _ _ rfl hw4⟩, by
    have := hb4.size
    simp only [World.setCell, Array.size_modify]
    omega⟩, ?_⟩
  exact (hb4.mono hBW).bew.set _ _
set_option maxRecDepth 100000 in
set_option maxHeartbeats 8000000 in
/-- 'Open = append(append([]Box(nil), Open...), Box{..})', from any frame. -/
theorem wm_grow {M B b eb : Nat} {W : World} {s : List Bx} {n : Nat} {k c : Int} {y mp : Bool} {m : Nat} {t : ByteArray} (h : WmAt M B W b s false) (hn : s.length = n) (hE : Blk W eb #[.int .i64 k, .bool y, .int .u64 m, .string t, .int .i64 c] 35) (hk : (k == 6) = mp) (hc : -1 ≤ c ∧ c ≤ 9223372036854775807) (hd : n + 1 ≤ 800)
    {K : Act → World → Prop} {fn : Func} {Q : Ending → World → Prop} (v1 v2 v4 v5 v6 v7 v8 v9 v10 v11 v12 v13 v14 v15 v16 v17 v18 v19 v20 v21 v22 v23 v24 v25 v26 v27 v28 v29 v30 v31 v32 v33 v34 v35 v36 v37 v38 v39 v40 v41 v42 v43 v44 v45 v46 v47 v48 v49 v50 v51 v52 v53 v54 v55 v56 v57 v58 v59 v60 v61 v62 v63 v64 v65 v66 v67 v68 v69 v70 v71 v72 v73 v74 v75 v76 v77 v78 v79 v80 v81 v82 v83 v84 v85 v86 v87 v88 v89 v90 v91 v92 v93 v94 v95 v96 v97 v98 v99 v100 v101 v102 v103 v104 v105 v106 v107 v108 v109 v110 v111 v112 v113 v114 v115 v116 v117 v118 v119 v120 v121 v122 v123 v124 v125 v126 v127 v128 v129 v130 v131 v132 v133 v134 v135 v136 v137 v138 v139 v140 v141 v142 v143 v144 v145 v146 v147 v148 v149 v150 v151 v152 v153 v154 v155 v156 v157 v158 v159 v160 v161 v162 v163 v164 v165 v166 v167 v168 v169 v170 v171 v172 v173 v174 v175 v176 v177 v178 v179 v180 v181 v182 v183 v184 v185 v186 v187 v188 v189 v190 v191 v192 v193 v194 v195 v196 v197 v198 v199 v200 v201 v202 v203 v204 v205 v206 v207 v208 v209 v210 v211 v212 v213 v214 v215 v216 v217 v218 v219 v220 v221 v222 v223 v224 v225 v226 v227 v228 v229 v230 v231 v232 v233 v234 v235 v236 v237 v238 v239 v240 v241 v242 v243 v244 v245 v246 v247 v248 v249 v250 v251 v252 v253 v254 v255 v256 v257 v258 v259 v260 v261 v262 v263 v264 v265 v266 v267 v268 v269 v270 v271 v272 v273 v274 v275 v276 v277 v278 v279 v280 v281 v282 v283 v284 v285 v286 v287 v288 v289 v290 v291 v292 v293 v294 v295 v296 v297 v298 v299 v300 v301 v302 v303 v304 v305 v306 v307 v308 v309 v310 v311 v312 v313 v314 v315 v316 v317 v318 v319 v320 v321 v322 v323 v324 v325 v326 v327 v328 v329 v330 v331 v332 v333 v334 v335 v336 v337 v338 v339 v340 v341 v342 v343 v344 v345 v346 v347 v348 v349 v350 v351 v352 v353 v354 v355 v356 v357 v358 v359 v360 v361 v362 v363 v364 v365 v366 v367 v368 : Value)
    (hQ : ∀ (a4 : Option Addr) (c4 : Nat) (w4 : World) (u350 u351 u352 u353 u354 u355 u356 u357 u358 u359 u360 u361 u362 u363 u364 u365 : Value), WmAt M B (w4.setCell ⟨b, 1, none⟩ (.slice a4 (n + 1) c4)) b (⟨mp, c, 0⟩ :: s) false → Bew B b W (w4.setCell ⟨b, 1, none⟩ (.slice a4 (n + 1) c4)) → K ⟨#[.pointer (some ⟨b, 0, none⟩), v1, v2, .pointer (some ⟨eb, 0, none⟩), v4, v5, v6, v7, v8, v9, v10, v11, v12, v13, v14, v15, v16, v17, v18, v19, v20, v21, v22, v23, v24, v25, v26, v27, v28, v29, v30, v31, v32, v33, v34, v35, v36, v37, v38, v39, v40, v41, v42, v43, v44, v45, v46, v47, v48, v49, v50, v51, v52, v53, v54, v55, v56, v57, v58, v59, v60, v61, v62, v63, v64, v65, v66, v67, v68, v69, v70, v71, v72, v73, v74, v75, v76, v77, v78, v79, v80, v81, v82, v83, v84, v85, v86, v87, v88, v89, v90, v91, v92, v93, v94, v95, v96, v97, v98, v99, v100, v101, v102, v103, v104, v105, v106, v107, v108, v109, v110, v111, v112, v113, v114, v115, v116, v117, v118, v119, v120, v121, v122, v123, v124, v125, v126, v127, v128, v129, v130, v131, v132, v133, v134, v135, v136, v137, v138, v139, v140, v141, v142, v143, v144, v145, v146, v147, v148, v149, v150, v151, v152, v153, v154, v155, v156, v157, v158, v159, v160, v161, v162, v163, v164, v165, v166, v167, v168, v169, v170, v171, v172, v173, v174, v175, v176, v177, v178, v179, v180, v181, v182, v183, v184, v185, v186, v187, v188, v189, v190, v191, v192, v193, v194, v195, v196, v197, v198, v199, v200, v201, v202, v203, v204, v205, v206, v207, v208, v209, v210, v211, v212, v213, v214, v215, v216, v217, v218, v219, v220, v221, v222, v223, v224, v225, v226, v227, v228, v229, v230, v231, v232, v233, v234, v235, v236, v237, v238, v239, v240, v241, v242, v243, v244, v245, v246, v247, v248, v249, v250, v251, v252, v253, v254, v255, v256, v257, v258, v259, v260, v261, v262, v263, v264, v265, v266, v267, v268, v269, v270, v271, v272, v273, v274, v275, v276, v277, v278, v279, v280, v281, v282, v283, v284, v285, v286, v287, v288, v289, v290, v291, v292, v293, v294, v295, v296, v297, v298, v299, v300, v301, v302, v303, v304, v305, v306, v307, v308, v309, v310, v311, v312, v313, v314, v315, v316, v317, v318, v319, v320, v321, v322, v323, v324, v325, v326, v327, v328, v329, v330, v331, v332, v333, v334, v335, v336, v337, v338, v339, v340, v341, v342, v343, v344, v345, v346, v347, v348, v349, u350, u351, u352, u353, u354, u355, u356, u357, u358, u359, u360, u361, u362, u363, u364, u365, v366, v367, v368], []⟩ (w4.setCell ⟨b, 1, none⟩ (.slice a4 (n + 1) c4))) :
    Code.wp Try.prog (Code.region 70
      #[{ dst := some 350, op := Op.move (Operand.tmp 0), type := 29, pos := "read.go:709", after := #[],
          guard := none },
        { dst := some 351, op := Op.move (Operand.tmp 0), type := 29, pos := "read.go:709", after := #[],
          guard := none },
        { dst := some 352, op := Op.nilCheck (Operand.tmp 351), type := 0, pos := "read.go:709",
          after := #[{ on := 1, ground := Ground.data }], guard := none },
        { dst := some 353, op := Op.fieldAddr 32 (Operand.tmp 352) 1, type := 0, pos := "read.go:709",
          after := #[{ on := 2, ground := Ground.data }], guard := none },
        { dst := some 354, op := Op.load 30 (Operand.tmp 353), type := 30, pos := "read.go:709",
          after := #[{ on := 3, ground := Ground.data }], guard := none },
        { dst := some 355,
          op :=
            Op.call
              { callee := Callee.builtin Builtin.append,
                args := #[Operand.const (Value.slice none 0 0), Operand.tmp 354], argTypes := #[30, 30] },
          type := 30, pos := "read.go:709", after := #[{ on := 4, ground := Ground.data }], guard := none },
        { dst := some 356, op := Op.fieldAddr 35 (Operand.tmp 3) 0, type := 0, pos := "read.go:709", after := #[],
          guard := none },
        { dst := some 357, op := Op.load 3 (Operand.tmp 356), type := 3, pos := "read.go:709",
          after := #[{ on := 6, ground := Ground.data }], guard := none },
        { dst := some 358, op := Op.binOp BinOp.eql 3 (Operand.tmp 357) (Operand.const (Value.int IntKind.i64 6)) 3,
          type := 4, pos := "read.go:709", after := #[{ on := 7, ground := Ground.data }], guard := none },
        { dst := some 359, op := Op.fieldAddr 35 (Operand.tmp 3) 4, type := 0, pos := "read.go:709", after := #[],
          guard := none },
        { dst := some 360, op := Op.load 3 (Operand.tmp 359), type := 3, pos := "read.go:709",
          after := #[{ on := 9, ground := Ground.data }], guard := none },
        { dst := some 361, op := Op.build 73 #[(0, Operand.tmp 358), (1, Operand.tmp 360)], type := 73,
          pos := "read.go:709", after := #[{ on := 8, ground := Ground.data }, { on := 10, ground := Ground.data }],
          guard := none },
        { dst := some 362, op := Op.buildSlice 30 1 #[(0, Operand.tmp 361)], type := 30, pos := "read.go:709",
          after := #[{ on := 11, ground := Ground.data }], guard := none },
        { dst := some 363,
          op :=
            Op.call
              { callee := Callee.builtin Builtin.append, args := #[Operand.tmp 355, Operand.tmp 362],
                argTypes := #[30, 30] },
          type := 30, pos := "read.go:709",
          after :=
            #[{ on := 5, ground := Ground.data }, { on := 12, ground := Ground.data },
              { on := 5, ground := Ground.chain }],
          guard := none },
        { dst := some 364, op := Op.nilCheck (Operand.tmp 350), type := 0, pos := "read.go:709",
          after :=
            #[{ on := 0, ground := Ground.data }, { on := 0, ground := Ground.phase },
              { on := 1, ground := Ground.phase }, { on := 2, ground := Ground.phase },
              { on := 3, ground := Ground.phase }, { on := 4, ground := Ground.phase },
              { on := 5, ground := Ground.phase }, { on := 6, ground := Ground.phase },
              { on := 7, ground := Ground.phase }, { on := 8, ground := Ground.phase },
              { on := 9, ground := Ground.phase }, { on := 10, ground := Ground.phase },
              { on := 11, ground := Ground.phase }, { on := 12, ground := Ground.phase },
              { on := 13, ground := Ground.phase }],
          guard := none },
        { dst := some 365, op := Op.fieldAddr 32 (Operand.tmp 364) 1, type := 0, pos := "read.go:709",
          after :=
            #[{ on := 14, ground := Ground.data }, { on := 0, ground := Ground.phase },
              { on := 1, ground := Ground.phase }, { on := 2, ground := Ground.phase },
              { on := 3, ground := Ground.phase }, { on := 4, ground := Ground.phase },
              { on := 5, ground := Ground.phase }, { on := 6, ground := Ground.phase },
              { on := 7, ground := Ground.phase }, { on := 8, ground := Ground.phase },
              { on := 9, ground := Ground.phase }, { on := 10, ground := Ground.phase },
              { on := 11, ground := Ground.phase }, { on := 12, ground := Ground.phase },
              { on := 13, ground := Ground.phase }],
          guard := none },
        { dst := none, op := Op.store 30 (Operand.tmp 365) (Operand.tmp 363), type := 0, pos := "read.go:709",
          after :=
            #[{ on := 15, ground := Ground.data }, { on := 13, ground := Ground.data },
              { on := 13, ground := Ground.chain }, { on := 0, ground := Ground.phase },
              { on := 1, ground := Ground.phase }, { on := 2, ground := Ground.phase },
              { on := 3, ground := Ground.phase }, { on := 4, ground := Ground.phase },
              { on := 5, ground := Ground.phase }, { on := 6, ground := Ground.phase },
              { on := 7, ground := Ground.phase }, { on := 8, ground := Ground.phase },
              { on := 9, ground := Ground.phase }, { on := 10, ground := Ground.phase },
              { on := 11, ground := Ground.phase }, { on := 12, ground := Ground.phase },
              { on := 13, ground := Ground.phase }],
          guard := none }]
      true) (Exit.then K (bodyPost Try.prog fn Q)) ⟨#[.pointer (some ⟨b, 0, none⟩), v1, v2, .pointer (some ⟨eb, 0, none⟩), v4, v5, v6, v7, v8, v9, v10, v11, v12, v13, v14, v15, v16, v17, v18, v19, v20, v21, v22, v23, v24, v25, v26, v27, v28, v29, v30, v31, v32, v33, v34, v35, v36, v37, v38, v39, v40, v41, v42, v43, v44, v45, v46, v47, v48, v49, v50, v51, v52, v53, v54, v55, v56, v57, v58, v59, v60, v61, v62, v63, v64, v65, v66, v67, v68, v69, v70, v71, v72, v73, v74, v75, v76, v77, v78, v79, v80, v81, v82, v83, v84, v85, v86, v87, v88, v89, v90, v91, v92, v93, v94, v95, v96, v97, v98, v99, v100, v101, v102, v103, v104, v105, v106, v107, v108, v109, v110, v111, v112, v113, v114, v115, v116, v117, v118, v119, v120, v121, v122, v123, v124, v125, v126, v127, v128, v129, v130, v131, v132, v133, v134, v135, v136, v137, v138, v139, v140, v141, v142, v143, v144, v145, v146, v147, v148, v149, v150, v151, v152, v153, v154, v155, v156, v157, v158, v159, v160, v161, v162, v163, v164, v165, v166, v167, v168, v169, v170, v171, v172, v173, v174, v175, v176, v177, v178, v179, v180, v181, v182, v183, v184, v185, v186, v187, v188, v189, v190, v191, v192, v193, v194, v195, v196, v197, v198, v199, v200, v201, v202, v203, v204, v205, v206, v207, v208, v209, v210, v211, v212, v213, v214, v215, v216, v217, v218, v219, v220, v221, v222, v223, v224, v225, v226, v227, v228, v229, v230, v231, v232, v233, v234, v235, v236, v237, v238, v239, v240, v241, v242, v243, v244, v245, v246, v247, v248, v249, v250, v251, v252, v253, v254, v255, v256, v257, v258, v259, v260, v261, v262, v263, v264, v265, v266, v267, v268, v269, v270, v271, v272, v273, v274, v275, v276, v277, v278, v279, v280, v281, v282, v283, v284, v285, v286, v287, v288, v289, v290, v291, v292, v293, v294, v295, v296, v297, v298, v299, v300, v301, v302, v303, v304, v305, v306, v307, v308, v309, v310, v311, v312, v313, v314, v315, v316, v317, v318, v319, v320, v321, v322, v323, v324, v325, v326, v327, v328, v329, v330, v331, v332, v333, v334, v335, v336, v337, v338, v339, v340, v341, v342, v343, v344, v345, v346, v347, v348, v349, v350, v351, v352, v353, v354, v355, v356, v357, v358, v359, v360, v361, v362, v363, v364, v365, v366, v367, v368], []⟩ W := by
  subst hn
  obtain ⟨a, cp, hA, hS⟩ := h.cells
  have HR := Lib.hid h
  have HA := Lib.hid hA
  have HS := Lib.hid hS
  have HD := Lib.hid hd
  have HC := Lib.hid hc
  have HQ := Lib.hid hQ
  have E1 := Lib.hid hE
  have HL := Lib.hid h.lt
  have W1 : Hid (∀ U, Below W.heap.size W U → Win U 73 3 (.slice a s.length cp) s.length (bxsL s)) := Lib.hid (fun U hU => (HS.out.go hU).win)
  have e0 := hE.cell 0
  have e4 := hE.cell 4
  have ee0 : ∀ o, (W.alloc o).cell? ⟨eb, 0, none⟩ = some (.int .i64 k) := fun o => (E1.out.alloc o).cell 0
  have ee4 : ∀ o, (W.alloc o).cell? ⟨eb, 4, none⟩ = some (.int .i64 c) := fun o => (E1.out.alloc o).cell 4
  have k1 : W.cell? ⟨b, 1, none⟩ = some (.slice a s.length cp) := (at_three hA).2.1.1
  have kk1 : ∀ o, (W.alloc o).cell? ⟨b, 1, none⟩ = some (.slice a s.length cp) := fun o => (at_three (hA.alloc (by simp) o)).2.1.1
  clear h hA hS hd hc hQ hE
  simp only [List.getElem?_toArray, List.getElem?_cons_zero, List.getElem?_cons_succ] at e0 e4
  go_region_law (first
    | (refine step_append_win rfl _ _ _ rfl Try.underlying30 info_rbox rfl rfl (Win.nil_ _ _ _) _ rfl s.length _ (Win.src (W1.out _ (by first | exact below_drw (Below.refl _ _) | exact below_drw ((Below.refl _ _).alloc (Nat.le_refl _) _) | exact (below_drw (Below.refl _ _)).alloc (Nat.le_refl _) _)) Try.underlying30 (bxsL_one _)) (by unfold maxLen; have := HD.out; omega) (by have := HD.out; omega) ?_; intro v3 w3 hW3 hG3 hO3; have hW3' := hW3.out; rw [Nat.zero_add, List.nil_append] at hW3'; have HK := Lib.hid (wr_copy (M := M) rfl ((by first | exact below_drw (Below.refl _ _) | exact below_drw ((Below.refl _ _).alloc (Nat.le_refl _) _) | exact (below_drw (Below.refl _ _)).alloc (Nat.le_refl _) _) : Below W.heap.size W _) HS.out.ok HS.out.deep HS.out.most hW3' hG3.out hO3.out); obtain ⟨a3, c3, rfl, _, _⟩ := Win.slice_form hW3'; have E3 := Lib.hid (E1.out.below HK.out.2.1 E1.out.lt); have g0 := E3.out.cell 0; have g4 := E3.out.cell 4; have gg0 := fun o => (E3.out.alloc o).cell 0; have gg4 := fun o => (E3.out.alloc o).cell 4; have g1 := (at_three (HA.out.keep (HK.out.2.1.block b HL.out))).2.1.1; clear hW3 hW3' hG3 hO3)
    | (refine step_append_win rfl _ _ _ rfl Try.underlying30 info_rbox rfl rfl (HK.out.1.win.alloc _) _ rfl 1 _ (src_new _ Try.underlying30 3 1 (bxL ⟨mp, c, 0⟩) 73 _ rfl (bxsL_one [⟨mp, c, 0⟩]) (heap_alloc_new w3 _)) (by unfold maxLen; have := HD.out; omega) (by have := HD.out; omega) ?_; intro v4 w4 hW4 hG4 hO4; obtain ⟨a4, c4, rfl, _, _⟩ := Win.slice_form hW4.out; have HP := Lib.hid (wm_push (bx := ⟨mp, c, 0⟩) (n := s.length) rfl HR.out (HK.out.2.1.alloc HK.out.2.1.size _) (HK.out.1.go ((Below.refl _ _).alloc (Nat.le_refl _) _)) ⟨HC.out, Nat.zero_le _⟩ HD.out hW4.out hG4.out hO4.out); have p1 := (at_three (HA.out.keep (HP.out.1.block b HL.out))).2.1; obtain ⟨p1, p2⟩ := p1; clear hW4 hG4 hO4)
    | (refine step_append_win rfl _ _ _ rfl Try.underlying30 info_rbox rfl rfl HK.out.1.win _ rfl 1 _ (src_new _ Try.underlying30 3 1 (bxL ⟨mp, c, 0⟩) 73 _ rfl (bxsL_one [⟨mp, c, 0⟩]) ((HK.out.2.2.block W.heap.size (by simp)).trans (heap_alloc_new W _))) (by unfold maxLen; have := HD.out; omega) (by have := HD.out; omega) ?_; intro v4 w4 hW4 hG4 hO4; obtain ⟨a4, c4, rfl, _, _⟩ := Win.slice_form hW4.out; have HP := Lib.hid (wm_push (bx := ⟨mp, c, 0⟩) (n := s.length) rfl HR.out HK.out.2.1 HK.out.1 ⟨HC.out, Nat.zero_le _⟩ HD.out hW4.out hG4.out hO4.out); have p1 := (at_three (HA.out.keep (HP.out.1.block b HL.out))).2.1; obtain ⟨p1, p2⟩ := p1; clear hW4 hG4 hO4)
    | fail)
  all_goals exact HQ.out a4 c4 w4 _ _ _ _ _ _ _ _ _ _ _ _ _ _ _ _ (HP.out.2 _ _ rfl).1 (HP.out.2 _ _ rfl).2
end Go.Proofs.Ytonjdnahplphhaa
