package breaks

import (
	"math"
	"slices"
	"strings"
	"testing"

	"typecase/api"
	"typecase/grapheme"
	"typecase/props"
)

// handRow is a text by the names of its code points' classes, and the kinds of all its positions, a digit each, written by hand.
type handRow struct{ names, kinds string }

// digits returns the numbers that are written as digits.
func digits(text string) []int {
	var list []int
	for _, digit := range text {
		list = append(list, int(digit-'0'))
	}
	return list
}

// checkRows checks what is answered about the texts, against what is written by hand and against the chapter. Several texts with the same kinds stand in one row, with commas between them.
func checkRows(t *testing.T, rows []handRow) {
	t.Helper()
	c := newChapter()
	for _, row := range rows {
		for _, names := range strings.Split(row.names, ",") {
			if got := Of(spelled(names)); !slices.Equal(got, digits(row.kinds)) {
				t.Errorf("%s: %v, not %s", names, got, row.kinds)
				continue
			}
			gives(t, spelled(names), digits(row.kinds))
			c.holds(t, spelled(names))
		}
	}
}

// classesOf returns the numbers of the classes of these names.
func classesOf(names string) []int {
	var list []int
	for _, name := range strings.Fields(names) {
		list = append(list, slices.Index(strings.Fields(classNames), name))
	}
	return list
}

func TestP19_1ClassesByHand(t *testing.T) {
	for _, c := range []struct{ names, classes string }{
		{"", ""}, {"CM", "AL"}, {"ZWJ", "AL"}, {"x", "AL"}, {"CM CM", "AL AL"}, {"ZWJ CM x", "AL AL AL"}, {"CM OP", "AL OP"}, {"CM ZWJ ID CM", "AL AL ID ID"},
		{"BK CM", "BK AL"}, {"CR CM", "CR AL"}, {"LF CM", "LF AL"}, {"SP CM", "SP AL"}, {"ZW CM", "ZW AL"}, {"BK ZWJ", "BK AL"}, {"CR ZWJ", "CR AL"}, {"LF ZWJ", "LF AL"}, {"SP ZWJ", "SP AL"}, {"ZW ZWJ", "ZW AL"},
		{"SP CM CM ZWJ", "SP AL AL AL"}, {"ZW ZWJ CM", "ZW AL AL"}, {"LF x x", "LF AL AL"}, {"CR LF CM", "CR LF AL"}, {"OP SP CM", "OP SP AL"}, {"OP CM SP CM", "OP OP SP AL"},
		{"OP CM ZWJ CM x", "OP OP OP OP OP"}, {"HL CM HY CM ZWJ", "HL HL HY HY HY"}, {"RI CM RI ZWJ", "RI RI RI RI"}, {"QU x QU", "QU QU QU"}, {"WJ CM ZWJ", "WJ WJ WJ"}, {"EM CM", "EM EM"},
	} {
		if got := Classes(spelled(c.names)); !slices.Equal(got, classesOf(c.classes)) {
			t.Errorf("%s: %v, not %s", c.names, got, c.classes)
		}
	}
}

// Every code point of every class, before CM and ZWJ and by itself.
func TestP19_1ClassesBehindEach(t *testing.T) {
	for class, of := range signs() {
		behind, alone := class, class
		switch class {
		case api.BrBK, api.BrCR, api.BrLF, api.BrSP, api.BrZW:
			behind = api.BrAL
		case api.BrCM, api.BrZWJ:
			behind, alone = api.BrAL, api.BrAL
		}
		for _, r := range of {
			for _, first := range slices.Concat(signs()[api.BrCM], signs()[api.BrZWJ]) {
				text := []rune{r, first, 0x301, 0x200D, control, r}
				want := []int{alone, behind, behind, behind, behind, class}
				if alone != class {
					want[5] = behind
				}
				if got := Classes(text); !slices.Equal(got, want) {
					t.Errorf("Classes(%X) = %v, not %v", text, got, want)
				}
			}
		}
	}
}

// pairTable has a row for each class A and a column for each class B in the order of their numbers, grouped: the kind of the position between the first signs of the two, if nothing else stands there.
func pairTable() [classes]string {
	return [classes]string{
		api.BrAL:  "0 00000 0000 010 000000000000 11001 11111",
		api.BrBK:  "2 22222 2222 222 222222222222 22222 22222",
		api.BrCR:  "2 22022 2222 222 222222222222 22222 22222",
		api.BrLF:  "2 22222 2222 222 222222222222 22222 22222",
		api.BrSP:  "1 00000 0100 111 000111101110 11011 11111",
		api.BrZW:  "1 00000 1111 111 111111111111 11111 11111",
		api.BrWJ:  "0 00000 0000 000 000000000000 00000 00000",
		api.BrGL:  "0 00000 0000 000 000000000000 00000 00000",
		api.BrCM:  "0 00000 0000 010 000000000000 11001 11111",
		api.BrZWJ: "0 00000 0000 000 000000000000 00000 00000",
		api.BrBA:  "1 00000 0100 010 000001001110 11011 11111",
		api.BrBB:  "0 00000 0000 000 000000000000 00000 00000",
		api.BrHY:  "1 00000 0100 010 000001000110 11011 11111",
		api.BrCL:  "1 00000 0000 010 000001001000 11011 11111",
		api.BrCP:  "0 00000 0000 010 000001000000 11001 11111",
		api.BrEX:  "1 00000 0000 010 000001001110 11011 11111",
		api.BrIN:  "1 00000 0000 010 000001001110 11011 11111",
		api.BrNS:  "1 00000 0000 010 000001001110 11011 11111",
		api.BrOP:  "0 00000 0000 000 000000000000 00000 00000",
		api.BrQU:  "0 00000 0000 000 000000000000 00000 00000",
		api.BrIS:  "0 00000 0000 010 000001000110 11001 11111",
		api.BrNU:  "0 00000 0000 010 000000000000 11001 11111",
		api.BrPO:  "0 00000 0000 010 000000000110 11001 11111",
		api.BrPR:  "0 00000 0000 010 000000000110 00001 00000",
		api.BrSY:  "1 00000 0000 010 000001000110 11001 11111",
		api.BrID:  "1 00000 0000 010 000001001010 11011 11111",
		api.BrEB:  "1 00000 0000 010 000001001010 11011 11111",
		api.BrEM:  "1 00000 0000 010 000001001010 11011 11111",
		api.BrHL:  "0 00000 0000 010 000000000000 11001 11111",
		api.BrRI:  "1 00000 0000 010 000001001110 11010 11111",
		api.BrJL:  "1 00000 0000 010 000001001010 11011 00100",
		api.BrJV:  "1 00000 0000 010 000001001010 11011 10011",
		api.BrJT:  "1 00000 0000 010 000001001010 11011 11011",
		api.BrH2:  "1 00000 0000 010 000001001010 11011 10011",
		api.BrH3:  "1 00000 0000 010 000001001010 11011 11011",
	}
}

// spacedRow is the same for the position behind a space that stands between the first signs of A and B.
func spacedRow(a int) string {
	switch a {
	case api.BrZW:
		return "1 00000 1100 111 111111111111 11011 11111"
	case api.BrOP:
		return "0 00000 0000 000 000000000000 00000 00000"
	case api.BrQU:
		return "1 00000 0100 111 000110101110 11011 11111"
	case api.BrCL, api.BrCP:
		return "1 00000 0100 111 000101101110 11011 11111"
	}
	return "1 00000 0100 111 000111101110 11011 11111"
}

// kindIn returns the kind that stands in the row for class b.
func kindIn(row string, b int) int { return int(strings.ReplaceAll(row, " ", "")[b] - '0') }

func TestP19_1Pairs(t *testing.T) {
	for a, row := range pairTable() {
		for b := range classes {
			gives(t, []rune{signs()[a][0], signs()[b][0]}, []int{No, kindIn(row, b), Must})
		}
	}
}

func TestP19_1PairsWithSpaces(t *testing.T) {
	for a, row := range pairTable() {
		for b := range classes {
			first, last := signs()[a][0], signs()[b][0]
			for spaces := 1; spaces < 4; spaces++ {
				kinds := append([]int{No, kindIn(row, api.BrSP)}, slices.Repeat([]int{No}, spaces-1)...)
				kinds = append(kinds, kindIn(spacedRow(a), b), Must)
				gives(t, slices.Concat([]rune{first}, slices.Repeat([]rune{' '}, spaces), []rune{last}), kinds)
			}
		}
	}
}

// behindMark returns the kind between A with a CM and B. Behind a CM that begins a cluster, an EM doesn't belong to the cluster.
func behindMark(a, b int, apart bool) int {
	if apart && b == api.BrEM {
		switch a {
		case api.BrWJ, api.BrGL, api.BrBB, api.BrOP, api.BrQU, api.BrPR, api.BrEB:
			return No
		}
		return May
	}
	switch a {
	case api.BrBK, api.BrCR, api.BrLF, api.BrSP, api.BrZW, api.BrZWJ:
		a = api.BrAL
	}
	return kindIn(pairTable()[a], b)
}

// A mark between the two: it is as what stands before it, but for a ZWJ, behind which no line ends.
func TestP19_1PairsWithMarks(t *testing.T) {
	for a := range classes {
		for b := range classes {
			first, last := signs()[a][0], signs()[b][0]
			before := kindIn(pairTable()[a], api.BrCM)
			gives(t, []rune{first, 0x301, last}, []int{No, before, behindMark(a, b, false), Must})
			gives(t, []rune{first, 0x200D, 0x301, last}, []int{No, before, No, behindMark(a, b, false), Must})
			gives(t, []rune{first, 0x301, 0x200D, last}, []int{No, before, No, No, Must})
			gives(t, []rune{first, 0x200D, last}, []int{No, before, No, Must})
			if a == api.BrSP {
				before = May
			}
			gives(t, []rune{first, control, last}, []int{No, before, behindMark(a, b, true), Must})
		}
	}
}

func TestP19_1FirstRows(t *testing.T) {
	checkRows(t, []handRow{
		{"", ""}, {"AL,BK,CR,LF,SP,ZW,WJ,CM,ZWJ,RI,x", "02"},
		// Row 1.
		{"CR LF,AL CM,SP CM,SP ZWJ,RI RI,JL JV,ID EM,AL EM,SP EM", "002"}, {"JL JV JT,EB ZWJ EB,ZW SP CM,OP SP CM,AL SP ZWJ", "0002"},
		// Row 2.
		{"BK AL,CR AL,LF AL,LF CR,BK SP,CR CR,LF LF,BK BK,CR BK,LF BK,BK CR,BK LF,LF SP,CR ZW,BK WJ,LF GL,CR CM,LF ZWJ,BK x,LF EM", "022"},
		{"AL BK,AL CR,AL LF,AL SP,AL ZW,ID BK,ID CR,ID LF,ID SP,ID ZW,SP SP,SP BK,SP LF,SP CR,SP ZW,ZW SP,ZW ZW,ZW BK,ZW LF,ZW CR,x SP,x BK,x LF", "002"},
		{"CR CR LF AL", "02022"}, {"CR LF CR LF", "00202"}, {"LF CR LF LF", "02022"}, {"AL SP SP LF", "00002"}, {"AL LF AL", "0022"}, {"BK CM AL,LF ZWJ ID,CR x AL,BK x SP", "0202"}, {"BK CM ID", "0212"},
		// Row 3.
		{"ZW AL,ZW CM,ZW ZWJ,ZW x,ZW WJ,ZW GL,ZW CL,ZW EM,ZW QU,ZW RI", "012"}, {"ZW SP AL,ZW SP x,ZW SP CL,ZW SP WJ,ZW SP QU,ZW SP GL,AL ZW AL,ZW ZW AL,OP ZW AL,AL ZW WJ,AL ZW CL", "0012"}, {"ZW SP SP AL,OP ZW SP AL,CL ZW SP NS,SP SP ZW AL", "00012"},
		{"ZW CM AL,ZW ZWJ ID", "0102"}, {"ZW CM ID,ZW x RI", "0112"}, {"ZW SP CM ID", "00012"}, {"ZW SP x ID", "00112"}, {"ZW CM SP AL", "01012"}, {"ZW CM SP CL", "01002"},
		{"ZWJ ID,ZWJ SP,ZWJ EM,ZWJ BB,ZWJ x,CM x,x CM,x ZWJ,x x,AL x,ID x,WJ CM,WJ ZWJ,BA x", "002"}, {"SP ZWJ ID,ID ZWJ ID,RI ZWJ RI,BA ZWJ AL,AL x ZWJ,EX ZWJ BB,x ZWJ ID,ID ZWJ CM", "0002"}, {"ZWJ CM ID,x x ID", "0012"},
		{"SP x", "012"}, {"SP x AL", "0102"}, {"SP x ID", "0112"}, {"AL SP x", "0012"},
	})
}

func TestP19_1MiddleRows(t *testing.T) {
	checkRows(t, []handRow{
		// Row 4.
		{"ID WJ ID,ID SP WJ,WJ CM ID,GL CM ID,SP CM GL,ID WJ WJ,HL HY GL,HL BA GL,ID GL ID,ID CM WJ", "0002"}, {"WJ SP ID,GL SP ID,BA CM GL,HY CM GL,HY x GL,BA SP GL", "0012"}, {"SP GL,BA GL,HY GL", "012"}, {"GL ID,ID GL,GL GL,AL GL,CL GL,RI GL,x GL", "002"},
		// Row 5.
		{"ID CL,ID CP,ID EX,ID IS,ID SY,SP CL,SP CP,SP EX,SP IS,SP SY,OP ID,OP RI,OP EX", "002"}, {"ID SP CL,ID SP CP,ID SP EX,ID SP IS,ID SP SY,OP SP ID,OP SP x,OP SP RI,OP CM ID,QU SP OP,CL SP NS,CP SP NS", "0002"},
		{"OP SP SP ID,OP CM SP ID,OP ZWJ SP AL,OP x SP ID,QU SP SP OP,QU CM SP OP,QU x SP OP,CL CM SP NS,CP ZWJ SP NS,CP x SP NS,CL SP SP NS,CL SP CM NS", "00002"}, {"QU CM SP SP OP,CL CM ZWJ SP NS,OP CM CM SP BB,CP x CM SP NS", "000002"},
		{"OP SP CM ID,QU SP CM ID,OP SP x ID,CL SP CM BB,AL CM SP NS", "00012"}, {"QU SP AL,QU SP NS,CL SP OP,CP SP OP,AL SP NS,AL SP OP,ID SP NS,CL SP ID,QU SP ID,NS SP NS", "0012"}, {"QU SP x OP", "00102"}, {"QU SP x ID", "00112"},
		// Row 6.
		{"AL SP AL,ID SP ID,QU SP QU,BB SP ID,PR SP NU,JL SP JV,AL SP NU,EB SP EB,RI SP RI", "0012"}, {"AL SP SP AL,HL HY SP AL,HL BA SP AL,SP SP SP AL", "00012"}, {"SP QU,SP BA,SP HY,SP NS,SP IN,SP AL,SP OP,SP BB", "012"}, {"ID QU ID,QU CM ID,ID CM QU,x QU x", "0002"}, {"QU ID,ID QU,QU QU,QU RI,RI QU", "002"},
		// Row 7.
		{"ID BA,ID HY,ID NS,ID IN,IN IN,BB ID,BB BB,BB RI,SY HL,x BA,NS NS", "002"}, {"BB CM ID,BB x ID,HL HY ID,HL BA ID,SY CM HL,SY x HL,HL HY RI,HL BA AL,HL HY EB,HL BA BB,AL BA BA,x x IN", "0002"}, {"HL CM HY ID,HL HY CM ID,HL HY x ID,HL ZWJ BA ID,HL BA ZWJ ID,HL x BA RI,HL BA x EM", "00002"}, {"HL CM HY CM ID,HL ZWJ BA CM BB,HL CM x BA AL,HL HY CM CM AL", "000002"},
		{"AL HY ID,AL BA ID,HY HY ID,ID BA AL,AL HY AL,BA HY ID,CL HY AL", "0012"}, {"HL HY HY ID,HL BA BA ID,HL BA HY AL,AL HY CM ID,AL x HY ID", "00012"}, {"HL ID HY ID", "01012"}, {"HL SP HY ID", "00112"}, {"HL SP CM HY ID,HL HY CM HY ID", "000012"}, {"HY ID,BA ID,SY AL,SY ID,IN ID,NS ID,AL BB,ID BB,HL BB,EX HL", "012"},
	})
}

func TestP19_1LastRows(t *testing.T) {
	checkRows(t, []handRow{
		// Row 8.
		{"AL NU,HL NU,NU AL,NU HL,PR ID,PR EB,ID PO,EB PO,EM PO,PR AL,PR HL,PO AL,PO HL,AL PR,AL PO,HL PR,HL PO", "002"}, {"PR x EM,PR CM ID,ID CM PO,ID EM PO,AL x NU,NU ZWJ HL,x x NU,PO CM HL", "0002"}, {"PO ID,PO EB,ID PR,EB PR,EM PR,ID NU,NU ID,NU EB,EB NU,CL AL", "012"}, {"PO x EM,ID x EM,NU x EM,ID CM PR", "0012"},
		// Row 9.
		{"CL PO,CP PO,NU PO,CL PR,CP PR,NU PR,PO OP,PR OP,PO NU,PR NU,HY NU,IS NU,NU NU,SY NU", "002"}, {"CL CM PO,CP x PR,PR CM OP,HY CM NU,IS x NU,SY ZWJ NU,NU CM NU", "0002"}, {"CL NU,PO PR,PR PO,PO PO,PR PR,BA NU,IS PO,IS PR,SY PO,SY PR,HY PO,HY PR,CL OP,EX PO,IS OP,NS NU,IN NU", "012"},
		// Row 10.
		{"JL CM JL,JL CM JV,JL CM H2,JL CM H3,JV CM JV,JV CM JT,H2 CM JV,H2 CM JT,JT CM JT,H3 CM JT,JL x JL,H3 x JT,JV x JV,H2 CM PO,PR CM H3", "0002"}, {"JL PO,JV PO,JT PO,H2 PO,H3 PO,PR JL,PR JV,PR JT,PR H2,PR H3", "002"},
		{"JL CM JT,JV CM JL,JV CM H2,JV CM H3,JT CM JL,JT CM JV,JT CM H2,JT CM H3,H2 CM JL,H2 CM H2,H2 CM H3,H3 CM JL,H3 CM JV,H3 CM H2,H3 CM H3,PO CM JL,H2 CM PR", "0012"}, {"JL PR,H3 PR,PO JV,PO H2,JL ID,AL H2,H3 AL,JT NU", "012"},
		// Row 11.
		{"AL AL,AL HL,HL AL,HL HL,IS AL,IS HL,AL OP,HL OP,NU OP,CP AL,CP HL,CP NU", "002"}, {"EB x EM,AL CM AL,IS x HL,NU CM OP,CP ZWJ NU,CP CM AL", "0002"}, {"EM x EM,RI x EM,AL x EM,CP x EM,EB x EB", "0012"}, {"IS OP,CL HL,EX AL,CP OP,CP ID,CP EB,EX OP,ID OP,EB OP,HY AL,BA HL", "012"},
	})
}

// Row 12, where also clusters of two regional indicators are.
func TestP19_1Flags(t *testing.T) {
	checkRows(t, []handRow{
		{"RI RI", "002"}, {"RI RI RI", "0012"}, {"RI RI RI RI", "00102"}, {"RI RI RI RI RI", "001012"}, {"RI CM RI,RI x RI,RI ZWJ RI", "0002"}, {"RI RI CM RI,RI RI x RI,ZWJ RI RI RI", "00012"}, {"RI RI ZWJ RI,RI CM RI RI,RI ZWJ RI RI,RI WJ RI RI,RI CM x RI", "00002"},
		{"RI CM CM RI RI,RI CM RI RI RI,RI ZWJ RI RI RI,RI CM RI CM CM", "000002"}, {"RI RI ZWJ CM RI,RI CM RI CM RI,RI WJ RI RI RI,RI x RI x RI", "000012"}, {"RI RI CM RI RI RI", "0001012"}, {"RI CM RI CM RI CM RI", "00001002"}, {"RI RI x RI CM RI CM", "00010002"},
		{"AL RI RI RI,x RI RI RI", "01012"}, {"RI AL RI RI RI", "011012"}, {"RI SP RI RI", "00102"}, {"RI SP CM RI", "00012"}, {"RI SP x RI", "00112"}, {"RI LF RI RI RI", "002012"}, {"RI ZW CM RI RI RI", "0011012"}, {"NU RI RI CM RI", "010012"}, {"RI OP RI RI RI", "010012"},
		{"AL RI,RI AL,ID ID,AL ID,ID AL,RI ID,EX AL,H2 H2,H3 H3,JT JL,IN AL", "012"},
	})
}

// Texts at whose position two clauses apply that say different things: the one in the earlier row, or the earlier one of a row, decides.
func TestP19_1EarlierDecides(t *testing.T) {
	c := newChapter()
	for _, want := range []struct {
		row, kind, later, kindLater int
		names                       string
		at                          int
	}{
		{1, No, 2, Must, "CR LF", 1}, {1, No, 3, May, "ZW SP CM", 2}, {1, No, 3, May, "ZW SP ZWJ", 2}, {1, No, 6, May, "SP CM", 1}, {1, No, 6, May, "SP ZWJ", 1}, {1, No, 6, May, "SP EM", 1},
		{2, Must, 2, No, "BK SP", 1}, {2, Must, 2, No, "LF LF", 1}, {2, Must, 2, No, "CR ZW", 1}, {2, Must, 2, No, "LF CR", 1}, {2, Must, 2, No, "CR BK", 1},
		{2, Must, 3, No, "BK x", 1}, {2, Must, 3, No, "LF ZWJ", 1}, {2, Must, 3, No, "CR CM", 1}, {2, Must, 4, No, "LF WJ", 1}, {2, Must, 4, No, "CR GL", 1}, {2, Must, 5, No, "BK CL", 1}, {2, Must, 5, No, "LF SY", 1}, {2, Must, 6, No, "LF QU", 1}, {2, Must, 7, No, "BK HY", 1}, {2, Must, 7, No, "CR IN", 1},
		{2, No, 3, May, "ZW SP", 1}, {2, No, 3, May, "ZW ZW", 1}, {2, No, 3, May, "ZW SP BK", 2}, {2, No, 3, May, "ZW LF", 1}, {2, No, 3, May, "ZW SP ZW", 2}, {2, No, 6, May, "SP SP", 1}, {2, No, 6, May, "SP LF", 1}, {2, No, 6, May, "SP ZW", 1}, {2, No, 6, May, "SP CR", 1}, {2, No, 6, May, "SP BK", 1},
		{3, May, 3, No, "ZW CM", 1}, {3, May, 3, No, "ZW ZWJ", 1}, {3, May, 3, No, "ZW x", 1}, {3, May, 4, No, "ZW WJ", 1}, {3, May, 4, No, "ZW SP WJ", 2}, {3, May, 4, No, "ZW GL", 1}, {3, May, 5, No, "ZW SP CL", 2}, {3, May, 5, No, "ZW EX", 1}, {3, May, 6, No, "ZW QU", 1}, {3, May, 6, No, "ZW SP QU", 2}, {3, May, 7, No, "ZW BA", 1}, {3, May, 7, No, "ZW SP IN", 2},
		{4, No, 6, May, "SP WJ", 1}, {4, No, 6, May, "CL SP WJ", 2}, {5, No, 6, May, "SP CL", 1}, {5, No, 6, May, "SP CP", 1}, {5, No, 6, May, "SP EX", 1}, {5, No, 6, May, "SP IS", 1}, {5, No, 6, May, "SP SY", 1}, {5, No, 6, May, "OP SP AL", 2}, {5, No, 6, May, "QU SP OP", 2}, {5, No, 6, May, "CL SP NS", 2}, {5, No, 6, May, "CP SP NS", 2},
		{6, May, 6, No, "SP QU", 1}, {6, May, 7, No, "SP BA", 1}, {6, May, 7, No, "SP HY", 1}, {6, May, 7, No, "SP NS", 1}, {6, May, 7, No, "SP IN", 1},
	} {
		text := spelled(want.names)
		p := spotAt(text, ownClasses(text), want.at)
		first := c.decide(&p)
		if decides := c.clauses[first]; decides.row != want.row || decides.kind != want.kind {
			t.Errorf("%s at %d: row %d decides, for %d", want.names, want.at, decides.row, decides.kind)
		}
		if !slices.ContainsFunc(c.clauses[first+1:], func(d clause) bool {
			return d.row == want.later && d.kind == want.kindLater && d.applies(&p)
		}) {
			t.Errorf("%s at %d: no clause of row %d says %d", want.names, want.at, want.later, want.kindLater)
		}
		if Of(text)[want.at] != want.kind || At(text, want.at) != want.kind {
			t.Errorf("%s at %d is %d and %d, not %d", want.names, want.at, Of(text)[want.at], At(text, want.at), want.kind)
		}
	}
}

// Each clause decides somewhere for each two classes that it names, in some text of at most three code points.
func TestP19_1EveryClause(t *testing.T) {
	c := newChapter()
	decided := make([][classes + 1][classes + 1]int, len(c.clauses))
	lists(3, firsts(), func(text []rune) {
		c.holds(t, text)
		owns := ownClasses(text)
		for i := 1; i < len(text); i++ {
			p := spotAt(text, owns, i)
			decided[c.decide(&p)][p.a][p.b]++
		}
	})
	named := func(names string) []int {
		if names == "" || names[0] == '!' {
			return []int{nobody}
		}
		return classesOf(names)
	}
	for i, clause := range c.clauses {
		for _, a := range named(clause.a) {
			for _, b := range named(clause.b) {
				count := 0
				for x := range classes {
					for y := range classes {
						if (a == nobody || a == x) && (b == nobody || b == y) {
							count += decided[i][x][y]
						}
					}
				}
				if count == 0 {
					t.Errorf("clause %d, of row %d, never decides for %d and %d", i, clause.row, a, b)
				}
			}
		}
	}
}

// All pairs of all signs of the tests.
func TestP19_1AllPairs(t *testing.T) {
	c := newChapter()
	lists(2, allSigns(), func(text []rune) { c.holds(t, text) })
}

// Longer texts of those that the rules look back over.
func TestP19_1ShortTexts(t *testing.T) {
	c := newChapter()
	check := func(text []rune) { c.holds(t, text) }
	lists(4, spelled("AL SP CM x ZWJ OP QU CL NS HL ZW LF"), check)
	lists(5, spelled("SP CM x ZW ID OP"), check)
	lists(6, spelled("RI CM x ZWJ"), check)
	lists(5, spelled("RI RI CM SP ID"), check)
	lists(5, spelled("HL HY BA CM SP"), check)
	lists(4, spelled("EB EM ZWJ x CM PO AL"), check)
	lists(10, spelled("RI CM"), check)
}

func TestP19_1LongTexts(t *testing.T) {
	c := newChapter()
	next := stream()
	all, often := allSigns(), carried()
	for range 1500 {
		n := next(60)
		c.holds(t, someText(next, n))
		c.holds(t, some(next, n, often))
		c.holds(t, some(next, n, all))
		c.holds(t, some(next, n, firsts()))
	}
}

// Any runes, most of them of no row of the table, and values that are no code points.
func TestP19_1AnyRunes(t *testing.T) {
	c := newChapter()
	next := stream()
	for range 1500 {
		text := make([]rune, next(16))
		for i := range text {
			text[i] = rune(next([]int{0x80, 0x700, 0x3100, 0x20000, 0x120000, 1 << 32}[next(6)]))
		}
		c.holds(t, text)
	}
	for _, r := range []rune{math.MinInt32, math.MinInt32 + 1, -0x110000, -'(', ^' ', -2, -1, 0xD800, 0xD801, 0xDBFF, 0xDC00, 0xDFFE, 0xDFFF, 0x110000, 0x110001, 0x110028, 1<<24 + ' ', 1<<30 + '(', math.MaxInt32} {
		gives(t, []rune{r, r, 'a'}, digits("0002"))
		gives(t, []rune{0x4E00, r, ' ', r, 0x301, '(', r, '-', 0x4E00}, digits("0101000012"))
		if got := Classes([]rune{r, 0x200D}); !slices.Equal(got, []int{api.BrAL, api.BrAL}) {
			t.Errorf("%X: the classes are %v", r, got)
		}
	}
}

// A text of every row of the table: the classes are those of the rows.
func TestP19_1EveryRow(t *testing.T) {
	c := newChapter()
	var all []rune
	for i := range props.Rows() {
		rows, _ := props.Row(i)
		c.holds(t, []rune{rows.From, rows.To, 0x301, rows.From, ' ', rows.To, rows.From})
		all = append(all, rows.From-1, rows.From, rows.To, rows.To+1)
	}
	c.holds(t, all)
	slices.Reverse(all)
	c.holds(t, all)
}

func TestP19_1At(t *testing.T) {
	for _, i := range far(0) {
		if At(nil, i) != No || At([]rune{}, i) != No {
			t.Errorf("the empty text at %d: %d", i, At(nil, i))
		}
	}
	for _, c := range []struct {
		text    string
		i, want int
	}{
		{"a", 0, No}, {"a", 1, Must}, {"a", 2, No}, {"a", -1, No}, {"a", math.MinInt, No}, {"a", math.MaxInt, No}, {" ", 0, No}, {"\n", 0, No}, {"\n", 1, Must}, {"\u301c", 1, Must},
		{"a b", 1, No}, {"a b", 2, May}, {"a b", 3, Must}, {"a b", 4, No}, {"a\nb", 2, Must}, {"a\nb", 1, No}, {"a\nb", 3, Must}, {"a\nb", 5, No}, {"(  a", 3, No}, {"\u05d0-\u4e00", 2, No}, {"a-\u4e00", 2, May},
	} {
		if got := At([]rune(c.text), c.i); got != c.want {
			t.Errorf("At(%q, %d) = %d, not %d", c.text, c.i, got, c.want)
		}
	}
}

func TestP19_2CutsByHand(t *testing.T) {
	cut := func(from, to int) api.Cut { return api.Cut{From: from, To: to} }
	for _, c := range []struct {
		text string
		want []api.Cut
	}{
		{"", nil}, {"a", []api.Cut{cut(0, 1)}}, {" ", []api.Cut{cut(0, 1)}}, {"\n", []api.Cut{cut(0, 1)}}, {"\u200b", []api.Cut{cut(0, 1)}}, {"\u0301", []api.Cut{cut(0, 1)}},
		{"abc", []api.Cut{cut(0, 3)}}, {"one two", []api.Cut{cut(0, 4), cut(4, 7)}}, {"one  two ", []api.Cut{cut(0, 5), cut(5, 9)}}, {" a", []api.Cut{cut(0, 1), cut(1, 2)}},
		{"a\nb", []api.Cut{cut(0, 2), cut(2, 3)}}, {"a\r\nb", []api.Cut{cut(0, 3), cut(3, 4)}}, {"\n\n\n", []api.Cut{cut(0, 1), cut(1, 2), cut(2, 3)}}, {"\r\n\r\n", []api.Cut{cut(0, 2), cut(2, 4)}},
		{"to be,\nor not\u2029", []api.Cut{cut(0, 3), cut(3, 7), cut(7, 10), cut(10, 14)}}, {"a \n b", []api.Cut{cut(0, 3), cut(3, 4), cut(4, 5)}}, {"well-known \u201cword\u201d", []api.Cut{cut(0, 5), cut(5, 11), cut(11, 17)}},
		{"\u4e00\u4e00\u3002\u4e00", []api.Cut{cut(0, 1), cut(1, 3), cut(3, 4)}}, {"a\u200bb\u200b\u200b c", []api.Cut{cut(0, 2), cut(2, 6), cut(6, 7)}}, {"$ 5 (x) 10%", []api.Cut{cut(0, 2), cut(2, 4), cut(4, 8), cut(8, 11)}},
	} {
		if got := Cuts([]rune(c.text)); !slices.Equal(got, c.want) {
			t.Errorf("Cuts(%q) = %v, not %v", c.text, got, c.want)
		}
	}
}

func TestP19_3WindowByHand(t *testing.T) {
	for _, c := range []struct {
		names string
		ends  []int // of the windows at 0, at 1, and so on
	}{
		{"", []int{0}}, {"AL", []int{1, 1}}, {"CM", []int{1, 1}}, {"SP", []int{1, 1}}, {"AL AL AL", []int{1, 2, 3, 3}}, {"LF ZW WJ", []int{1, 2, 3, 3}},
		{"CM ZWJ SP RI EM", []int{5, 5, 5, 5, 5, 5}}, {"CM ZWJ SP RI EM AL", []int{6, 6, 6, 6, 6, 6, 6}}, {"EM RI SP ZWJ CM AL AL", []int{6, 6, 6, 6, 6, 6, 7, 7}}, {"SP AL CM ZWJ CM AL", []int{5, 5, 6, 6, 6, 6, 6}},
		{"AL CM ZWJ", []int{3, 3, 3, 3}}, {"AL CM SP", []int{2, 3, 3, 3}}, {"AL CM RI CM", []int{2, 4, 4, 4, 4}}, {"AL EM CM", []int{1, 3, 3, 3}}, {"AL SP CM", []int{1, 3, 3, 3}}, {"AL RI", []int{1, 2, 2}}, {"AL ZWJ EM", []int{2, 3, 3, 3}},
		{"RI AL RI AL", []int{2, 2, 4, 4, 4}}, {"SP SP OP x ZWJ SP AL", []int{5, 5, 5, 7, 7, 7, 7, 7}}, {"RI SP BK CM BK", []int{4, 4, 4, 5, 5, 5}}, {"ZW CM ZW", []int{2, 3, 3, 3}}, {"EB EM ZWJ EB", []int{1, 4, 4, 4, 4}}, {"x HL CM HY", []int{3, 3, 4, 4, 4}},
	} {
		text := spelled(c.names)
		for i, end := range c.ends {
			if from, to := Window(text, i); from != i || to != end {
				t.Errorf("Window(%s, %d) = %d and %d, not %d", c.names, i, from, to, end)
			}
		}
		for _, i := range []int{math.MinInt, math.MinInt32, -2, -1, len(text) + 1, len(text) + 2, math.MaxInt32, 1 << 32, math.MaxInt} {
			if from, to := Window(text, i); from != 0 || to != 0 {
				t.Errorf("Window(%s, %d) = %d and %d", c.names, i, from, to)
			}
		}
	}
}

// sound checks P19.4 and what P19.6 tells of spaces, without the chapter's rules.
func sound(t *testing.T, text []rune) {
	t.Helper()
	kinds := Of(text)
	for i, kind := range kinds {
		if kind != No && !grapheme.Is(text, i) {
			t.Fatalf("Of(%X) = %v: %d is no cluster boundary", text, kinds, i)
		}
		if i < len(text) && text[i] == ' ' && kind == May {
			t.Fatalf("Of(%X) = %v: before a space at %d", text, kinds, i)
		}
	}
	at := 0
	for _, cut := range Cuts(text) {
		if cut.From != at || cut.To <= at {
			t.Fatalf("Cuts(%X) = %v", text, Cuts(text))
		}
		at = cut.To
	}
	if at != len(text) {
		t.Fatalf("Cuts(%X) = %v", text, Cuts(text))
	}
}

func TestP19_4(t *testing.T) {
	next := stream()
	lists(3, firsts(), func(text []rune) { sound(t, text) })
	for range 20000 {
		sound(t, someText(next, next(40)))
	}
}

// local checks P19.5 for x u y and x v y.
func local(t *testing.T, x, u, v, y []rune) {
	t.Helper()
	first, second := slices.Concat(x, u, y), slices.Concat(x, v, y)
	kinds, others := Of(first), Of(second)
	for i := range x {
		if kinds[i] != others[i] {
			t.Fatalf("%X with %X and %X before %X: position %d", x, u, v, y, i)
		}
	}
	_, end := Window(y, 0)
	for i := end + 1; i <= len(y); i++ {
		if kinds[len(x)+len(u)+i] != others[len(x)+len(v)+i] {
			t.Fatalf("%X and %X behind %X, before %X: position %d of it", u, v, x, y, i)
		}
	}
}

// Each text is held against the one without u, and so, by way of that one, against all others.
func TestP19_5Locality(t *testing.T) {
	few := spelled("SP CM x RI HY HL")
	lists(2, few, func(u []rune) {
		lists(1, few, func(x []rune) {
			lists(3, few, func(y []rune) { local(t, x, u, nil, y) })
		})
	})
	lists(1, firsts(), func(u []rune) {
		lists(1, spelled("SP RI OP HL EB"), func(x []rune) {
			lists(2, firsts(), func(y []rune) { local(t, x, u, nil, y) })
		})
	})
	next := stream()
	for range 20000 {
		y := someText(next, next(10))
		if next(2) == 0 {
			y = slices.Concat(some(next, next(4), spelled("CM ZWJ SP RI EM x")), y)
		}
		local(t, someText(next, next(8)), someText(next, next(8)), someText(next, next(8)), y)
	}
}

// What stands before a window changes kinds up to its end: there the kind isn't the same behind these two.
func TestP19_5WindowIsNeeded(t *testing.T) {
	for _, c := range []struct {
		y, u, v string
		end, at int
	}{
		{"AL", "SP", "AL", 1, 0}, {"HY ID", "HL", "AL", 1, 1}, {"HY CM ID", "HL", "AL", 2, 2}, {"HY CM ZWJ CM ID", "HL", "AL", 4, 4}, {"SP HY ID", "AL", "OP", 2, 1}, {"SP SP ID", "OP", "AL", 3, 2}, {"SP SP NS", "CL", "AL", 3, 2}, {"SP OP", "QU", "AL", 2, 1},
		{"RI RI RI", "RI", "AL", 3, 2}, {"RI RI CM RI", "RI", "AL", 4, 3}, {"CM HY ID", "HL", "AL", 2, 2}, {"CM ID", "PR", "AL", 2, 1}, {"x x EM", "EB", "AL", 3, 2}, {"EM ZW", "SP", "LF", 2, 0}, {"CM BA CM ID", "HL", "ID", 3, 3},
	} {
		y, u, v := spelled(c.y), spelled(c.u), spelled(c.v)
		if _, end := Window(y, 0); end != c.end {
			t.Errorf("%s: the window ends at %d", c.y, end)
		}
		if c.at > c.end || At(slices.Concat(u, y), len(u)+c.at) == At(slices.Concat(v, y), len(v)+c.at) {
			t.Errorf("%s behind %s and %s: at %d the kinds are the same", c.y, c.u, c.v, c.at)
		}
	}
}

func TestP19_6(t *testing.T) {
	next := stream()
	for n := range 200 {
		text := some(next, n+1, signs()[api.BrAL])
		kinds := make([]int, n+2)
		kinds[n+1] = Must
		gives(t, text, kinds)
	}
	for _, first := range allSigns() {
		for _, second := range allSigns() {
			for _, text := range [][]rune{{first, second, ' '}, {first, ' ', second, ' ', ' '}, {first, ' ', ' '}} {
				sound(t, text)
			}
		}
	}
}

// No call writes to the text, nor behind it, and no result hangs on it or on another result.
func TestR5(t *testing.T) {
	next := stream()
	check := func(given []rune) {
		memory := append(slices.Clone(given), ' ', 0x301, 0x1F1E6, '(')
		before := slices.Clone(memory)
		text := memory[:len(given)]
		kinds, classes, cuts := Of(text), Classes(text), Cuts(text)
		moreKinds, moreClasses, moreCuts := Of(text), Classes(text), Cuts(text)
		for i := range len(text) + 1 {
			At(text, i)
			Window(text, i)
		}
		wantKinds, wantClasses, wantCuts := slices.Clone(kinds), slices.Clone(classes), slices.Clone(cuts)
		spoil(kinds, -7)
		spoil(classes, -7)
		spoil(cuts, api.Cut{From: -7, To: -7})
		if !slices.Equal(memory, before) {
			t.Fatalf("%X was written to: %X", before, memory)
		}
		spoil(memory, ' ')
		if !slices.Equal(moreKinds, wantKinds) || !slices.Equal(moreClasses, wantClasses) || !slices.Equal(moreCuts, wantCuts) {
			t.Fatalf("%X: with what else there is written to, the results are %v, %v and %v", before, moreKinds, moreClasses, moreCuts)
		}
	}
	lists(2, firsts(), check)
	for range 1000 {
		check(someText(next, next(30)))
	}
}

// A nil text is as an empty one.
func TestR6Empty(t *testing.T) {
	for _, text := range [][]rune{nil, {}} {
		if len(Of(text)) != 0 || len(Classes(text)) != 0 || len(Cuts(text)) != 0 || At(text, 0) != No {
			t.Errorf("%v, %v, %v and %d", Of(text), Classes(text), Cuts(text), At(text, 0))
		}
		if from, to := Window(text, 0); from != 0 || to != 0 {
			t.Errorf("the window is %d and %d", from, to)
		}
	}
}

// No call hangs on those before it.
func TestR4Calls(t *testing.T) {
	for range 3 {
		checkRows(t, []handRow{{"RI RI RI", "0012"}, {"RI", "02"}, {"", ""}, {"OP", "02"}, {"SP ID", "012"}, {"ZW", "02"}, {"ID ID", "012"}, {"HL HY", "002"}, {"ID", "02"}, {"LF", "02"}})
	}
}

// Texts of the greatest length, of a single class each: the kinds go on as they begin, in steps of two.
func TestR8OneClass(t *testing.T) {
	c := newChapter()
	for _, r := range spelled("AL LF SP ZW WJ CM x ZWJ BA HY OP NU ID EM HL RI JL") {
		short := c.kinds(slices.Repeat([]rune{r}, 8))
		for i := 3; i < 8; i++ {
			if short[i] != short[i-2] {
				t.Fatalf("%X: %v", r, short)
			}
		}
		text := slices.Repeat([]rune{r}, most)
		kinds := make([]int, most+1)
		for i := 1; i < most; i++ {
			kinds[i] = short[2-i%2]
		}
		kinds[most] = Must
		if !slices.Equal(Of(text), kinds) {
			t.Errorf("%X: not the kinds %v", r, short)
		}
		for _, i := range []int{1, 2, 3, most / 2, most/2 + 1, most - 2, most - 1, most, most + 1} {
			if i <= most && At(text, i) != kinds[i] || i > most && At(text, i) != No {
				t.Errorf("%X at %d: %d", r, i, At(text, i))
			}
		}
		own, resolved, end := props.Of(r).Break, props.Of(r).Break, 6
		if c.marked[own] {
			resolved = api.BrAL
		}
		if c.carried[own] {
			end = most
		}
		if !slices.Equal(Classes(text), slices.Repeat([]int{resolved}, most)) {
			t.Errorf("%X: the classes begin with %v", r, Classes(text)[:3])
		}
		if _, to := Window(text, 5); to != end {
			t.Errorf("%X: the window at 5 ends at %d, not %d", r, to, end)
		}
	}
}

// Long texts of several classes again and again, and of all of them.
func TestR8Long(t *testing.T) {
	c := newChapter()
	next := stream()
	for _, names := range []string{"RI CM", "RI x", "HL HY CM", "OP SP", "ZW SP x", "ID", "AL SP", "CR LF", "RI RI CM RI", "EB ZWJ", "SP SP SP CM ZWJ", "QU SP OP"} {
		part := spelled(names)
		text := slices.Repeat(part, most/len(part))
		kinds := Of(text)
		// What is behind twelve times the part is as what is behind the first six.
		short := c.kinds(slices.Repeat(part, 13))
		for i := 1; i < len(text); i++ {
			k := i
			if i >= 12*len(part) {
				k = 6*len(part) + i%(6*len(part))
			}
			if kinds[i] != short[k] {
				t.Fatalf("%s, again and again: %d at %d", names, kinds[i], i)
			}
		}
	}
	for _, n := range []int{4096, most - 1, most} {
		text := someText(next, n)
		kinds := Of(text)
		sound(t, text)
		for i := range n + 1 {
			if At(text, i) != kinds[i] {
				t.Fatalf("at %d of %d: %d and %d", i, n, At(text, i), kinds[i])
			}
		}
		// Parts that begin at a sign other than those that are carried are as they are by themselves, from their windows on.
		for from := 0; from+60 < n; from += 50 {
			part := text[from : from+60]
			_, end := Window(part, 0)
			if small := c.kinds(part); end < 59 && !slices.Equal(small[end+1:60], kinds[from+end+1:from+60]) {
				t.Fatalf("%X at %d of %d: %v and %v", part, from, n, small, kinds[from:from+60])
			}
		}
	}
}

func TestExamples(t *testing.T) {
	for _, c := range []struct {
		text []rune
		want []int
	}{
		{[]rune("ab cd"), []int{0, 0, 0, 1, 0, 2}}, {[]rune("a-1"), []int{No, No, No, Must}}, {[]rune("(a)"), []int{0, 0, 0, 2}}, {[]rune("a\nb"), []int{0, 0, 2, 2}},
		{[]rune{0x4E00, 0x4E00}, []int{0, 1, 2}}, {[]rune{'a', 0x200B, 'b'}, []int{0, 0, 1, 2}}, {[]rune{0x1F1E6, 0x1F1E6, 0x1F1E6}, []int{0, 0, 1, 2}},
	} {
		gives(t, c.text, c.want)
	}
	if No != 0 || May != 1 || Must != 2 {
		t.Error("the constants")
	}
}
