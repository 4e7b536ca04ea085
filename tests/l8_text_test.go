package tests

import (
	"fmt"
	"regexp"
	"strconv"
	"strings"
	"testing"

	"loop.example/g01315/impl"
)

// planTextsAre tells all texts of hat plans, by the numbers of guests and of colours.
var planTextsAre = regexp.MustCompile(`\A(2(:[01]{2}){2}|2(:[01]{4}){3}|2(:[01]{8}){4}|3(:[0-2]{3}){2}|3(:[0-2]{9}){3}|3(:[0-2]{27}){4})\z`)

// planText returns the text of any plan, whether that is one or not.
func planText(p impl.HatPlan) string {
	return strings.Join(append([]string{strconv.Itoa(p.Colours)}, p.Guesses...), ":")
}

// TestHatPlanTexts has all plans where there are few of them, and some of all others, and reads their texts back.
func TestHatPlanTexts(t *testing.T) {
	for _, p := range append(fewHatPlans(), manyHatPlans()...) {
		text, ok := impl.HatPlanText(p)
		wantText(t, fmt.Sprint("HatPlanText ", p), text, ok, planText(p))
		read, ok := impl.ParseHatPlan(text)
		wantPlan(t, "ParseHatPlan "+text, read, ok, p)
	}
}

func TestHatPlanTextsWrittenOut(t *testing.T) {
	for text, want := range map[string]impl.HatPlan{
		"2:01:10":           {Colours: 2, Guesses: []string{"01", "10"}},
		"2:00:00":           {Colours: 2, Guesses: []string{"00", "00"}},
		"3:012:220":         {Colours: 3, Guesses: []string{"012", "220"}},
		"2:0001:1111:0110":  {Colours: 2, Guesses: []string{"0001", "1111", "0110"}},
		"2:" + longPlanText: {Colours: 2, Guesses: []string{"00000000", "11111111", "01010101", "00110011"}},
	} {
		read, ok := impl.ParseHatPlan(text)
		wantPlan(t, "ParseHatPlan "+text, read, ok, want)
		back, ok := impl.HatPlanText(want)
		wantText(t, fmt.Sprint("HatPlanText ", want), back, ok, text)
	}
}

const longPlanText = "00000000:11111111:01010101:00110011"

// checkPlanText requires that a text is read if it tells a plan, and otherwise not.
func checkPlanText(t *testing.T, text string) {
	t.Helper()
	read, ok := impl.ParseHatPlan(text)
	if !planTextsAre.MatchString(text) {
		wantNothing(t, fmt.Sprintf("ParseHatPlan %.80q", text), read, ok)
		return
	}
	if !ok || planText(read) != text {
		t.Errorf("ParseHatPlan %q: %v %v", text, read, ok)
	}
}

// TestShortTextsOfPlans has all texts of few signs, up to the length of the shortest plans.
func TestShortTextsOfPlans(t *testing.T) {
	texts := []string{""}
	for k := 0; k < len(texts); k++ {
		checkPlanText(t, texts[k])
		if len(texts[k]) < 8 {
			for _, sign := range "01:2" {
				// Behind a few signs there is no plan any more, however it goes on.
				if longer := texts[k] + string(sign); len(longer) < 4 || strings.HasPrefix(longer, "2:") && len(longer)-strings.LastIndex(longer, ":") < 5 {
					texts = append(texts, longer)
				}
			}
		}
	}
}

// TestTextsOfPlansChanged has texts of plans with one sign taken out, put in or changed.
func TestTextsOfPlansChanged(t *testing.T) {
	for _, plan := range manyHatPlans() {
		text := planText(plan)
		for at := range len(text) + 1 {
			for _, sign := range []string{"", "0", "1", "2", "3", ":", " ", "+", "-", ",", "\n", "\x00", "\xff", "٠"} {
				checkPlanText(t, text[:at]+sign+text[at:])
				if at < len(text) {
					checkPlanText(t, text[:at]+sign+text[at+1:])
				}
			}
		}
	}
}

// noPlanTexts are texts that tell no hat plan.
func noPlanTexts() []string {
	all := []string{
		"", "2", "3", ":", "::", "2:", "2::", "3::", "2:::", ":01:10", "01:10", "2:01", "2:0110", "2:01:", "2:01::10", "2::01:10", "2:01:10:", ":2:01:10", "2:01:10:01", "2:01:10::", "2:01:10:\n", "2:01:10\n", "2:01:10 ", " 2:01:10",
		"02:01:10", "+2:01:10", "-2:01:10", "2.0:01:10", "0x2:01:10", "0b10:01:10", "2_:01:10", "2e0:01:10", "٢:01:10", "２:01:10", "two:01:10", " 2 :01:10", "\x02:01:10", "2:1:2", "2:1:10", "2:01:2", "2:+1:10", "2:-1:10", "2: 1:10", "2:01:1 ", "2:0a:10", "2:01:1x", "2:01:1/", "2:/1:10", "2:01;10", "2;01:10", "2,01,10", "2 01 10", "2:01,10", "2-01-10",
		"0:01:10", "1:0:0", "1:00:00", "1:01:10", "4:0123:0123", "4:01:10", "5:01234:01234", "10:01:10", "12:01:10", "20:01:10", "22:01:10", "258:01:10", "4294967298:01:10", "18446744073709551618:01:10", "99999999999999999999999:01:10", "-1:01:10", "-9223372036854775808:01:10",
		"2:02:10", "2:01:20", "2:33:33", "2:012:012", "2:011:100", "3:01:10", "3:0123:0123", "3:013:120", "3:012:0120", "3:0120:012", "3:012:12", "2:0:0", "2:0110:1001", "2:01:10:11", "2:0110:1001:011", "2:0110:1001:01101", "2:0110:1001:0210",
		"2:01100110:01100110", "2:" + longPlanText + ":00000000", "2:" + longPlanText + ":", "2:" + longPlanText + "0", "2:" + longPlanText[1:], "2:" + longPlanText[:26], "3:" + longPlanText, "2:00000000:11111111:01010101:00110012",
		"2:0000000000000000:1111111111111111:0101010101010101:0011001100110011:0000111100001111", "2:0٠:10", "2:٠:10", "2:0\xff:10", "2:\xff\xff:10", "2:01:1\x80", "2:0\x00:10", "2:é:10",
		"1,2,0,3", "##./.##/#.#", "0011",
	}
	return append(all, strings.Repeat(":", 1000), strings.Repeat("2", 1000)+":01:10", "2:01:10"+strings.Repeat(":01", 1000), strings.Repeat("0", 1000)+"2:01:10", "2:"+strings.Repeat("01", 1000)+":10", "2"+strings.Repeat(":01", 1<<16))
}

func TestTextsThatAreNoHatPlans(t *testing.T) {
	for _, text := range noPlanTexts() {
		read, ok := impl.ParseHatPlan(text)
		wantNothing(t, fmt.Sprintf("ParseHatPlan %.80q", text), read, ok)
	}
}
