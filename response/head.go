package response

import (
	"bytes"
	"slices"
	"strconv"
	"strings"

	"spillway/api"
	"spillway/headers"
)

const (
	space   = " "
	lineEnd = "\r\n"
	// maxLine is how many bytes a status line may have, with its end.
	maxLine = api.MaxRsLine + len(lineEnd)
)

// Limits of statuses.
const (
	minStatus = 100
	maxStatus = 599
	minFinal  = 200 // of those that end an exchange
)

// readLine reads the status line with which b begins, and returns how many bytes it has. With an error, the other results have no meaning.
func readLine(b []byte) (h api.RsHead, used int, e api.Errno) {
	used = 1 + bytes.IndexByte(b[:min(len(b), maxLine)], '\n')
	if used == 0 && len(b) < maxLine {
		return h, 0, api.ErrMore
	}
	if used == 0 {
		return h, 0, api.ErrLong
	}
	h, ok := parseLine(string(b[:used]))
	if !ok {
		return h, 0, api.ErrForm
	}
	return h, used, api.OK
}

// parseLine returns what a status line says, and whether it is one, but for its length.
func parseLine(line string) (h api.RsHead, ok bool) {
	s, ended := strings.CutSuffix(line, lineEnd)
	version, rest, _ := strings.Cut(s, space)
	status, reason, found := strings.Cut(rest, space)
	minor := slices.Index([]string{versionOf(0), versionOf(1)}, version)
	// Less than three digits are no status, since they are below all of these.
	n, isNumber := number(status, 3)
	h = api.RsHead{Minor: minor, Status: int(n), Reason: reason}
	return h, ended && found && minor >= 0 && isNumber && isStatus(h.Status) && isReason(reason)
}

// lineOf returns the status line of a head.
func lineOf(h api.RsHead) string {
	return versionOf(h.Minor) + space + strconv.Itoa(h.Status) + space + h.Reason + lineEnd
}

func versionOf(minor int) string { return "HTTP/1." + strconv.Itoa(minor) }

// checkHead returns the error of a head, but for its reason.
func checkHead(h api.RsHead) api.Errno {
	if h.Minor != 0 && h.Minor != 1 || !isStatus(h.Status) {
		return api.ErrForm
	}
	return headers.Check(h.Fields)
}

func isStatus(n int) bool { return minStatus <= n && n <= maxStatus }

// isReason reports whether a status line may have s as its reason, but for its length.
func isReason(s string) bool {
	for i := range len(s) {
		if c := s[i]; c != '\t' && (c < ' ' || c > '~') {
			return false
		}
	}
	return true
}

// number returns the number that digits stand for, and whether s is from 1 to most digits, which fit an int64.
func number(s string, most int) (n int64, ok bool) {
	if s == "" || len(s) > most {
		return 0, false
	}
	for i := range len(s) {
		if s[i] < '0' || s[i] > '9' {
			return 0, false
		}
		n = 10*n + int64(s[i]-'0')
	}
	return n, true
}
