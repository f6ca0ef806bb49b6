package console

import (
	"strconv"
	"strings"

	"hammerpond/api"
	"hammerpond/build"
)

// list returns texts with a separator between them. An empty list is visible too.
func list(separator string, texts ...string) string {
	if len(texts) == 0 {
		return "-"
	}
	return strings.Join(texts, separator)
}

// done returns the result of a command that either succeeds or has an error.
func done(err error) (string, error) {
	if err != nil {
		return "", err
	}
	return ok, nil
}

// failure returns what is printed of an error.
func failure(err error) string {
	number, _ := err.(api.Errno)
	return list(" ", "error", errnoText(number))
}

func errnoText(e api.Errno) string { return strconv.Itoa(int(e)) }

func filesText(l []api.File) string {
	var texts []string
	for _, f := range l {
		texts = append(texts, f.Name+"="+f.Text)
	}
	return list("; ", texts...)
}

func unitsText(groups []api.Group, units [][]int) string {
	var texts []string
	for _, unit := range units {
		texts = append(texts, list(" ", build.Names(groups, unit)...))
	}
	return list("; ", texts...)
}

func outcomesText(outcomes []api.Outcome) string {
	var texts []string
	for _, o := range outcomes {
		texts = append(texts, list(" ", list(" ", o.Names...), errnoText(o.Err)))
	}
	return list("; ", texts...)
}
